/-
  A string is appended to a slice that the call itself has made.
-/
import Derived.Test.YtjabpidmfgcamaaDoorStr
import Derived.Maps.AppendAt
import Derived.OwnWalk
import Derived.Laws.OwnMore
import Derived.Test.YtjabpidmfgcamaaDoorPlan
namespace Go.Proofs.YtjabpidmfgcamaaDoor
open Go.RowKit

theorem sone_empty (w : World) : SRow (w.alloc (.cells #[] 9)) w.heap.size (.slice (some ⟨w.heap.size, 0, none⟩) 0 0) [] :=
  World.ownsRow_lit (base := w.heap.size) (e := 9) (size := 1) w #[] 0 (Nat.le_refl _) (by unfold maxLen; omega) rfl
theorem SRow.alloc {w : World} {base : Nat} {v : Value} {L : List ByteArray} (h : SRow w base v L) (o : Obj) : SRow (w.alloc o) base v L := World.ownsRow.alloc h o
theorem info_string : (Tryd.prog.info? 9).map (fun i => (i.zero, i.size, i.bytes)) = some (some (.string ⟨#[]⟩), 1, 16) := by kernel_rfl
theorem wpList_append_string {ops : Array Oper} {rest : List Oper} {o : Oper} {a : Act} {Q : Exit → Act → World → Prop} (w : World) (hgd : o.guard = none) (s x : Operand)
    (ho : o.op = .call { callee := .builtin .append, args := #[s, x], argTypes := #[23, 23] })
    (base : Nat) (v : Value) (L : List ByteArray) (hs : a.eval s = v) (hrow : SRow w base v L) (b : Nat) (t : ByteArray) (hx : a.eval x = .slice (some ⟨b, 0, none⟩) 1 1)
    (hc : w.cell? ⟨b, 0, none⟩ = some (.string t)) (hl : L.length ≤ 1048576) (hbase : base ≤ w.heap.size)
    (K : ∀ v' w', SRow w' base v' (L ++ [t]) → w.grownBy w' v.ownBlock → (v'.ownBlock = v.ownBlock ∨ v'.ownBlock = some w.heap.size) → wpList Tryd.prog ops Q rest (a.put o.dst v') w') :
    wpList Tryd.prog ops Q (o :: rest) a w := by
  obtain ⟨i0, hi, hz0, hz1, hz2⟩ := info_parts info_string
  refine wpList_append_own_at w hgd s x 23 ho base 9 i0 _ 1 16 Tryd.underlying23 hi hz0 hz1 hz2 rfl (by decide) v L.length (scells L) hs hrow ⟨b, 0, none⟩ 1 1 [.string t] hx rfl ?_ ?_ (by unfold maxLen; omega) (by omega) hbase ?_
  · intro j u hu
    match j, hu with
    | 0, hu => simp at hu; subst hu; simpa [Addr.add] using hc
  · intro u hu
    simp at hu
    subst hu; rfl
  · intro v' w' h1 h2 _ h3
    refine K v' w' ?_ h2 h3
    unfold SRow
    rw [List.length_append, scells_append]
    exact h1
end Go.Proofs.YtjabpidmfgcamaaDoor

/-
  Whether two plans agree, as the laws' own text asks.
-/
namespace Go.Proofs.YtjabpidmfgcamaaDoor
open Go.RowKit
set_option linter.unusedVariables false

set_option maxHeartbeats 2000000 in
theorem soPlans_same (w : World) (b p : Int) (a a' : Option Addr) (n c c' : Nat) (S : Nat → ByteArray) (h : Strs w a n S) (h' : Strs w a' n S) (hn : n ≤ 1048576) :
    Calls Tryd.prog 9 #[.agg #[.int .i64 b, .int .i64 p, .slice a n c], .agg #[.int .i64 b, .int .i64 p, .slice a' n c']] w fun e w' => e = .returned (.bool true) ∧ Below w.heap.size w w' := by
  have X0 := Lib.hid ((tri_made w (.int .i64 b) (.int .i64 p) (.slice a n c) 25).alloc (.cells #[.int .i64 b, .int .i64 p, .slice a' n c'] 25))
  have X1 := Lib.hid (tri_made (w.alloc (.cells #[.int .i64 b, .int .i64 p, .slice a n c] 25)) (.int .i64 b) (.int .i64 p) (.slice a' n c') 25)
  simp only [World.size_alloc] at X1
  have B0 : Below w.heap.size w ((w.alloc (.cells #[.int .i64 b, .int .i64 p, .slice a n c] 25)).alloc (.cells #[.int .i64 b, .int .i64 p, .slice a' n c'] 25)) := by go_grown
  have HL := Lib.hid (h.on B0)
  have HL' := Lib.hid (h'.on B0)
  have HB := Lib.hid B0
  obtain ⟨W, hW⟩ : ∃ W, (w.alloc (.cells #[.int .i64 b, .int .i64 p, .slice a n c] 25)).alloc (.cells #[.int .i64 b, .int .i64 p, .slice a' n c'] 25) = W := ⟨_, rfl⟩
  rw [hW] at X0 X1 HL HL' HB
  have HW := Lib.hid hW
  have hnn : ((n : Int) != (n : Int)) = false := by simp
  have hbb : (b != b) = false := by simp
  have hpp : (p != p) = false := by simp
  clear h h' B0 hW
  obtain ⟨⟨d0, d1, d2⟩, _⟩ := X0.out
  obtain ⟨⟨e0, e1, e2⟩, _⟩ := X1.out
  go_enter Tryd.func9, Tryd.ntmps9
  go_wp2
  rw [HW.out]
  go_wp2
  clear d0 d1 d2 e0 e1 e2
  go_loopw [5] (fun i wr => ∃ k : Nat, k ≤ n ∧ i = .int .i64 k ∧ Hid (Below W.heap.size W wr)) (fun i _ => n - (intOf i).toNat)
  case atStart => exact ⟨0, Nat.zero_le _, rfl, Below.refl _ _⟩
  case round =>
    obtain ⟨k, hk, rfl, hb⟩ := hrel
    have hz := hb.out.size
    obtain ⟨⟨d0, d1, d2⟩, _⟩ := X0.out.on hb.out
    obtain ⟨⟨e0, e1, e2⟩, _⟩ := X1.out.on hb.out
    by_cases hlt : k < n
    · obtain ⟨q, o, rfl, c0⟩ := (HL.out.on hb.out) k hlt
      obtain ⟨q', o', rfl, c0'⟩ := (HL'.out.on hb.out) k hlt
      have hd : ((S k).toList == (S k).toList) = true := by simp
      go_wp2
      go_region
      all_goals
        go_wp2
        exact ⟨⟨k + 1, by omega, by go_num, by first | exact hb | exact hb.out.drew⟩, by simp [intOf]; omega⟩
    · obtain rfl : k = n := by omega
      go_wp2
      go_ret
      exact ⟨rfl, sstep HB.out hb.out⟩
end Go.Proofs.YtjabpidmfgcamaaDoor
