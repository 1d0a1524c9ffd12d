/-
  Rules in memory: what XDel says of orders, said of rules.
-/
import Derived.Test.YtkbebpadbdhnhaaRCat
import Derived.Test.YtkbebpadbdhnhaaRulV2
import Derived.Lib.SliceRun
namespace Go.Proofs.Ytkbebpadbdhnhaa
open Go.RowKit Go.Maps
open Go.PlainAid (bt get_bt bt_nonneg bt_le)
set_option linter.unusedVariables false

def rFRowOut (w : World) (L : List (ByteArray × ByteArray)) (e : Ending) (w' : World) : Prop := ∃ v, e = .returned v ∧ RRow w' w.heap.size v L ∧ Below w.heap.size w w'
set_option maxHeartbeats 1000000 in
set_option maxRecDepth 100000 in
theorem rslices_CloneF (w : World) (a : Option Addr) (n c : Nat) (F T : Nat → ByteArray) (h : Fws w a n F T) (hn : n ≤ 1048576) :
    Calls Try.prog 16 #[.slice a n c] w (rFRowOut w (M.flst F T n)) := by
  cases a with
  | none =>
    have h0 : n = 0 := by
      by_cases e : n = 0
      · exact e
      · obtain ⟨b, o, e2, _⟩ := h 0 (by omega)
        cases e2
    subst h0
    clear h
    have hq := Lib.run_eql_slice_nil (P := Try.prog) w 23 44 none 0 c 0 0 Try.underlying23
    simp only [Option.isNone] at hq
    go_enter Try.func16, Try.ntmps16
    go_wp2
    go_ret
    exact ⟨_, rfl, RRow.nil _ _, Below.refl _ _⟩
  | some ad =>
    have hq := Lib.run_eql_slice_nil (P := Try.prog) w 23 44 (some ad) n c 0 0 Try.underlying23
    simp only [Option.isNone] at hq
    have HL := Lib.hid (h.on (below_alloc0 w (.cells #[] 44)))
    have R0 := Lib.hid (rone_frow w)
    have hB := Lib.hid (below_alloc0 w (.cells #[] 44))
    clear h
    go_enter Try.func16, Try.ntmps16
    go_wp2_with (at_builtin; refine rwpList_append_fws _ rfl _ _ rfl w.heap.size _ [] rfl R0.out _ n c F T rfl HL.out (by simp; omega) (by simp) ?_; intro v1 w3 r1 gr1 ho1; have R1 : Hid (RRow w3 w.heap.size v1 (M.flst F T n)) := (by rw [List.nil_append] at r1; exact r1); have B3 : Hid (Below w.heap.size w w3) := hB.out.grown gr1 hB.out.size (fun q e => (R0.out.lt q e).1); clear r1 gr1 ho1)
    go_ret
    exact ⟨_, rfl, R1.out, B3.out⟩

set_option maxHeartbeats 400000 in
theorem is_from (w : World) (B : Nat) (x f t : ByteArray) (hB : w.cell? ⟨B, 0, none⟩ = some (.string x)) :
    Calls Try.prog 29 #[.agg #[.string f, .string t], .pointer (some ⟨B, 0, none⟩)] w fun e w' => e = .returned (.bool (decide (f = x))) ∧ Below w.heap.size w w' := by
  have hlt := World.block_lt_of_cell? _ _ hB
  go_enter Try.func29, Try.ntmps29
  go_wp2
  go_ret
  exact ⟨ret_bool (M.list_eq f x), by go_grown⟩

set_option maxHeartbeats 1000000 in
theorem rindex_from (w : World) (a : Option Addr) (n c : Nat) (F T : Nat → ByteArray) (h : Fws w a n F T) (hn : n ≤ 1048576) (B : Nat) (x : ByteArray) (hB : w.cell? ⟨B, 0, none⟩ = some (.string x)) :
    Calls Try.prog 28 #[.slice a n c, .func (.func 29) #[] #[.pointer (some ⟨B, 0, none⟩)]] w fun e w' => e = .returned (.int .i64 (M.rankTo F x n)) ∧ Below w.heap.size w w' := by
  have HL := Lib.hid h
  have hlB := World.block_lt_of_cell? _ _ hB
  have HB := Lib.hid hB
  clear h hB
  go_enter Try.func28, Try.ntmps28
  go_wp2
  go_loopw [8] (fun i wr => ∃ k : Nat, k ≤ n ∧ i = .int .i64 k ∧ Hid (∀ j, j < k → F j ≠ x) ∧ Below w.heap.size w wr) (fun i _ => n - (intOf i).toNat)
  case atStart => exact ⟨0, Nat.zero_le _, rfl, fun j hj => absurd hj (by omega), Below.refl _ _⟩
  case round =>
    obtain ⟨k, hk, rfl, hall, hb⟩ := hrel
    by_cases hlt : k < n
    · obtain ⟨b, o, rfl, c0, c1⟩ := (HL.out.on hb) k hlt
      have hBr := Lib.hid ((hb.cell (p := ⟨B, 0, none⟩) hlB).trans HB.out)
      by_cases he : F k = x
      · have HE := Lib.hid (M.rank_hit hlt he hall.out)
        have hd := Lib.hid (decide_eq_true he)
        clear he
        go_wp2_with (go_at_call 29; refine (is_from _ B x _ _ hBr.out).mono ?_; rw [hd.out]; rintro e w1 ⟨rfl, hb1⟩)
        go_ret
        exact ⟨by rw [HE.out]; rfl, sstep hb hb1⟩
      · have hd := Lib.hid (decide_eq_false he)
        have HE := Lib.hid he
        clear he
        go_wp2_with (go_at_call 29; refine (is_from _ B x _ _ hBr.out).mono ?_; rw [hd.out]; rintro e w1 ⟨rfl, hb1⟩)
        go_roundw
        case rel => exact ⟨k + 1, by omega, by go_num, fun j hj => by by_cases e : j = k; (subst e; exact HE.out); exact hall.out j (by omega), sstep hb hb1⟩
        case measure => simp [intOf]; omega
    · obtain rfl : k = n := by omega
      have HE := Lib.hid (M.rank_miss hall.out)
      go_wp2
      go_ret
      exact ⟨by rw [HE.out]; rfl, hb⟩

theorem fcells_take : ∀ (k : Nat) (A : List (ByteArray × ByteArray)), fcells (A.take k) = (fcells A).take (k * 2)
  | 0, _ => by simp [fcells]
  | k + 1, [] => by simp [fcells]
  | k + 1, x :: A => by
    have e1 : (k + 1) * 2 = k * 2 + 1 + 1 := by omega
    rw [e1]
    show _ :: _ :: fcells (A.take k) = _ :: _ :: (fcells A).take (k * 2)
    rw [fcells_take k A]
/-- The cells past the orders that stay are cleared. -/
theorem rclear_rest (w : World) (base g n c k : Nat) (A : List (ByteArray × ByteArray)) (h : w.ownsRow base 44 2 (.slice (some ⟨g, 0, none⟩) n c) n (fcells A)) (hA : A.length = n) (hk : k < n) :
    ∃ w', (∀ ty, (Builtin.clear_ #[23] ty #[.slice (some ⟨g, k * 2, none⟩) (n - k) (c - k)]).run Try.prog w = .ok (.tuple #[]) w') ∧ RRow w' base (.slice (some ⟨g, 0, none⟩) k c) (A.take k) ∧ w.grownBy w' (some g) := by
  obtain ⟨hlen, h2⟩ := h
  rcases h2 with ⟨e, _⟩ | ⟨g', cap, cur, e, hb, hg, hnc, hcm, hcs, htk⟩
  · cases e
  · injection e with e1 e2 e3
    injection e1 with e1
    injection e1 with e1
    subst e1 e3
    have hv : ∀ w, (zeroValue 44).run Try.prog w = .ok (.agg #[.string ⟨#[]⟩, .string ⟨#[]⟩]) w := fun w => by kernel_rfl
    obtain ⟨zs, hzs⟩ : ∃ zs, (Builtin.zeroCells #[.string ⟨#[]⟩, .string ⟨#[]⟩] (n - k)).toList = zs := ⟨_, rfl⟩
    have hzl : zs.length = (n - k) * 2 := by rw [← hzs, Array.length_toList, size_zeroCells]; rfl
    have hz1 : ∀ v ∈ zs, v.oneCell' = true := by
      intro v hv'
      rw [← hzs] at hv'
      obtain ⟨i, hi, rfl⟩ := List.getElem_of_mem hv'
      simp only [Builtin.zeroCells, Array.getElem_toList, Array.getElem_map, Array.getElem_range]
      have : i % 2 = 0 ∨ i % 2 = 1 := by omega
      rcases this with e | e <;> simp [e, Value.oneCell']
    have hst := run_storeCells_at (P := Try.prog) g (k * 2) 44 zs 0 cur w hg (by omega) hz1
    refine ⟨w.setRow g (cur.toList.take (k * 2 + 0) ++ zs ++ cur.toList.drop (k * 2 + 0 + zs.length)).toArray, fun ty => ?_, ?_, ?_⟩
    · obtain ⟨m, hm⟩ : ∃ m, n - k = m + 1 := ⟨n - k - 1, by omega⟩
      rw [hm] at hzs ⊢
      simp [Builtin.clear_, run_underlying Try.underlying23, hv, Value.cells, hzs, hst]
    · have hl : (A.take k).length = k := by rw [List.length_take]; omega
      refine ⟨by rw [fcells_length], Or.inr ⟨g, c, _, ?_, hb, setRow_heap w g cur _ 44 _ hg, ?_, hcm, ?_, ?_⟩⟩
      · rw [hl]
      · rw [hl]; omega
      · simp; omega
      · rw [hl, List.toList_toArray, fcells_take, ← htk, Nat.add_zero, List.append_assoc, List.take_append_of_le_length (by simp; omega), List.take_take, List.take_take]
        congr 1
        omega
    · exact ⟨rfl, rfl, rfl, by simp, fun q _ hq => setRow_other w g q _ (fun e => hq (by simp [e]))⟩
end Go.Proofs.Ytkbebpadbdhnhaa
