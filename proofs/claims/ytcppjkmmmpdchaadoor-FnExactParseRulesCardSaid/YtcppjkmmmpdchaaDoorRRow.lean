/-
  Rules in memory: what XFRow says of orders, said of rules.
-/
import Derived.Test.YtcppjkmmmpdchaaDoorFRow
import Derived.Test.YtcppjkmmmpdchaaDoorRul
namespace Go.Proofs.YtcppjkmmmpdchaaDoor
open Go.RowKit
open Go.PlainAid (bt get_bt bt_nonneg bt_le)

namespace M
end M
/-- A slice value that owns letters: nil, or in a block from base on. -/
def RRow (w : World) (base : Nat) (v : Value) (L : List (ByteArray × ByteArray)) : Prop := w.ownsRow base 51 2 v L.length (fcells L)
theorem RRow.nil (w : World) (base : Nat) : RRow w base (.slice none 0 0) [] := World.ownsRow_nil _ _ _ _
theorem RRow.alloc {w : World} {base : Nat} {v : Value} {L : List (ByteArray × ByteArray)} (h : RRow w base v L) (o : Obj) : RRow (w.alloc o) base v L := World.ownsRow.alloc h o
theorem RRow.drew {w : World} {base : Nat} {v : Value} {L : List (ByteArray × ByteArray)} (h : RRow w base v L) : RRow w.drew base v L := h
theorem RRow.lt {w : World} {base : Nat} {v : Value} {L : List (ByteArray × ByteArray)} (h : RRow w base v L) : ∀ k, v.ownBlock = some k → base ≤ k ∧ k < w.heap.size := World.ownsRow.lt h
theorem RRow.form {w : World} {base : Nat} {v : Value} {L : List (ByteArray × ByteArray)} (h : RRow w base v L) : ∃ a c, v = .slice a L.length c ∧ L.length ≤ c ∧ Fws w a L.length (nF L) (nT L) := by
  have h2 := h
  rcases h.2 with ⟨rfl, hn⟩ | ⟨g, cap, cur, rfl, _, _, hc, _, _, _⟩
  · exact ⟨none, 0, by rw [hn], by omega, fun i hi => absurd hi (by omega)⟩
  · refine ⟨_, _, rfl, hc, fun i hi => ⟨g, 0, rfl, ?_, ?_⟩⟩
    · rw [Nat.zero_add, World.ownsRow.cellAt h2 (i * 2) (by omega), (fcells_at L i hi).1, nF_at hi]
    · rw [Nat.zero_add, World.ownsRow.cellAt h2 (i * 2 + 1) (by omega), (fcells_at L i hi).2, nT_at hi]
theorem RRow.kept {w w' : World} {base : Nat} {v : Value} {L : List (ByteArray × ByteArray)} {row : Option Nat} (h : RRow w base v L) (hg : w.grownBy w' row) (hne : ∀ b, v.ownBlock = some b → row ≠ some b) : RRow w' base v L :=
  World.ownsRow.kept h hg (by
    cases hv : v.ownBlock with
    | none => exact Or.inl rfl
    | some b => exact Or.inr fun e => hne b hv e.symm)
theorem RRow.on {w w' : World} {base : Nat} {v : Value} {L : List (ByteArray × ByteArray)} (h : RRow w base v L) (hb : Below w.heap.size w w') : RRow w' base v L :=
  h.kept (grown_of_below hb) (fun _ _ e => by cases e)

theorem rftwo_kept {w w1 : World} {base : Nat} {v v' u : Value} {L : List (ByteArray × ByteArray)} (hu : RRow w base u L) (ha : Apart v u) (hg : w.grownBy w1 v.ownBlock) {s : Nat} (ho : v'.ownBlock = v.ownBlock ∨ v'.ownBlock = some s) (hs : w.heap.size ≤ s) : RRow w1 base u L ∧ Apart v' u := by
  refine ⟨hu.kept hg fun b hb e => ha b e hb, fun b hb e => ?_⟩
  rcases ho with ho | ho
  · exact ha b (ho.symm.trans hb) e
  · have hlt := (hu.lt b e).2
    have := Option.some.inj (ho.symm.trans hb)
    omega
theorem rfbelow_grown {W w w1 : World} {base : Nat} {v : Value} {L : List (ByteArray × ByteArray)} (hb : Below W.heap.size W w) (h : RRow w base v L) (hbase : W.heap.size ≤ base) (hg : w.grownBy w1 v.ownBlock) : Below W.heap.size W w1 :=
  hb.grown hg hb.size fun k hk => Nat.le_trans hbase (h.lt k hk).1

theorem info_rule : (Tryd.prog.info? 51).map (fun i => (i.zero, i.size, i.bytes)) = some (some (.agg #[.string ⟨#[]⟩, .string ⟨#[]⟩]), 2, 32) := by kernel_rfl
theorem wpList_append_rule {ops : Array Oper} {rest : List Oper} {o : Oper} {a : Act} {Q : Exit → Act → World → Prop} (w : World) (hgd : o.guard = none) (s x : Operand)
    (ho : o.op = .call { callee := .builtin .append, args := #[s, x], argTypes := #[28, 28] })
    (base : Nat) (v : Value) (L : List (ByteArray × ByteArray)) (hs : a.eval s = v) (hrow : RRow w base v L) (b : Nat) (i t : ByteArray) (hx : a.eval x = .slice (some ⟨b, 0, none⟩) 1 1)
    (hc : w.cell? ⟨b, 0, none⟩ = some (.string i) ∧ w.cell? ⟨b, 1, none⟩ = some (.string t)) (hl : L.length ≤ 1048576) (hbase : base ≤ w.heap.size)
    (K : ∀ v' w', RRow w' base v' (L ++ [(i, t)]) → w.grownBy w' v.ownBlock → (v'.ownBlock = v.ownBlock ∨ v'.ownBlock = some w.heap.size) → wpList Tryd.prog ops Q rest (a.put o.dst v') w') :
    wpList Tryd.prog ops Q (o :: rest) a w := by
  obtain ⟨i0, hi, hz0, hz1, hz2⟩ := info_parts info_rule
  refine wpList_append_own_at w hgd s x 28 ho base 51 i0 _ 2 32 Tryd.underlying28 hi hz0 hz1 hz2 rfl (by decide) v L.length (fcells L) hs hrow ⟨b, 0, none⟩ 1 1 [.string i, .string t] hx rfl ?_ ?_ (by unfold maxLen; omega) (by omega) hbase ?_
  · intro j u hu
    match j, hu with
    | 0, hu => simp at hu; subst hu; simpa [Addr.add] using hc.1
    | 1, hu => simp at hu; subst hu; simpa [Addr.add] using hc.2
  · intro u hu
    simp at hu
    rcases hu with rfl | rfl <;> rfl
  · intro v' w' h1 h2 _ h3
    refine K v' w' ?_ h2 h3
    unfold RRow
    rw [List.length_append, fcells_append]
    exact h1
namespace M
end M
theorem RRow.cases {w : World} {base : Nat} {v : Value} {L : List (ByteArray × ByteArray)} (h : RRow w base v L) : (v = .slice none 0 0 ∧ L = []) ∨ ∃ g c, v = .slice (some ⟨g, 0, none⟩) L.length c ∧ base ≤ g ∧ g < w.heap.size := by
  rcases h.2 with ⟨rfl, hn⟩ | ⟨g, cap, cur, rfl, hb, hg, _⟩
  · exact Or.inl ⟨rfl, List.eq_nil_of_length_eq_zero hn⟩
  · exact Or.inr ⟨g, cap, rfl, hb, (Array.getElem?_eq_some_iff.1 hg).1⟩

theorem RRow.only {w w' : World} {base : Nat} {v : Value} {L : List (ByteArray × ByteArray)} {S : Nat → Prop} (h : RRow w base v L) (ho : Only w w' S) (hn : ∀ b, v.ownBlock = some b → ¬ S b) : RRow w' base v L :=
  ownsRow_block h fun g hg => ho.block g (h.lt g hg).2 (hn g hg)
theorem RRow.lower {w : World} {base base' : Nat} {v : Value} {L : List (ByteArray × ByteArray)} (h : RRow w base v L) (hb : base' ≤ base) : RRow w base' v L := by
  refine ⟨h.1, ?_⟩
  rcases h.2 with ⟨rfl, hn⟩ | ⟨g, cap, cur, rfl, hbg, rest⟩
  · exact Or.inl ⟨rfl, hn⟩
  · exact Or.inr ⟨g, cap, cur, rfl, Nat.le_trans hb hbg, rest⟩
theorem rone_frow (w : World) : RRow (w.alloc (.cells #[] 51)) w.heap.size (.slice (some ⟨w.heap.size, 0, none⟩) 0 0) [] :=
  World.ownsRow_lit (base := w.heap.size) (e := 51) (size := 2) w #[] 0 (Nat.le_refl _) (by unfold maxLen; omega) rfl
set_option maxHeartbeats 1000000 in
theorem markRuleS_row (w : World) (base : Nat) (v : Value) (L : List (ByteArray × ByteArray)) (k : Nat) (h : RRow w base v L) (hn : L.length ≤ 1048576) (k1 : 1 ≤ k) (k2 : k ≤ 10000000) :
    Calls Tryd.prog 14 #[v, .int .i64 k] w fun e w' => e = .returned (.int .i64 ((k + 2 * L.length : Nat) : Int)) ∧ RRow w' base v (M.fmarks k L.length) ∧ w.grownBy w' v.ownBlock := by
  rcases h.cases with ⟨rfl, rfl⟩ | ⟨g, c, rfl, hbg, hgl⟩
  · go_enter Tryd.func14, Tryd.ntmps14
    go_wp2
    go_rounds 1
    go_ret
    exact ⟨rfl, RRow.nil _ _, World.grownBy.refl _ _⟩
  · have hend := Lib.hid (M.fmarkTo_end L k)
    go_enter Tryd.func14, Tryd.ntmps14
    go_wp2
    go_loopw [1, 5] (fun q i wr => ∃ j : Nat, j ≤ L.length ∧ i = .int .i64 j ∧ q = .int .i64 ((k + 2 * j : Nat) : Int) ∧ Hid (RRow wr base (.slice (some ⟨g, 0, none⟩) L.length c) (M.fmarkTo L k j)) ∧ Hid (w.grownBy wr (some g))) (fun _ i _ => L.length - (intOf i).toNat)
    case atStart => exact ⟨0, Nat.zero_le _, rfl, rfl, h, World.grownBy.refl _ _⟩
    case round =>
      obtain ⟨j, hj, rfl, rfl, hr, hg⟩ := hrel
      by_cases hlt : j < L.length
      · have hlen := Lib.hid (M.fmarkTo_length L k j)
        obtain ⟨X, hX⟩ : ∃ X : Int, X = (k : Int) + 2 * (j : Int) := ⟨_, rfl⟩
        have hXc : ((k + 2 * j : Nat) : Int) = X := by omega
        have hset : Hid (fcells (M.fmarkTo L k (j + 1)) = ((fcells (M.fmarkTo L k j)).set (j * 2) (.string (M.mark (k + 2 * j)))).set (j * 2 + 1) (.string (M.mark (k + 2 * j + 1)))) :=
          (fcells_set (M.fmarkTo L k j) j (M.mark (k + 2 * j)) (M.mark (k + 2 * j + 1))).symm
        have hrow : wr.ownsRow base 51 2 (.slice (some ⟨g, 0, none⟩) L.length c) L.length (fcells (M.fmarkTo L k j)) := by
          have := hr.out
          unfold RRow at this
          rw [hlen.out] at this
          exact this
        have hat := fcells_at (M.fmarkTo L k j) j (by rw [hlen.out]; exact hlt)
        have c0 : wr.cell? ⟨g, j * 2, none⟩ = some (.string ((M.fmarkTo L k j)[j]'(by rw [hlen.out]; exact hlt)).1) := by rw [World.ownsRow.cellAt hrow (j * 2) (by omega)]; exact hat.1
        have d0 : wr.cell? ⟨g, j * 2 + 1, none⟩ = some (.string ((M.fmarkTo L k j)[j]'(by rw [hlen.out]; exact hlt)).2) := by rw [World.ownsRow.cellAt hrow (j * 2 + 1) (by omega)]; exact hat.2
        have hgl0 : g < wr.heap.size := (World.ownsRow.lt hrow g rfl).2
        generalize ((M.fmarkTo L k j)[j]'(by rw [hlen.out]; exact hlt)).1 = y at c0
        generalize ((M.fmarkTo L k j)[j]'(by rw [hlen.out]; exact hlt)).2 = z at d0
        have HROW := Lib.hid hrow
        have HX := Lib.hid hX
        have HXC := Lib.hid hXc
        have D0 := Lib.hid d0
        have hXb : 1 ≤ X ∧ X ≤ 20000000 := by omega
        clear hrow hat hX d0
        rw [hXc]
        clear hXc
        obtain ⟨x1, x2⟩ := hXb
        go_wp2_with fail
        refine (markText_at X (k + 2 * j) (by have := HX.out; omega) _ (by omega) (by omega)).mono ?_
        rintro e w1 ⟨rfl, hb1⟩
        have r1 := World.ownsRow.kept HROW.out (grown_of_below hb1) (Or.inr (by intro e; cases e))
        have c1 : w1.cell? ⟨g, j * 2, none⟩ = some (.string y) := (hb1.cell (p := ⟨g, j * 2, none⟩) hgl0).trans c0
        have d1 : w1.cell? ⟨g, j * 2 + 1, none⟩ = some (.string z) := (hb1.cell (p := ⟨g, j * 2 + 1, none⟩) hgl0).trans D0.out
        have f1 := World.ownsRow.frozenAt r1 (j * 2)
        obtain ⟨s1, g1⟩ := World.ownsRow.stored r1 (j * 2) (.string (M.mark (k + 2 * j)))
        have hgl1 : g < w1.heap.size := (World.ownsRow.lt r1 g rfl).2
        have d2 : (w1.setCell ⟨g, j * 2, none⟩ (.string (M.mark (k + 2 * j)))).cell? ⟨g, j * 2 + 1, none⟩ = some (.string z) := by
          rw [World.cell?_setCell_other _ _ _ _ (by simp)]; exact d1
        have hgl2 : g < (w1.setCell ⟨g, j * 2, none⟩ (.string (M.mark (k + 2 * j)))).heap.size := (World.ownsRow.lt s1 g rfl).2
        have S1 := Lib.hid s1
        have G1 : Hid (w.grownBy (w1.setCell ⟨g, j * 2, none⟩ (.string (M.mark (k + 2 * j)))) (some g)) := grown_row (grown_row hg.out (grown_some hb1)) g1
        have D2 := Lib.hid d2
        clear r1 s1 g1 d1 d2 hb1 c0
        go_wp2_with fail
        refine (markText_at (X + 1) (k + 2 * j + 1) (by have := HX.out; omega) _ (by omega) (by omega)).mono ?_
        rintro e w2 ⟨rfl, hb2⟩
        have r2 := World.ownsRow.kept S1.out (grown_of_below hb2) (Or.inr (by intro e; cases e))
        have c2 : w2.cell? ⟨g, j * 2 + 1, none⟩ = some (.string z) := (hb2.cell (p := ⟨g, j * 2 + 1, none⟩) hgl2).trans D2.out
        have f2 := World.ownsRow.frozenAt r2 (j * 2 + 1)
        obtain ⟨s3, g3⟩ := World.ownsRow.stored r2 (j * 2 + 1) (.string (M.mark (k + 2 * j + 1)))
        have S3 : Hid (RRow (w2.setCell ⟨g, j * 2 + 1, none⟩ (.string (M.mark (k + 2 * j + 1)))) base (.slice (some ⟨g, 0, none⟩) L.length c) (M.fmarkTo L k (j + 1))) := by
          unfold Hid RRow
          rw [M.fmarkTo_length, hset.out]
          exact s3
        have G3 : Hid (w.grownBy (w2.setCell ⟨g, j * 2 + 1, none⟩ (.string (M.mark (k + 2 * j + 1)))) (some g)) :=
          grown_row (grown_row G1.out (grown_some hb2)) g3
        have hgl3 : g < w2.heap.size := (World.ownsRow.lt r2 g rfl).2
        clear r2 s3 g3 hgl2 hb2
        go_wp2
        go_roundw
        case rel => exact ⟨j + 1, by omega, by go_num, by refine congrArg (Value.int .i64) ?_; have := HX.out; omega, S3, G3⟩
        case measure => simp [intOf]; omega
      · obtain rfl : j = L.length := by omega
        go_wp2
        go_ret
        exact ⟨rfl, by have := hr.out; rw [hend.out] at this; exact this, hg.out⟩

set_option maxHeartbeats 1000000 in
theorem heldRuleS_any (w : World) (a : Option Addr) (n c : Nat) (I C : Nat → ByteArray) (k : Nat) (h : Fws w a n I C) (hm : ∀ i, i < n → I i = M.mark (k + 2 * i) ∧ C i = M.mark (k + 2 * i + 1)) (hn : n ≤ 1048576) (k1 : 1 ≤ k) (k2 : k ≤ 10000000) :
    Calls Tryd.prog 15 #[.slice a n c, .int .i64 k] w fun e w' => e = .returned (.int .i64 ((k + 2 * n : Nat) : Int)) ∧ Below w.heap.size w w' := by
  have HL := Lib.hid h
  have HM := Lib.hid hm
  clear h hm
  go_enter Tryd.func15, Tryd.ntmps15
  go_wp2
  go_loopw [1, 5] (fun q i wr => ∃ j : Nat, j ≤ n ∧ i = .int .i64 j ∧ q = .int .i64 ((k + 2 * j : Nat) : Int) ∧ Below w.heap.size w wr) (fun _ i _ => n - (intOf i).toNat)
  case atStart => exact ⟨0, Nat.zero_le _, rfl, rfl, Below.refl _ _⟩
  case round =>
    obtain ⟨j, hj, rfl, rfl, hb⟩ := hrel
    have hz := hb.size
    by_cases hlt : j < n
    · obtain ⟨b, o, rfl, c0, c1⟩ := (HL.out.on hb) j hlt
      obtain ⟨e0, e1⟩ := HM.out j hlt
      rw [e0] at c0
      rw [e1] at c1
      clear e0 e1
      have hlb : b < wr.heap.size := World.block_lt_of_cell? _ _ c0
      obtain ⟨X, hX⟩ : ∃ X : Int, X = (k : Int) + 2 * (j : Int) := ⟨_, rfl⟩
      have hXc : ((k + 2 * j : Nat) : Int) = X := by omega
      rw [hXc]
      have hXb : 1 ≤ X ∧ X ≤ 20000000 := by omega
      have HX := Lib.hid hX
      clear hXc hX
      obtain ⟨x1, x2⟩ := hXb
      go_wp2
      go_region_with (go_at_call 28; refine (markText_at X (k + 2 * j) (by have := HX.out; omega) _ (by omega) (by omega)).mono ?_; rintro e w1 ⟨rfl, hb1⟩; have hlb1 : b < w1.heap.size := Nat.lt_of_lt_of_le hlb hb1.size; have d0 : w1.cell? ⟨b, o + j * 2, none⟩ = some (.string (M.mark (k + 2 * j))) := (hb1.cell (p := ⟨b, o + j * 2, none⟩) hlb).trans c0; have d1 : w1.cell? ⟨b, o + j * 2 + 1, none⟩ = some (.string (M.mark (k + 2 * j + 1))) := (hb1.cell (p := ⟨b, o + j * 2 + 1, none⟩) hlb).trans c1; have B1 : Hid (Below w.heap.size w w1) := (by first | exact step hb hb1 | exact step hb.drew hb1); clear hb1)
      all_goals
        go_wp2
        go_region_with (go_at_call 28; refine (markText_at (X + 1) (k + 2 * j + 1) (by have := HX.out; omega) _ (by omega) (by omega)).mono ?_; rintro e w2 ⟨rfl, hb2⟩; have d2 : w2.cell? ⟨b, o + j * 2 + 1, none⟩ = some (.string (M.mark (k + 2 * j + 1))) := (hb2.cell (p := ⟨b, o + j * 2 + 1, none⟩) (by first | exact hlb1 | simpa using hlb1)).trans (by first | exact d1 | simpa using d1); have B2 : Hid (Below w.heap.size w w2) := (by first | exact step B1.out hb2 | exact step B1.out.drew hb2 | exact step B1.out.drew.drew hb2); clear hb2)
        all_goals
          go_wp2
          refine ⟨⟨j + 1, by omega, by go_num, by refine congrArg (Value.int .i64) ?_; have := HX.out; omega, ?_⟩, by simp [intOf]; omega⟩
          first | exact B2.out | exact B2.out.drew
    · obtain rfl : j = n := by omega
      go_wp2
      go_ret
      exact ⟨rfl, hb⟩
theorem heldRuleS_row (w : World) (base : Nat) (v : Value) (k n : Nat) (h : RRow w base v (M.fmarks k n)) (hn : n ≤ 1048576) (k1 : 1 ≤ k) (k2 : k ≤ 10000000) :
    Calls Tryd.prog 15 #[v, .int .i64 k] w fun e w' => e = .returned (.int .i64 ((k + 2 * n : Nat) : Int)) ∧ Below w.heap.size w w' := by
  obtain ⟨a, c, rfl, _, hl⟩ := h.form
  rw [M.fmarks_length] at hl ⊢
  exact heldRuleS_any w a n c _ _ k hl (fun i hi => ⟨nF_marks hi, nT_marks hi⟩) hn k1 k2
theorem eqRuleS_row (w : World) (b1 b2 : Nat) (v v' : Value) (L : List (ByteArray × ByteArray)) (h : RRow w b1 v L) (h' : RRow w b2 v' L) (hn : L.length ≤ 1048576) :
    Calls Tryd.prog 13 #[v, v'] w fun e w' => e = .returned (.bool true) ∧ Below w.heap.size w w' := by
  obtain ⟨a, c, rfl, _, hl⟩ := h.form
  obtain ⟨a', c', rfl, _, hl'⟩ := h'.form
  exact eqRuleS_same w a a' L.length c c' _ _ hl hl' hn
/-- The law's own copy of letters, as a row. -/
theorem ROwn.row {w : World} {b n base : Nat} {I : Nat → ByteArray} {C : Nat → ByteArray} (h : ROwn w b n I C) (hb : base ≤ b) (hn : n ≤ 1048576) : RRow w base (.slice (some ⟨b, 0, none⟩) n n) (M.flst I C n) := by
  obtain ⟨f, ⟨cur, hh, hs, hc⟩, hf⟩ := h
  unfold RRow
  rw [M.flst_length]
  refine ⟨by rw [fcells_length, M.flst_length], Or.inr ⟨b, n, cur, rfl, hb, hh, Nat.le_refl _, by unfold maxLen; omega, hs, ?_⟩⟩
  rw [List.take_of_length_le (by rw [Array.length_toList]; omega)]
  apply List.ext_getElem?
  intro j
  by_cases hj : j < n * 2
  · rw [Array.getElem?_toList, hc j hj]
    have hp : j = j / 2 * 2 ∨ j = j / 2 * 2 + 1 := by omega
    obtain ⟨h1, h2⟩ := hf (j / 2) (by omega)
    obtain ⟨q1, q2⟩ := fcells_lst I C n (i := j / 2) (by omega)
    rcases hp with e | e
    · rw [e, h1, q1]
    · rw [e, h2, q2]
  · rw [List.getElem?_eq_none (by rw [Array.length_toList]; omega), List.getElem?_eq_none (by rw [fcells_length, M.flst_length]; omega)]
theorem RRow.fws_lst {w : World} {base : Nat} {a : Option Addr} {n c : Nat} {I : Nat → ByteArray} {C : Nat → ByteArray} (h : RRow w base (.slice a n c) (M.flst I C n)) : Fws w a n I C := by
  obtain ⟨a', c', e, _, hl⟩ := h.form
  rw [M.flst_length] at hl
  injection e with e1 _ _
  subst e1
  exact hl.congr fun i hi => flst_at hi
/-- What was there before the base of a row lies in another block. -/
theorem RRow.older {w w' : World} {base base' : Nat} {v v' : Value} {L L' : List (ByteArray × ByteArray)} (h : RRow w base v L) (h' : RRow w' base' v' L') (hs : w.heap.size ≤ base') : Apart v v' := fun b hb e => by
  have h1 := (h.lt b hb).2
  have h2 := (h'.lt b e).1
  omega
theorem RRow.past {w w' : World} {base : Nat} {v v' : Value} {L : List (ByteArray × ByteArray)} (h : RRow w base v L) (ha : Apart v v') (hg : w.grownBy w' v'.ownBlock) : RRow w' base v L :=
  h.kept hg fun b hb e => ha b hb e
end Go.Proofs.YtcppjkmmmpdchaaDoor
