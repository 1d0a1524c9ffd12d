/-
  Plans by value: the copy and the comparison of the law's own text; whether a plan is valid, in the program and in the model of the document.
-/
import Derived.Test.YtekkajgifgnklaaStr
import Derived.Test.YtekkajgifgnklaaPlanM
import Derived.Test.YtekkajgifgnklaaCap
import Derived.Maps.OwnOps
import Derived.Maps.OwnSet
import Derived.Maps.Views
import Derived.WalkLawsBesides
namespace Go.Proofs.Ytekkajgifgnklaa
open Go.RowKit Go.Maps
open Go.PlainAid (bt get_bt bt_nonneg bt_le)

/-- A block of three cells, which can be written. -/
def Tri (w : World) (b : Nat) (x y z : Value) : Prop := (w.cell? ⟨b, 0, none⟩ = some x ∧ w.cell? ⟨b, 1, none⟩ = some y ∧ w.cell? ⟨b, 2, none⟩ = some z) ∧ (w.frozen? ⟨b, 0, none⟩ = false ∧ w.frozen? ⟨b, 1, none⟩ = false ∧ w.frozen? ⟨b, 2, none⟩ = false)
theorem Tri.lt {w : World} {b : Nat} {x y z : Value} (h : Tri w b x y z) : b < w.heap.size := World.block_lt_of_cell? _ _ h.1.1
theorem Tri.on {w w' : World} {b : Nat} {x y z : Value} (h : Tri w b x y z) (hb : Below w.heap.size w w') : Tri w' b x y z := by
  have hlt := h.lt
  obtain ⟨⟨h0, h1, h2⟩, f0, f1, f2⟩ := h
  have k := fun o => hb.cell (p := ⟨b, o, none⟩) hlt
  have q := fun o => hb.frozen (p := ⟨b, o, none⟩) hlt
  exact ⟨⟨by rw [k]; exact h0, by rw [k]; exact h1, by rw [k]; exact h2⟩, by rw [q]; exact f0, by rw [q]; exact f1, by rw [q]; exact f2⟩
theorem tri_made (w : World) (x y z : Value) (T : TypeId) : Tri (w.alloc (.cells #[x, y, z] T)) w.heap.size x y z :=
  ⟨⟨by simp [go_sem], by simp [go_sem], by simp [go_sem]⟩, by simp [go_sem], by simp [go_sem], by simp [go_sem]⟩
theorem Tri.alloc {w : World} {b : Nat} {x y z : Value} (h : Tri w b x y z) (o : Obj) : Tri (w.alloc o) b x y z := h.on (below_alloc0 w o)

theorem neq_list0 {a b : ByteArray} (h : a ≠ b) : (a.toList == b.toList) = false := by
  rw [beq_eq_false_iff_ne]
  intro e
  rw [ByteArray.toList_eq, ByteArray.toList_eq] at e
  exact h (ByteArray.ext (Array.toList_inj.1 e))
theorem quiet_flip {P : Program} {f : FuncId} {args : Array Value} {w : World} {v : Value} (h : Calls P f args w fun e w' => e = .returned v ∧ w = w') : Calls P f args w fun e w' => e = .returned v ∧ w' = w :=
  h.mono fun _ _ ⟨he, hw⟩ => ⟨he, hw.symm⟩

/-- The first k strings, as the map that the program fills. -/
def SeenS (S : Nat → ByteArray) : Nat → DataW Unit
  | 0 => .map []
  | k + 1 => (SeenS S k).put (.string (S k).data.toList) (.lit (.bool true))
theorem SeenS.isMap (S : Nat → ByteArray) : ∀ k, IsMap (SeenS S k)
  | 0 => isMap_empty
  | k + 1 => (SeenS.isMap S k).put _ _
theorem SeenS.hit (S : Nat → ByteArray) : ∀ k j, j < k → (SeenS S k).atKey (.string (S j).data.toList) (.lit (.bool false)) = .lit (.bool true)
  | 0, j, h => absurd h (by omega)
  | k + 1, j, h => by
    by_cases e : S j = S k
    · rw [e]
      exact atKey_put_same (SeenS.isMap S k) (by simp [WideAt.IsKeyLit]) _ _
    · rw [SeenS, atKey_put_other (by intro h'; injection h' with h2; exact e (ByteArray.ext (Array.toList_inj.1 h2)))]
      exact SeenS.hit S k j (by by_cases e2 : j = k; (subst e2; exact absurd rfl e); omega)
theorem SeenS.miss (S : Nat → ByteArray) (x : ByteArray) : ∀ k, (∀ j, j < k → S j ≠ x) → (SeenS S k).atKey (.string x.data.toList) (.lit (.bool false)) = .lit (.bool false)
  | 0, _ => rfl
  | k + 1, h => by
    rw [SeenS, atKey_put_other (by intro h'; injection h' with h2; exact h k (by omega) (ByteArray.ext (Array.toList_inj.1 h2)).symm)]
    exact SeenS.miss S x k fun j hj => h j (by omega)
theorem plainElem_bool_invS {H : Type} {P : Program} {e : TypeId} (he : P.underlying e = some .bool) {v : Value} {z : DataW H × List MemPlace} (h : plainElem P e v = some z) : ∃ x, v = .bool x ∧ z = (.lit (.bool x), []) := by
  unfold plainElem at h
  rw [he] at h
  cases v <;> simp at h
  exact ⟨_, rfl, h.symm⟩
theorem look_boolS {P : Program} {w : World} {t k e : TypeId} {b n : Nat} {D : DataW Unit} (h : w.ownsMap P k (plainElem P e) b n D) (K : Keyed P k) (ht : P.underlying t = some (.map k e)) (he : P.underlying e = some .bool) (hz : (zeroValue e).run P w = .ok (.bool false) w)
    {key : Value} {kl : Lit} (hkey : keyOf P k key = some kl) {x : Bool} (hx : D.atKey kl (.lit (.bool false)) = .lit (.bool x)) : (Instr.lookup t (.map (some b)) key false).run P w = .ok (.bool x) w := by
  obtain ⟨v, ps, hrun, hv⟩ := h.lookup K ht hz (plainElem_bool he false) hkey
  obtain ⟨c, rfl, hc⟩ := plainElem_bool_invS he hv
  simp only [Prod.mk.injEq] at hc
  have : (.lit (.bool x) : DataW Unit) = .lit (.bool c) := hx.symm.trans hc.1
  injection this with this
  injection this with this
  rw [this]; exact hrun
theorem lawStr : Keyed Try.prog 9 := string_keyed Try.underlying9
theorem zeroBoolS (w : World) : (zeroValue 4).run Try.prog w = .ok (.bool false) w := by kernel_rfl
/-- The map that differentCodes fills. -/
def OwnSeenS (w : World) (b : Nat) (S : Nat → ByteArray) (k : Nat) : Prop := w.ownsMap Try.prog 9 (plainElem Try.prog 4) b k (SeenS S k)
theorem OwnSeenS.look {w : World} {b k : Nat} {S : Nat → ByteArray} (h : OwnSeenS w b S k) {y : ByteArray} (hy : y.size ≤ maxLen) {x : Bool} (hx : (SeenS S k).atKey (.string y.data.toList) (.lit (.bool false)) = .lit (.bool x)) :
    (Instr.lookup 90 (.map (some b)) (.string y) false).run Try.prog w = .ok (.bool x) w :=
  look_boolS h lawStr Try.underlying90 Try.underlying4 (zeroBoolS w) (WideMaps.keyOf_string_mk Try.underlying9 hy) hx

set_option maxHeartbeats 1000000 in
theorem impl_differentCodes (w : World) (a : Option Addr) (n c : Nat) (S : Nat → ByteArray) (h : Strs w a n S) (hf : SFits n S) (hn : n ≤ 60) :
    Calls Try.prog 39 #[.slice a n c] w fun e w' => e = .returned (.bool (M.diffTo S n)) ∧ Below w.heap.size w w' := by
  have HF := Lib.hid hf
  have HL := Lib.hid h
  clear h hf
  have hmm := @run_makeMap Try.prog
  go_enter Try.func39, Try.ntmps39
  go_wp2
  go_loopw [9] (fun i wr => ∃ k : Nat, k ≤ n ∧ i = .int .i64 k ∧ M.diffTo S k = true ∧ OwnSeenS wr w.heap.size S k ∧ Below w.heap.size w wr) (fun i _ => n - (intOf i).toNat)
  case atStart => exact ⟨0, Nat.zero_le _, rfl, rfl, World.ownsMap_made _ _ _ _, (Below.refl _ _).alloc (Nat.le_refl _) _⟩
  case round =>
    obtain ⟨k, hk, rfl, hg, hown, hb⟩ := hrel
    have hz := hb.size
    by_cases hlt : k < n
    · obtain ⟨b, o, rfl, c1⟩ := (HL.out.on hb) k hlt
      have s1 := HF.out k hlt
      have HG := Lib.hid hg
      have HO := Lib.hid hown
      clear hg hown
      by_cases hs : ∃ j, j < k ∧ S j = S k
      · have hbad := Lib.hid (M.diffTo_no hlt (Or.inr hs))
        have hlook : (Instr.lookup 90 (.map (some w.heap.size)) (.string (S k)) false).run Try.prog wr = .ok (.bool true) wr := by
          obtain ⟨j, hj, e⟩ := hs
          exact OwnSeenS.look HO.out s1 (by rw [← e]; exact SeenS.hit S k j hj)
        clear hs
        go_wp2
        go_ret
        exact ⟨ret_bool hbad.out.symm, by go_grown⟩
      have hno : ∀ j, j < k → S j ≠ S k := fun j hj e => hs ⟨j, hj, e⟩
      have hlook : (Instr.lookup 90 (.map (some w.heap.size)) (.string (S k)) false).run Try.prog wr = .ok (.bool false) wr :=
        OwnSeenS.look HO.out s1 (SeenS.miss S (S k) k hno)
      have HNO := Lib.hid hno
      clear hs hno
      cases hc : M.code (S k)
      · go_wp2_with (go_at_call 31; refine (impl_CodeValid _ _ s1).mono ?_; rw [hc]; rintro e w1 ⟨rfl, hb1⟩; replace hb1 := hb1.below)
        go_ret
        exact ⟨ret_bool (M.diffTo_no hlt (Or.inl hc)).symm, hb.trans (hb1.mono hz)⟩
      · have hkey : keyOf Try.prog 9 (.string (S k)) = some (.string (S k).data.toList) := WideMaps.keyOf_string_mk Try.underlying9 s1
        have hkm : k < maxLen := by unfold maxLen; omega
        go_wp2_with (first
          | (go_at_call 31; refine (impl_CodeValid_yes _ _ hc).mono ?_; rintro e w1 ⟨rfl, rfl⟩)
          | (at_mapUpdate; refine wpList_mapUpdate_own _ rfl _ _ _ 90 rfl 9 4 lawStr Try.underlying90 _ w.heap.size k _ rfl (World.ownsMap.alloc HO.out _) hkm _ _ _ rfl rfl hkey _ [] (plainElem_bool Try.underlying4 true) ?_; intro w1 hown1 hgrow1))
        go_roundw
        case rel => exact ⟨k + 1, by omega, by go_num, M.diffTo_succ HG.out hc HNO.out, hown1, (hb.alloc hz _).grown hgrow1 (by simp; omega) (fun j hj => by cases hj; exact Nat.le_refl _)⟩
        case measure => simp [intOf]; omega
    · obtain rfl : k = n := by omega
      go_wp2
      go_ret
      exact ⟨ret_bool hg.symm, hb⟩

end Go.Proofs.Ytekkajgifgnklaa
