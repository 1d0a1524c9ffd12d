/-
  Offices of the call's own, marked.
-/
import Derived.Test.YtiecniogkcgefaaNet2
namespace Go.Proofs.Ytiecniogkcgefaa
open Go.RowKit
open Go.PlainAid (bt get_bt bt_nonneg bt_le)
set_option linter.unusedVariables false

/-- As ONet, all blocks between two sizes of the heap. -/
def ONetH (w : World) (base hi b n : Nat) (NM : Nat → ByteArray) (RL : Nat → List (ByteArray × ByteArray)) : Prop :=
  ∃ (f : Nat → Value) (G : Nat → Nat), w.rowIs b 82 (n * 2) f ∧ (base ≤ b ∧ b < hi) ∧ (∀ i, i < n → f (i * 2) = .string (NM i) ∧ f (i * 2 + 1) = .slice (some ⟨G i, 0, none⟩) (RL i).length (RL i).length ∧ b ≠ G i ∧ (base ≤ G i ∧ G i < hi) ∧ RRow w base (.slice (some ⟨G i, 0, none⟩) (RL i).length (RL i).length) (RL i)) ∧ ∀ i j, i < j → j < n → G i ≠ G j
section
variable {w w' : World} {base hi b n : Nat} {NM : Nat → ByteArray} {RL : Nat → List (ByteArray × ByteArray)}
theorem ONet.bound (h : ONet w base b n NM RL n) (hb : base ≤ b) : ONetH w base w.heap.size b n NM RL := by
  obtain ⟨f, G, hr, hf, hd⟩ := h
  exact ⟨f, G, hr, ⟨hb, hr.lt⟩, fun i hi => ⟨(hf i hi).1, (hf i hi).2.1, (hf i hi).2.2.1, (hf i hi).2.2.2.lt _ rfl, (hf i hi).2.2.2⟩, hd⟩
theorem ONetH.on (h : ONetH w base hi b n NM RL) (hb : Below w.heap.size w w') : ONetH w' base hi b n NM RL := by
  obtain ⟨f, G, hr, hbb, hf, hd⟩ := h
  exact ⟨f, G, hr.of_block (hb.block _ hr.lt), hbb, fun i hi => ⟨(hf i hi).1, (hf i hi).2.1, (hf i hi).2.2.1, (hf i hi).2.2.2.1, (hf i hi).2.2.2.2.on hb⟩, hd⟩
theorem ONetH.nts (h : ONetH w base hi b n NM RL) : Nts w (some ⟨b, 0, none⟩) n NM RL := by
  obtain ⟨f, G, hr, _, hf, hd⟩ := h
  exact ONet.nts (base := base) (m := n) ⟨f, G, hr, fun i hi => ⟨(hf i hi).1, (hf i hi).2.1, (hf i hi).2.2.1, (hf i hi).2.2.2.2⟩, hd⟩ (Nat.le_refl _)
end
theorem toOfficeS_net (w : World) (a : Option Addr) (n c : Nat) (NM : Nat → ByteArray) (RL : Nat → List (ByteArray × ByteArray)) (h : Nts w a n NM RL) (hn : n ≤ 1048576) (hl : ∀ i, i < n → (RL i).length ≤ 1048576) :
    Calls Try.prog 29 #[.slice a n c] w fun e w' => ∃ b, e = .returned (.slice (some ⟨b, 0, none⟩) n n) ∧ ONetH w' w.heap.size w'.heap.size b n NM RL ∧ Below w.heap.size w w' :=
  (toOfficeS_any w a n c NM RL h hn hl).mono fun e w' ⟨b, he, hb, ho, hbl⟩ => ⟨b, he, ho.bound hb, hbl⟩
theorem markRuleS_at (X : Int) (w : World) (base : Nat) (v : Value) (L : List (ByteArray × ByteArray)) (k : Nat) (hX : X = (k : Int)) (h : RRow w base v L) (hn : L.length ≤ 1048576) (k1 : 1 ≤ k) (k2 : k ≤ 10000000) :
    Calls Try.prog 21 #[v, .int .i64 X] w fun e w' => e = .returned (.int .i64 ((k + 2 * L.length : Nat) : Int)) ∧ w.grownBy w' v.ownBlock := by
  subst hX
  exact (markRuleS_row w base v L k h hn k1 k2).mono fun e w' ⟨he, _, hg⟩ => ⟨he, hg⟩
theorem totR_mono (RL : Nat → List (ByteArray × ByteArray)) {j : Nat} : ∀ {n : Nat}, j ≤ n → totR RL j ≤ totR RL n
  | 0, h => by have : j = 0 := by omega
               subst this; exact Nat.le_refl _
  | n + 1, h => by
    by_cases e : j = n + 1
    · subst e; exact Nat.le_refl _
    · have := totR_mono RL (j := j) (n := n) (by omega)
      show _ ≤ totR RL n + (RL n).length
      omega
/-- What is left to be marked from the office j on. -/
def ToMark (wr : World) (base b n : Nat) (G : Nat → Nat) (RL : Nat → List (ByteArray × ByteArray)) (j : Nat) : Prop :=
  ∃ f, wr.rowIs b 82 (n * 2) f ∧ (∀ t, t < n → f (t * 2 + 1) = .slice (some ⟨G t, 0, none⟩) (RL t).length (RL t).length) ∧ ∀ t, j ≤ t → t < n → RRow wr base (.slice (some ⟨G t, 0, none⟩) (RL t).length (RL t).length) (RL t)
set_option maxHeartbeats 2000000 in
set_option maxRecDepth 100000 in
theorem markOfficeS_net (w : World) (base hi b n : Nat) (NM : Nat → ByteArray) (RL : Nat → List (ByteArray × ByteArray)) (h : ONetH w base hi b n NM RL) (hn : n ≤ 1048576) (ht : totR RL n ≤ 1048576) :
    Calls Try.prog 35 #[.slice (some ⟨b, 0, none⟩) n n, .int .i64 1] w fun e w' => e = .returned (.int .i64 ((1 + n + 2 * totR RL n : Nat) : Int)) ∧ Only w w' (fun k => base ≤ k ∧ k < hi) := by
  obtain ⟨f0, G, hr, hbb, hf, hd⟩ := h
  have HG := Lib.hid (fun i hi => (hf i hi).2.2.1)
  have HB := Lib.hid (fun i hi => (hf i hi).2.2.2.1)
  have HD := Lib.hid hd
  have HTL := Lib.hid (fun i (hi : i < n) => Nat.le_trans (totR_le RL hi) ht)
  have HTM := Lib.hid (fun j (hj : j ≤ n) => totR_mono RL hj)
  have HT0 : Hid (ToMark w base b n G RL 0) := ⟨f0, hr, fun t htn => (hf t htn).2.1, fun t _ htn => (hf t htn).2.2.2.2⟩
  clear hr hf hd
  go_enter Try.func35, Try.ntmps35
  go_wp2
  go_loopw [1, 5] (fun q i wr => ∃ j x : Nat, j ≤ n ∧ i = .int .i64 j ∧ q = .int .i64 x ∧ x = 1 + j + 2 * totR RL j ∧ Hid (ToMark wr base b n G RL j) ∧ Hid (Only w wr (fun k => base ≤ k ∧ k < hi))) (fun _ i _ => n - (intOf i).toNat)
  case atStart => exact ⟨0, 1, Nat.zero_le _, rfl, rfl, rfl, HT0, Only.refl _ _⟩
  case round =>
    obtain ⟨j, x, hj, rfl, rfl, hx, hto, ho⟩ := hrel
    by_cases hlt : j < n
    · have hxb := HTM.out j (by omega)
      have HX := Lib.hid hx
      have hx1 : 1 ≤ x ∧ x ≤ 4000000 := by omega
      obtain ⟨hx1, hx2⟩ := hx1
      have HTS : Hid (totR RL (j + 1) = totR RL j + (RL j).length) := rfl
      obtain ⟨f, hrow, hfs, hrr⟩ := hto.out
      have lb := hrow.lt
      have HROW := Lib.hid hrow
      have HFS := Lib.hid hfs
      have HRR := Lib.hid hrr
      have hll := HTL.out j hlt
      clear hrow hfs hrr hto hx hxb
      go_wp2_with fail
      refine (markText_any x wr (by omega) (by omega)).mono ?_
      rintro e w1 ⟨rfl, hb1⟩
      have hr1 := HROW.out.of_block (hb1.block _ lb)
      have c0 := hr1.cell (i := j * 2) (by omega)
      have g0 := hr1.frozen (j * 2)
      have hr2 := hr1.set (j * 2) (.string (M.mark x))
      have c1 := hr2.cell (i := j * 2 + 1) (by omega)
      rw [show (if j * 2 + 1 = j * 2 then Value.string (M.mark x) else f (j * 2 + 1)) = f (j * 2 + 1) from if_neg (by omega), HFS.out j hlt] at c1
      have lb1 : b < w1.heap.size := hr1.lt
      obtain ⟨W2, hW2⟩ : ∃ W2, w1.setCell ⟨b, j * 2, none⟩ (.string (M.mark x)) = W2 := ⟨_, rfl⟩
      have R2 : Hid (∀ t, j ≤ t → t < n → RRow W2 base (.slice (some ⟨G t, 0, none⟩) (RL t).length (RL t).length) (RL t)) := fun t h1 h2 => hW2 ▸ ((HRR.out t h1 h2).on hb1).set (by rintro b' ⟨rfl⟩ e; exact HG.out t h2 e.symm) _
      have O2 : Hid (Only w W2 (fun k => base ≤ k ∧ k < hi)) := hW2 ▸ (ho.out.trans (Only.new hb1) (fun _ _ h => h)).trans (Only.set _ ⟨b, j * 2, none⟩ _ (S := fun k => base ≤ k ∧ k < hi) hbb) (fun _ _ h => h)
      rw [hW2] at hr2
      have HR2 := Lib.hid hr2
      have HW2 := Lib.hid hW2
      have HMK := Lib.hid (markRuleS_at ((x : Int) + 1) W2 base _ (RL j) (x + 1) (by omega) (R2.out j (Nat.le_refl _) hlt) hll (by omega) (by omega))
      clear hr1 hr2 hb1 hW2
      go_wp2_with fail
      rw [HW2.out]
      refine HMK.out.mono ?_
      rintro e w3 ⟨rfl, hg3⟩
      have hgb : ∀ {y : Nat}, y < W2.heap.size → y ≠ G j → w3.heap[y]? = W2.heap[y]? := fun {y} hy hne => hg3.block y hy (by intro e; injection e with e; exact hne e)
      have T3 : Hid (ToMark w3 base b n G RL (j + 1)) := by
        refine ⟨_, HR2.out.of_block (hgb HR2.out.lt (HG.out j hlt)), fun t htn => ?_, fun t h1 h2 => ?_⟩
        · show (if t * 2 + 1 = j * 2 then _ else f (t * 2 + 1)) = _
          rw [if_neg (by omega)]; exact HFS.out t htn
        · exact (R2.out t (by omega) h2).only (S := fun k => k = G j) ⟨hg3.os, hg3.tape, hg3.output, hg3.size, fun y hy hne => hgb hy hne⟩ (by rintro b' ⟨rfl⟩ e; exact HD.out j t (by omega) h2 e.symm)
      have O3 : Hid (Only w w3 (fun k => base ≤ k ∧ k < hi)) := O2.out.trans ((Only.of_grown hg3).mono (T := fun k => base ≤ k ∧ k < hi) (fun y _ e => by injection e with e; rw [e]; exact HB.out j hlt)) (fun _ _ h => h)
      clear hg3 hgb
      go_wp2
      go_roundw
      case rel => exact ⟨j + 1, x + 1 + 2 * (RL j).length, by omega, by go_num, by go_num, by have := HX.out; rw [HTS.out]; omega, T3, O3⟩
      case measure => simp [intOf]; omega
    · obtain rfl : j = n := by omega
      have HX := Lib.hid hx
      clear hx
      go_wp2
      go_ret
      exact ⟨ret_int (by have := HX.out; omega), ho.out⟩
end Go.Proofs.Ytiecniogkcgefaa
