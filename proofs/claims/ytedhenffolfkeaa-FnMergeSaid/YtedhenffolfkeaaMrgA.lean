/-
  MergeBatches: in the program a stable sort of both, in the model letter after letter: the same order.
-/
import Derived.Test.YtedhenffolfkeaaStbH
import Derived.Test.YtedhenffolfkeaaRest
import Derived.Test.YtedhenffolfkeaaMrgC
namespace Go.Proofs.Ytedhenffolfkeaa
open Go.RowKit
set_option linter.unusedVariables false

/-- What is merged, and what is left of both. -/
structure MS (pos : Int × ByteArray → Nat) (X A B R : List (Int × ByteArray)) : Prop where
  pw : R.Pairwise (Sy.ss ltL pos)
  ra : ∀ r ∈ R, ∀ a ∈ A, Sy.ss ltL pos r a
  rb : ∀ r ∈ R, ∀ b ∈ B, Sy.ss ltL pos r b
  pa : A.Pairwise (Sy.ss ltL pos)
  pb : B.Pairwise (Sy.ss ltL pos)
  ab : ∀ a ∈ A, ∀ b ∈ B, pos a < pos b
  pm : (R ++ (A ++ B)).Perm X
theorem MS.takeA {pos : Int × ByteArray → Nat} {X A B R : List (Int × ByteArray)} {a : Int × ByteArray} (h : MS pos X (a :: A) B R) (hc : B = [] ∨ ∃ b B', B = b :: B' ∧ ltL b a = false) : MS pos X A B (R ++ [a]) := by
  have hab : ∀ b ∈ B, Sy.ss ltL pos a b := fun b hb => by
    rcases hc with rfl | ⟨y, B', rfl, hl⟩
    · cases hb
    · have hp := h.ab a (List.mem_cons_self ..) b hb
      refine Or.inr ⟨?_, hp⟩
      rcases List.mem_cons.1 hb with rfl | hb
      · exact hl
      · have := Sy.ss_not (ltL_ord pos) ((List.pairwise_cons.1 h.pb).1 b hb)
        exact (ltL_ord pos).ntr _ _ _ this hl
  refine ⟨List.pairwise_append.2 ⟨h.pw, List.pairwise_singleton _ _, fun r hr x hx => ?_⟩, fun r hr x hx => ?_, fun r hr x hx => ?_, (List.pairwise_cons.1 h.pa).2, h.pb, fun x hx b hb => h.ab x (List.mem_cons_of_mem _ hx) b hb, ?_⟩
  · rw [List.mem_singleton.1 hx]; exact h.ra r hr a (List.mem_cons_self ..)
  · rcases List.mem_append.1 hr with hr | hr
    · exact h.ra r hr x (List.mem_cons_of_mem _ hx)
    · rw [List.mem_singleton.1 hr]; exact (List.pairwise_cons.1 h.pa).1 x hx
  · rcases List.mem_append.1 hr with hr | hr
    · exact h.rb r hr x hx
    · rw [List.mem_singleton.1 hr]; exact hab x hx
  · have e : R ++ [a] ++ (A ++ B) = R ++ (a :: A ++ B) := by simp
    rw [e]; exact h.pm
theorem MS.takeB {pos : Int × ByteArray → Nat} {X A B R : List (Int × ByteArray)} {b : Int × ByteArray} (h : MS pos X A (b :: B) R) (hc : A = [] ∨ ∃ a A', A = a :: A' ∧ ltL b a = true) : MS pos X A B (R ++ [b]) := by
  have hab : ∀ x ∈ A, Sy.ss ltL pos b x := fun x hx => by
    rcases hc with rfl | ⟨y, A', rfl, hl⟩
    · cases hx
    · left
      rcases List.mem_cons.1 hx with rfl | hx
      · exact hl
      · have := Sy.ss_not (ltL_ord pos) ((List.pairwise_cons.1 h.pa).1 x hx)
        cases e : ltL b x
        · have := (ltL_ord pos).ntr _ _ _ e this
          rw [hl] at this; cases this
        · rfl
  refine ⟨List.pairwise_append.2 ⟨h.pw, List.pairwise_singleton _ _, fun r hr x hx => ?_⟩, fun r hr x hx => ?_, fun r hr x hx => ?_, h.pa, (List.pairwise_cons.1 h.pb).2, fun x hx y hy => h.ab x hx y (List.mem_cons_of_mem _ hy), ?_⟩
  · rw [List.mem_singleton.1 hx]; exact h.rb r hr b (List.mem_cons_self ..)
  · rcases List.mem_append.1 hr with hr | hr
    · exact h.ra r hr x hx
    · rw [List.mem_singleton.1 hr]; exact hab x hx
  · rcases List.mem_append.1 hr with hr | hr
    · exact h.rb r hr x (List.mem_cons_of_mem _ hx)
    · rw [List.mem_singleton.1 hr]; exact (List.pairwise_cons.1 h.pb).1 x hx
  · have e : (R ++ [b] ++ (A ++ B)).Perm (R ++ (A ++ b :: B)) := by
      rw [List.append_assoc]
      refine List.Perm.append_left R ?_
      show (b :: (A ++ B)).Perm (A ++ b :: B)
      exact List.perm_middle.symm
    exact e.trans h.pm
theorem asc_pw {L : List (Int × ByteArray)} (h : M.asc (nC L) L.length = true) : L.Pairwise fun x y => ltL y x = false := by
  have hadj : ∀ i, i + 1 < L.length → M.less (nC L (i + 1)) (nC L i) = false := fun i hi => by
    cases e : M.less (nC L (i + 1)) (nC L i)
    · rfl
    · rw [M.asc_no hi e] at h; cases h
  have hstep : ∀ d i, i + d + 1 < L.length → M.less (nC L (i + d + 1)) (nC L i) = false := fun d => by
    induction d with
    | zero => exact fun i hi => hadj i hi
    | succ d ih =>
      intro i hi
      have h1 := ih i (by omega)
      have h2 := hadj (i + d + 1) (by omega)
      exact (ltL_ord (fun _ => 0)).ntr (0, nC L (i + (d + 1) + 1)) (0, nC L (i + d + 1)) (0, nC L i) h2 h1
  rw [List.pairwise_iff_getElem]
  intro i j hi hj hij
  have := hstep (j - i - 1) i (by omega)
  rw [show i + (j - i - 1) + 1 = j by omega, nC_at hj, nC_at hi] at this
  exact this
theorem MS.start {A B : List (Int × ByteArray)} (hA : M.asc (nC A) A.length = true) (hB : M.asc (nC B) B.length = true) (hAB : BatchL (A ++ B)) : ∃ pos, MS pos (A ++ B) A B [] ∧ ∀ R, MS pos (A ++ B) [] [] R → R = sortS (A ++ B) := by
  obtain ⟨pos, _, hp⟩ := exists_pos hAB
  obtain ⟨p1, p2, p3⟩ := List.pairwise_append.1 hp
  refine ⟨pos, ⟨List.Pairwise.nil, fun r hr => (by cases hr), fun r hr => (by cases hr), ((asc_pw hA).and p1).imp fun h => Or.inr h, ((asc_pw hB).and p2).imp fun h => Or.inr h, p3, List.Perm.refl _⟩, fun R h => ?_⟩
  have hpm := h.pm
  rw [List.append_nil, List.append_nil] at hpm
  exact ss_one (hpm.trans (sortS_perm hAB).symm) h.pw (sortS_ss hAB hp)
def lenV : Value → Nat
  | .slice _ n _ => n
  | _ => 0
/-- What is left of letters: the first one, and the others. -/
theorem left_tail (a : Option Addr) (x : Int × ByteArray) (T : List (Int × ByteArray)) (n c : Nat) (hn : T.length + 1 = n) (hc : n ≤ c) (w : World) (h : Lts w a n (nI (x :: T)) (nC (x :: T))) :
    ∃ b o a', a = some ⟨b, o, none⟩ ∧ (∀ W, Lts W a n (nI (x :: T)) (nC (x :: T)) → W.cell? ⟨b, o, none⟩ = some (.int .i64 x.1) ∧ W.cell? ⟨b, o + 1, none⟩ = some (.string x.2) ∧ Lts W a' (n - 1) (nI T) (nC T)) ∧
      (∀ W, (Instr.slice 23 (.slice (some ⟨b, o, none⟩) n c) (some (.int .i64 1)) none none).run Try.prog W = .ok (.slice a' (n - 1) (c - 1)) W) := by
  obtain ⟨b, o, rfl, _, _⟩ := h 0 (by omega)
  obtain ⟨a', h1, h2⟩ := lets_tail b o n c 0 (by omega) hc
  rw [show (((0 : Nat) : Int) + 1) = 1 from rfl] at h1
  refine ⟨b, o, a', rfl, fun W hW => ?_, h1⟩
  obtain ⟨b', o', e, c0, c1⟩ := hW 0 (by omega)
  cases e
  rw [show nI (x :: T) 0 = x.1 from rfl] at c0
  rw [show nC (x :: T) 0 = x.2 from rfl] at c1
  refine ⟨by simpa using c0, by simpa using c1, ?_⟩
  refine (h2 W _ _ hW).congr fun i hi => ?_
  rw [show 0 + 1 + i = i + 1 by omega]
  exact ⟨rfl, rfl⟩
def M.mrgOk (n : Nat) (I : Nat → Int) (C : Nat → ByteArray) (m : Nat) (J : Nat → Int) (D : Nat → ByteArray) : Bool := M.sorted n I C && M.sorted m J D && M.batch (n + m) (nI (M.lst I C n ++ M.lst J D m)) (nC (M.lst I C n ++ M.lst J D m))
def M.mrgL (n : Nat) (I : Nat → Int) (C : Nat → ByteArray) (m : Nat) (J : Nat → Int) (D : Nat → ByteArray) : List (Int × ByteArray) := if M.mrgOk n I C m J D = true then sortS (M.lst I C n ++ M.lst J D m) else []
theorem mrgL_yes {n : Nat} {I : Nat → Int} {C : Nat → ByteArray} {m : Nat} {J : Nat → Int} {D : Nat → ByteArray} (h : M.mrgOk n I C m J D = true) : M.mrgL n I C m J D = sortS (M.lst I C n ++ M.lst J D m) := if_pos h
theorem mrgL_no {n : Nat} {I : Nat → Int} {C : Nat → ByteArray} {m : Nat} {J : Nat → Int} {D : Nat → ByteArray} (h : M.mrgOk n I C m J D = false) : M.mrgL n I C m J D = [] := if_neg (by rw [h]; decide)
theorem batch_list {L : List (Int × ByteArray)} {k : Nat} (hk : L.length = k) : M.batch k (nI L) (nC L) = true ↔ BatchL L := by subst hk; exact batchL_list L
theorem cat_len (n : Nat) (I : Nat → Int) (C : Nat → ByteArray) (m : Nat) (J : Nat → Int) (D : Nat → ByteArray) : (M.lst I C n ++ M.lst J D m).length = n + m := by rw [List.length_append, M.lst_length, M.lst_length]
theorem mrgL_le (n : Nat) (I : Nat → Int) (C : Nat → ByteArray) (m : Nat) (J : Nat → Int) (D : Nat → ByteArray) : (M.mrgL n I C m J D).length ≤ 60 := by
  cases h : M.mrgOk n I C m J D
  · rw [mrgL_no h]; exact Nat.zero_le _
  · rw [mrgL_yes h]
    unfold M.mrgOk at h
    rw [Bool.and_eq_true] at h
    have hb := (batch_list (cat_len n I C m J D)).1 h.2
    rw [(sortS_perm hb).length_eq]
    exact hb.2.2
theorem fits_cat {n : Nat} {I : Nat → Int} {C : Nat → ByteArray} {m : Nat} {J : Nat → Int} {D : Nat → ByteArray} (h : Fits n I C) (k : Fits m J D) : Fits (n + m) (nI (M.lst I C n ++ M.lst J D m)) (nC (M.lst I C n ++ M.lst J D m)) := fun i hi => by
  have hl : i < (M.lst I C n ++ M.lst J D m).length := by rw [cat_len]; exact hi
  rw [nI_at hl, nC_at hl]
  by_cases e : i < n
  · rw [List.getElem_append_left (by rw [M.lst_length]; exact e), lst_get]
    exact h i e
  · rw [List.getElem_append_right (by rw [M.lst_length]; omega), lst_get]
    exact k _ (by rw [M.lst_length]; omega)
set_option maxHeartbeats 2000000 in
set_option maxRecDepth 100000 in
theorem impl_MergeBatches (w : World) (a : Option Addr) (n c : Nat) (I : Nat → Int) (C : Nat → ByteArray) (h : Lts w a n I C) (hf : Fits n I C) (a2 : Option Addr) (m c2 : Nat) (J : Nat → Int) (D : Nat → ByteArray) (h2 : Lts w a2 m J D) (hf2 : Fits m J D) :
    Calls Try.prog 21 #[.slice a n c, .slice a2 m c2] w (RowRes w (M.mrgOk n I C m J D) (M.mrgL n I C m J D)) := by
  have HL := Lib.hid h
  have HF := Lib.hid hf
  have HL2 := Lib.hid h2
  have HF2 := Lib.hid hf2
  have HV := Lib.hid (impl_SortedBatch w a n c I C h hf)
  clear h hf h2 hf2
  cases hv : M.sorted n I C
  · rw [hv] at HV
    have hno : M.mrgOk n I C m J D = false := by unfold M.mrgOk; rw [hv]; rfl
    have HN := Lib.hid (mrgL_no hno)
    rw [hno]
    clear hv hno
    go_enter Try.func21, Try.ntmps21
    go_wp2_with fail
    refine HV.out.mono ?_
    rintro e w1 ⟨rfl, b1⟩
    go_wp2
    go_ret2
    exact ⟨_, rfl, by rw [HN.out]; exact Row.nil _ _, b1⟩
  · rw [hv] at HV
    cases hv2 : M.sorted m J D
    · have hno : M.mrgOk n I C m J D = false := by unfold M.mrgOk; rw [hv, hv2]; rfl
      have HN := Lib.hid (mrgL_no hno)
      rw [hno]
      have HV2 := Lib.hid hv2
      clear hv hv2 hno
      go_enter Try.func21, Try.ntmps21
      go_wp2_with fail
      refine HV.out.mono ?_
      rintro e w1 ⟨rfl, b1⟩
      have HLx := Lib.hid (HL2.out.on b1)
      have B1 := Lib.hid b1
      clear b1
      go_wp2_with fail
      refine (impl_SortedBatch w1 a2 m c2 J D HLx.out HF2.out).mono ?_
      rw [HV2.out]
      rintro e w2 ⟨rfl, b2⟩
      go_wp2
      go_ret2
      exact ⟨_, rfl, by rw [HN.out]; exact Row.nil _ _, sstep B1.out b2⟩
    · have hnb : n ≤ 60 := by
        unfold M.sorted at hv; rw [Bool.and_eq_true] at hv; exact (M.batch_yes hv.1).1
      have hmb : m ≤ 60 := by
        unfold M.sorted at hv2; rw [Bool.and_eq_true] at hv2; exact (M.batch_yes hv2.1).1
      have hok : M.mrgOk n I C m J D = M.batch (n + m) (nI (M.lst I C n ++ M.lst J D m)) (nC (M.lst I C n ++ M.lst J D m)) := by unfold M.mrgOk; rw [hv, hv2]; rfl
      have hLL : M.mrgL n I C m J D = M.sortL (n + m) (nI (M.lst I C n ++ M.lst J D m)) (nC (M.lst I C n ++ M.lst J D m)) := by
        cases e : M.mrgOk n I C m J D
        · rw [mrgL_no e, sortL_no (hok.symm.trans e)]
        · rw [mrgL_yes e, sortL_yes (hok.symm.trans e)]
          have := lst_nI (M.lst I C n ++ M.lst J D m)
          rw [cat_len] at this
          rw [this]
      rw [hok, hLL]
      have HV2 := Lib.hid hv2
      have HFC := Lib.hid (fits_cat HF.out HF2.out)
      have HLEN := Lib.hid (cat_len n I C m J D)
      obtain ⟨X, hX⟩ : ∃ X, M.lst I C n ++ M.lst J D m = X := ⟨_, rfl⟩
      have HC : Hid (∀ (W : World) (B : Nat), Below w.heap.size w W → W.cell? ⟨B, 0, none⟩ = some (.slice a n c) → W.cell? ⟨B, 1, none⟩ = some (.slice a2 m c2) → Calls Try.prog 48 #[.slice (some ⟨B, 0, none⟩) 2 2] W (RowOut W X)) := fun W B hW c0 c1 => by
        have := lslices_Concat2 W B a a2 n c m c2 I C J D (HL.out.on hW) (HL2.out.on hW) c0 c1 (by omega)
        rw [hX] at this
        exact this
      rw [hX] at HFC HLEN ⊢
      clear hv hv2 hok hLL hX
      go_enter Try.func21, Try.ntmps21
      go_wp2_with fail
      refine HV.out.mono ?_
      rintro e w1 ⟨rfl, b1⟩
      have HLx := Lib.hid (HL2.out.on b1)
      have B1 := Lib.hid b1
      clear b1
      go_wp2_with fail
      refine (impl_SortedBatch w1 a2 m c2 J D HLx.out HF2.out).mono ?_
      rw [HV2.out]
      rintro e w2 ⟨rfl, b2⟩
      have B2 := Lib.hid (sstep B1.out b2)
      clear b2
      go_wp2_with fail
      refine (HC.out _ w2.heap.size (sstep B2.out (below_alloc0 w2 _)) (by simp [go_sem]) (by simp [go_sem])).mono ?_
      rintro e w3 ⟨v3, rfl, r3, b3⟩
      obtain ⟨a4, c4, rfl, _, hl4⟩ := r3.form
      have B3 : Hid (Below w.heap.size w w3) := sstep (sstep B2.out (below_alloc0 w2 _)) b3
      rw [HLEN.out] at hl4 ⊢
      have HL4 := Lib.hid hl4
      clear r3 b3 hl4
      go_wp2_with fail
      refine (impl_SortBatch w3 a4 (n + m) c4 (nI X) (nC X) HL4.out HFC.out).mono ?_
      rintro e w4 ⟨v5, rfl, r5, b5⟩
      have R5 := Lib.hid (r5.lower B3.out.size)
      have B5 := Lib.hid (sstep B3.out b5)
      clear r5 b5
      go_wp2
      go_ret2
      exact ⟨_, rfl, R5.out, B5.out⟩
end Go.Proofs.Ytedhenffolfkeaa
