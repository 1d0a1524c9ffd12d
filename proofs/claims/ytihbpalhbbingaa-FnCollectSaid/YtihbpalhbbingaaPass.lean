/-
  What CollectBins and SortPass leave, in the program and in the model of the document.
-/
import Derived.Test.YtihbpalhbbingaaBinsA
import Derived.Test.YtihbpalhbbingaaConcat
import Derived.Test.YtihbpalhbbingaaPermM
namespace Go.Proofs.Ytihbpalhbbingaa
open Go.RowKit

/-- Letters, and whether there are any. -/
def RowRes (w : World) (ok : Bool) (L : List (Int × ByteArray)) (e : Ending) (w' : World) : Prop := ∃ v, e = .returned (.tuple #[v, .bool ok]) ∧ Row w' w.heap.size v L ∧ Below w.heap.size w w'
/-- The letters of bins are a batch, of which there are not too many. -/
def M.collOk (n : Nat) (MM : Nat → List (Int × ByteArray)) : Bool := decide (n ≤ 60) && M.batch (M.flat MM n).length (nI (M.flat MM n)) (nC (M.flat MM n))
def M.coll (n : Nat) (MM : Nat → List (Int × ByteArray)) : List (Int × ByteArray) := if M.collOk n MM = true then M.flat MM n else []
def FitsL (L : List (Int × ByteArray)) : Prop := Fits L.length (nI L) (nC L)

set_option maxHeartbeats 1000000 in
theorem impl_CollectBins (w : World) (base : Nat) (v : Value) (n : Nat) (V : Nat → Value) (MM : Nat → List (Int × ByteArray)) (h : Mat w base v n V MM) (hn : n ≤ 1048576) (hl : (M.flat MM n).length ≤ 1048576) (hf : FitsL (M.flat MM n)) :
    Calls Try.prog 8 #[v] w (RowRes w (M.collOk n MM) (M.coll n MM)) := by
  obtain ⟨u, c, hv⟩ : ∃ u c, v = .slice u n c := by
    rcases h.form with ⟨rfl, rfl⟩ | ⟨g, c, rfl, _⟩
    · exact ⟨_, _, rfl⟩
    · exact ⟨_, _, rfl⟩
  subst hv
  have HM := Lib.hid h
  have HF := Lib.hid hf
  clear h hf
  by_cases h60 : 60 < n
  · have hk : M.collOk n MM = false := by unfold M.collOk; rw [decide_eq_false (by omega)]; rfl
    have hc : M.coll n MM = [] := if_neg (by rw [hk]; decide)
    rw [hk, hc]
    clear hk hc
    go_enter Try.func8, Try.ntmps8
    go_wp2
    go_ret2
    exact ⟨_, rfl, Row.nil _ _, Below.refl _ _⟩
  have hk : M.collOk n MM = M.batch (M.flat MM n).length (nI (M.flat MM n)) (nC (M.flat MM n)) := by unfold M.collOk; rw [decide_eq_true (by omega)]; rfl
  have hcl : M.coll n MM = if M.batch (M.flat MM n).length (nI (M.flat MM n)) (nC (M.flat MM n)) = true then M.flat MM n else [] := by unfold M.coll; rw [hk]
  rw [hk, hcl]
  have HC := Lib.hid (slices_Concat w base (.slice u n c) n V MM HM.out hn hl)
  obtain ⟨L, hL⟩ : ∃ L, M.flat MM n = L := ⟨_, rfl⟩
  rw [hL] at HC HF ⊢
  clear hk hcl hL hl
  cases hb : M.batch L.length (nI L) (nC L)
  · rw [if_neg (by decide)]
    go_enter Try.func8, Try.ntmps8
    go_wp2_with fail
    refine (HC.out).mono ?_
    rintro e w1 ⟨v1, rfl, r1, b1⟩
    obtain ⟨a1, c1, hv1, _, hl1⟩ := r1.form
    cases hv1
    go_wp2_with fail
    refine (impl_BatchValid _ a1 L.length c1 _ _ hl1 HF.out).mono ?_
    rw [hb]
    rintro e w2 ⟨rfl, b2⟩
    go_wp2
    go_ret2
    exact ⟨_, rfl, Row.nil _ _, step b1 b2⟩
  · rw [if_pos rfl]
    go_enter Try.func8, Try.ntmps8
    go_wp2_with fail
    refine (HC.out).mono ?_
    rintro e w1 ⟨v1, rfl, r1, b1⟩
    obtain ⟨a1, c1, hv1, _, hl1⟩ := r1.form
    cases hv1
    go_wp2_with fail
    refine (impl_BatchValid _ a1 L.length c1 _ _ hl1 HF.out).mono ?_
    rw [hb]
    rintro e w2 ⟨rfl, b2⟩
    go_wp2
    go_ret2
    exact ⟨_, rfl, r1.on b2, step b1 b2⟩

set_option maxHeartbeats 1000000 in
theorem spec_CollectBins (w : World) (base : Nat) (v : Value) (n : Nat) (V : Nat → Value) (MM : Nat → List (Int × ByteArray)) (h : Mat w base v n V MM) (hn : n ≤ 1048576) (hl : (M.flat MM n).length ≤ 1048576) (hf : FitsL (M.flat MM n)) :
    Calls Try.prog 9 #[v] w (RowRes w (M.collOk n MM) (M.coll n MM)) := by
  obtain ⟨u, c, hv⟩ : ∃ u c, v = .slice u n c := by
    rcases h.form with ⟨rfl, rfl⟩ | ⟨g, c, rfl, _⟩
    · exact ⟨_, _, rfl⟩
    · exact ⟨_, _, rfl⟩
  subst hv
  have HM := Lib.hid h
  have HF := Lib.hid hf
  clear h hf
  have HC := Lib.hid (spec_l2Collect w base (.slice u n c) n V MM HM.out hn hl)
  by_cases h60 : 60 < n
  · have hk : M.collOk n MM = false := by unfold M.collOk; rw [decide_eq_false (by omega)]; rfl
    have hc : M.coll n MM = [] := if_neg (by rw [hk]; decide)
    rw [hk, hc]
    obtain ⟨L, hL⟩ : ∃ L, M.flat MM n = L := ⟨_, rfl⟩
    rw [hL] at HC
    clear hk hc hL hl
    go_enter Try.func9, Try.ntmps9
    go_wp2_with fail
    refine (HC.out).mono ?_
    rintro e w1 ⟨v1, rfl, r1, b1⟩
    have hz := b1.size
    have ro := (one_row w1).lower hz
    go_wp2
    go_ret2
    exact ⟨_, rfl, ro, by go_grown⟩
  have hk : M.collOk n MM = M.batch (M.flat MM n).length (nI (M.flat MM n)) (nC (M.flat MM n)) := by unfold M.collOk; rw [decide_eq_true (by omega)]; rfl
  have hcl : M.coll n MM = if M.batch (M.flat MM n).length (nI (M.flat MM n)) (nC (M.flat MM n)) = true then M.flat MM n else [] := by unfold M.coll; rw [hk]
  rw [hk, hcl]
  obtain ⟨L, hL⟩ : ∃ L, M.flat MM n = L := ⟨_, rfl⟩
  rw [hL] at HC HF hl ⊢
  clear hk hcl hL
  cases hb : M.batch L.length (nI L) (nC L)
  · rw [if_neg (by decide)]
    go_enter Try.func9, Try.ntmps9
    go_wp2_with fail
    refine (HC.out).mono ?_
    rintro e w1 ⟨v1, rfl, r1, b1⟩
    obtain ⟨a1, c1, hv1, _, hl1⟩ := r1.form
    cases hv1
    go_wp2_with fail
    refine (spec_BatchValid _ a1 L.length c1 _ _ hl1 HF.out hl).mono ?_
    rw [hb]
    rintro e w2 ⟨rfl, b2⟩
    have b3 := step b1 b2
    have hz := b3.size
    have ro := (one_row w2).lower hz
    clear b1 b2
    go_wp2
    go_ret2
    exact ⟨_, rfl, ro, by go_grown⟩
  · rw [if_pos rfl]
    go_enter Try.func9, Try.ntmps9
    go_wp2_with fail
    refine (HC.out).mono ?_
    rintro e w1 ⟨v1, rfl, r1, b1⟩
    obtain ⟨a1, c1, hv1, _, hl1⟩ := r1.form
    cases hv1
    go_wp2_with fail
    refine (spec_BatchValid _ a1 L.length c1 _ _ hl1 HF.out hl).mono ?_
    rw [hb]
    rintro e w2 ⟨rfl, b2⟩
    go_wp2
    go_ret2
    exact ⟨_, rfl, r1.on b2, step b1 b2⟩

/-- The letters after a pass. -/
def M.passL (n : Nat) (I : Nat → Int) (C : Nat → ByteArray) (x : Int) : List (Int × ByteArray) := if M.binOk n I C x = true then M.flat (M.bins I C x.toNat n) 10 else []
theorem passL_ok {n : Nat} {I : Nat → Int} {C : Nat → ByteArray} {x : Int} (h : M.binOk n I C x = true) : M.passL n I C x = M.flat (M.bins I C x.toNat n) 10 ∧ BatchL (M.passL n I C x) ∧ M.collOk 10 (M.bins I C x.toNat n) = true ∧ M.coll 10 (M.bins I C x.toNat n) = M.passL n I C x := by
  obtain ⟨h1, h2, h3⟩ := M.binOk_yes h
  have e : M.passL n I C x = M.flat (M.bins I C x.toNat n) 10 := if_pos h
  have hb := pass_batch h1 (x := x.toNat) (by omega)
  have hk : M.collOk 10 (M.bins I C x.toNat n) = true := by
    unfold M.collOk
    rw [(batchL_list _).2 hb]; rfl
  exact ⟨e, by rw [e]; exact hb, hk, by unfold M.coll; rw [if_pos hk, e]⟩

end Go.Proofs.Ytihbpalhbbingaa
