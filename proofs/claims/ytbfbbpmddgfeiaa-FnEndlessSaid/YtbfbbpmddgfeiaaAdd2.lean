/-
  Orders added: program and model.
-/
import Derived.Test.YtbfbbpmddgfeiaaAdd
namespace Go.Proofs.Ytbfbbpmddgfeiaa
open Go.RowKit Go.Maps
open Go.PlainAid (bt get_bt bt_nonneg bt_le)
set_option linter.unusedVariables false

theorem FOut.mk {W w' : World} {ok ok' : Bool} {L L' : List (ByteArray × ByteArray)} {v : Value} (h1 : ok' = ok) (h2 : L' = L) (hr : FRow w' W.heap.size v L) (hb : Below W.heap.size W w') : FOut W ok' L' (.returned (.tuple #[v, .bool ok])) w' := by
  subst h1 h2
  exact ⟨v, rfl, hr, hb⟩
set_option maxHeartbeats 2000000 in
set_option maxRecDepth 100000 in
theorem impl_AddForward (w : World) (a : Option Addr) (n cap : Nat) (F T : Nat → ByteArray) (h : Fws w a n F T) (hf : FFits n F T) (hn : n ≤ 1048576) (x y : ByteArray) (hx : x.size ≤ maxLen) (hy : y.size ≤ maxLen) :
    Calls Try.prog 29 #[.slice a n cap, .string x, .string y] w (FOut w (M.addOk F T n x y) (M.addL F T n x y)) := by
  have HL := Lib.hid h
  have HV := Lib.hid (impl_ForwardsValid w a n cap F T h hf)
  have HF2 := Lib.hid (fits_add hf hx hy)
  clear h hf
  go_enter Try.func29, Try.ntmps29
  cases hok : M.fwd n F T
  · obtain ⟨e1, e2⟩ := M.add_no (x := x) (y := y) (Or.inl hok)
    have E1 := Lib.hid e1
    have E2 := Lib.hid e2
    rw [hok] at HV
    clear hok e1 e2
    go_wp2_with fail
    refine HV.out.mono ?_
    rintro e w1 ⟨rfl, hb1⟩
    go_wp2
    go_ret2
    exact FOut.mk E1.out E2.out (FRow.nil _ _) hb1
  · rw [hok] at HV
    have HOK := Lib.hid hok
    have hwl := M.wo_le x (M.flst F T n)
    rw [M.flst_length] at hwl
    clear hok
    go_wp2_with fail
    refine HV.out.mono ?_
    rintro e w1 ⟨rfl, hb1⟩
    go_wp2_with fail
    refine (impl_withoutOrder _ _ _ _ _ _ (HL.out.on hb1) hn x).mono ?_
    rintro e w2 ⟨v, rfl, r2, hb2⟩
    have R2 := Lib.hid (r2.lower hb1.size)
    have K2 := Lib.hid (step hb1 hb2)
    have hz2 := K2.out.size
    clear r2 hb1 hb2 HV HL
    go_wp2_with (at_builtin; refine wpList_append_forward _ rfl _ _ rfl w.heap.size _ _ rfl (R2.out.alloc _) _ x y rfl ?_ (by omega) (by simp; omega) ?_)
    · simp [go_sem]
    · intro v3 w3 hr3 hg3 ho3
      have K3 := Lib.hid (fbelow_grown (W := w) (K2.out.alloc hz2 _) (R2.out.alloc _) (Nat.le_refl _) hg3)
      have R3 : Hid (FRow w3 w.heap.size v3 (M.addRow F T n x y)) := hr3
      clear hr3 hg3 ho3
      obtain ⟨a3, c3, hv3, _, hw3⟩ := R3.out.form
      have HX := Lib.hid (impl_ResolveCode w3 a3 _ c3 _ _ hw3 HF2.out x hx)
      subst hv3
      clear hw3
      cases hres : M.resCode (nF (M.addRow F T n x y)) (nT (M.addRow F T n x y)) (M.addRow F T n x y).length x with
      | none =>
        obtain ⟨e1, e2⟩ := M.add_no (F := F) (T := T) (n := n) (Or.inr hres)
        have E1 := Lib.hid e1
        have E2 := Lib.hid e2
        rw [hres] at HX
        simp only [resV] at HX
        clear e1 e2 hres
        go_wp2_with fail
        refine HX.out.mono ?_
        rintro e w4 ⟨rfl, hb4⟩
        go_wp2
        go_ret2
        exact FOut.mk E1.out E2.out (FRow.nil _ _) (step K3.out hb4)
      | some p =>
        obtain ⟨e1, e2⟩ := M.add_yes HOK.out hres
        have E1 := Lib.hid e1
        have E2 := Lib.hid e2
        rw [hres] at HX
        simp only [resV] at HX
        clear e1 e2 hres
        go_wp2_with fail
        refine HX.out.mono ?_
        rintro e w4 ⟨rfl, hb4⟩
        go_wp2
        go_ret2
        exact FOut.mk E1.out E2.out (R3.out.on hb4) (step K3.out hb4)

set_option maxHeartbeats 2000000 in
set_option maxRecDepth 100000 in
theorem spec_AddForward (w : World) (a : Option Addr) (n cap : Nat) (F T : Nat → ByteArray) (h : Fws w a n F T) (hf : FFits n F T) (hn : n ≤ 1048576) (x y : ByteArray) (hx : x.size ≤ maxLen) (hy : y.size ≤ maxLen) :
    Calls Try.prog 30 #[.slice a n cap, .string x, .string y] w (FOut w (M.addOk F T n x y) (M.addL F T n x y)) := by
  have HL := Lib.hid h
  have HX := Lib.hid (spec_l4Index w a n cap F T h hn x)
  have HF := Lib.hid hf
  have HF2 := Lib.hid (fits_add hf hx hy)
  obtain ⟨r, hr⟩ : ∃ r, M.rankTo F x n = r := ⟨_, rfl⟩
  have hrb : -1 ≤ r ∧ r ≤ 1048576 := by
    rcases M.rank_cases F x n with ⟨e, _⟩ | ⟨k, hk, _, _, e⟩ <;> omega
  obtain ⟨hr0, hr1⟩ := hrb
  have hwl := M.woAt_le F T r n
  rw [hr] at HX
  have HR := Lib.hid hr
  clear h hf hr
  go_enter Try.func30, Try.ntmps30
  go_wp2_with fail
  refine HX.out.mono ?_
  rintro e w1 ⟨rfl, rfl⟩
  go_wp2_with fail
  refine (spec_l4Without _ _ _ _ _ _ HL.out hn r hr0 hr1).mono ?_
  rintro e w2 ⟨v, rfl, r2, hb2⟩
  have R2 := Lib.hid r2
  have K2 := Lib.hid hb2
  have hz2 := hb2.size
  clear r2 hb2 HX
  go_wp2_with (at_builtin; refine wpList_append_forward _ rfl _ _ rfl w.heap.size _ _ rfl (R2.out.alloc _) _ x y rfl ?_ (by omega) (by simp; omega) ?_)
  · simp [go_sem]
  · intro v3 w3 hr3 hg3 ho3
    have K3 := Lib.hid (fbelow_grown (W := w) (K2.out.alloc hz2 _) (R2.out.alloc _) (Nat.le_refl _) hg3)
    have R3 := Lib.hid hr3
    have hz3 := K3.out.size
    clear hr3 hg3 ho3 K2 R2
    have HV := Lib.hid (spec_ForwardsValid w3 a n cap F T (HL.out.on K3.out) HF.out hn)
    have E3 := Lib.hid ((one_frow w3).lower hz3)
    have B3 := Lib.hid (K3.out.alloc hz3 (.cells #[] 30))
    cases hok : M.fwd n F T
    · obtain ⟨e1, e2⟩ := M.add_no (x := x) (y := y) (Or.inl hok)
      have E1 := Lib.hid e1
      have E2 := Lib.hid e2
      rw [hok] at HV
      clear hok e1 e2
      go_wp2_with fail
      refine HV.out.mono ?_
      rintro e w4 ⟨rfl, rfl⟩
      go_wp2
      go_ret2
      exact FOut.mk E1.out E2.out E3.out B3.out
    · have hwo := M.woAt_rank hok x
      rw [HR.out] at hwo
      have R4 : Hid (FRow w3 w.heap.size v3 (M.addRow F T n x y)) := by
        have := R3.out
        rw [hwo] at this
        exact this
      have hl4 := M.addRow_len F T n x y
      rw [hok] at HV
      have hn30 := (M.fwd_yes hok).1
      have HOK := Lib.hid hok
      clear hok hwo R3
      obtain ⟨a3, c3, hv3, _, hw3⟩ := R4.out.form
      have HW3 := Lib.hid hw3
      have HV2 := Lib.hid (spec_ForwardsValid w3 a3 _ c3 _ _ hw3 HF2.out (by omega))
      have HX2 := Lib.hid (spec_l4Resolve w3 a3 _ c3 _ _ hw3 (by omega) x)
      subst hv3
      clear hw3
      go_wp2_with fail
      refine HV.out.mono ?_
      rintro e w4 ⟨rfl, rfl⟩
      cases hok2 : M.fwd (M.addRow F T n x y).length (nF (M.addRow F T n x y)) (nT (M.addRow F T n x y))
      · obtain ⟨e1, e2⟩ := M.add_no (F := F) (T := T) (n := n) (x := x) (y := y) (Or.inr (M.resCode_no hok2))
        have E1 := Lib.hid e1
        have E2 := Lib.hid e2
        rw [hok2] at HV2
        clear hok2 e1 e2
        go_wp2_with fail
        refine HV2.out.mono ?_
        rintro e w4 ⟨rfl, rfl⟩
        go_wp2
        go_ret2
        exact FOut.mk E1.out E2.out E3.out B3.out
      · have hcode := M.add_code hok2
        have hres0 := M.resCode_yes hok2 hcode
        rw [hok2] at HV2
        rw [← hres0] at HX2
        clear hok2 hcode hres0
        cases hres : M.resCode (nF (M.addRow F T n x y)) (nT (M.addRow F T n x y)) (M.addRow F T n x y).length x with
        | none =>
          obtain ⟨e1, e2⟩ := M.add_no (F := F) (T := T) (n := n) (Or.inr hres)
          have E1 := Lib.hid e1
          have E2 := Lib.hid e2
          rw [hres] at HX2
          simp only [resV] at HX2
          clear e1 e2 hres
          go_wp2_with fail
          refine HV2.out.mono ?_
          rintro e w4 ⟨rfl, rfl⟩
          go_wp2_with fail
          refine HX2.out.mono ?_
          rintro e w4 ⟨rfl, rfl⟩
          go_wp2
          go_ret2
          exact FOut.mk E1.out E2.out E3.out B3.out
        | some p =>
          obtain ⟨e1, e2⟩ := M.add_yes HOK.out hres
          have E1 := Lib.hid e1
          have E2 := Lib.hid e2
          rw [hres] at HX2
          simp only [resV] at HX2
          clear e1 e2 hres
          go_wp2_with fail
          refine HV2.out.mono ?_
          rintro e w4 ⟨rfl, rfl⟩
          go_wp2_with fail
          refine HX2.out.mono ?_
          rintro e w4 ⟨rfl, rfl⟩
          go_wp2
          go_ret2
          exact FOut.mk E1.out E2.out R4.out K3.out
theorem M.remL_small (F T : Nat → ByteArray) (n : Nat) (x : ByteArray) (hn : n ≤ 1048576) : (M.remL F T n x).length ≤ 1048576 := Nat.le_trans (M.remL_le F T n x) hn
theorem M.addL_small (F T : Nat → ByteArray) (n : Nat) (x y : ByteArray) (hn : n ≤ 1048576) : (M.addL F T n x y).length ≤ 1048576 := by
  unfold M.addL
  split
  · rename_i h
    unfold M.addOk at h
    have h1 : M.fwd n F T = true := by cases e : M.fwd n F T <;> simp [e] at h ⊢
    have := (M.fwd_yes h1).1
    have := M.addRow_len F T n x y
    omega
  · exact Nat.zero_le _
end Go.Proofs.Ytbfbbpmddgfeiaa
