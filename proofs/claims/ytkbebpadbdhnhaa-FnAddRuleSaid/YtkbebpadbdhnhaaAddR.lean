/-
  What AddRule returns, in the program and in the model of the document.
-/
import Derived.Test.YtkbebpadbdhnhaaAddRM
import Derived.Test.YtkbebpadbdhnhaaRDel
import Derived.Test.YtkbebpadbdhnhaaRulV3
namespace Go.Proofs.Ytkbebpadbdhnhaa
open Go.RowKit Go.Maps
open Go.PlainAid (bt get_bt bt_nonneg bt_le)
set_option linter.unusedVariables false

/-- A slice of rules of the call's own, and whether there is one. -/
def ROut (W : World) (ok : Bool) (L : List (ByteArray × ByteArray)) (e : Ending) (w' : World) : Prop :=
  ∃ v, e = .returned (.tuple #[v, .bool ok]) ∧ RRow w' W.heap.size v L ∧ Below W.heap.size W w'
theorem ROut.mk {W w' : World} {ok ok' : Bool} {L L' : List (ByteArray × ByteArray)} {v : Value} (h1 : ok' = ok) (h2 : L' = L) (hr : RRow w' W.heap.size v L) (hb : Below W.heap.size W w') : ROut W ok' L' (.returned (.tuple #[v, .bool ok])) w' := by
  subst h1 h2
  exact ⟨v, rfl, hr, hb⟩
set_option maxHeartbeats 400000 in
theorem impl_ruleIndex (w : World) (a : Option Addr) (n c : Nat) (F T : Nat → ByteArray) (h : Fws w a n F T) (hn : n ≤ 1048576) (x : ByteArray) :
    Calls Try.prog 17 #[.slice a n c, .string x] w fun e w' => e = .returned (.int .i64 (M.rankTo F x n)) ∧ Below w.heap.size w w' := by
  have hmf : ∀ (fn : Fn) (first cap : Array Value) (w : World), (Instr.makeFunc fn first cap).run Try.prog w = .ok (.func fn first cap) w := fun _ _ _ _ => rfl
  have hb0 := below_alloc0 w (.cells #[.string x] 9)
  have H0 := Lib.hid (rindex_from (w.alloc (.cells #[.string x] 9)) a n c F T (h.on hb0) hn w.heap.size x (by simp))
  clear h
  go_enter Try.func17, Try.ntmps17
  go_wp2_with (go_at_call 28; refine H0.out.mono ?_; rintro e w1 ⟨rfl, hb1⟩)
  go_ret
  exact ⟨rfl, sstep hb0 hb1⟩
theorem RRow.put {w : World} {base g c : Nat} {L : List (ByteArray × ByteArray)} (h : RRow w base (.slice (some ⟨g, 0, none⟩) L.length c) L) (j : Nat) (x s : ByteArray) :
    RRow ((w.setCell ⟨g, j * 2, none⟩ (.string x)).setCell ⟨g, j * 2 + 1, none⟩ (.string s)) base (.slice (some ⟨g, 0, none⟩) (L.set j (x, s)).length c) (L.set j (x, s)) := by
  have h1 := (World.ownsRow.stored h (j * 2) (.string x)).1
  have h2 := (World.ownsRow.stored h1 (j * 2 + 1) (.string s)).1
  rw [fcells_set] at h2
  unfold RRow
  rw [List.length_set]
  exact h2
theorem RRow.cellsAt {w : World} {base g c : Nat} {L : List (ByteArray × ByteArray)} (h : RRow w base (.slice (some ⟨g, 0, none⟩) L.length c) L) {j : Nat} (hj : j < L.length) :
    ∃ p s, w.cell? ⟨g, j * 2, none⟩ = some (.string p) ∧ w.cell? ⟨g, j * 2 + 1, none⟩ = some (.string s) ∧ L[j]? = some (p, s) ∧ w.frozen? ⟨g, j * 2, none⟩ = false ∧ w.frozen? ⟨g, j * 2 + 1, none⟩ = false ∧ base ≤ g ∧ g < w.heap.size := by
  have hat := fcells_at L j hj
  refine ⟨L[j].1, L[j].2, ?_, ?_, by simp [hj], World.ownsRow.frozenAt h _, World.ownsRow.frozenAt h _, World.ownsRow.lt h g rfl⟩
  · rw [World.ownsRow.cellAt h (j * 2) (by omega)]; exact hat.1
  · rw [World.ownsRow.cellAt h (j * 2 + 1) (by omega)]; exact hat.2
set_option maxHeartbeats 2000000 in
set_option maxRecDepth 100000 in
theorem impl_AddRule (w : World) (a : Option Addr) (n cap : Nat) (F T : Nat → ByteArray) (h : Fws w a n F T) (hf : FFits n F T) (hn : n ≤ 1048576) (x y : ByteArray) (hx : x.size ≤ maxLen) (hy : y.size ≤ maxLen) :
    Calls Try.prog 5 #[.slice a n cap, .string x, .string y] w (ROut w (M.addROk F T n x y) (M.addRL F T n x y)) := by
  have HL := Lib.hid h
  have HV := Lib.hid (impl_RulesValid w a n cap F T h hf)
  have HF2 := Lib.hid (fits_addR hf hx hy)
  clear h hf
  go_enter Try.func5, Try.ntmps5
  cases hok : M.rul n F T
  · obtain ⟨e1, e2⟩ := M.addR_no (x := x) (y := y) (Or.inl hok)
    have E1 := Lib.hid e1
    have E2 := Lib.hid e2
    rw [hok] at HV
    clear hok e1 e2
    go_wp2_with fail
    refine HV.out.mono ?_
    rintro e w1 ⟨rfl, hb1⟩
    go_wp2
    go_ret2
    exact ROut.mk E1.out E2.out (RRow.nil _ _) hb1
  rw [hok] at HV
  have HOK := Lib.hid hok
  clear hok
  go_wp2_with fail
  refine HV.out.mono ?_
  rintro e w1 ⟨rfl, hb1⟩
  go_wp2_with fail
  refine (rslices_CloneF _ _ _ _ _ _ (HL.out.on hb1) hn).mono ?_
  rintro e w2 ⟨v, rfl, r2, hb2⟩
  have K2 := Lib.hid (step hb1 hb2)
  have R2 := Lib.hid (r2.lower hb1.size)
  have hz2 := K2.out.size
  have hbx := below_alloc0 w2 (.cells #[.string x, .string y] 44)
  have HLX := Lib.hid ((HL.out.on K2.out).on hbx)
  have RX := Lib.hid (R2.out.on hbx)
  have KX := Lib.hid (sstep K2.out hbx)
  clear r2 hb1 hb2 hbx HV HL R2 K2
  go_wp2_with fail
  refine (impl_ruleIndex _ _ _ _ _ _ HLX.out hn x).mono ?_
  rintro e w3 ⟨rfl, hb3⟩
  have R3 := Lib.hid (RX.out.on hb3)
  have K3 := Lib.hid (sstep KX.out hb3)
  have hz3 := K3.out.size
  have b0 : w3.cell? ⟨w2.heap.size, 0, none⟩ = some (.string x) := (hb3.cell (p := ⟨w2.heap.size, 0, none⟩) (by simp)).trans (by simp)
  have b1 : w3.cell? ⟨w2.heap.size, 1, none⟩ = some (.string y) := (hb3.cell (p := ⟨w2.heap.size, 1, none⟩) (by simp)).trans (by simp)
  clear hb3 RX KX HLX
  rcases M.rankC F x n with ⟨hr, _⟩ | ⟨k, hk, _, _, hr⟩
  · have HR := Lib.hid (M.addRaw_new (N := T) (y := y) hr)
    rw [hr]
    clear hr
    have hlx := M.flst_length F T n
    have HLN := Lib.hid hlx
    clear hlx
    go_wp2_with (at_builtin; refine wpList_append_rule _ rfl _ _ rfl w.heap.size _ _ rfl (R3.out.alloc _) _ x y rfl ?_ (by rw [HLN.out]; omega) (by simp; omega) ?_)
    · simp [go_sem]
    · intro v3 w4 hr4 hg4 ho4
      have K4 := Lib.hid (rfbelow_grown (W := w) (K3.out.alloc hz3 _) (R3.out.alloc _) (Nat.le_refl _) hg4)
      have R4 : Hid (RRow w4 w.heap.size v3 (M.addRaw F T n x y)) := by rw [Hid, HR.out]; exact hr4
      clear hr4 hg4 ho4
      obtain ⟨a4, c4, hv4, _, hw4⟩ := R4.out.form
      have HX := Lib.hid (impl_RulesValid w4 a4 _ c4 _ _ hw4 HF2.out)
      subst hv4
      clear hw4
      cases hok2 : M.rul (M.addRaw F T n x y).length (nF (M.addRaw F T n x y)) (nT (M.addRaw F T n x y))
      · obtain ⟨e1, e2⟩ := M.addR_no (P := F) (N := T) (n := n) (Or.inr hok2)
        have E1 := Lib.hid e1
        have E2 := Lib.hid e2
        rw [hok2] at HX
        clear hok2 e1 e2
        go_wp2_with fail
        refine HX.out.mono ?_
        rintro e w5 ⟨rfl, hb5⟩
        go_wp2
        go_ret2
        exact ROut.mk E1.out E2.out (RRow.nil _ _) (step K4.out hb5)
      · obtain ⟨e1, e2⟩ := M.addR_yes HOK.out hok2
        have E1 := Lib.hid e1
        have E2 := Lib.hid e2
        rw [hok2] at HX
        clear hok2 e1 e2
        go_wp2_with fail
        refine HX.out.mono ?_
        rintro e w5 ⟨rfl, hb5⟩
        go_wp2
        go_ret2
        exact ROut.mk E1.out E2.out (R4.out.on hb5) (step K4.out hb5)
  · have HR := Lib.hid (M.addRaw_old (N := T) (y := y) hr)
    rw [hr]
    clear hr
    have hlx := M.flst_length F T n
    rcases R3.out.cases with ⟨rfl, hnil⟩ | ⟨g, c, rfl, hbg, hgl⟩
    · rw [hnil] at hlx
      simp at hlx
      omega
    obtain ⟨p0, s0, c0, c1, _, f0, f1, _, _⟩ := R3.out.cellsAt (j := k) (by omega)
    have R4 : Hid (RRow ((w3.setCell ⟨g, k * 2, none⟩ (.string x)).setCell ⟨g, k * 2 + 1, none⟩ (.string y)) w.heap.size (.slice (some ⟨g, 0, none⟩) n c) (M.addRaw F T n x y)) := by
      have := R3.out.put k x y
      rw [← HR.out] at this
      have e : (M.addRaw F T n x y).length = n := by rw [HR.out, List.length_set, hlx]
      rw [e] at this
      exact this
    have hlen : Hid ((M.addRaw F T n x y).length = n) := by rw [Hid, HR.out, List.length_set, hlx]
    have K4 : Hid (Below w.heap.size w ((w3.setCell ⟨g, k * 2, none⟩ (.string x)).setCell ⟨g, k * 2 + 1, none⟩ (.string y))) := (K3.out.setCell hbg _).setCell hbg _
    rw [hlx]
    clear hlx
    have hki : (k : Int) < (n : Int) := by omega
    obtain ⟨a4, c4, hv4, _, hw4⟩ := R4.out.form
    rw [hlen.out] at hv4 hw4
    injection hv4 with hv5 _ hv6
    subst hv5 hv6
    have HF3 := HF2.out
    rw [hlen.out] at HF3
    have HX := Lib.hid (impl_RulesValid _ _ _ c _ _ hw4 HF3)
    clear hw4 HF3
    cases hok2 : M.rul (M.addRaw F T n x y).length (nF (M.addRaw F T n x y)) (nT (M.addRaw F T n x y))
    · obtain ⟨e1, e2⟩ := M.addR_no (P := F) (N := T) (n := n) (Or.inr hok2)
      have E1 := Lib.hid e1
      have E2 := Lib.hid e2
      have hok3 := hok2
      rw [hlen.out] at hok3
      rw [hok3] at HX
      clear hok3
      clear hok2 e1 e2
      go_wp2_with fail
      refine HX.out.mono ?_
      rintro e w5 ⟨rfl, hb5⟩
      go_wp2
      go_ret2
      exact ROut.mk E1.out E2.out (RRow.nil _ _) (step K4.out hb5)
    · obtain ⟨e1, e2⟩ := M.addR_yes HOK.out hok2
      have E1 := Lib.hid e1
      have E2 := Lib.hid e2
      have hok3 := hok2
      rw [hlen.out] at hok3
      rw [hok3] at HX
      clear hok3
      clear hok2 e1 e2
      go_wp2_with fail
      refine HX.out.mono ?_
      rintro e w5 ⟨rfl, hb5⟩
      go_wp2
      go_ret2
      exact ROut.mk E1.out E2.out (R4.out.on hb5) (step K4.out hb5)
end Go.Proofs.Ytkbebpadbdhnhaa
