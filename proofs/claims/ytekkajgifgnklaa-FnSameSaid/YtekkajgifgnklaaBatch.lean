/-
  What BatchValid returns, in the program and in the model of the document.
-/
import Derived.Test.YtekkajgifgnklaaLet
import Derived.Test.YtekkajgifgnklaaMgA2
import Derived.Maps.OwnOps
import Derived.Maps.OwnSet
import Derived.Maps.Views
import Derived.WalkLawsBesides
namespace Go.Proofs.Ytekkajgifgnklaa
open Go.RowKit Go.Maps
open Go.PlainAid (bt get_bt bt_nonneg bt_le)

set_option maxHeartbeats 1000000 in
theorem spec_BatchValid (w : World) (a : Option Addr) (n c : Nat) (I : Nat → Int) (C : Nat → ByteArray) (h : Lts w a n I C) (hf : Fits n I C) (hn : n ≤ 1048576) :
    Calls Try.prog 26 #[.slice a n c] w fun e w' => e = .returned (.bool (M.batch n I C)) ∧ Below w.heap.size w w' := by
  have HF := Lib.hid hf
  have HL := Lib.hid h
  clear h hf
  go_enter Try.func26, Try.ntmps26
  go_wp2
  go_loopw [3] (fun i wr => ∃ k : Nat, k ≤ n ∧ i = .int .i64 k ∧ M.goodTo I C k = true ∧ Below w.heap.size w wr) (fun i _ => n - (intOf i).toNat)
  case atStart => exact ⟨0, Nat.zero_le _, rfl, rfl, Below.refl _ _⟩
  case round =>
    obtain ⟨k, hk, rfl, hg, hb⟩ := hrel
    have hz := hb.size
    by_cases hlt : k < n
    · have hL1 := Lib.hid (HL.out.on hb)
      obtain ⟨b, o, rfl, c0, c1⟩ := hL1.out k hlt
      obtain ⟨i0, i1⟩ := (HF.out k hlt).1
      have s1 := (HF.out k hlt).2
      have HG := Lib.hid hg
      clear hg
      cases hc : M.code (C k)
      · go_wp2_with (go_at_call 46; refine (spec_CodeValid _ _ s1).mono ?_; rw [hc]; rintro e w1 ⟨rfl, rfl⟩)
        go_ret
        exact ⟨ret_bool (M.batch_no hlt (Or.inl hc)).symm, hb⟩
      · by_cases h1 : 1 ≤ I k ∧ I k ≤ 9999
        · have hin := decide_eq_true h1
          have HB := Lib.hid h1
          clear h1
          go_wp2_with (first | (go_at_call 46; refine (spec_CodeValid _ _ s1).mono ?_; rw [hc]; rintro e w1 ⟨rfl, rfl⟩) | (go_at_call 48; refine (spec_l1In _ _ _ _).mono ?_; rw [hin]; rintro e w1 ⟨rfl, rfl⟩))
          go_loopw [4] (fun i wr => ∃ j : Nat, j ≤ k ∧ i = .int .i64 j ∧ Hid (∀ q, q < j → I q ≠ I k) ∧ Below w.heap.size w wr) (fun i _ => k - (intOf i).toNat)
          case atStart => exact ⟨0, Nat.zero_le _, rfl, fun q hq => absurd hq (by omega), hb⟩
          case round =>
            obtain ⟨j, hj, rfl, hno, hb2⟩ := hrel
            clear c0 c1
            obtain ⟨b3, o3, e3, c0, c1⟩ := (HL.out.on hb2) k hlt
            cases e3
            by_cases hjk : j < k
            · obtain ⟨b2, o2, e2, d0, d1⟩ := (HL.out.on hb2) j (by omega)
              cases e2
              by_cases he : I j = I k
              · have hee : (I j == I k) = true := by simpa using he
                have HE := Lib.hid he
                clear he
                go_wp2
                go_region
                all_goals
                  go_wp2
                  go_ret
                  exact ⟨ret_bool (M.batch_no hlt (Or.inr (Or.inr (Or.inr ⟨j, hjk, HE.out⟩)))).symm, hb2.drew⟩
              · have hee : (I j == I k) = false := by simpa using he
                have HE := Lib.hid he
                clear he
                go_wp2
                go_region
                all_goals
                  go_wp2
                  exact ⟨⟨j + 1, by omega, by go_num, fun q hq => by by_cases e : q = j; (subst e; exact HE.out); exact hno q (by omega), hb2.drew⟩, by simp [intOf]; omega⟩
            · obtain rfl : j = k := by omega
              go_wp2
              go_roundw
              case rel => exact ⟨j + 1, by omega, by go_num, M.goodTo_succ HG.out hc HB.out hno, hb2⟩
              case measure => simp [intOf]; omega
        · have hin := decide_eq_false h1
          have hbad := Lib.hid (M.batch_no (n := n) (C := C) hlt (show M.code (C k) = false ∨ I k < 1 ∨ 9999 < I k ∨ ∃ j, j < k ∧ I j = I k by omega))
          clear h1
          go_wp2_with (first | (go_at_call 46; refine (spec_CodeValid _ _ s1).mono ?_; rw [hc]; rintro e w1 ⟨rfl, rfl⟩) | (go_at_call 48; refine (spec_l1In _ _ _ _).mono ?_; rw [hin]; rintro e w1 ⟨rfl, rfl⟩))
          go_ret
          exact ⟨ret_bool hbad.out.symm, hb⟩
    · obtain rfl : k = n := by omega
      go_wp2
      go_ret
      exact ⟨ret_bool (by rw [M.batch_end hg]; exact decide_eq_decide.2 (by omega)), hb⟩

/-- The numbers of the first k letters, as the map that the program fills. -/
def Seen (I : Nat → Int) : Nat → DataW Unit
  | 0 => .map []
  | k + 1 => (Seen I k).put (.int .i64 (I k)) (.lit (.bool true))
theorem Seen.isMap (I : Nat → Int) : ∀ k, IsMap (Seen I k)
  | 0 => isMap_empty
  | k + 1 => (Seen.isMap I k).put _ _
theorem Seen.hit (I : Nat → Int) : ∀ k j, j < k → (Seen I k).atKey (.int .i64 (I j)) (.lit (.bool false)) = .lit (.bool true)
  | 0, j, h => absurd h (by omega)
  | k + 1, j, h => by
    by_cases e : I j = I k
    · rw [e]
      exact atKey_put_same (Seen.isMap I k) (by simp [WideAt.IsKeyLit]) _ _
    · rw [Seen, atKey_put_other (by intro h'; injection h' with _ h2; exact e h2)]
      exact Seen.hit I k j (by by_cases e2 : j = k; (subst e2; exact absurd rfl e); omega)
theorem Seen.miss (I : Nat → Int) (x : Int) : ∀ k, (∀ j, j < k → I j ≠ x) → (Seen I k).atKey (.int .i64 x) (.lit (.bool false)) = .lit (.bool false)
  | 0, _ => rfl
  | k + 1, h => by
    rw [Seen, atKey_put_other (by intro h'; injection h' with _ h2; exact h k (by omega) h2.symm)]
    exact Seen.miss I x k fun j hj => h j (by omega)
theorem plainElem_bool_inv {H : Type} {P : Program} {e : TypeId} (he : P.underlying e = some .bool) {v : Value} {z : DataW H × List MemPlace} (h : plainElem P e v = some z) : ∃ x, v = .bool x ∧ z = (.lit (.bool x), []) := by
  unfold plainElem at h
  rw [he] at h
  cases v <;> simp at h
  exact ⟨_, rfl, h.symm⟩
theorem look_bool {P : Program} {w : World} {t k e : TypeId} {b n : Nat} {D : DataW Unit} (h : w.ownsMap P k (plainElem P e) b n D) (K : Keyed P k) (ht : P.underlying t = some (.map k e)) (he : P.underlying e = some .bool) (hz : (zeroValue e).run P w = .ok (.bool false) w)
    {key : Value} {kl : Lit} (hkey : keyOf P k key = some kl) {x : Bool} (hx : D.atKey kl (.lit (.bool false)) = .lit (.bool x)) : (Instr.lookup t (.map (some b)) key false).run P w = .ok (.bool x) w := by
  obtain ⟨v, ps, hrun, hv⟩ := h.lookup K ht hz (plainElem_bool he false) hkey
  obtain ⟨c, rfl, hc⟩ := plainElem_bool_inv he hv
  simp only [Prod.mk.injEq] at hc
  have : (.lit (.bool x) : DataW Unit) = .lit (.bool c) := hx.symm.trans hc.1
  injection this with this
  injection this with this
  rw [this]; exact hrun
theorem lawInt : Keyed Try.prog 3 := int_keyed Try.underlying3
theorem zeroBool (w : World) : (zeroValue 4).run Try.prog w = .ok (.bool false) w := by kernel_rfl
/-- The map that BatchValid fills. -/
def OwnSeen (w : World) (b : Nat) (I : Nat → Int) (k : Nat) : Prop := w.ownsMap Try.prog 3 (plainElem Try.prog 4) b k (Seen I k)
theorem OwnSeen.look {w : World} {b k : Nat} {I : Nat → Int} (h : OwnSeen w b I k) {y : Int} (y0 : -9223372036854775808 ≤ y) (y1 : y ≤ 9223372036854775807) {x : Bool} (hx : (Seen I k).atKey (.int .i64 y) (.lit (.bool false)) = .lit (.bool x)) :
    (Instr.lookup 76 (.map (some b)) (.int .i64 y) false).run Try.prog w = .ok (.bool x) w :=
  look_bool h lawInt Try.underlying76 Try.underlying4 (zeroBool w) (keyOf_int_mk Try.underlying3 (WalkArith.wf_i64 ⟨y0, y1⟩)) hx

set_option maxHeartbeats 1000000 in
theorem impl_BatchValid (w : World) (a : Option Addr) (n c : Nat) (I : Nat → Int) (C : Nat → ByteArray) (h : Lts w a n I C) (hf : Fits n I C) :
    Calls Try.prog 23 #[.slice a n c] w fun e w' => e = .returned (.bool (M.batch n I C)) ∧ Below w.heap.size w w' := by
  have HF := Lib.hid hf
  have HL := Lib.hid h
  clear h hf
  have hmm := @run_makeMap Try.prog
  by_cases hlong : 60 < n
  · go_enter Try.func23, Try.ntmps23
    go_wp2
    go_ret
    exact ⟨ret_bool (M.batch_long hlong).symm, Below.refl _ _⟩
  go_enter Try.func23, Try.ntmps23
  go_wp2
  go_loopw [12] (fun i wr => ∃ k : Nat, k ≤ n ∧ i = .int .i64 k ∧ M.goodTo I C k = true ∧ OwnSeen wr w.heap.size I k ∧ Below w.heap.size w wr) (fun i _ => n - (intOf i).toNat)
  case atStart => exact ⟨0, Nat.zero_le _, rfl, rfl, World.ownsMap_made _ _ _ _, (Below.refl _ _).alloc (Nat.le_refl _) _⟩
  case round =>
    obtain ⟨k, hk, rfl, hg, hown, hb⟩ := hrel
    have hz := hb.size
    by_cases hlt : k < n
    · obtain ⟨b, o, rfl, c0, c1⟩ := (HL.out.on hb) k hlt
      obtain ⟨i0, i1⟩ := (HF.out k hlt).1
      have s1 := (HF.out k hlt).2
      have HG := Lib.hid hg
      have HO := Lib.hid hown
      clear hg hown
      by_cases l1 : I k < 1
      · go_wp2
        go_ret
        exact ⟨ret_bool (M.batch_no hlt (Or.inr (Or.inl l1))).symm, by go_grown⟩
      by_cases l2 : 9999 < I k
      · go_wp2
        go_ret
        exact ⟨ret_bool (M.batch_no hlt (Or.inr (Or.inr (Or.inl l2)))).symm, by go_grown⟩
      by_cases hs : ∃ j, j < k ∧ I j = I k
      · have hbad := Lib.hid (M.batch_no (n := n) (C := C) hlt (Or.inr (Or.inr (Or.inr hs))))
        have hlook : ∀ ob, (Instr.lookup 76 (.map (some w.heap.size)) (.int .i64 (I k)) false).run Try.prog (wr.alloc ob) = .ok (.bool true) (wr.alloc ob) := fun ob => by
          obtain ⟨j, hj, e⟩ := hs
          exact OwnSeen.look (World.ownsMap.alloc HO.out ob) i0 i1 (by rw [← e]; exact Seen.hit I k j hj)
        clear hs
        go_wp2
        go_ret
        exact ⟨ret_bool hbad.out.symm, by go_grown⟩
      have hno : ∀ j, j < k → I j ≠ I k := fun j hj e => hs ⟨j, hj, e⟩
      have hlook : ∀ ob, (Instr.lookup 76 (.map (some w.heap.size)) (.int .i64 (I k)) false).run Try.prog (wr.alloc ob) = .ok (.bool false) (wr.alloc ob) := fun ob =>
        OwnSeen.look (World.ownsMap.alloc HO.out ob) i0 i1 (Seen.miss I (I k) k hno)
      have HNO := Lib.hid hno
      clear hs hno
      cases hc : M.code (C k)
      · go_wp2_with (go_at_call 31; refine (impl_CodeValid _ _ s1).mono ?_; rw [hc]; rintro e w1 ⟨rfl, hb1⟩; replace hb1 := hb1.below)
        go_ret
        exact ⟨ret_bool (M.batch_no hlt (Or.inl hc)).symm, (hb.alloc hz _).trans (hb1.mono (by simp; omega))⟩
      · have hkey : keyOf Try.prog 3 (.int .i64 (I k)) = some (.int .i64 (I k)) := keyOf_int_mk Try.underlying3 (WalkArith.wf_i64 ⟨i0, i1⟩)
        have hkm : k < maxLen := by unfold maxLen; omega
        go_wp2_with (first
          | (go_at_call 31; refine (impl_CodeValid_yes _ _ hc).mono ?_; rintro e w1 ⟨rfl, rfl⟩)
          | (at_mapUpdate; refine wpList_mapUpdate_own _ rfl _ _ _ 76 rfl 3 4 lawInt Try.underlying76 _ w.heap.size k _ rfl (World.ownsMap.alloc (World.ownsMap.alloc HO.out _) _) hkm _ _ _ rfl rfl hkey _ [] (plainElem_bool Try.underlying4 true) ?_; intro w1 hown1 hgrow1))
        go_roundw
        case rel => exact ⟨k + 1, by omega, by go_num, M.goodTo_succ HG.out hc (by omega) HNO.out, hown1, ((hb.alloc hz _).alloc (by simp; omega) _).grown hgrow1 (by simp; omega) (fun j hj => by cases hj; exact Nat.le_refl _)⟩
        case measure => simp [intOf]; omega
    · obtain rfl : k = n := by omega
      go_wp2
      go_ret
      exact ⟨ret_bool (by rw [M.batch_end hg]; exact (decide_eq_true (by omega)).symm), hb⟩
end Go.Proofs.Ytekkajgifgnklaa
