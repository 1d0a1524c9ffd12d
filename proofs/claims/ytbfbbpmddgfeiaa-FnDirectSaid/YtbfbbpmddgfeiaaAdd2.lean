/-
  Orders added: program and model.
-/
import Derived.Test.YtbfbbpmddgfeiaaDel2
namespace Go.Proofs.Ytbfbbpmddgfeiaa
open Go.RowKit Go.Maps
open Go.PlainAid (bt get_bt bt_nonneg bt_le)
set_option linter.unusedVariables false

set_option maxHeartbeats 2000000 in
set_option maxRecDepth 100000 in
theorem spec_l4Without (w : World) (a : Option Addr) (n c : Nat) (F T : Nat → ByteArray) (h : Fws w a n F T) (hn : n ≤ 1048576) (k : Int) (k0 : -1 ≤ k) (k1 : k ≤ 1048576) :
    Calls Try.prog 67 #[.slice a n c, .int .i64 k] w (FRowOut w (M.woAt F T k n)) := by
  have HL := Lib.hid h
  have E0 := Lib.hid (one_frow w)
  have B0 := Lib.hid (below_alloc0 w (.cells #[] 30))
  clear h
  go_enter Try.func67, Try.ntmps67
  go_wp2
  go_loopw [5, 6] (fun q i wr => ∃ j : Nat, j ≤ n ∧ i = .int .i64 j ∧ Hid (FRow wr w.heap.size q (M.woAt F T k j)) ∧ Hid (Below w.heap.size w wr)) (fun _ i _ => n - (intOf i).toNat)
  case atStart => exact ⟨0, Nat.zero_le _, rfl, E0, B0⟩
  case round =>
    obtain ⟨j, hj, rfl, hrow, hb⟩ := hrel
    have hz := hb.out.size
    by_cases hlt : j < n
    · obtain ⟨b, o, rfl, c0, c1⟩ := (HL.out.on hb.out) j hlt
      by_cases he : (j : Int) = k
      · have hs : Hid (M.woAt F T k (j + 1) = M.woAt F T k j) := if_pos he
        go_wp2
        go_roundw
        case rel => exact ⟨j + 1, by omega, by go_num, by rw [hs.out]; exact hrow, hb⟩
        case measure => simp [intOf]; omega
      · have hs : Hid (M.woAt F T k (j + 1) = M.woAt F T k j ++ [(F j, T j)]) := if_neg he
        have hle := M.woAt_le F T k j
        go_wp2_with (at_builtin; refine wpList_append_forward _ rfl _ _ rfl w.heap.size _ _ rfl (hrow.out.alloc _) _ (F j) (T j) rfl ?_ (by omega) (by simp; omega) ?_)
        · simp [go_sem]
        · intro v' w3 hr3 hg3 ho3
          have q3 := Lib.hid (fbelow_grown (W := w) (hb.out.alloc hz _) (hrow.out.alloc _) (Nat.le_refl _) hg3)
          have R3 := Lib.hid hr3
          clear hr3 hg3 ho3
          go_wp2
          go_roundw
          case rel => exact ⟨j + 1, by omega, by go_num, by rw [hs.out]; exact R3, q3⟩
          case measure => simp [intOf]; omega
    · obtain rfl : j = n := by omega
      go_wp2
      go_ret
      exact ⟨_, rfl, hrow.out, hb.out⟩

/-- Orders and whether there are any. -/
def FOut (W : World) (ok : Bool) (L : List (ByteArray × ByteArray)) (e : Ending) (w' : World) : Prop := ∃ v, e = .returned (.tuple #[v, .bool ok]) ∧ FRow w' W.heap.size v L ∧ Below W.heap.size W w'
namespace M
def remOk (F T : Nat → ByteArray) (n : Nat) (x : ByteArray) : Bool := fwd n F T && decide (0 ≤ rankTo F x n)
def remL (F T : Nat → ByteArray) (n : Nat) (x : ByteArray) : List (ByteArray × ByteArray) := if remOk F T n x = true then wo x (flst F T n) else []
theorem rem_no {F T : Nat → ByteArray} {n : Nat} {x : ByteArray} (h : fwd n F T = false ∨ rankTo F x n = -1) : remOk F T n x = false ∧ remL F T n x = [] := by
  have hk : remOk F T n x = false := by
    unfold remOk
    rcases h with h | h
    · rw [h]; rfl
    · rw [h]; exact Bool.and_false _
  exact ⟨hk, if_neg (by rw [hk]; decide)⟩
theorem rem_yes {F T : Nat → ByteArray} {n k : Nat} {x : ByteArray} (h : fwd n F T = true) (h2 : rankTo F x n = (k : Int)) : remOk F T n x = true ∧ remL F T n x = wo x (flst F T n) := by
  have hk : remOk F T n x = true := by unfold remOk; rw [h, h2, decide_eq_true (by omega)]; rfl
  exact ⟨hk, if_pos hk⟩
theorem remL_le (F T : Nat → ByteArray) (n : Nat) (x : ByteArray) : (remL F T n x).length ≤ n := by
  unfold remL
  split
  · exact Nat.le_trans (wo_le _ _) (Nat.le_of_eq (flst_length _ _ _))
  · exact Nat.zero_le _
theorem woAt_rank {F T : Nat → ByteArray} {n : Nat} (h : fwd n F T = true) (x : ByteArray) : woAt F T (rankTo F x n) n = wo x (flst F T n) :=
  woAt_eq (rank_only (fun k hk j hj => (fwd_yes h).2 k hk |>.2.2 j hj) x)
def addRow (F T : Nat → ByteArray) (n : Nat) (x y : ByteArray) : List (ByteArray × ByteArray) := wo x (flst F T n) ++ [(x, y)]
theorem addRow_len (F T : Nat → ByteArray) (n : Nat) (x y : ByteArray) : (addRow F T n x y).length ≤ n + 1 := by
  unfold addRow
  have := wo_le x (flst F T n)
  rw [flst_length] at this
  rw [List.length_append]
  show _ + 1 ≤ _
  omega
def addOk (F T : Nat → ByteArray) (n : Nat) (x y : ByteArray) : Bool := fwd n F T && (resCode (nF (addRow F T n x y)) (nT (addRow F T n x y)) (addRow F T n x y).length x).isSome
def addL (F T : Nat → ByteArray) (n : Nat) (x y : ByteArray) : List (ByteArray × ByteArray) := if addOk F T n x y = true then addRow F T n x y else []
theorem addL_le (F T : Nat → ByteArray) (n : Nat) (x y : ByteArray) : (addL F T n x y).length ≤ n + 1 := by
  unfold addL
  split
  · exact addRow_len F T n x y
  · exact Nat.zero_le _
theorem add_no {F T : Nat → ByteArray} {n : Nat} {x y : ByteArray} (h : fwd n F T = false ∨ resCode (nF (addRow F T n x y)) (nT (addRow F T n x y)) (addRow F T n x y).length x = none) : addOk F T n x y = false ∧ addL F T n x y = [] := by
  have hk : addOk F T n x y = false := by
    unfold addOk
    rcases h with h | h
    · rw [h]; rfl
    · rw [h]; exact Bool.and_false _
  exact ⟨hk, if_neg (by rw [hk]; decide)⟩
theorem add_yes {F T : Nat → ByteArray} {n : Nat} {x y : ByteArray} {p : ByteArray × Nat} (h : fwd n F T = true) (h2 : resCode (nF (addRow F T n x y)) (nT (addRow F T n x y)) (addRow F T n x y).length x = some p) : addOk F T n x y = true ∧ addL F T n x y = addRow F T n x y := by
  have hk : addOk F T n x y = true := by unfold addOk; rw [h, h2]; rfl
  exact ⟨hk, if_pos hk⟩
theorem addRow_last (F T : Nat → ByteArray) (n : Nat) (x y : ByteArray) : 0 < (addRow F T n x y).length ∧ nF (addRow F T n x y) ((addRow F T n x y).length - 1) = x := by
  have hl : (addRow F T n x y).length = (wo x (flst F T n)).length + 1 := by unfold addRow; rw [List.length_append]; rfl
  refine ⟨by omega, ?_⟩
  rw [nF_at (by omega)]
  have : (addRow F T n x y)[(addRow F T n x y).length - 1]? = some (x, y) := by
    rw [hl, Nat.add_sub_cancel]
    unfold addRow
    rw [List.getElem?_append_right (Nat.le_refl _), Nat.sub_self]; rfl
  rw [List.getElem?_eq_getElem (by omega)] at this
  rw [Option.some.inj this]
/-- Orders among which one from x stands are valid only if x is a code. -/
theorem add_code {F T : Nat → ByteArray} {n : Nat} {x y : ByteArray} (h : fwd (addRow F T n x y).length (nF (addRow F T n x y)) (nT (addRow F T n x y)) = true) : code x = true := by
  obtain ⟨h0, h1⟩ := addRow_last F T n x y
  have := ((fwd_yes h).2 _ (show (addRow F T n x y).length - 1 < (addRow F T n x y).length by omega)).1
  rw [h1] at this
  exact this
end M
theorem FFits.row {L : List (ByteArray × ByteArray)} (h : ∀ p ∈ L, p.1.size ≤ maxLen ∧ p.2.size ≤ maxLen) : FFits L.length (nF L) (nT L) := fun i hi => by
  rw [nF_at hi, nT_at hi]
  exact h _ (List.getElem_mem hi)
theorem fits_add {F T : Nat → ByteArray} {n : Nat} (h : FFits n F T) {x y : ByteArray} (hx : x.size ≤ maxLen) (hy : y.size ≤ maxLen) : FFits (M.addRow F T n x y).length (nF (M.addRow F T n x y)) (nT (M.addRow F T n x y)) := FFits.row fun p hp => by
  unfold M.addRow at hp
  rcases List.mem_append.1 hp with hp | hp
  · have h2 := (List.mem_filter.1 hp).1
    unfold M.flst at h2
    obtain ⟨i, hi, rfl⟩ := List.mem_map.1 h2
    exact h i (List.mem_range.1 hi)
  · have := List.mem_singleton.1 hp
    subst this
    exact ⟨hx, hy⟩

set_option maxHeartbeats 1000000 in
set_option maxRecDepth 100000 in
theorem impl_RemoveForward (w : World) (a : Option Addr) (n cap : Nat) (F T : Nat → ByteArray) (h : Fws w a n F T) (hf : FFits n F T) (hn : n ≤ 1048576) (x : ByteArray) (hx : x.size ≤ maxLen) :
    Calls Try.prog 32 #[.slice a n cap, .string x] w (FOut w (M.remOk F T n x) (M.remL F T n x)) := by
  have HL := Lib.hid h
  have HC := Lib.hid (impl_NextCode w a n cap F T h hf x hx)
  clear h hf
  go_enter Try.func32, Try.ntmps32
  cases hok : M.fwd n F T
  · obtain ⟨e1, e2⟩ := M.rem_no (x := x) (Or.inl hok)
    rw [e1, e2]
    rw [M.nextCode_no hok] at HC
    simp only [nxV] at HC
    clear hok e1 e2
    go_wp2_with fail
    refine HC.out.mono ?_
    rintro e w1 ⟨rfl, hb1⟩
    go_wp2
    go_ret2
    exact ⟨_, rfl, FRow.nil _ _, hb1⟩
  · rcases M.rank_cases F x n with ⟨hr, _⟩ | ⟨k, hk, _, _, hr⟩
    · obtain ⟨e1, e2⟩ := M.rem_no (T := T) (Or.inr hr)
      rw [e1, e2]
      rw [M.nextCode_yes hok, M.nextOf_none (by omega)] at HC
      simp only [nxV] at HC
      clear hok e1 e2 hr
      go_wp2_with fail
      refine HC.out.mono ?_
      rintro e w1 ⟨rfl, hb1⟩
      go_wp2
      go_ret2
      exact ⟨_, rfl, FRow.nil _ _, hb1⟩
    · obtain ⟨e1, e2⟩ := M.rem_yes hok hr
      rw [e1, e2]
      rw [M.nextCode_yes hok, M.nextOf_some hr] at HC
      simp only [nxV] at HC
      clear hok e1 e2 hr
      go_wp2_with fail
      refine HC.out.mono ?_
      rintro e w1 ⟨rfl, hb1⟩
      go_wp2_with fail
      refine (impl_withoutOrder _ _ _ _ _ _ (HL.out.on hb1) hn x).mono ?_
      rintro e w2 ⟨v, rfl, r2, hb2⟩
      have hz := hb1.size
      go_wp2
      go_ret2
      exact ⟨_, rfl, r2.lower hz, step hb1 hb2⟩

set_option maxHeartbeats 1000000 in
set_option maxRecDepth 100000 in
theorem spec_RemoveForward (w : World) (a : Option Addr) (n cap : Nat) (F T : Nat → ByteArray) (h : Fws w a n F T) (hf : FFits n F T) (hn : n ≤ 1048576) (x : ByteArray) :
    Calls Try.prog 34 #[.slice a n cap, .string x] w (FOut w (M.remOk F T n x) (M.remL F T n x)) := by
  have HL := Lib.hid h
  have HX := Lib.hid (spec_l4Index w a n cap F T h hn x)
  have HV := Lib.hid (spec_ForwardsValid w a n cap F T h hf hn)
  have hB0 := below_alloc0 w (.cells #[] 30)
  have R0 := Lib.hid (one_frow w)
  have HB0 := Lib.hid hB0
  clear h hf hB0
  go_enter Try.func34, Try.ntmps34
  cases hok : M.fwd n F T
  · obtain ⟨e1, e2⟩ := M.rem_no (x := x) (Or.inl hok)
    rw [e1, e2]
    rw [hok] at HV
    obtain ⟨r, hr⟩ : ∃ r, M.rankTo F x n = r := ⟨_, rfl⟩
    rw [hr] at HX
    clear hok e1 e2 hr
    go_wp2_with fail
    refine HX.out.mono ?_
    rintro e w1 ⟨rfl, rfl⟩
    go_wp2_with fail
    refine HV.out.mono ?_
    rintro e w1 ⟨rfl, rfl⟩
    go_wp2
    go_ret2
    exact ⟨_, rfl, R0.out, HB0.out⟩
  · rcases M.rank_cases F x n with ⟨hr, _⟩ | ⟨k, hk, _, _, hr⟩
    · obtain ⟨e1, e2⟩ := M.rem_no (T := T) (Or.inr hr)
      rw [e1, e2]
      rw [hok] at HV
      rw [hr] at HX
      clear hok e1 e2 hr
      go_wp2_with fail
      refine HX.out.mono ?_
      rintro e w1 ⟨rfl, rfl⟩
      go_wp2_with fail
      refine HV.out.mono ?_
      rintro e w1 ⟨rfl, rfl⟩
      go_wp2
      go_ret2
      exact ⟨_, rfl, R0.out, HB0.out⟩
    · obtain ⟨e1, e2⟩ := M.rem_yes hok hr
      have hwo := Lib.hid (M.woAt_rank hok x)
      rw [hr] at hwo
      rw [e1, e2]
      rw [hok] at HV
      rw [hr] at HX
      clear hok e1 e2 hr
      go_wp2_with fail
      refine HX.out.mono ?_
      rintro e w1 ⟨rfl, rfl⟩
      go_wp2_with fail
      refine HV.out.mono ?_
      rintro e w1 ⟨rfl, rfl⟩
      go_wp2_with fail
      refine (spec_l4Without _ _ _ _ _ _ HL.out hn (k : Int) (by omega) (by omega)).mono ?_
      rw [hwo.out]
      rintro e w2 ⟨v, rfl, r2, hb2⟩
      go_wp2
      go_ret2
      exact ⟨_, rfl, r2, hb2⟩
end Go.Proofs.Ytbfbbpmddgfeiaa
namespace Go.Proofs.Ytbfbbpmddgfeiaa
open Go.RowKit Go.Maps
open Go.PlainAid (bt get_bt bt_nonneg bt_le)
set_option linter.unusedVariables false

theorem FOut.mk {W w' : World} {ok ok' : Bool} {L L' : List (ByteArray × ByteArray)} {v : Value} (h1 : ok' = ok) (h2 : L' = L) (hr : FRow w' W.heap.size v L) (hb : Below W.heap.size W w') : FOut W ok' L' (.returned (.tuple #[v, .bool ok])) w' := by
  subst h1 h2
  exact ⟨v, rfl, hr, hb⟩
set_option maxHeartbeats 2000000 in
set_option maxRecDepth 100000 in
theorem impl_AddForward (w : World) (a : Option Addr) (n cap : Nat) (F T : Nat → ByteArray) (h : Fws w a n F T) (hf : FFits n F T) (hn : n ≤ 1048576) (x y : ByteArray) (hx : x.size ≤ maxLen) (hy : y.size ≤ maxLen) :
    Calls Try.prog 29 #[.slice a n cap, .string x, .string y] w (FOut w (M.addOk F T n x y) (M.addL F T n x y)) := by
  have HL := Lib.hid h
  have HV := Lib.hid (impl_ForwardsValid w a n cap F T h hf)
  have HF2 := Lib.hid (fits_add hf hx hy)
  clear h hf
  go_enter Try.func29, Try.ntmps29
  cases hok : M.fwd n F T
  · obtain ⟨e1, e2⟩ := M.add_no (x := x) (y := y) (Or.inl hok)
    have E1 := Lib.hid e1
    have E2 := Lib.hid e2
    rw [hok] at HV
    clear hok e1 e2
    go_wp2_with fail
    refine HV.out.mono ?_
    rintro e w1 ⟨rfl, hb1⟩
    go_wp2
    go_ret2
    exact FOut.mk E1.out E2.out (FRow.nil _ _) hb1
  · rw [hok] at HV
    have HOK := Lib.hid hok
    have hwl := M.wo_le x (M.flst F T n)
    rw [M.flst_length] at hwl
    clear hok
    go_wp2_with fail
    refine HV.out.mono ?_
    rintro e w1 ⟨rfl, hb1⟩
    go_wp2_with fail
    refine (impl_withoutOrder _ _ _ _ _ _ (HL.out.on hb1) hn x).mono ?_
    rintro e w2 ⟨v, rfl, r2, hb2⟩
    have R2 := Lib.hid (r2.lower hb1.size)
    have K2 := Lib.hid (step hb1 hb2)
    have hz2 := K2.out.size
    clear r2 hb1 hb2 HV HL
    go_wp2_with (at_builtin; refine wpList_append_forward _ rfl _ _ rfl w.heap.size _ _ rfl (R2.out.alloc _) _ x y rfl ?_ (by omega) (by simp; omega) ?_)
    · simp [go_sem]
    · intro v3 w3 hr3 hg3 ho3
      have K3 := Lib.hid (fbelow_grown (W := w) (K2.out.alloc hz2 _) (R2.out.alloc _) (Nat.le_refl _) hg3)
      have R3 : Hid (FRow w3 w.heap.size v3 (M.addRow F T n x y)) := hr3
      clear hr3 hg3 ho3
      obtain ⟨a3, c3, hv3, _, hw3⟩ := R3.out.form
      have HX := Lib.hid (impl_ResolveCode w3 a3 _ c3 _ _ hw3 HF2.out x hx)
      subst hv3
      clear hw3
      cases hres : M.resCode (nF (M.addRow F T n x y)) (nT (M.addRow F T n x y)) (M.addRow F T n x y).length x with
      | none =>
        obtain ⟨e1, e2⟩ := M.add_no (F := F) (T := T) (n := n) (Or.inr hres)
        have E1 := Lib.hid e1
        have E2 := Lib.hid e2
        rw [hres] at HX
        simp only [resV] at HX
        clear e1 e2 hres
        go_wp2_with fail
        refine HX.out.mono ?_
        rintro e w4 ⟨rfl, hb4⟩
        go_wp2
        go_ret2
        exact FOut.mk E1.out E2.out (FRow.nil _ _) (step K3.out hb4)
      | some p =>
        obtain ⟨e1, e2⟩ := M.add_yes HOK.out hres
        have E1 := Lib.hid e1
        have E2 := Lib.hid e2
        rw [hres] at HX
        simp only [resV] at HX
        clear e1 e2 hres
        go_wp2_with fail
        refine HX.out.mono ?_
        rintro e w4 ⟨rfl, hb4⟩
        go_wp2
        go_ret2
        exact FOut.mk E1.out E2.out (R3.out.on hb4) (step K3.out hb4)

set_option maxHeartbeats 2000000 in
set_option maxRecDepth 100000 in
theorem spec_AddForward (w : World) (a : Option Addr) (n cap : Nat) (F T : Nat → ByteArray) (h : Fws w a n F T) (hf : FFits n F T) (hn : n ≤ 1048576) (x y : ByteArray) (hx : x.size ≤ maxLen) (hy : y.size ≤ maxLen) :
    Calls Try.prog 30 #[.slice a n cap, .string x, .string y] w (FOut w (M.addOk F T n x y) (M.addL F T n x y)) := by
  have HL := Lib.hid h
  have HX := Lib.hid (spec_l4Index w a n cap F T h hn x)
  have HF := Lib.hid hf
  have HF2 := Lib.hid (fits_add hf hx hy)
  obtain ⟨r, hr⟩ : ∃ r, M.rankTo F x n = r := ⟨_, rfl⟩
  have hrb : -1 ≤ r ∧ r ≤ 1048576 := by
    rcases M.rank_cases F x n with ⟨e, _⟩ | ⟨k, hk, _, _, e⟩ <;> omega
  obtain ⟨hr0, hr1⟩ := hrb
  have hwl := M.woAt_le F T r n
  rw [hr] at HX
  have HR := Lib.hid hr
  clear h hf hr
  go_enter Try.func30, Try.ntmps30
  go_wp2_with fail
  refine HX.out.mono ?_
  rintro e w1 ⟨rfl, rfl⟩
  go_wp2_with fail
  refine (spec_l4Without _ _ _ _ _ _ HL.out hn r hr0 hr1).mono ?_
  rintro e w2 ⟨v, rfl, r2, hb2⟩
  have R2 := Lib.hid r2
  have K2 := Lib.hid hb2
  have hz2 := hb2.size
  clear r2 hb2 HX
  go_wp2_with (at_builtin; refine wpList_append_forward _ rfl _ _ rfl w.heap.size _ _ rfl (R2.out.alloc _) _ x y rfl ?_ (by omega) (by simp; omega) ?_)
  · simp [go_sem]
  · intro v3 w3 hr3 hg3 ho3
    have K3 := Lib.hid (fbelow_grown (W := w) (K2.out.alloc hz2 _) (R2.out.alloc _) (Nat.le_refl _) hg3)
    have R3 := Lib.hid hr3
    have hz3 := K3.out.size
    clear hr3 hg3 ho3 K2 R2
    have HV := Lib.hid (spec_ForwardsValid w3 a n cap F T (HL.out.on K3.out) HF.out hn)
    have E3 := Lib.hid ((one_frow w3).lower hz3)
    have B3 := Lib.hid (K3.out.alloc hz3 (.cells #[] 30))
    cases hok : M.fwd n F T
    · obtain ⟨e1, e2⟩ := M.add_no (x := x) (y := y) (Or.inl hok)
      have E1 := Lib.hid e1
      have E2 := Lib.hid e2
      rw [hok] at HV
      clear hok e1 e2
      go_wp2_with fail
      refine HV.out.mono ?_
      rintro e w4 ⟨rfl, rfl⟩
      go_wp2
      go_ret2
      exact FOut.mk E1.out E2.out E3.out B3.out
    · have hwo := M.woAt_rank hok x
      rw [HR.out] at hwo
      have R4 : Hid (FRow w3 w.heap.size v3 (M.addRow F T n x y)) := by
        have := R3.out
        rw [hwo] at this
        exact this
      have hl4 := M.addRow_len F T n x y
      rw [hok] at HV
      have hn30 := (M.fwd_yes hok).1
      have HOK := Lib.hid hok
      clear hok hwo R3
      obtain ⟨a3, c3, hv3, _, hw3⟩ := R4.out.form
      have HW3 := Lib.hid hw3
      have HV2 := Lib.hid (spec_ForwardsValid w3 a3 _ c3 _ _ hw3 HF2.out (by omega))
      have HX2 := Lib.hid (spec_l4Resolve w3 a3 _ c3 _ _ hw3 (by omega) x)
      subst hv3
      clear hw3
      go_wp2_with fail
      refine HV.out.mono ?_
      rintro e w4 ⟨rfl, rfl⟩
      cases hok2 : M.fwd (M.addRow F T n x y).length (nF (M.addRow F T n x y)) (nT (M.addRow F T n x y))
      · obtain ⟨e1, e2⟩ := M.add_no (F := F) (T := T) (n := n) (x := x) (y := y) (Or.inr (M.resCode_no hok2))
        have E1 := Lib.hid e1
        have E2 := Lib.hid e2
        rw [hok2] at HV2
        clear hok2 e1 e2
        go_wp2_with fail
        refine HV2.out.mono ?_
        rintro e w4 ⟨rfl, rfl⟩
        go_wp2
        go_ret2
        exact FOut.mk E1.out E2.out E3.out B3.out
      · have hcode := M.add_code hok2
        have hres0 := M.resCode_yes hok2 hcode
        rw [hok2] at HV2
        rw [← hres0] at HX2
        clear hok2 hcode hres0
        cases hres : M.resCode (nF (M.addRow F T n x y)) (nT (M.addRow F T n x y)) (M.addRow F T n x y).length x with
        | none =>
          obtain ⟨e1, e2⟩ := M.add_no (F := F) (T := T) (n := n) (Or.inr hres)
          have E1 := Lib.hid e1
          have E2 := Lib.hid e2
          rw [hres] at HX2
          simp only [resV] at HX2
          clear e1 e2 hres
          go_wp2_with fail
          refine HV2.out.mono ?_
          rintro e w4 ⟨rfl, rfl⟩
          go_wp2_with fail
          refine HX2.out.mono ?_
          rintro e w4 ⟨rfl, rfl⟩
          go_wp2
          go_ret2
          exact FOut.mk E1.out E2.out E3.out B3.out
        | some p =>
          obtain ⟨e1, e2⟩ := M.add_yes HOK.out hres
          have E1 := Lib.hid e1
          have E2 := Lib.hid e2
          rw [hres] at HX2
          simp only [resV] at HX2
          clear e1 e2 hres
          go_wp2_with fail
          refine HV2.out.mono ?_
          rintro e w4 ⟨rfl, rfl⟩
          go_wp2_with fail
          refine HX2.out.mono ?_
          rintro e w4 ⟨rfl, rfl⟩
          go_wp2
          go_ret2
          exact FOut.mk E1.out E2.out R4.out K3.out
theorem M.remL_small (F T : Nat → ByteArray) (n : Nat) (x : ByteArray) (hn : n ≤ 1048576) : (M.remL F T n x).length ≤ 1048576 := Nat.le_trans (M.remL_le F T n x) hn
theorem M.addL_small (F T : Nat → ByteArray) (n : Nat) (x y : ByteArray) (hn : n ≤ 1048576) : (M.addL F T n x y).length ≤ 1048576 := by
  unfold M.addL
  split
  · rename_i h
    unfold M.addOk at h
    have h1 : M.fwd n F T = true := by cases e : M.fwd n F T <;> simp [e] at h ⊢
    have := (M.fwd_yes h1).1
    have := M.addRow_len F T n x y
    omega
  · exact Nat.zero_le _
end Go.Proofs.Ytbfbbpmddgfeiaa
