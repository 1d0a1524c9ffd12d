/-
  TransitCount, in the program and in the model of the document.
-/
import Derived.Test.YtiecniogkcgefaaHome2
import Derived.Test.YtiecniogkcgefaaBatch
namespace Go.Proofs.Ytiecniogkcgefaa
open Go.RowKit Go.Maps
open Go.PlainAid (bt get_bt bt_nonneg bt_le)
set_option linter.unusedVariables false

/-- How often the first letters are sent on. -/
def M.transN (NM : Nat → ByteArray) (RL : Nat → List (ByteArray × ByteArray)) (n : Nat) (start : ByteArray) (C : Nat → ByteArray) : Nat → Nat
  | 0 => 0
  | k + 1 => M.transN NM RL n start C k + ((M.path NM RL n start (C k)).1.length - 1)
theorem M.transN_le (NM : Nat → ByteArray) (RL : Nat → List (ByteArray × ByteArray)) {n : Nat} (hn : n ≤ 8) (start : ByteArray) (C : Nat → ByteArray) : ∀ k, M.transN NM RL n start C k ≤ 9 * k
  | 0 => Nat.le_refl _
  | k + 1 => by
    have h1 := M.transN_le NM RL hn start C k
    have h2 := (M.path_len NM RL n start (C k)).2
    show M.transN NM RL n start C k + _ ≤ _
    omega
def M.trans (n : Nat) (NM : Nat → ByteArray) (RL : Nat → List (ByteArray × ByteArray)) (start : ByteArray) (m : Nat) (I : Nat → Int) (C : Nat → ByteArray) : Int :=
  if (M.routeOk n NM RL start && M.batch m I C) = true then (M.transN NM RL n start C m : Int) else -1
theorem M.trans_no {n : Nat} {NM : Nat → ByteArray} {RL : Nat → List (ByteArray × ByteArray)} {start : ByteArray} {m : Nat} {I : Nat → Int} {C : Nat → ByteArray} (h : M.routeOk n NM RL start = false ∨ M.batch m I C = false) : M.trans n NM RL start m I C = -1 := by
  unfold M.trans
  rw [if_neg]
  rcases h with h | h
  · rw [h, Bool.false_and]; decide
  · rw [h, Bool.and_false]; decide
theorem M.trans_yes {n : Nat} {NM : Nat → ByteArray} {RL : Nat → List (ByteArray × ByteArray)} {start : ByteArray} {m : Nat} {I : Nat → Int} {C : Nat → ByteArray} (h : M.routeOk n NM RL start = true) (h2 : M.batch m I C = true) : M.trans n NM RL start m I C = (M.transN NM RL n start C m : Int) := by
  unfold M.trans; rw [h, h2]; rfl
theorem path_form {w : World} {f : Nat} {L : List ByteArray} {v : Value} (h : SRow w f v L) : ∃ u k, v = .slice u L.length k := by
  obtain ⟨a, c, e, _⟩ := h.form
  exact ⟨a, c, e⟩
set_option maxHeartbeats 2000000 in
set_option maxRecDepth 100000 in
theorem spec_TransitCount (w : World) (a : Option Addr) (n cp : Nat) (NM : Nat → ByteArray) (RL : Nat → List (ByteArray × ByteArray)) (h : Nts w a n NM RL) (hf : NFits n NM RL) (hn : n ≤ 1048576) (hl : ∀ i, i < n → (RL i).length ≤ 1048576) (start : ByteArray) (a2 : Option Addr) (m c2 : Nat) (I : Nat → Int) (C : Nat → ByteArray) (h2 : Lts w a2 m I C) (hf2 : Fits m I C) (hm : m ≤ 1048576) :
    Calls Try.prog 41 #[.slice a n cp, .string start, .slice a2 m c2] w fun e w' => e = .returned (.int .i64 (M.trans n NM RL start m I C)) ∧ Below w.heap.size w w' := by
  have HV := Lib.hid (spec_NetworkValid w a n cp NM RL h hf hn hl)
  have HO := Lib.hid (spec_l6Office w a n cp NM RL h hn start)
  have HBV := Lib.hid (spec_BatchValid w a2 m c2 I C h2 hf2 hm)
  have HL := Lib.hid h
  have HL2 := Lib.hid h2
  have HF := Lib.hid hf
  clear h hf hl h2 hf2
  go_enter Try.func41, Try.ntmps41
  cases hnet : M.net n NM RL
  · have HE := Lib.hid (M.trans_no (m := m) (I := I) (C := C) (Or.inl (M.routeOk_no (start := start) (Or.inl hnet))))
    rw [hnet] at HV
    clear hnet
    go_wp2_with (go_at_call 28; refine HV.out.mono ?_; rintro e w1 ⟨rfl, rfl⟩)
    go_ret
    exact ⟨ret_int HE.out.symm, Below.refl _ _⟩
  rw [hnet] at HV
  have HN := Lib.hid hnet
  have hn8 := (M.net_yes hnet).1.2
  clear hnet
  rcases M.rankC NM start n with ⟨hr, _⟩ | ⟨i, _, _, _, hr⟩
  · have HE := Lib.hid (M.trans_no (n := n) (NM := NM) (RL := RL) (m := m) (I := I) (C := C) (Or.inl (M.routeOk_no (Or.inr hr))))
    rw [hr] at HO
    clear hr
    go_wp2_with (first
      | (go_at_call 28; refine HV.out.mono ?_; rintro e w1 ⟨rfl, rfl⟩)
      | (go_at_call 66; refine HO.out.mono ?_; rintro e w1 ⟨rfl, rfl⟩))
    go_ret
    exact ⟨ret_int HE.out.symm, Below.refl _ _⟩
  have HR := Lib.hid hr
  rw [hr] at HO
  clear hr
  cases hb : M.batch m I C
  · have HE := Lib.hid (M.trans_no (n := n) (NM := NM) (RL := RL) (start := start) (Or.inr hb))
    rw [hb] at HBV
    clear hb
    go_wp2_with (first
      | (go_at_call 28; refine HV.out.mono ?_; rintro e w1 ⟨rfl, rfl⟩)
      | (go_at_call 66; refine HO.out.mono ?_; rintro e w1 ⟨rfl, rfl⟩)
      | (go_at_call 76; refine HBV.out.mono ?_; rintro e w1 ⟨rfl, hbb⟩))
    go_ret
    exact ⟨ret_int HE.out.symm, hbb⟩
  have HE := Lib.hid (M.trans_yes (M.routeOk_yes (RL := RL) HN.out HR.out) hb)
  rw [hb] at HBV
  obtain ⟨hm60, hcd⟩ := M.batch_yes hb
  have HCD := Lib.hid hcd
  clear hb hcd
  go_wp2_with (first
    | (go_at_call 28; refine HV.out.mono ?_; rintro e w1 ⟨rfl, rfl⟩)
    | (go_at_call 66; refine HO.out.mono ?_; rintro e w1 ⟨rfl, rfl⟩)
    | (go_at_call 76; refine HBV.out.mono ?_; rintro e w1 ⟨rfl, hbb⟩))
  have KB := Lib.hid hbb
  clear hbb
  go_loopw [7, 8] (fun s i wr => ∃ (k t : Nat), k ≤ m ∧ i = .int .i64 k ∧ s = .int .i64 t ∧ Hid (M.transN NM RL n start C k = t) ∧ t ≤ 9 * k ∧ Hid (Below w.heap.size w wr)) (fun _ i _ => m - (intOf i).toNat)
  case atStart => exact ⟨0, 0, Nat.zero_le _, rfl, rfl, rfl, Nat.le_refl _, KB⟩
  case round =>
    obtain ⟨k, t, hk, rfl, rfl, ht, htb, hbw⟩ := hrel
    by_cases hlt : k < m
    · obtain ⟨b, o, rfl, c0, c1⟩ := (HL2.out.on hbw.out) k hlt
      have HP := Lib.hid (spec_l6Path wr a n cp NM RL (HL.out.on hbw.out) HF.out HN.out start (C k) (by rw [HR.out]; omega) (M.code_yes (HCD.out k hlt).1).1)
      obtain ⟨hp1, hp2⟩ := M.path_len NM RL n start (C k)
      have HT : Hid (M.transN NM RL n start C (k + 1) = t + ((M.path NM RL n start (C k)).1.length - 1)) := by
        unfold Hid
        show M.transN NM RL n start C k + _ = _
        rw [ht.out]
      obtain ⟨R, hR⟩ : ∃ R, M.path NM RL n start (C k) = R := ⟨_, rfl⟩
      rw [hR] at HP hp1 hp2 HT
      clear hR
      go_wp2_with fail
      refine HP.out.mono ?_
      rintro e w2 ⟨v, rfl, r2, hb2⟩
      obtain ⟨u, q, rfl⟩ := path_form r2
      have K2 := Lib.hid (sstep hbw.out hb2)
      obtain ⟨l, hl⟩ : ∃ l, R.1.length = l + 1 := ⟨R.1.length - 1, by omega⟩
      rw [hl, Nat.add_sub_cancel] at HT
      rw [hl] at hp2
      obtain ⟨z, hz⟩ : ∃ z, R.2 = z := ⟨_, rfl⟩
      rw [hl, hz]
      clear r2 hb2 hl hz hp1 HP
      go_wp2
      go_roundw
      case rel => exact ⟨k + 1, t + l, by omega, by go_num, congrArg (Value.int .i64) (by omega), HT, by omega, K2⟩
      case measure => simp [intOf]; omega
    · obtain rfl : k = m := by omega
      have HT : Hid ((t : Int) = M.trans n NM RL start k I C) := by rw [Hid, HE.out, ht.out]
      go_wp2
      go_ret
      exact ⟨ret_int HT.out, hbw.out⟩
set_option maxHeartbeats 2000000 in
set_option maxRecDepth 100000 in
theorem impl_TransitCount (w : World) (a : Option Addr) (n cp : Nat) (NM : Nat → ByteArray) (RL : Nat → List (ByteArray × ByteArray)) (h : Nts w a n NM RL) (hf : NFits n NM RL) (hn : n ≤ 1048576) (start : ByteArray) (hs : start.size ≤ maxLen) (a2 : Option Addr) (m c2 : Nat) (I : Nat → Int) (C : Nat → ByteArray) (h2 : Lts w a2 m I C) (hf2 : Fits m I C) (hm : m ≤ 1048576) :
    Calls Try.prog 43 #[.slice a n cp, .string start, .slice a2 m c2] w fun e w' => e = .returned (.int .i64 (M.trans n NM RL start m I C)) ∧ Below w.heap.size w w' := by
  have HBV := Lib.hid (fun W (hW : Below w.heap.size w W) => impl_BatchValid W a2 m c2 I C (h2.on hW) hf2)
  have HL2 := Lib.hid h2
  have HF := Lib.hid hf
  clear h2 hf2
  go_enter Try.func43, Try.ntmps43
  cases hnet : M.net n NM RL
  · have HE := Lib.hid (M.trans_no (m := m) (I := I) (C := C) (Or.inl (M.routeOk_no (start := start) (Or.inl hnet))))
    have HV := Lib.hid (impl_tableOf_no w a n cp NM RL h hf hn hnet)
    have hnil := fun W => nil_table W start hs
    clear hnet h hf hs
    go_wp2_with (go_at_call 73; refine HV.out.mono ?_; rintro e w1 ⟨rfl, hb1⟩)
    go_ret
    exact ⟨ret_int HE.out.symm, hb1⟩
  have HV := Lib.hid (impl_tableOf_yes w a n cp NM RL h hf hn hnet)
  have HN := Lib.hid hnet
  have hn8 := (M.net_yes hnet).1.2
  have HS := Lib.hid hs
  clear hnet h hf hs
  go_wp2_with fail
  refine HV.out.mono ?_
  rintro e w1 ⟨g, R, rfl, ht, hb1⟩
  have HT := Lib.hid ht
  have K1 := Lib.hid hb1
  rcases M.rankC NM start n with ⟨hr, hno⟩ | ⟨i, hi, hie, _, hr⟩
  · have HE := Lib.hid (M.trans_no (n := n) (NM := NM) (RL := RL) (m := m) (I := I) (C := C) (Or.inl (M.routeOk_no (Or.inr hr))))
    have hlk := ht.miss hno HS.out
    clear hr hno ht
    go_wp2
    go_ret
    exact ⟨ret_int HE.out.symm, hb1⟩
  have HR := Lib.hid hr
  have hlk := ht.look hi (HF.out i hi).1
  rw [hie] at hlk
  have HB := Lib.hid (HBV.out _ hb1)
  clear hr hie ht hb1 HBV
  cases hb : M.batch m I C
  · have HE := Lib.hid (M.trans_no (n := n) (NM := NM) (RL := RL) (start := start) (Or.inr hb))
    rw [hb] at HB
    clear hb
    go_wp2_with (go_at_call 78; refine HB.out.mono ?_; rintro e w2 ⟨rfl, hbb⟩)
    go_ret
    exact ⟨ret_int HE.out.symm, sstep K1.out hbb⟩
  have HE := Lib.hid (M.trans_yes (M.routeOk_yes (RL := RL) HN.out HR.out) hb)
  rw [hb] at HB
  obtain ⟨hm60, hcd⟩ := M.batch_yes hb
  have HCD := Lib.hid hcd
  clear hb hcd
  go_wp2_with (go_at_call 78; refine HB.out.mono ?_; rintro e w2 ⟨rfl, hbb⟩)
  have KB := Lib.hid (sstep K1.out hbb)
  have HTB := Lib.hid (HT.out.on hbb)
  clear hbb hlk
  go_loopw [8, 26] (fun s i wr => ∃ (k t : Nat), k ≤ m ∧ i = .int .i64 k ∧ s = .int .i64 t ∧ Hid (M.transN NM RL n start C k = t) ∧ t ≤ 9 * k ∧ Hid (Tab wr w.heap.size g n NM RL R) ∧ Hid (Below w.heap.size w wr)) (fun _ i _ => m - (intOf i).toNat)
  case atStart => exact ⟨0, 0, Nat.zero_le _, rfl, rfl, rfl, Nat.le_refl _, HTB, KB⟩
  case round =>
    obtain ⟨k, t, hk, rfl, rfl, ht, htb, htab, hbw⟩ := hrel
    have hz := hbw.out.size
    by_cases hlt : k < m
    · obtain ⟨b, o, rfl, c0, c1⟩ := (HL2.out.on hbw.out) k hlt
      have hbx := below_alloc0 wr (.cells #[.int .i64 (I k), .string (C k)] 96)
      have HP := Lib.hid (impl_route (wr.alloc (.cells #[.int .i64 (I k), .string (C k)] 96)) w.heap.size g n NM RL R (htab.out.on hbx) HF.out HN.out start (C k) (by rw [HR.out]; omega) (M.code_yes (HCD.out k hlt).1).1)
      have KX := Lib.hid (sstep hbw.out hbx)
      have TX := Lib.hid (htab.out.on hbx)
      obtain ⟨hp1, hp2⟩ := M.path_len NM RL n start (C k)
      have HTN : Hid (M.transN NM RL n start C (k + 1) = t + ((M.path NM RL n start (C k)).1.length - 1)) := by
        unfold Hid
        show M.transN NM RL n start C k + _ = _
        rw [ht.out]
      obtain ⟨R2, hR⟩ : ∃ R2, M.path NM RL n start (C k) = R2 := ⟨_, rfl⟩
      rw [hR] at HP hp1 hp2 HTN
      clear hR hbx
      go_wp2_with fail
      refine HP.out.mono ?_
      rintro e w2 ⟨v, rfl, r2, hb2⟩
      obtain ⟨u, q, rfl⟩ := path_form r2
      have K2 := Lib.hid (sstep KX.out hb2)
      have T2 := Lib.hid (TX.out.on hb2)
      obtain ⟨l, hl⟩ : ∃ l, R2.1.length = l + 1 := ⟨R2.1.length - 1, by omega⟩
      rw [hl, Nat.add_sub_cancel] at HTN
      rw [hl] at hp2
      obtain ⟨z, hzz⟩ : ∃ z, R2.2 = z := ⟨_, rfl⟩
      rw [hl, hzz]
      clear r2 hb2 hl hzz hp1 HP
      go_wp2
      go_roundw
      case rel => exact ⟨k + 1, t + l, by omega, by go_num, congrArg (Value.int .i64) (by omega), HTN, by omega, T2, K2⟩
      case measure => simp [intOf]; omega
    · obtain rfl : k = m := by omega
      have HTT : Hid ((t : Int) = M.trans n NM RL start k I C) := by rw [Hid, HE.out, ht.out]
      go_wp2
      go_ret
      exact ⟨ret_int HTT.out, hbw.out⟩
end Go.Proofs.Ytiecniogkcgefaa
