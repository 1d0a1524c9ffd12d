/-
  TransitCount, in the program and in the model of the document.
-/
import Derived.Test.YtabmbbnfpfkcaaaHomeA
import Derived.Test.YtabmbbnfpfkcaaaBatch
import Derived.Test.YtabmbbnfpfkcaaaDrawNet
import Derived.Test.YtabmbbnfpfkcaaaDrawPO
namespace Go.Proofs.Ytabmbbnfpfkcaaa
open Go.RowKit Go.Maps
open Go.PlainAid (bt get_bt bt_nonneg bt_le)
set_option linter.unusedVariables false

/-- How often the first letters are sent on. -/
def M.transN (NM : Nat → ByteArray) (RL : Nat → List (ByteArray × ByteArray)) (n : Nat) (start : ByteArray) (C : Nat → ByteArray) : Nat → Nat
  | 0 => 0
  | k + 1 => M.transN NM RL n start C k + ((M.path NM RL n start (C k)).1.length - 1)
theorem M.transN_le (NM : Nat → ByteArray) (RL : Nat → List (ByteArray × ByteArray)) {n : Nat} (hn : n ≤ 8) (start : ByteArray) (C : Nat → ByteArray) : ∀ k, M.transN NM RL n start C k ≤ 9 * k
  | 0 => Nat.le_refl _
  | k + 1 => by
    have h1 := M.transN_le NM RL hn start C k
    have h2 := (M.path_len NM RL n start (C k)).2
    show M.transN NM RL n start C k + _ ≤ _
    omega
def M.trans (n : Nat) (NM : Nat → ByteArray) (RL : Nat → List (ByteArray × ByteArray)) (start : ByteArray) (m : Nat) (I : Nat → Int) (C : Nat → ByteArray) : Int :=
  if (M.routeOk n NM RL start && M.batch m I C) = true then (M.transN NM RL n start C m : Int) else -1
theorem M.trans_no {n : Nat} {NM : Nat → ByteArray} {RL : Nat → List (ByteArray × ByteArray)} {start : ByteArray} {m : Nat} {I : Nat → Int} {C : Nat → ByteArray} (h : M.routeOk n NM RL start = false ∨ M.batch m I C = false) : M.trans n NM RL start m I C = -1 := by
  unfold M.trans
  rw [if_neg]
  rcases h with h | h
  · rw [h, Bool.false_and]; decide
  · rw [h, Bool.and_false]; decide
theorem M.trans_yes {n : Nat} {NM : Nat → ByteArray} {RL : Nat → List (ByteArray × ByteArray)} {start : ByteArray} {m : Nat} {I : Nat → Int} {C : Nat → ByteArray} (h : M.routeOk n NM RL start = true) (h2 : M.batch m I C = true) : M.trans n NM RL start m I C = (M.transN NM RL n start C m : Int) := by
  unfold M.trans; rw [h, h2]; rfl
theorem path_form {w : World} {f : Nat} {L : List ByteArray} {v : Value} (h : SRow w f v L) : ∃ u k, v = .slice u L.length k := by
  obtain ⟨a, c, e, _⟩ := h.form
  exact ⟨a, c, e⟩
set_option maxHeartbeats 2000000 in
set_option maxRecDepth 100000 in
theorem spec_TransitCount (w : World) (a : Option Addr) (n cp : Nat) (NM : Nat → ByteArray) (RL : Nat → List (ByteArray × ByteArray)) (h : Nts w a n NM RL) (hf : NFits n NM RL) (hn : n ≤ 1048576) (hl : ∀ i, i < n → (RL i).length ≤ 1048576) (start : ByteArray) (a2 : Option Addr) (m c2 : Nat) (I : Nat → Int) (C : Nat → ByteArray) (h2 : Lts w a2 m I C) (hf2 : Fits m I C) (hm : m ≤ 1048576) :
    Calls Try.prog 31 #[.slice a n cp, .string start, .slice a2 m c2] w fun e w' => e = .returned (.int .i64 (M.trans n NM RL start m I C)) ∧ Below w.heap.size w w' := by
  have HV := Lib.hid (spec_NetworkValid w a n cp NM RL h hf hn hl)
  have HO := Lib.hid (spec_l6Office w a n cp NM RL h hn start)
  have HBV := Lib.hid (spec_BatchValid w a2 m c2 I C h2 hf2 hm)
  have HL := Lib.hid h
  have HL2 := Lib.hid h2
  have HF := Lib.hid hf
  clear h hf hl h2 hf2
  go_enter Try.func31, Try.ntmps31
  cases hnet : M.net n NM RL
  · have HE := Lib.hid (M.trans_no (m := m) (I := I) (C := C) (Or.inl (M.routeOk_no (start := start) (Or.inl hnet))))
    rw [hnet] at HV
    clear hnet
    go_wp2_with (go_at_call 54; refine HV.out.mono ?_; rintro e w1 ⟨rfl, rfl⟩)
    go_ret
    exact ⟨ret_int HE.out.symm, Below.refl _ _⟩
  rw [hnet] at HV
  have HN := Lib.hid hnet
  have hn8 := (M.net_yes hnet).1.2
  clear hnet
  rcases M.rankC NM start n with ⟨hr, _⟩ | ⟨i, _, _, _, hr⟩
  · have HE := Lib.hid (M.trans_no (n := n) (NM := NM) (RL := RL) (m := m) (I := I) (C := C) (Or.inl (M.routeOk_no (Or.inr hr))))
    rw [hr] at HO
    clear hr
    go_wp2_with (first
      | (go_at_call 54; refine HV.out.mono ?_; rintro e w1 ⟨rfl, rfl⟩)
      | (go_at_call 55; refine HO.out.mono ?_; rintro e w1 ⟨rfl, rfl⟩))
    go_ret
    exact ⟨ret_int HE.out.symm, Below.refl _ _⟩
  have HR := Lib.hid hr
  rw [hr] at HO
  clear hr
  cases hb : M.batch m I C
  · have HE := Lib.hid (M.trans_no (n := n) (NM := NM) (RL := RL) (start := start) (Or.inr hb))
    rw [hb] at HBV
    clear hb
    go_wp2_with (first
      | (go_at_call 54; refine HV.out.mono ?_; rintro e w1 ⟨rfl, rfl⟩)
      | (go_at_call 55; refine HO.out.mono ?_; rintro e w1 ⟨rfl, rfl⟩)
      | (go_at_call 60; refine HBV.out.mono ?_; rintro e w1 ⟨rfl, hbb⟩))
    go_ret
    exact ⟨ret_int HE.out.symm, hbb⟩
  have HE := Lib.hid (M.trans_yes (M.routeOk_yes (RL := RL) HN.out HR.out) hb)
  rw [hb] at HBV
  obtain ⟨hm60, hcd⟩ := M.batch_yes hb
  have HCD := Lib.hid hcd
  clear hb hcd
  go_wp2_with (first
    | (go_at_call 54; refine HV.out.mono ?_; rintro e w1 ⟨rfl, rfl⟩)
    | (go_at_call 55; refine HO.out.mono ?_; rintro e w1 ⟨rfl, rfl⟩)
    | (go_at_call 60; refine HBV.out.mono ?_; rintro e w1 ⟨rfl, hbb⟩))
  have KB := Lib.hid hbb
  clear hbb
  go_loopw [7, 8] (fun s i wr => ∃ (k t : Nat), k ≤ m ∧ i = .int .i64 k ∧ s = .int .i64 t ∧ Hid (M.transN NM RL n start C k = t) ∧ t ≤ 9 * k ∧ Hid (Below w.heap.size w wr)) (fun _ i _ => m - (intOf i).toNat)
  case atStart => exact ⟨0, 0, Nat.zero_le _, rfl, rfl, rfl, Nat.le_refl _, KB⟩
  case round =>
    obtain ⟨k, t, hk, rfl, rfl, ht, htb, hbw⟩ := hrel
    by_cases hlt : k < m
    · obtain ⟨b, o, rfl, c0, c1⟩ := (HL2.out.on hbw.out) k hlt
      have HP := Lib.hid (spec_l6Path wr a n cp NM RL (HL.out.on hbw.out) HF.out HN.out start (C k) (by rw [HR.out]; omega) (M.code_yes (HCD.out k hlt).1).1)
      obtain ⟨hp1, hp2⟩ := M.path_len NM RL n start (C k)
      have HT : Hid (M.transN NM RL n start C (k + 1) = t + ((M.path NM RL n start (C k)).1.length - 1)) := by
        unfold Hid
        show M.transN NM RL n start C k + _ = _
        rw [ht.out]
      obtain ⟨R, hR⟩ : ∃ R, M.path NM RL n start (C k) = R := ⟨_, rfl⟩
      rw [hR] at HP hp1 hp2 HT
      clear hR
      go_wp2_with fail
      refine HP.out.mono ?_
      rintro e w2 ⟨v, rfl, r2, hb2⟩
      obtain ⟨u, q, rfl⟩ := path_form r2
      have K2 := Lib.hid (sstep hbw.out hb2)
      obtain ⟨l, hl⟩ : ∃ l, R.1.length = l + 1 := ⟨R.1.length - 1, by omega⟩
      rw [hl, Nat.add_sub_cancel] at HT
      rw [hl] at hp2
      obtain ⟨z, hz⟩ : ∃ z, R.2 = z := ⟨_, rfl⟩
      rw [hl, hz]
      clear r2 hb2 hl hz hp1 HP
      go_wp2
      go_roundw
      case rel => exact ⟨k + 1, t + l, by omega, by go_num, congrArg (Value.int .i64) (by omega), HT, by omega, K2⟩
      case measure => simp [intOf]; omega
    · obtain rfl : k = m := by omega
      have HT : Hid ((t : Int) = M.trans n NM RL start k I C) := by rw [Hid, HE.out, ht.out]
      go_wp2
      go_ret
      exact ⟨ret_int HT.out, hbw.out⟩
set_option maxHeartbeats 2000000 in
set_option maxRecDepth 100000 in
theorem impl_TransitCount (w : World) (a : Option Addr) (n cp : Nat) (NM : Nat → ByteArray) (RL : Nat → List (ByteArray × ByteArray)) (h : Nts w a n NM RL) (hf : NFits n NM RL) (hn : n ≤ 1048576) (start : ByteArray) (hs : start.size ≤ maxLen) (a2 : Option Addr) (m c2 : Nat) (I : Nat → Int) (C : Nat → ByteArray) (h2 : Lts w a2 m I C) (hf2 : Fits m I C) (hm : m ≤ 1048576) :
    Calls Try.prog 30 #[.slice a n cp, .string start, .slice a2 m c2] w fun e w' => e = .returned (.int .i64 (M.trans n NM RL start m I C)) ∧ Below w.heap.size w w' := by
  have HBV := Lib.hid (fun W (hW : Below w.heap.size w W) => impl_BatchValid W a2 m c2 I C (h2.on hW) hf2)
  have HL2 := Lib.hid h2
  have HF := Lib.hid hf
  clear h2 hf2
  go_enter Try.func30, Try.ntmps30
  cases hnet : M.net n NM RL
  · have HE := Lib.hid (M.trans_no (m := m) (I := I) (C := C) (Or.inl (M.routeOk_no (start := start) (Or.inl hnet))))
    have HV := Lib.hid (impl_tableOf_no w a n cp NM RL h hf hn hnet)
    have hnil := fun W => nil_table W start hs
    clear hnet h hf hs
    go_wp2_with (go_at_call 52; refine HV.out.mono ?_; rintro e w1 ⟨rfl, hb1⟩)
    go_ret
    exact ⟨ret_int HE.out.symm, hb1⟩
  have HV := Lib.hid (impl_tableOf_yes w a n cp NM RL h hf hn hnet)
  have HN := Lib.hid hnet
  have hn8 := (M.net_yes hnet).1.2
  have HS := Lib.hid hs
  clear hnet h hf hs
  go_wp2_with fail
  refine HV.out.mono ?_
  rintro e w1 ⟨g, R, rfl, ht, hb1⟩
  have HT := Lib.hid ht
  have K1 := Lib.hid hb1
  rcases M.rankC NM start n with ⟨hr, hno⟩ | ⟨i, hi, hie, _, hr⟩
  · have HE := Lib.hid (M.trans_no (n := n) (NM := NM) (RL := RL) (m := m) (I := I) (C := C) (Or.inl (M.routeOk_no (Or.inr hr))))
    have hlk := ht.miss hno HS.out
    clear hr hno ht
    go_wp2
    go_ret
    exact ⟨ret_int HE.out.symm, hb1⟩
  have HR := Lib.hid hr
  have hlk := ht.look hi (HF.out i hi).1
  rw [hie] at hlk
  have HB := Lib.hid (HBV.out _ hb1)
  clear hr hie ht hb1 HBV
  cases hb : M.batch m I C
  · have HE := Lib.hid (M.trans_no (n := n) (NM := NM) (RL := RL) (start := start) (Or.inr hb))
    rw [hb] at HB
    clear hb
    go_wp2_with (go_at_call 59; refine HB.out.mono ?_; rintro e w2 ⟨rfl, hbb⟩)
    go_ret
    exact ⟨ret_int HE.out.symm, sstep K1.out hbb⟩
  have HE := Lib.hid (M.trans_yes (M.routeOk_yes (RL := RL) HN.out HR.out) hb)
  rw [hb] at HB
  obtain ⟨hm60, hcd⟩ := M.batch_yes hb
  have HCD := Lib.hid hcd
  clear hb hcd
  go_wp2_with (go_at_call 59; refine HB.out.mono ?_; rintro e w2 ⟨rfl, hbb⟩)
  have KB := Lib.hid (sstep K1.out hbb)
  have HTB := Lib.hid (HT.out.on hbb)
  clear hbb hlk
  go_loopw [8, 26] (fun s i wr => ∃ (k t : Nat), k ≤ m ∧ i = .int .i64 k ∧ s = .int .i64 t ∧ Hid (M.transN NM RL n start C k = t) ∧ t ≤ 9 * k ∧ Hid (Tab wr w.heap.size g n NM RL R) ∧ Hid (Below w.heap.size w wr)) (fun _ i _ => m - (intOf i).toNat)
  case atStart => exact ⟨0, 0, Nat.zero_le _, rfl, rfl, rfl, Nat.le_refl _, HTB, KB⟩
  case round =>
    obtain ⟨k, t, hk, rfl, rfl, ht, htb, htab, hbw⟩ := hrel
    have hz := hbw.out.size
    by_cases hlt : k < m
    · obtain ⟨b, o, rfl, c0, c1⟩ := (HL2.out.on hbw.out) k hlt
      have hbx := below_alloc0 wr (.cells #[.int .i64 (I k), .string (C k)] 58)
      have HP := Lib.hid (impl_route (wr.alloc (.cells #[.int .i64 (I k), .string (C k)] 58)) w.heap.size g n NM RL R (htab.out.on hbx) HF.out HN.out start (C k) (by rw [HR.out]; omega) (M.code_yes (HCD.out k hlt).1).1)
      have KX := Lib.hid (sstep hbw.out hbx)
      have TX := Lib.hid (htab.out.on hbx)
      obtain ⟨hp1, hp2⟩ := M.path_len NM RL n start (C k)
      have HTN : Hid (M.transN NM RL n start C (k + 1) = t + ((M.path NM RL n start (C k)).1.length - 1)) := by
        unfold Hid
        show M.transN NM RL n start C k + _ = _
        rw [ht.out]
      obtain ⟨R2, hR⟩ : ∃ R2, M.path NM RL n start (C k) = R2 := ⟨_, rfl⟩
      rw [hR] at HP hp1 hp2 HTN
      clear hR hbx
      go_wp2_with fail
      refine HP.out.mono ?_
      rintro e w2 ⟨v, rfl, r2, hb2⟩
      obtain ⟨u, q, rfl⟩ := path_form r2
      have K2 := Lib.hid (sstep KX.out hb2)
      have T2 := Lib.hid (TX.out.on hb2)
      obtain ⟨l, hl⟩ : ∃ l, R2.1.length = l + 1 := ⟨R2.1.length - 1, by omega⟩
      rw [hl, Nat.add_sub_cancel] at HTN
      rw [hl] at hp2
      obtain ⟨z, hzz⟩ : ∃ z, R2.2 = z := ⟨_, rfl⟩
      rw [hl, hzz]
      clear r2 hb2 hl hzz hp1 HP
      go_wp2
      go_roundw
      case rel => exact ⟨k + 1, t + l, by omega, by go_num, congrArg (Value.int .i64) (by omega), HTN, by omega, T2, K2⟩
      case measure => simp [intOf]; omega
    · obtain rfl : k = m := by omega
      have HTT : Hid ((t : Int) = M.trans n NM RL start k I C) := by rw [Hid, HE.out, ht.out]
      go_wp2
      go_ret
      exact ⟨ret_int HTT.out, hbw.out⟩
end Go.Proofs.Ytabmbbnfpfkcaaa

/-
  Drawn networks with letters; a batch in two parts; rules to be added.
-/
namespace Go.Proofs.Ytabmbbnfpfkcaaa
open Go.RowKit
open Go.PlainAid (bt get_bt bt_nonneg bt_le)
set_option linter.unusedVariables false

theorem IsRow.low {k : IntKind} {w w' : World} {a : Option Addr} {l c : Nat} {z : List Int} (h : IsRow k w a l c z) (hb : Below w.heap.size w w') : IsRow k w' a l c z := by
  rcases h with h | ⟨x, hx, q1, q2, q3, q4, q5⟩
  · exact Or.inl h
  · exact Or.inr ⟨x, hx, q1, q2, q3, fun i hi => (hb.cell (p := x.add i) (World.block_lt_of_cell? _ _ (q4 i hi))).trans (q4 i hi), q5⟩
theorem NetR.only {w w' : World} {base : Nat} {v : Value} {K : List (ByteArray × Value)} {RL : Nat → List (ByteArray × ByteArray)} {S : Nat → Prop} (h : NetR w base v K RL) (ho : Only w w' S) (hv : ∀ b, v.ownBlock = some b → ¬ S b) (hin : ∀ i (h : i < K.length), ∀ b, K[i].2.ownBlock = some b → ¬ S b) : NetR w' base v K RL :=
  ⟨ownsRow_block h.row fun g hg => ho.block g (h.lt g hg).2 (hv g hg), fun i hi => ⟨(h.inn i hi).1.only ho (hin i hi), (h.inn i hi).2⟩⟩
theorem lets_cut (w : World) (a : Option Addr) (n c k : Nat) (L : List (Int × ByteArray)) (hL : L.length = n) (hc : n ≤ c) (hk : k ≤ n) (hnil : a = none → n = 0 ∧ c = 0) (h : Lts w a n (nI L) (nC L)) :
    ∃ a', (∀ W, (Instr.slice 53 (.slice a n c) none (some (.int .i64 (k : Int))) none).run Try.prog W = .ok (.slice a k c) W) ∧ (∀ W, (Instr.slice 53 (.slice a n c) (some (.int .i64 (k : Int))) none none).run Try.prog W = .ok (.slice a' (n - k) (c - k)) W) ∧
      Lts w a k (nI (L.take k)) (nC (L.take k)) ∧ Lts w a' (n - k) (nI (L.drop k)) (nC (L.drop k)) := by
  have he : Try.prog.underlying 53 = some (.slice (Try.prog.elem 53)) := by kernel_rfl
  have hz : ∀ w, (sizeOf (Try.prog.elem 53)).run Try.prog w = .ok 2 w := fun w => by kernel_rfl
  have ht : ∀ i, i < k → nI L i = nI (L.take k) i ∧ nC L i = nC (L.take k) i := fun i hi => by
    unfold nI nC
    simp [List.getD, hi]
  have hd : ∀ i, nI (L.drop k) i = nI L (k + i) ∧ nC (L.drop k) i = nC L (k + i) := fun i => by
    unfold nI nC
    simp [List.getD]
  have h1 : Lts w a k (nI (L.take k)) (nC (L.take k)) := Lts.congr (fun i hi => h i (by omega)) ht
  cases a with
  | none =>
    obtain ⟨rfl, rfl⟩ := hnil rfl
    obtain rfl : k = 0 := by omega
    refine ⟨none, fun W => ?_, fun W => ?_, h1, fun i hi => absurd hi (by omega)⟩
    · rw [run_slice_h W _ _ _ _ he .i64 ((0 : Nat) : Int) (by omega) (by omega), hz]
      simp [sliced, Result.andThen]
    · rw [run_slice_l W _ _ _ _ he .i64 ((0 : Nat) : Int) (by omega) (by omega), hz]
      simp [sliced, Result.andThen]
  | some p =>
    have hb : ∃ b o, p = ⟨b, o, none⟩ ∨ n = 0 := by
      by_cases h0 : n = 0
      · exact ⟨0, 0, Or.inr h0⟩
      · obtain ⟨b, o, e, _⟩ := h 0 (by omega)
        exact ⟨b, o, Or.inl (Option.some.inj e)⟩
    have hkn : ((k : Int)).toNat = k := by omega
    by_cases hck : c = k
    · refine ⟨some p, fun W => ?_, fun W => ?_, h1, fun i hi => absurd hi (by omega)⟩
      · rw [run_slice_h W _ _ _ _ he .i64 (k : Int) (by omega) (by omega), hz]
        simp [sliced, Result.andThen, Addr.add]
      · rw [run_slice_l W _ _ _ _ he .i64 (k : Int) (by omega) (by omega), hz]
        simp [sliced, Result.andThen, hck]
    · obtain ⟨b, o, hb⟩ := hb
      rcases hb with rfl | h0
      · refine ⟨some ⟨b, o + k * 2, none⟩, fun W => ?_, fun W => ?_, h1, fun i hi => ?_⟩
        · rw [run_slice_h W _ _ _ _ he .i64 (k : Int) (by omega) (by omega), hz]
          simp [sliced, Result.andThen, Addr.add]
        · rw [run_slice_l W _ _ _ _ he .i64 (k : Int) (by omega) (by omega), hz]
          simp [sliced, Result.andThen, Addr.add, hck]
        · obtain ⟨b', o', e, c0, c1⟩ := h (k + i) (by omega)
          cases e
          rw [(hd i).1, (hd i).2]
          refine ⟨b, o + k * 2, rfl, ?_, ?_⟩
          · rw [show o + k * 2 + i * 2 = o + (k + i) * 2 by omega]; exact c0
          · rw [show o + k * 2 + i * 2 + 1 = o + (k + i) * 2 + 1 by omega]; exact c1
      · subst h0
        obtain rfl : k = 0 := by omega
        refine ⟨some p, fun W => ?_, fun W => ?_, h1, fun i hi => absurd hi (by omega)⟩
        · rw [run_slice_h W _ _ _ _ he .i64 ((0 : Nat) : Int) (by omega) (by omega), hz]
          simp [sliced, Result.andThen, Addr.add]
        · rw [run_slice_l W _ _ _ _ he .i64 ((0 : Nat) : Int) (by omega) (by omega), hz]
          cases p
          simp [sliced, Result.andThen, Addr.add]
def NtsLets (w : World) (e : Ending) (w' : World) : Prop := ∃ (v : Value) (s : ByteArray) (u : Value) (M : List (Int × ByteArray)) (B : Nat), e = .returned (.tuple #[v, .string s, u]) ∧ s.size ≤ 30 ∧ NtsOut w w' v ∧ Row w' B u M ∧ M.length ≤ 61 ∧ Small 30 M ∧ Below w.heap.size w w'
set_option maxHeartbeats 4000000 in
theorem DrawTransitCount_any (a : Option Addr) (l k : Nat) (z : List Int) (w : World) (h : IsRow .u8 w a l k z) :
    Calls Try.prog 29 #[.slice a l k] w (NtsLets w) := by
  have HZ := Lib.hid h
  go_enter Try.func29, Try.ntmps29
  go_wp2_with fail
  refine (open_any a l k z w h).mono ?_
  rintro e w1 ⟨r, rfl, rd1, b1, hwr⟩
  have hr1 := rd1.lt
  have B1 := Lib.hid b1
  have RD1 := Lib.hid rd1
  have HZ1 := Lib.hid (HZ.out.low b1)
  clear b1 rd1 h HZ
  go_wp2_with fail
  refine (DrawRoutePath_row a l k z w1 HZ1.out).mono ?_
  rintro e w2 ⟨v, s, t, K, RL, B, rfl, hs, ht, nr2, hB, k8, sm2, b2⟩
  have NR2 := Lib.hid nr2
  have SM2 := Lib.hid sm2
  have RD2 := Lib.hid (RD1.out.below b2)
  have B2 := Lib.hid (B1.out.trans (b2.mono (by omega)))
  have hz2 := b2.size
  have HVB : Hid (∀ b, v.ownBlock = some b → r < b ∧ b < w2.heap.size) := fun b e => by have := nr2.lt b e; omega
  have HIN : Hid (∀ i (h : i < K.length), ∀ b, K[i].2.ownBlock = some b → r < b ∧ b < w2.heap.size) := fun i h b e => by have := (nr2.inn i h).1.lt b e; omega
  clear nr2 sm2 b2 HZ1 B1 RD1
  go_wp2_with fail
  refine (l2Some_any w2 r _ 1 RD2.out (by omega) (by omega) (by omega)).mono ?_
  rintro e w3 ⟨u, L, rfl, R3, l3, S3, sg3⟩
  have NR3 := Lib.hid (NR2.out.sg sg3 (by omega))
  have R3 := Lib.hid R3
  have SG3 := Lib.hid sg3
  have hz3 := sg3.2.size
  have S3 := Lib.hid S3
  clear sg3 NR2 RD2
  obtain ⟨a9, c9, hu, hc9, _⟩ := R3.out.form
  subst hu
  go_wp2
  go_loopw [10] (fun vi wr => ∃ (i : Nat) (L' : List (Int × ByteArray)), i ≤ L.length ∧ vi = .int .i64 i ∧ Hid (L'.length = L.length) ∧ Hid (Small 7 L') ∧ Hid (Row wr w2.heap.size (.slice a9 L.length c9) L') ∧ Hid (NetR wr B v K RL) ∧ Hid (Sg w2 wr r (200 + 3 * i)) ∧ w2.heap.size ≤ wr.heap.size) (fun vi _ => L.length - (intOf vi).toNat)
  case atStart => exact ⟨0, L, Nat.zero_le _, rfl, rfl, S3, R3, NR3, SG3.out.mono (by omega) (by omega), hz3⟩
  case round =>
    obtain ⟨i, L', hi, rfl, hln, hsm, hrow, hnr, hsg, hbs⟩ := hrel
    have hln2 := hln.out
    have hil0 : L'.length ≤ 14 := by omega
    by_cases hlt : i < L.length
    · have hlti : (i : Int) < (L.length : Int) := by omega
      have hil : i < L'.length := by omega
      have hag : ∃ g, a9 = some ⟨g, 0, none⟩ ∧ w2.heap.size ≤ g := by
        rcases hrow.out.2 with ⟨e, hn⟩ | ⟨g, cap, cur, e, hb, _⟩
        · omega
        · injection e with e1
          exact ⟨g, e1, hb⟩
      obtain ⟨g, rfl, hgw⟩ := hag
      have HLN := Lib.hid hln2
      clear hln2 hln
      go_wp2_with fail
      refine (l6Head_sg _ _ r _ (Sg.start hsg.out.1) (by omega)).mono ?_
      rintro e w4 ⟨s4, rfl, s40, s41, sg4⟩
      have hrow4 : Row w4 w2.heap.size (.slice (some ⟨g, 0, none⟩) L'.length c9) L' := by rw [HLN.out]; exact hrow.out.sg sg4 (by omega)
      obtain ⟨d0, d1, f0, f1⟩ := hrow4.cells i hil
      have hst := hrow4.code i hil s4
      have R5 : Hid (Row (w4.setCell ⟨g, i * 2 + 1, none⟩ (.string s4)) w2.heap.size (.slice (some ⟨g, 0, none⟩) L.length c9) (L'.set i (L'[i].1, s4))) := by rw [Hid, ← HLN.out]; exact hst.1
      have NR5 := Lib.hid ((hnr.out.sg sg4 (by omega)).only (Only.of_grown hst.2) (fun b e hb => by have h1 := HVB.out b e; injection hb with hb; omega) (fun i h b e hb => by have h1 := HIN.out i h b e; injection hb with hb; omega))
      have SG5 := Lib.hid ((hsg.out.trans sg4).put ⟨g, i * 2 + 1, none⟩ (.string s4) (show r < g by omega) (show w2.heap.size ≤ g by omega))
      have LN5 : Hid ((L'.set i (L'[i].1, s4)).length = L.length) := by rw [Hid, List.length_set]; exact HLN.out
      have SM5 := Lib.hid (hsm.out.set i (L'[i].1, s4) (Nat.le_refl 7) ⟨(hsm.out.at i hil).1, s41⟩)
      have hgl4 : g < w4.heap.size := (hrow4.lt g rfl).2
      have hbs4 : w2.heap.size ≤ w4.heap.size := by omega
      generalize L'[i] = P at d0 d1 R5 LN5 SM5
      clear hst hrow4 sg4 hrow hnr hsg hsm
      go_wp2
      go_roundw
      case rel => exact ⟨i + 1, _, by omega, by go_num, LN5, SM5, R5, NR5, SG5.out.mono (by omega) (by omega), by simpa using hbs4⟩
      case measure => simp [intOf]; omega
    · have hlti : ¬ (i : Int) < (L.length : Int) := by omega
      have HLN := Lib.hid hln2
      have HRB : Hid (∀ b, (Value.slice a9 L.length c9).ownBlock = some b → w2.heap.size ≤ b) := fun b e => (hrow.out.lt b e).1
      clear hln2 hln
      go_wp2_with fail
      refine (l2Bad_only _ r _ w2.heap.size _ L' hsg.out.1 (by omega) hrow.out (by omega) (by omega) hsm.out).mono ?_
      rintro e w5 ⟨v', Z, rfl, R5, l5, S5, rd5, on5, ho5⟩
      have NR5 := Lib.hid (hnr.out.only on5 (fun b e hb => by
        have h1 := HVB.out b e
        rcases hb with hb | hb
        · omega
        · have := HRB.out b hb; omega) (fun i h b e hb => by
        have h1 := HIN.out i h b e
        rcases hb with hb | hb
        · omega
        · have := HRB.out b hb; omega))
      have B5 := Lib.hid ((B2.out.trans ((hsg.out.below_r (by omega)).mono hwr)).trans ((on5.below (B := r) (fun k hk _ hb => by
        rcases hb with hb | hb
        · omega
        · have := HRB.out k hb; omega) (by omega)).mono hwr))
      have R5 := Lib.hid R5
      have S5 := Lib.hid S5
      clear rd5 on5 ho5 hrow hnr hsg
      go_wp2
      go_ret3
      exact ⟨_, _, _, Z, w2.heap.size, rfl, hs, nts_of NR5.out k8 SM2.out B5.out, R5.out, l5, S5.out, B5.out⟩
theorem M.batch_pre {n : Nat} {I : Nat → Int} {C : Nat → ByteArray} (h : M.batch n I C = true) {m d : Nat} {I' : Nat → Int} {C' : Nat → ByteArray} (hm : m + d ≤ n) (he : ∀ i, i < m → I' i = I (d + i) ∧ C' i = C (d + i)) : M.batch m I' C' = true := by
  obtain ⟨h60, hg⟩ := M.batch_yes h
  cases hb : M.batch m I' C'
  · exfalso
    have hgo : M.goodTo I' C' m = true := by
      refine (M.goodTo_iff I' C' m).2 fun i hi => ?_
      obtain ⟨e1, e2⟩ := he i hi
      obtain ⟨g1, g2, g3⟩ := hg (d + i) (by omega)
      refine ⟨by rw [e2]; exact g1, by rw [e1]; exact g2, fun k hk => ?_⟩
      rw [e1, (he k (by omega)).1]
      exact g3 (d + k) (by omega)
    rw [M.batch_end hgo, decide_eq_false_iff_not] at hb
    omega
  · rfl
theorem M.transN_shift {NM : Nat → ByteArray} {RL : Nat → List (ByteArray × ByteArray)} {n : Nat} {start : ByteArray} {C C' : Nat → ByteArray} {d : Nat} : ∀ {m : Nat}, (∀ i, i < m → C' i = C (d + i)) → M.transN NM RL n start C d + M.transN NM RL n start C' m = M.transN NM RL n start C (d + m)
  | 0, _ => rfl
  | m + 1, h => by
    have ih := M.transN_shift (NM := NM) (RL := RL) (n := n) (start := start) (m := m) fun i hi => h i (by omega)
    show M.transN NM RL n start C d + (M.transN NM RL n start C' m + ((M.path NM RL n start (C' m)).1.length - 1)) = M.transN NM RL n start C (d + m) + ((M.path NM RL n start (C (d + m))).1.length - 1)
    rw [h m (by omega)]
    omega
theorem M.transN_le2 {NM : Nat → ByteArray} {RL : Nat → List (ByteArray × ByteArray)} {n : Nat} {start : ByteArray} {C : Nat → ByteArray} (ho : M.routeOk n NM RL start = true) : ∀ {m : Nat}, (∀ i, i < m → M.code (C i) = true) → M.transN NM RL n start C m ≤ m * n
  | 0, _ => Nat.zero_le _
  | m + 1, h => by
    have ih := M.transN_le2 (NM := NM) (RL := RL) ho (m := m) fun i hi => h i (by omega)
    have hl := (M.route_law ho (h m (by omega))).2.2.1
    rw [M.routeP_yes ho (h m (by omega))] at hl
    show M.transN NM RL n start C m + ((M.path NM RL n start (C m)).1.length - 1) ≤ (m + 1) * n
    rw [Nat.succ_mul]
    omega
theorem M.trans_one {n : Nat} {NM : Nat → ByteArray} {RL : Nat → List (ByteArray × ByteArray)} {start : ByteArray} {m : Nat} {I : Nat → Int} {C : Nat → ByteArray} {N : Nat} (h : M.routeOk n NM RL start = true) (h2 : M.batch m I C = true) (hN : M.trans n NM RL start m I C = (N : Int)) : M.transN NM RL n start C m = N := by
  rw [M.trans_yes h h2] at hN
  exact Int.ofNat.inj hN
theorem M.trans_law {n : Nat} {NM : Nat → ByteArray} {RL : Nat → List (ByteArray × ByteArray)} {start : ByteArray} {L : List (Int × ByteArray)} (ho : M.routeOk n NM RL start = true) (hb : M.batch L.length (nI L) (nC L) = true) (hn : n ≤ 8) :
    ∃ N : Nat, M.trans n NM RL start L.length (nI L) (nC L) = (N : Int) ∧ N ≤ L.length * n ∧
    (∀ i, i < L.length → 1 ≤ (M.routeP n NM RL start (nC L i)).1.length ∧ (M.routeP n NM RL start (nC L i)).1.length ≤ 9 ∧ M.code (nC L i) = true ∧ M.transN NM RL n start (nC L) (i + 1) = M.transN NM RL n start (nC L) i + ((M.routeP n NM RL start (nC L i)).1.length - 1) ∧ M.transN NM RL n start (nC L) i ≤ 9 * 61) ∧
    ∀ q, q ≤ L.length → ∃ T1 T2 : Nat, M.trans n NM RL start q (nI (L.take q)) (nC (L.take q)) = (T1 : Int) ∧ M.trans n NM RL start (L.length - q) (nI (L.drop q)) (nC (L.drop q)) = (T2 : Int) ∧ T1 + T2 = N ∧ Fits q (nI (L.take q)) (nC (L.take q)) ∧ Fits (L.length - q) (nI (L.drop q)) (nC (L.drop q)) := by
  obtain ⟨h60, hg⟩ := M.batch_yes hb
  refine ⟨_, M.trans_yes ho hb, M.transN_le2 ho fun i hi => (hg i hi).1, fun i hi => ?_, fun q hq => ?_⟩
  · have hc := (hg i hi).1
    have hl := M.route_law ho hc
    refine ⟨hl.2.1, by have := hl.2.2.1; omega, hc, by rw [M.routeP_yes ho hc]; rfl, ?_⟩
    have := M.transN_le NM RL hn start (nC L) i
    omega
  · have ht : ∀ i, i < q → nI (L.take q) i = nI L (0 + i) ∧ nC (L.take q) i = nC L (0 + i) := fun i hi => by
      rw [Nat.zero_add]
      unfold nI nC
      simp [List.getD, hi]
    have hd : ∀ i, i < L.length - q → nI (L.drop q) i = nI L (q + i) ∧ nC (L.drop q) i = nC L (q + i) := fun i _ => by
      unfold nI nC
      simp [List.getD]
    have b1 := M.batch_pre hb (m := q) (d := 0) (by omega) ht
    have b2 := M.batch_pre hb (m := L.length - q) (d := q) (by omega) hd
    refine ⟨_, _, M.trans_yes ho b1, M.trans_yes ho b2, ?_, fun i hi => ?_, fun i hi => ?_⟩
    · have h1 := M.transN_shift (NM := NM) (RL := RL) (n := n) (start := start) (C := nC L) (C' := nC (L.take q)) (d := 0) (m := q) fun i hi => (ht i hi).2
      have h2 := M.transN_shift (NM := NM) (RL := RL) (n := n) (start := start) (C := nC L) (C' := nC (L.drop q)) (d := q) (m := L.length - q) fun i hi => (hd i hi).2
      rw [Nat.zero_add] at h1
      have h0 : M.transN NM RL n start (nC L) 0 = 0 := rfl
      rw [show q + (L.length - q) = L.length by omega] at h2
      omega
    · obtain ⟨g1, g2, _⟩ := (M.batch_yes b1).2 i hi
      have := (M.code_yes g1).2
      exact ⟨by omega, by unfold maxLen; omega⟩
    · obtain ⟨g1, g2, _⟩ := (M.batch_yes b2).2 i hi
      have := (M.code_yes g1).2
      exact ⟨by omega, by unfold maxLen; omega⟩
theorem Below.on2 {w a b : World} (h : Below w.heap.size w a) (k : Below a.heap.size a b) : Below w.heap.size w b := sstep h k
end Go.Proofs.Ytabmbbnfpfkcaaa
