/-
  Where a letter stands; whether two batches have the same letters in any order.
-/
import Derived.Test.YtbcoklognedffaaFind
import Derived.Test.YtbcoklognedffaaSo
import Derived.Test.YtbcoklognedffaaPermM
import Derived.BigQuiet
import Derived.Test.YtbcoklognedffaaRadN
import Derived.Test.YtbcoklognedffaaRun
import Derived.Deep.RegionHeld3
namespace Go.Proofs.Ytbcoklognedffaa
open Go.RowKit
set_option linter.unusedVariables false

set_option maxHeartbeats 400000 in
theorem soPlace_any (w : World) (a : Option Addr) (n c : Nat) (I : Nat → Int) (C : Nat → ByteArray) (h : Lts w a n I C) (hf : Fits n I C) (x : Int) :
    Calls Try.prog 18 #[.slice a n c, .int .i64 x] w fun e w' => e = .returned (.int .i64 (M.findLetter n I C x)) ∧ Below w.heap.size w w' := by
  have HL := Lib.hid h
  clear h
  go_enter Try.func18, Try.ntmps18
  go_wp2_with fail
  refine (impl_FindLetter _ a n c I C HL.out hf x).mono ?_
  rintro e w1 ⟨rfl, k1⟩
  go_wp2
  go_ret
  exact ⟨rfl, k1⟩
/-- Where a letter of a batch stands. -/
theorem find_at {L : List (Int × ByteArray)} (h : BatchL L) {k : Nat} (hk : k < L.length) : M.findLetter L.length (nI L) (nC L) (nI L k) = (k : Int) := by
  rw [M.findLetter_yes ((batchL_list L).2 h)]
  refine M.find_hit hk rfl fun j hj e => ?_
  have hd := (List.pairwise_map.1 h.2.1)
  have := List.pairwise_iff_getElem.1 hd j k (by omega) hk hj
  rw [nI_at (by omega), nI_at hk] at e
  exact this e
set_option maxHeartbeats 2000000 in
theorem soAll_perm (w : World) (a a' : Option Addr) (c c' : Nat) (A B : List (Int × ByteArray)) (h : Lts w a A.length (nI A) (nC A)) (h' : Lts w a' B.length (nI B) (nC B)) (hB : BatchL B) (hp : A.Perm B) :
    Calls Try.prog 24 #[.slice a A.length c, .slice a' B.length c'] w fun e w' => e = .returned (.bool true) ∧ Below w.heap.size w w' := by
  have HL := Lib.hid h
  have HL' := Lib.hid h'
  have HF := Lib.hid hB.fits
  have hn := hB.2.2
  have hl := hp.length_eq
  have HQ : Hid (∀ i, i < A.length → ∃ k, k < B.length ∧ nI B k = nI A i ∧ nC B k = nC A i ∧ M.findLetter B.length (nI B) (nC B) (nI A i) = (k : Int)) := fun i hi => by
    have hm : A[i] ∈ B := hp.mem_iff.1 (List.getElem_mem hi)
    obtain ⟨k, hk, he⟩ := List.getElem_of_mem hm
    have e1 : nI B k = nI A i := by rw [nI_at hk, nI_at hi, he]
    exact ⟨k, hk, e1, by rw [nC_at hk, nC_at hi, he], by rw [← e1]; exact find_at hB hk⟩
  have hnA : A.length ≤ 60 := by omega
  have HLE := Lib.hid hl
  clear h h' hp hB hl
  go_enter Try.func24, Try.ntmps24
  go_wp2
  go_loopw [5] (fun i wr => ∃ j : Nat, j ≤ A.length ∧ i = .int .i64 j ∧ Hid (Below w.heap.size w wr)) (fun i _ => A.length - (intOf i).toNat)
  case atStart => exact ⟨0, Nat.zero_le _, rfl, Below.refl _ _⟩
  case round =>
    obtain ⟨j, hj, rfl, hb⟩ := hrel
    by_cases hlt : j < A.length
    · have hji : (j : Int) < (A.length : Int) := by omega
      have hj0 : (0 : Int) ≤ (j : Int) := by omega
      obtain ⟨k, hk, e1, e2, e3⟩ := HQ.out j hlt
      have E3 := Lib.hid e3
      have hki : (k : Int) < (B.length : Int) := by omega
      have hk0 : ¬ (k : Int) < 0 := by omega
      have hk1 : (0 : Int) ≤ (k : Int) := by omega
      have LA := HL.out.on hb.out
      have LB := HL'.out.on hb.out
      obtain ⟨b, o, ha, c0, c1⟩ := LA j hlt
      obtain ⟨b', o', ha', c0', c1'⟩ := LB k hk
      subst ha ha'
      have HLB := Lib.hid LB
      have HD : Hid ((wr.cell? ⟨b, o + j * 2, none⟩ = some (.int .i64 (nI A j)) ∧ wr.cell? ⟨b, o + j * 2 + 1, none⟩ = some (.string (nC A j))) ∧ wr.cell? ⟨b', o' + k * 2, none⟩ = some (.int .i64 (nI A j)) ∧ wr.cell? ⟨b', o' + k * 2 + 1, none⟩ = some (.string (nC A j))) := ⟨⟨c0, c1⟩, by rw [← e1]; exact c0', by rw [← e2]; exact c1'⟩
      have hlb : Hid (b < wr.heap.size ∧ b' < wr.heap.size) := ⟨World.block_lt_of_cell? _ _ c0, World.block_lt_of_cell? _ _ c0'⟩
      clear LA LB c0' c1' e1 e2 e3
      go_wp2_with fail
      refine (soPlace_any wr _ B.length c' (nI B) (nC B) HLB.out HF.out _).mono ?_
      rw [E3.out]
      rintro e w1 ⟨rfl, k1⟩
      have B1 := Lib.hid (sstep hb.out k1)
      have hkc : ∀ (q : Addr) (v : Value), q.block < wr.heap.size → wr.cell? q = some v → w1.cell? q = some v := fun q v hq hv => by rw [k1.cell (p := q) hq]; exact hv
      obtain ⟨⟨f0, f1⟩, f2, f3⟩ := HD.out
      have g0 := hkc _ _ hlb.out.1 f0
      have g1 := hkc _ _ hlb.out.1 f1
      have g2 := hkc _ _ hlb.out.2 f2
      have g3 := hkc _ _ hlb.out.2 f3
      clear f0 f1 f2 f3 c0 c1 k1 hkc HLB
      go_wp2
      go_quiet (fail)
      go_wp2
      go_roundw
      case rel => exact ⟨j + 1, by omega, by go_num, ⟨B1.out.os, B1.out.tape, B1.out.output, B1.out.size, B1.out.block⟩⟩
      case measure => simp [intOf]; omega
    · obtain rfl : j = A.length := by omega
      have he := HLE.out
      have heb : ((A.length : Int) == (B.length : Int)) = true := by rw [beq_iff_eq]; omega
      clear he
      go_wp2
      go_ret
      exact ⟨rfl, hb.out⟩
end Go.Proofs.Ytbcoklognedffaa

/-
  Letters of the same point stay in the order in which they were; the round of a plan by the law's own call.
-/
namespace Go.Proofs.Ytbcoklognedffaa
open Go.RowKit
set_option linter.unusedVariables false

theorem two_sub {α : Type} {x y : α} : ∀ {L : List α}, [x, y].Sublist L → ∃ k1 k2, k1 < k2 ∧ ∃ (h1 : k1 < L.length) (h2 : k2 < L.length), L[k1] = x ∧ L[k2] = y
  | [], h => by simp at h
  | z :: L, h => by
    rcases List.sublist_cons_iff.1 h with h | ⟨t, e, h⟩
    · obtain ⟨k1, k2, hk, h1, h2, e1, e2⟩ := two_sub h
      exact ⟨k1 + 1, k2 + 1, by omega, by simpa using h1, by simpa using h2, by simpa using e1, by simpa using e2⟩
    · injection e with e1 e2
      subst e1 e2
      obtain ⟨k, hk, he⟩ := List.getElem_of_mem (h.subset List.mem_cons_self)
      exact ⟨0, k + 1, by omega, by simp, by simpa using hk, by simp, by simpa using he⟩
theorem next_sub {α : Type} {L : List α} {i : Nat} (hi : i + 1 < L.length) : [L[i], L[i + 1]].Sublist L := by
  have e1 : L.drop i = L[i] :: L.drop (i + 1) := (List.getElem_cons_drop (by omega)).symm
  have e2 : L.drop (i + 1) = L[i + 1] :: L.drop (i + 1 + 1) := (List.getElem_cons_drop hi).symm
  have h : [L[i], L[i + 1]].Sublist (L.drop i) := by
    rw [e1, e2]
    exact ((List.nil_sublist _).cons_cons _).cons_cons _
  exact h.trans (List.drop_sublist _ _)
/-- Two letters side by side with the same code stand in the batch in the same order. -/
theorem srt_stable {n : Nat} {S : Nat → ByteArray} {L : List (Int × ByteArray)} (hb : BatchL L) {i : Nat} (hi : i + 1 < (srt n S L).length) (hc : nC (srt n S L) (i + 1) = nC (srt n S L) i) :
    ∃ k1 k2 : Nat, k1 < k2 ∧ k2 < L.length ∧ M.findLetter L.length (nI L) (nC L) (nI (srt n S L) i) = (k1 : Int) ∧ M.findLetter L.length (nI L) (nC L) (nI (srt n S L) (i + 1)) = (k2 : Int) := by
  rw [nC_at hi, nC_at (by omega)] at hc
  have h1 := next_sub hi
  have hr := (srt_asc n S L).2
  have r1 := hr _ (List.getElem_mem (show i < (srt n S L).length by omega))
  have r2 := hr _ (List.getElem_mem hi)
  have hv : rkN n S (srt n S L)[i + 1] = rkN n S (srt n S L)[i] := by unfold rkN; rw [hc]
  have h2 := h1.filter fun y => hasR n S y && rkN n S y == rkN n S (srt n S L)[i]
  rw [srt_bucket] at h2
  have h3 : ([(srt n S L)[i], (srt n S L)[i + 1]].filter fun y => hasR n S y && rkN n S y == rkN n S (srt n S L)[i]) = [(srt n S L)[i], (srt n S L)[i + 1]] := by
    rw [List.filter_eq_self]
    intro y hy
    rcases List.mem_cons.1 hy with rfl | hy
    · rw [r1]; simp
    · rw [List.mem_singleton.1 hy, r2, hv]; simp
  rw [h3] at h2
  obtain ⟨k1, k2, hk, l1, l2, e1, e2⟩ := two_sub (h2.trans List.filter_sublist)
  refine ⟨k1, k2, hk, l2, ?_, ?_⟩
  · rw [← find_at hb l1, nI_at l1, e1, nI_at (by omega)]
  · rw [← find_at hb l2, nI_at l2, e2, nI_at hi]
set_option maxHeartbeats 1000000 in
theorem soRun_any (w : World) (b p : Int) (a : Option Addr) (n c : Nat) (S : Nat → ByteArray) (h : Strs w a n S) (hf : SFits n S) (hn : n ≤ 1048576) (a2 : Option Addr) (m c2 : Nat) (I : Nat → Int) (C : Nat → ByteArray) (h2 : Lts w a2 m I C) (hf2 : Fits m I C) (hm : m ≤ 1048576) :
    Calls Try.prog 25 #[.agg #[.int .i64 b, .int .i64 p, .slice a n c], .slice a2 m c2] w fun e w' => ∃ v, e = .returned v ∧ Row w' w.heap.size v (runList b p n S m I C) ∧ Below w.heap.size w w' := by
  have b0 := below_alloc0 w (.cells #[.int .i64 b, .int .i64 p, .slice a n c] 25)
  have HS := Lib.hid (h.on b0)
  have HL := Lib.hid (h2.on b0)
  have X := Lib.hid (tri_made w (.int .i64 b) (.int .i64 p) (.slice a n c) 25)
  have HB := Lib.hid b0
  obtain ⟨W, hW⟩ : ∃ W, w.alloc (.cells #[.int .i64 b, .int .i64 p, .slice a n c] 25) = W := ⟨_, rfl⟩
  rw [hW] at HS HL X HB
  have HW := Lib.hid hW
  have hz : Hid (W.heap.size = w.heap.size + 1) := by rw [← hW]; simp [Hid]
  clear h h2 b0 hW
  obtain ⟨⟨d0, d1, d2⟩, g0, g1, g2⟩ := X.out
  go_enter Try.func25, Try.ntmps25
  go_wp2_with fail
  rw [HW.out]
  refine (impl_RunPlan W b p a n c S HS.out hf hn a2 m c2 I C HL.out hf2 hm).mono ?_
  rintro e w1 ⟨p1, p2, rfl, r1, r2, _, k1⟩
  have R1 := Lib.hid (r1.lower (base' := w.heap.size) (by have := hz.out; omega))
  have K1 := Lib.hid (sstep HB.out k1)
  clear r1 r2 k1 d0 d1 d2 g0 g1 g2
  go_wp2
  go_ret
  exact ⟨_, rfl, R1.out, K1.out⟩
end Go.Proofs.Ytbcoklognedffaa

/-
  Whether two lists of letters are equal, whatever they are.
-/
namespace Go.Proofs.Ytbcoklognedffaa
open Go.RowKit
set_option linter.unusedVariables false

theorem lst_same {n : Nat} {I I' : Nat → Int} {C C' : Nat → ByteArray} : M.lst I C n = M.lst I' C' n ↔ ∀ k, k < n → I k = I' k ∧ C k = C' k := by
  constructor
  · intro h k hk
    have h1 : (M.lst I C n)[k]? = (M.lst I' C' n)[k]? := by rw [h]
    unfold M.lst at h1
    simp only [List.getElem?_map, List.getElem?_range hk, Option.map_some] at h1
    injection h1 with h1
    exact ⟨congrArg Prod.fst h1, congrArg Prod.snd h1⟩
  · intro h
    unfold M.lst
    exact List.map_congr_left fun k hk => by rw [(h k (List.mem_range.1 hk)).1, (h k (List.mem_range.1 hk)).2]
theorem toList_inj {s s' : ByteArray} (h : s.toList = s'.toList) : s = s' := by
  rw [Lib.toList_data, Lib.toList_data] at h
  exact ByteArray.ext (Array.toList_inj.1 h)
set_option maxHeartbeats 1000000 in
theorem soBatch_any (w : World) (a a' : Option Addr) (n n' c c' : Nat) (I I' : Nat → Int) (C C' : Nat → ByteArray) (h : Lts w a n I C) (h' : Lts w a' n' I' C') (hn : n ≤ 1048576) :
    Calls Try.prog 15 #[.slice a n c, .slice a' n' c'] w fun e w' => e = .returned (.bool (decide (M.lst I C n = M.lst I' C' n'))) ∧ Below w.heap.size w w' := by
  have HL := Lib.hid h
  have HL' := Lib.hid h'
  clear h h'
  by_cases hnn : n = n'
  · subst hnn
    obtain ⟨d, hd⟩ : ∃ d, decide (M.lst I C n = M.lst I' C' n) = d := ⟨_, rfl⟩
    have HD1 : Hid ((∀ k, k < n → I k = I' k ∧ C k = C' k) → d = true) := fun h => by rw [← hd]; exact decide_eq_true (lst_same.2 h)
    have HD0 : Hid (∀ k, k < n → ¬ (I k = I' k ∧ C k = C' k) → d = false) := fun k hk h => by rw [← hd]; exact decide_eq_false fun e => h (lst_same.1 e k hk)
    rw [hd]
    clear hd
    go_enter Try.func15, Try.ntmps15
    go_wp2
    go_loopw [5] (fun i wr => ∃ k : Nat, k ≤ n ∧ i = .int .i64 k ∧ Hid (∀ j, j < k → I j = I' j ∧ C j = C' j) ∧ Below w.heap.size w wr) (fun i _ => n - (intOf i).toNat)
    case atStart => exact ⟨0, Nat.zero_le _, rfl, fun j hj => absurd hj (by omega), Below.refl _ _⟩
    case round =>
      obtain ⟨k, hk, rfl, hpre, hb⟩ := hrel
      have hz := hb.size
      have BH := Lib.hid hb
      by_cases hlt : k < n
      · obtain ⟨b, o, rfl, c0, c1⟩ := (HL.out.on hb) k hlt
        obtain ⟨b', o', rfl, c0', c1'⟩ := (HL'.out.on hb) k hlt
        have hki : (k : Int) < (n : Int) := by omega
        by_cases he : I k = I' k ∧ C k = C' k
        · have HN : Hid (∀ j, j < k + 1 → I j = I' j ∧ C j = C' j) := fun j hj => by
            by_cases e : j = k
            · subst e; exact he
            · exact hpre.out j (by omega)
          obtain ⟨e1, e2⟩ := he
          rw [← e1] at c0'
          rw [← e2] at c1'
          obtain ⟨x, hx⟩ : ∃ x, I k = x := ⟨_, rfl⟩
          obtain ⟨s, hs⟩ : ∃ s, C k = s := ⟨_, rfl⟩
          rw [hx] at c0 c0'
          rw [hs] at c1 c1'
          clear e1 e2 hx hs
          go_wp2
          go_quiet (fail)
          go_wp2
          go_roundw
          case rel => exact ⟨k + 1, by omega, by go_num, HN, BH.out.trans ⟨rfl, rfl, rfl, Nat.le_refl _, fun _ _ => rfl⟩⟩
          case measure => simp [intOf]; omega
        · have hd := HD0.out k hlt he
          obtain ⟨x, hx⟩ : ∃ x, I k = x := ⟨_, rfl⟩
          obtain ⟨s, hs⟩ : ∃ s, C k = s := ⟨_, rfl⟩
          obtain ⟨x', hx'⟩ : ∃ x, I' k = x := ⟨_, rfl⟩
          obtain ⟨s', hs'⟩ : ∃ s, C' k = s := ⟨_, rfl⟩
          rw [hx] at c0 he
          rw [hs] at c1 he
          rw [hx'] at c0' he
          rw [hs'] at c1' he
          subst hd
          clear hx hs hx' hs' HD1 HD0
          by_cases hxx : x = x'
          · subst hxx
            have hss : ¬ s = s' := fun e => he ⟨rfl, e⟩
            have hsl : ¬ s.toList = s'.toList := fun e => hss (toList_inj e)
            have hs1 : (s.toList == s'.toList) = false := by rw [beq_eq_false_iff_ne]; exact hsl
            have hs2 : (s.toList != s'.toList) = true := by simp only [bne, hs1]; rfl
            clear he hss
            go_wp2
            go_quiet (fail)
            go_wp2
            go_ret
            exact ⟨rfl, BH.out.trans ⟨rfl, rfl, rfl, Nat.le_refl _, fun _ _ => rfl⟩⟩
          · have hx1 : (x == x') = false := by rw [beq_eq_false_iff_ne]; exact hxx
            have hx2 : (x != x') = true := by simp only [bne, hx1]; rfl
            clear he
            go_wp2
            go_quiet (fail)
            go_wp2
            go_ret
            exact ⟨rfl, BH.out.trans ⟨rfl, rfl, rfl, Nat.le_refl _, fun _ _ => rfl⟩⟩
      · obtain rfl : k = n := by omega
        have hd := HD1.out hpre.out
        subst hd
        go_wp2
        go_ret
        exact ⟨rfl, hb⟩
  · have hd : decide (M.lst I C n = M.lst I' C' n') = false := decide_eq_false fun e => hnn (by have := congrArg List.length e; rw [M.lst_length, M.lst_length] at this; exact this)
    rw [hd]
    have hni : ((n : Int) == (n' : Int)) = false := by rw [beq_eq_false_iff_ne]; omega
    have hnb : ((n : Int) != (n' : Int)) = true := by simp [bne, hni]
    clear hd
    go_enter Try.func15, Try.ntmps15
    go_wp2
    go_ret
    exact ⟨rfl, Below.refl _ _⟩
end Go.Proofs.Ytbcoklognedffaa
