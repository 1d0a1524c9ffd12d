/-
  Loads of trucks: what l5Loads, TruckLoads and LoadingValid return.
-/
import Derived.Test.YtmoghfgfdbdioaaTrkB
namespace Go.Proofs.Ytmoghfgfdbdioaa
open Go.RowKit
set_option linter.unusedVariables false

/-- A slice of numbers that the call has made. -/
def NumsOut (w : World) (L : List Int) (e : Ending) (w' : World) : Prop := ∃ v, e = .returned v ∧ IRow w' w.heap.size v L ∧ Below w.heap.size w w'

set_option maxHeartbeats 1000000 in
theorem spec_l5Loads (w : World) (a : Option Addr) (n c : Nat) (L : List Int) (h : Nums w a L) (hL : L.length = n) (a' : Option Addr) (c' : Nat) (G : List Int) (h' : Nums w a' G) (hG : G.length = n) (hn : n ≤ 8) (hg : MW.gOk G = true) (hw : ∀ i, 0 ≤ MW.gz L i ∧ MW.gz L i ≤ 1000) :
    Calls Try.prog 45 #[.slice a n c, .slice a' n c'] w (NumsOut w (MW.loads L G)) := by
  have HL := Lib.hid h
  have HN := Lib.hid hL
  have HL' := Lib.hid h'
  have HN' := Lib.hid hG
  have HW := Lib.hid hw
  have HI := Lib.hid (fun k (hk : k < n) => ((MW.gOk_iff G).1 hg).2 k (by omega))
  obtain ⟨m, hm⟩ : ∃ m : Nat, MW.cnt G = m := ⟨(MW.cnt G).toNat, by have := MW.cnt_le8 hg; omega⟩
  have hm8 : m ≤ 8 := by have := MW.cnt_le8 hg; omega
  have HM := Lib.hid hm
  have HT : Hid (MW.trucks G = (m : Int)) := (MW.trucks_yes hg).trans hm
  have HLT := Lib.hid (fun k (hk : k < n) => show MW.gz G k < (m : Int) from hm ▸ MW.cntTo_lt G G.length k (by omega))
  have HLen : Hid (∀ k, (MW.loadsTo L G k).length = m) := fun k => by rw [MW.loadsTo_length, hm]; omega
  have HB := Lib.hid (MW.loadsTo_bd (G := G) hw)
  have R0 : Hid (IRow (w.alloc (.cells (madeCells #[.int .i64 0] m) 3)) w.heap.size (.slice (some ⟨w.heap.size, 0, none⟩) m m) (MW.loadsTo L G 0)) := by
    have := irow_made w m w.heap.size (by omega) (Nat.le_refl _)
    have e : MW.loadsTo L G 0 = List.replicate m 0 := by show List.replicate (MW.cnt G).toNat 0 = _; rw [hm]; rfl
    rw [Hid, e]; exact this
  clear h hL h' hG hg hw hm
  have hmk := make_ints m (by omega)
  go_enter Try.func45, Try.ntmps45
  go_wp2_with (go_at_call 23; refine (spec_TruckCount _ _ _ _ _ HL'.out HN'.out (by omega)).mono ?_; rw [HT.out]; rintro e w1 ⟨rfl, rfl⟩)
  go_loopw [6] (fun i wr => ∃ k : Nat, k ≤ n ∧ i = .int .i64 k ∧ Hid (IRow wr w.heap.size (.slice (some ⟨w.heap.size, 0, none⟩) m m) (MW.loadsTo L G k)) ∧ Below w.heap.size w wr) (fun i _ => n - (intOf i).toNat)
  case atStart => exact ⟨0, Nat.zero_le _, rfl, R0.out, below_alloc0 _ _⟩
  case round =>
    obtain ⟨k, hk, rfl, hrow, hb⟩ := hrel
    have hz := hb.size
    by_cases hlt : k < n
    · obtain ⟨b, o, rfl, c0⟩ := (HL.out.on hb) k (by rw [HN.out]; exact hlt)
      obtain ⟨b', o', rfl, c1⟩ := (HL'.out.on hb) k (by rw [HN'.out]; exact hlt)
      obtain ⟨g, hgg⟩ : ∃ g : Nat, MW.gz G k = g := ⟨(MW.gz G k).toNat, by have := HI.out k hlt; omega⟩
      have hgm : g < m := by have := HLT.out k hlt; omega
      obtain ⟨c2, f2⟩ := hrow.out.at g (by rw [HLen.out]; exact hgm)
      have hx := HB.out k g
      have hy := HW.out k
      have HP := Lib.hid (fun x => hrow.out.put (HLen.out k).symm g x)
      have HS : Hid (MW.loadsTo L G (k + 1) = (MW.loadsTo L G k).set g (MW.gz (MW.loadsTo L G k) g + MW.gz L k)) := by
        show (MW.loadsTo L G k).set (MW.gz G k).toNat (MW.gz (MW.loadsTo L G k) (MW.gz G k).toNat + MW.gz L k) = _
        rw [hgg]; rfl
      rw [hgg] at c1
      generalize MW.gz (MW.loadsTo L G k) g = x at *
      generalize MW.gz L k = y at *
      have HG := Lib.hid hgg
      have s1 : IntKind.i64.wrap (x + y) = x + y := IntWalk.i64_in _ (by omega)
      clear hgg hrow
      go_wp2
      go_region
      all_goals
        go_wp2
        exact ⟨⟨k + 1, by omega, by go_num, by rw [HS.out]; exact HP.out _, (hb.setCell (Nat.le_refl _) _).drew⟩, by simp [intOf]; omega⟩
    · obtain rfl : k = n := by omega
      go_wp2
      go_ret
      exact ⟨_, rfl, by unfold MW.loads; rw [HN.out]; exact hrow.out, hb⟩

theorem MW.wOk_up {L : List Int} {q : Int} (h : MW.wOk L q = true) : MW.wOk L 1000 = true := by
  obtain ⟨h1, h2, h3⟩ := (MW.wOk_iff L q).1 h
  exact (MW.wOk_iff L 1000).2 ⟨by omega, h2, fun i hi => by have := h3 i hi; omega⟩
theorem MW.ldOk_1 {L G : List Int} {q : Int} (h : MW.wOk L q = false) : MW.ldOk L q G = false := by unfold MW.ldOk; rw [h]; rfl
theorem MW.ldOk_2 {L G : List Int} {q : Int} (h : MW.gOk G = false) : MW.ldOk L q G = false := by unfold MW.ldOk; rw [h]; simp
theorem MW.ldOk_3 {L G : List Int} {q : Int} (h : L.length ≠ G.length) : MW.ldOk L q G = false := by unfold MW.ldOk; rw [decide_eq_false h]; simp
theorem MW.ldOk_4 {L G : List Int} {q : Int} (h1 : MW.wOk L q = true) (h2 : MW.gOk G = true) (h3 : L.length = G.length) : MW.ldOk L q G = true := by unfold MW.ldOk; rw [h1, h2, decide_eq_true h3]; rfl
theorem MW.truckLoads_no {L G : List Int} (h : MW.ldOk L 1000 G = false) : MW.truckLoads L G = [] := by unfold MW.truckLoads; rw [h]; rfl
theorem MW.truckLoads_yes {L G : List Int} (h : MW.ldOk L 1000 G = true) : MW.truckLoads L G = MW.loads L G := by unfold MW.truckLoads; rw [h]; rfl
theorem MW.truckLoads_le (L G : List Int) : (MW.truckLoads L G).length ≤ 8 := by
  unfold MW.truckLoads
  split
  · unfold MW.loads
    rw [MW.loadsTo_length]
    rename_i h
    unfold MW.ldOk at h
    rw [Bool.and_eq_true, Bool.and_eq_true] at h
    have := MW.cnt_le8 h.2.1; omega
  · exact Nat.zero_le _
theorem MW.fine_no {L G : List Int} {q : Int} (h : MW.ldOk L q G = false) : MW.fine L q G = false := by unfold MW.fine; rw [h]; rfl
theorem MW.fine_yes {L G : List Int} {q : Int} (h : MW.ldOk L q G = true) : MW.fine L q G = (MW.loads L G).all fun x => decide (x ≤ q) := by unfold MW.fine; rw [h]; rfl

set_option maxHeartbeats 1000000 in
theorem spec_TruckLoads (w : World) (a : Option Addr) (n c : Nat) (L : List Int) (h : Nums w a L) (hL : L.length = n) (hn : n ≤ 1048576) (a' : Option Addr) (n' c' : Nat) (G : List Int) (h' : Nums w a' G) (hG : G.length = n') (hn' : n' ≤ 1048576) :
    Calls Try.prog 22 #[.slice a n c, .slice a' n' c'] w (NumsOut w (MW.truckLoads L G)) := by
  have HL := Lib.hid h
  have HN := Lib.hid hL
  have HL' := Lib.hid h'
  have HN' := Lib.hid hG
  clear h hL h' hG
  cases h1 : MW.wOk L 1000
  · have H1 := Lib.hid h1
    have HK := Lib.hid (MW.ldOk_1 (G := G) h1)
    clear h1
    go_enter Try.func22, Try.ntmps22
    go_wp2_with (first | (go_at_call 13; refine (spec_WeightsValid _ _ _ _ _ HL.out HN.out hn 1000).mono ?_; rw [H1.out]; rintro e w1 ⟨rfl, rfl⟩))
    go_ret
    exact ⟨_, rfl, by rw [MW.truckLoads_no HK.out]; exact one_irow _, below_alloc0 _ _⟩
  · have H1 := Lib.hid h1
    cases h2 : MW.gOk G
    · have H2 := Lib.hid h2
      have HK := Lib.hid (MW.ldOk_2 (L := L) (q := 1000) h2)
      clear h1 h2
      go_enter Try.func22, Try.ntmps22
      go_wp2_with (first | (go_at_call 13; refine (spec_WeightsValid _ _ _ _ _ HL.out HN.out hn 1000).mono ?_; rw [H1.out]; rintro e w1 ⟨rfl, rfl⟩) | (go_at_call 44; refine (spec_l5Given _ _ _ _ _ HL'.out HN'.out hn').mono ?_; rw [H2.out]; rintro e w1 ⟨rfl, rfl⟩))
      go_ret
      exact ⟨_, rfl, by rw [MW.truckLoads_no HK.out]; exact one_irow _, below_alloc0 _ _⟩
    · have H2 := Lib.hid h2
      by_cases h3 : n = n'
      · subst h3
        have HK := Lib.hid (MW.ldOk_4 h1 h2 (by rw [HN.out, HN'.out]))
        have h8 : n ≤ 8 := by have := ((MW.wOk_iff L 1000).1 h1).2.1; have := HN.out; omega
        have HWB := Lib.hid (MW.wOk_gz h1)
        clear h1 h2
        go_enter Try.func22, Try.ntmps22
        go_wp2_with (first | (go_at_call 13; refine (spec_WeightsValid _ _ _ _ _ HL.out HN.out hn 1000).mono ?_; rw [H1.out]; rintro e w1 ⟨rfl, rfl⟩) | (go_at_call 44; refine (spec_l5Given _ _ _ _ _ HL'.out HN'.out hn).mono ?_; rw [H2.out]; rintro e w1 ⟨rfl, rfl⟩) | (go_at_call 45; refine (spec_l5Loads _ _ _ _ _ HL.out HN.out _ _ _ HL'.out HN'.out h8 H2.out HWB.out).mono ?_; rintro e w1 ⟨v, rfl, hr, hb1⟩))
        go_ret
        exact ⟨_, rfl, by rw [MW.truckLoads_yes HK.out]; exact hr, hb1⟩
      · have HK := Lib.hid (MW.ldOk_3 (L := L) (G := G) (q := 1000) (by have := HN.out; have := HN'.out; omega))
        have q1 : ((n : Int) != (n' : Int)) = true := by simp; omega
        have q2 : ((n' : Int) != (n : Int)) = true := by simp; omega
        clear h1 h2 h3
        go_enter Try.func22, Try.ntmps22
        go_wp2_with (first | (go_at_call 13; refine (spec_WeightsValid _ _ _ _ _ HL.out HN.out hn 1000).mono ?_; rw [H1.out]; rintro e w1 ⟨rfl, rfl⟩) | (go_at_call 44; refine (spec_l5Given _ _ _ _ _ HL'.out HN'.out hn').mono ?_; rw [H2.out]; rintro e w1 ⟨rfl, rfl⟩))
        go_ret
        exact ⟨_, rfl, by rw [MW.truckLoads_no HK.out]; exact one_irow _, below_alloc0 _ _⟩

set_option maxHeartbeats 1000000 in
theorem spec_LoadingValid (w : World) (a : Option Addr) (n c : Nat) (L : List Int) (h : Nums w a L) (hL : L.length = n) (hn : n ≤ 1048576) (a' : Option Addr) (n' c' : Nat) (G : List Int) (h' : Nums w a' G) (hG : G.length = n') (hn' : n' ≤ 1048576) (q : Int) :
    Calls Try.prog 25 #[.slice a n c, .int .i64 q, .slice a' n' c'] w fun e w' => e = .returned (.bool (MW.fine L q G)) ∧ Below w.heap.size w w' := by
  have HL := Lib.hid h
  have HN := Lib.hid hL
  have HL' := Lib.hid h'
  have HN' := Lib.hid hG
  clear h hL h' hG
  cases h1 : MW.wOk L q
  · have H1 := Lib.hid h1
    have HK := Lib.hid (MW.ldOk_1 (G := G) h1)
    clear h1
    go_enter Try.func25, Try.ntmps25
    go_wp2_with (first | (go_at_call 13; refine (spec_WeightsValid _ _ _ _ _ HL.out HN.out hn q).mono ?_; rw [H1.out]; rintro e w1 ⟨rfl, rfl⟩))
    go_ret
    exact ⟨ret_bool (MW.fine_no HK.out).symm, Below.refl _ _⟩
  · have H1 := Lib.hid h1
    cases h2 : MW.gOk G
    · have H2 := Lib.hid h2
      have HK := Lib.hid (MW.ldOk_2 (L := L) (q := q) h2)
      clear h1 h2
      go_enter Try.func25, Try.ntmps25
      go_wp2_with (first | (go_at_call 13; refine (spec_WeightsValid _ _ _ _ _ HL.out HN.out hn q).mono ?_; rw [H1.out]; rintro e w1 ⟨rfl, rfl⟩) | (go_at_call 44; refine (spec_l5Given _ _ _ _ _ HL'.out HN'.out hn').mono ?_; rw [H2.out]; rintro e w1 ⟨rfl, rfl⟩))
      go_ret
      exact ⟨ret_bool (MW.fine_no HK.out).symm, Below.refl _ _⟩
    · have H2 := Lib.hid h2
      by_cases h3 : n = n'
      · subst h3
        have HK := Lib.hid (MW.ldOk_4 h1 h2 (by rw [HN.out, HN'.out]))
        have h8 : n ≤ 8 := by have := ((MW.wOk_iff L q).1 h1).2.1; have := HN.out; omega
        have HWB := Lib.hid (MW.wOk_gz h1)
        clear h1 h2
        obtain ⟨R, hR⟩ : ∃ R, MW.loads L G = R := ⟨_, rfl⟩
        have HQ := Lib.hid hR
        have HLE : Hid (R.length ≤ 8) := by
          rw [Hid, ← hR]; unfold MW.loads
          rw [MW.loadsTo_length]; have := MW.cnt_le8 H2.out; omega
        clear hR
        go_enter Try.func25, Try.ntmps25
        go_wp2_with (first | (go_at_call 13; refine (spec_WeightsValid _ _ _ _ _ HL.out HN.out hn q).mono ?_; rw [H1.out]; rintro e w1 ⟨rfl, rfl⟩) | (go_at_call 44; refine (spec_l5Given _ _ _ _ _ HL'.out HN'.out hn).mono ?_; rw [H2.out]; rintro e w1 ⟨rfl, rfl⟩) | (go_at_call 45; refine (spec_l5Loads _ _ _ _ _ HL.out HN.out _ _ _ HL'.out HN'.out h8 H2.out HWB.out).mono ?_; rw [HQ.out]; rintro e w1 ⟨v, rfl, hr, hb1⟩; obtain ⟨ra, rc, rfl, _, _⟩ := hr.form; have HR := Lib.hid hr.nums; obtain ⟨m, hm⟩ : ∃ m, R.length = m := ⟨_, rfl⟩; have HM := Lib.hid hm; have hm8 := HLE.out; rw [hm] at hm8 ⊢; clear hm hr))
        go_loop [8] (fun i => ∃ k : Nat, k ≤ m ∧ i = .int .i64 k ∧ Hid (∀ j, j < k → MW.gz R j ≤ q)) (fun i => m - (intOf i).toNat)
        case atStart => exact ⟨0, Nat.zero_le _, rfl, fun j hj => absurd hj (by omega)⟩
        case round =>
          obtain ⟨k, hk, rfl, hno⟩ := hrel
          by_cases hlt : k < m
          · obtain ⟨b, o, rfl, c0⟩ := HR.out k (by rw [HM.out]; exact hlt)
            by_cases he : MW.gz R k ≤ q
            · have HE := Lib.hid he
              go_wp2
              go_round
              case rel => exact ⟨k + 1, by omega, by go_num, fun j hj => by by_cases e : j = k; (subst e; exact HE.out); exact hno.out j (by omega)⟩
              case measure => simp [intOf]; omega
            · have hv : Hid (MW.fine L q G = false) := by
                rw [Hid, MW.fine_yes HK.out, HQ.out, Bool.eq_false_iff]
                intro hh
                exact he (of_decide_eq_true (List.all_eq_true.1 hh _ (MW.gz_mem (by rw [HM.out]; exact hlt))))
              have he' : q < MW.gz R k := by omega
              clear he
              go_wp2
              go_ret
              exact ⟨ret_bool hv.out.symm, hb1⟩
          · obtain rfl : k = m := by omega
            have hv : Hid (MW.fine L q G = true) := by
              rw [Hid, MW.fine_yes HK.out, HQ.out, List.all_eq_true]
              intro x hx
              obtain ⟨i, hi, e⟩ := MW.mem_gz hx
              exact decide_eq_true (e ▸ hno.out i (by have := HM.out; omega))
            go_wp2
            go_ret
            exact ⟨ret_bool hv.out.symm, hb1⟩
      · have HK := Lib.hid (MW.ldOk_3 (L := L) (G := G) (q := q) (by have := HN.out; have := HN'.out; omega))
        have q1 : ((n : Int) != (n' : Int)) = true := by simp; omega
        have q2 : ((n' : Int) != (n : Int)) = true := by simp; omega
        clear h1 h2 h3
        go_enter Try.func25, Try.ntmps25
        go_wp2_with (first | (go_at_call 13; refine (spec_WeightsValid _ _ _ _ _ HL.out HN.out hn q).mono ?_; rw [H1.out]; rintro e w1 ⟨rfl, rfl⟩) | (go_at_call 44; refine (spec_l5Given _ _ _ _ _ HL'.out HN'.out hn').mono ?_; rw [H2.out]; rintro e w1 ⟨rfl, rfl⟩))
        go_ret
        exact ⟨ret_bool (MW.fine_no HK.out).symm, Below.refl _ _⟩

set_option maxHeartbeats 1000000 in
theorem impl_TruckLoads (w : World) (a : Option Addr) (n c : Nat) (L : List Int) (h : Nums w a L) (hL : L.length = n) (hn : n ≤ 1048576) (a' : Option Addr) (n' c' : Nat) (G : List Int) (h' : Nums w a' G) (hG : G.length = n') (hn' : n' ≤ 1048576) :
    Calls Try.prog 21 #[.slice a n c, .slice a' n' c'] w (NumsOut w (MW.truckLoads L G)) := by
  have HL := Lib.hid h
  have HN := Lib.hid hL
  have HL' := Lib.hid h'
  have HN' := Lib.hid hG
  clear h hL h' hG
  cases h1 : MW.wOk L 1000
  · have H1 := Lib.hid h1
    have HK := Lib.hid (MW.ldOk_1 (G := G) h1)
    clear h1
    go_enter Try.func21, Try.ntmps21
    go_wp2_with (first | (go_at_call 14; refine (impl_TruckCount _ _ _ _ _ HL'.out HN'.out (by omega)).mono ?_; rintro e w1 ⟨rfl, rfl⟩) | (go_at_call 12; refine (impl_WeightsValid _ _ _ _ _ HL.out HN.out hn 1000).mono ?_; rw [H1.out]; rintro e w1 ⟨rfl, hb1⟩))
    go_ret
    exact ⟨_, rfl, by rw [MW.truckLoads_no HK.out]; exact IRow.nil _ _, hb1⟩
  · have H1 := Lib.hid h1
    cases h2 : MW.gOk G
    · have H2 := Lib.hid h2
      have HK := Lib.hid (MW.ldOk_2 (L := L) (q := 1000) h2)
      clear h1 h2
      have HT := Lib.hid (MW.trucks_no H2.out)
      go_enter Try.func21, Try.ntmps21
      go_wp2_with (first | (go_at_call 14; refine (impl_TruckCount _ _ _ _ _ HL'.out HN'.out (by omega)).mono ?_; rw [HT.out]; rintro e w1 ⟨rfl, rfl⟩) | (go_at_call 12; refine (impl_WeightsValid _ _ _ _ _ HL.out HN.out hn 1000).mono ?_; rw [H1.out]; rintro e w1 ⟨rfl, hb1⟩))
      go_ret
      exact ⟨_, rfl, by rw [MW.truckLoads_no HK.out]; exact IRow.nil _ _, hb1⟩
    · have H2 := Lib.hid h2
      by_cases h3 : n = n'
      · subst h3
        have HK := Lib.hid (MW.ldOk_4 h1 h2 (by rw [HN.out, HN'.out]))
        have h8 : n ≤ 8 := by have := ((MW.wOk_iff L 1000).1 h1).2.1; have := HN.out; omega
        have HWB := Lib.hid (MW.wOk_gz h1)
        clear h1 h2
        obtain ⟨m, hm⟩ : ∃ m : Nat, MW.cnt G = m := ⟨(MW.cnt G).toNat, by have := MW.cnt_le8 H2.out; omega⟩
        have hm8 : m ≤ 8 := by have := MW.cnt_le8 H2.out; omega
        have HT : Hid (MW.trucks G = (m : Int)) := (MW.trucks_yes H2.out).trans hm
        have HI := Lib.hid (fun k (hk : k < n) => ((MW.gOk_iff G).1 H2.out).2 k (by have := HN'.out; omega))
        have HLT := Lib.hid (fun k (hk : k < n) => show MW.gz G k < (m : Int) from hm ▸ MW.cntTo_lt G G.length k (by have := HN'.out; omega))
        have HLen : Hid (∀ k, (MW.loadsTo L G k).length = m) := fun k => by rw [MW.loadsTo_length, hm]; omega
        have HB := Lib.hid (MW.loadsTo_bd (G := G) HWB.out)
        have R0 : Hid (MW.loadsTo L G 0 = List.replicate m 0) := by show List.replicate (MW.cnt G).toNat 0 = _; rw [hm]; rfl
        have HM := Lib.hid hm
        clear hm
        have hmk := make_ints m (by omega)
        have mneg : decide ((m : Int) < 0) = false := by simp
        go_enter Try.func21, Try.ntmps21
        go_wp2_with (first | (go_at_call 14; refine (impl_TruckCount _ _ _ _ _ HL'.out HN'.out (by omega)).mono ?_; rw [HT.out]; rintro e w1 ⟨rfl, rfl⟩) | (go_at_call 12; refine (impl_WeightsValid _ _ _ _ _ HL.out HN.out hn 1000).mono ?_; rw [H1.out]; rintro e w1 ⟨rfl, hb1⟩))
        have hz1 := hb1.size
        have HL1 := Lib.hid (HL.out.on hb1)
        have HL1' := Lib.hid (HL'.out.on hb1)
        have HR0 := Lib.hid (irow_made w1 m w1.heap.size (by omega) (Nat.le_refl _))
        go_loopw [29] (fun i wr => ∃ k : Nat, k ≤ n ∧ i = .int .i64 k ∧ Hid (IRow wr w1.heap.size (.slice (some ⟨w1.heap.size, 0, none⟩) m m) (MW.loadsTo L G k)) ∧ Below w1.heap.size w1 wr) (fun i _ => n - (intOf i).toNat)
        case atStart => exact ⟨0, Nat.zero_le _, rfl, by rw [R0.out]; exact HR0.out, below_alloc0 _ _⟩
        case round =>
          obtain ⟨k, hk, rfl, hrow, hb⟩ := hrel
          have hz := hb.size
          by_cases hlt : k < n
          · obtain ⟨b, o, rfl, c0⟩ := (HL1.out.on hb) k (by rw [HN.out]; exact hlt)
            obtain ⟨b', o', rfl, c1⟩ := (HL1'.out.on hb) k (by rw [HN'.out]; exact hlt)
            obtain ⟨g, hgg⟩ : ∃ g : Nat, MW.gz G k = g := ⟨(MW.gz G k).toNat, by have := HI.out k hlt; omega⟩
            have hgm : g < m := by have := HLT.out k hlt; omega
            obtain ⟨c2, f2⟩ := hrow.out.at g (by rw [HLen.out]; exact hgm)
            have hx := HB.out k g
            have hy := HWB.out k
            have HP := Lib.hid (fun x => hrow.out.put (HLen.out k).symm g x)
            have HS : Hid (MW.loadsTo L G (k + 1) = (MW.loadsTo L G k).set g (MW.gz (MW.loadsTo L G k) g + MW.gz L k)) := by
              show (MW.loadsTo L G k).set (MW.gz G k).toNat (MW.gz (MW.loadsTo L G k) (MW.gz G k).toNat + MW.gz L k) = _
              rw [hgg]; rfl
            rw [hgg] at c1
            generalize MW.gz (MW.loadsTo L G k) g = x at *
            generalize MW.gz L k = y at *
            have HG := Lib.hid hgg
            have s1 : IntKind.i64.wrap (x + y) = x + y := IntWalk.i64_in _ (by omega)
            clear hgg hrow
            go_wp2
            go_region
            all_goals
              go_wp2
              exact ⟨⟨k + 1, by omega, by go_num, by rw [HS.out]; exact HP.out _, (hb.setCell (Nat.le_refl _) _).drew⟩, by simp [intOf]; omega⟩
          · obtain rfl : k = n := by omega
            go_wp2
            go_ret
            exact ⟨_, rfl, by rw [MW.truckLoads_yes HK.out]; unfold MW.loads; rw [HN.out]; exact hrow.out.lower hz1, sstep hb1 hb⟩
      · have HK := Lib.hid (MW.ldOk_3 (L := L) (G := G) (q := 1000) (by have := HN.out; have := HN'.out; omega))
        have q1 : ((n : Int) != (n' : Int)) = true := by simp; omega
        have q2 : ((n' : Int) != (n : Int)) = true := by simp; omega
        clear h1 h2 h3
        obtain ⟨m, hm⟩ : ∃ m : Nat, MW.trucks G = m := ⟨(MW.trucks G).toNat, by rw [MW.trucks_yes H2.out]; have := MW.cnt_le8 H2.out; omega⟩
        have HT := Lib.hid hm
        clear hm
        go_enter Try.func21, Try.ntmps21
        go_wp2_with (first | (go_at_call 14; refine (impl_TruckCount _ _ _ _ _ HL'.out HN'.out (by omega)).mono ?_; rw [HT.out]; rintro e w1 ⟨rfl, rfl⟩) | (go_at_call 12; refine (impl_WeightsValid _ _ _ _ _ HL.out HN.out hn 1000).mono ?_; rw [H1.out]; rintro e w1 ⟨rfl, hb1⟩))
        go_ret
        exact ⟨_, rfl, by rw [MW.truckLoads_no HK.out]; exact IRow.nil _ _, hb1⟩

def overL (x q : Int) : Bool := decide (q < x)
set_option maxHeartbeats 400000 in
theorem over_it (w : World) (B : Nat) (x q : Int) (h : w.cell? ⟨B, 0, none⟩ = some (.int .i64 q)) :
    Calls Try.prog 38 #[.int .i64 x, .pointer (some ⟨B, 0, none⟩)] w fun e w' => e = .returned (.bool (overL x q)) ∧ Below w.heap.size w w' := by
  go_enter Try.func38, Try.ntmps38
  go_wp2
  go_ret
  exact ⟨rfl, by go_grown⟩
theorem any_overL (L : List Int) (q : Int) : (!(L.any fun x => overL x q)) = L.all fun x => decide (x ≤ q) := by
  unfold overL
  rw [List.not_any_eq_all_not]
  congr 1
  funext x
  by_cases h : x ≤ q
  · rw [decide_eq_true h, decide_eq_false (by omega)]; rfl
  · rw [decide_eq_false h, decide_eq_true (by omega)]; rfl

set_option maxHeartbeats 1000000 in
theorem index_over (w : World) (a : Option Addr) (n c : Nat) (L : List Int) (h : Nums w a L) (hL : L.length = n) (hn : n ≤ 1048576) (B : Nat) (q : Int) (hq : w.cell? ⟨B, 0, none⟩ = some (.int .i64 q))  :
    Calls Try.prog 49 #[.slice a n c, .func (.func 38) #[] #[.pointer (some ⟨B, 0, none⟩)]] w fun e w' => ∃ r : Int, e = .returned (.int .i64 r) ∧ FirstAt (fun x => overL x q) L r ∧ Below w.heap.size w w' := by
  have HL := Lib.hid h
  have HN := Lib.hid hL
  have l_hq := World.block_lt_of_cell? _ _ hq
  have HC := Lib.hid (fun W (hW : Below w.heap.size w W) (x : Int) => over_it W B x q ((hW.cell (p := ⟨B, 0, none⟩) l_hq).trans hq))
  clear h hL hq l_hq 
  go_enter Try.func49, Try.ntmps49
  go_wp2
  go_loopw [8] (fun i wr => ∃ k : Nat, k ≤ n ∧ i = .int .i64 k ∧ Hid (∀ j, j < k → (fun x => overL x q) (MW.gz L j) = false) ∧ Below w.heap.size w wr) (fun i _ => n - (intOf i).toNat)
  case atStart => exact ⟨0, Nat.zero_le _, rfl, fun j hj => absurd hj (by omega), Below.refl _ _⟩
  case round =>
    obtain ⟨k, hk, rfl, hno, hb⟩ := hrel
    have hz := hb.size
    by_cases hlt : k < n
    · obtain ⟨b, o, rfl, c0⟩ := (HL.out.on hb) k (by rw [HN.out]; exact hlt)
      cases he : (fun x => overL x q) (MW.gz L k)
      · have HE := Lib.hid he
        clear he
        go_wp2_with (go_at_call 38; refine (HC.out _ hb _).mono ?_; rw [HE.out]; rintro e w1 ⟨rfl, hb1⟩)
        go_roundw
        case rel => exact ⟨k + 1, by omega, by go_num, fun j hj => by by_cases e : j = k; (subst e; exact HE.out); exact hno.out j (by omega), sstep hb hb1⟩
        case measure => simp [intOf]; omega
      · have HE := Lib.hid he
        clear he
        go_wp2_with (go_at_call 38; refine (HC.out _ hb _).mono ?_; rw [HE.out]; rintro e w1 ⟨rfl, hb1⟩)
        go_ret
        exact ⟨_, rfl, Or.inr ⟨k, rfl, by rw [HN.out]; exact hlt, HE.out, hno.out⟩, sstep hb hb1⟩
    · obtain rfl : k = n := by omega
      go_wp2
      go_ret
      exact ⟨_, rfl, Or.inl ⟨rfl, fun i hi => hno.out i (by rw [HN.out] at hi; exact hi)⟩, hb⟩

set_option maxHeartbeats 400000 in
theorem any_over (w : World) (a : Option Addr) (n c : Nat) (L : List Int) (h : Nums w a L) (hL : L.length = n) (hn : n ≤ 1048576) (B : Nat) (q : Int) (hq : w.cell? ⟨B, 0, none⟩ = some (.int .i64 q)) :
    Calls Try.prog 33 #[.slice a n c, .func (.func 38) #[] #[.pointer (some ⟨B, 0, none⟩)]] w fun e w' => e = .returned (.bool (L.any (fun x => overL x q))) ∧ Below w.heap.size w w' := by
  have HC := Lib.hid (index_over w a n c L h hL hn B q hq)
  clear h hL hq
  go_enter Try.func33, Try.ntmps33
  go_wp2_with (go_at_call 49; refine HC.out.mono ?_; rintro e w1 ⟨r, rfl, hr, hb1⟩)
  go_ret
  exact ⟨ret_bool hr.neg, hb1⟩

set_option maxHeartbeats 1000000 in
theorem impl_LoadingValid (w : World) (a : Option Addr) (n c : Nat) (L : List Int) (h : Nums w a L) (hL : L.length = n) (hn : n ≤ 1048576) (a' : Option Addr) (n' c' : Nat) (G : List Int) (h' : Nums w a' G) (hG : G.length = n') (hn' : n' ≤ 1048576) (q : Int) :
    Calls Try.prog 16 #[.slice a n c, .int .i64 q, .slice a' n' c'] w fun e w' => e = .returned (.bool (MW.fine L q G)) ∧ Below w.heap.size w w' := by
  have hmf : ∀ (fn : Fn) (first cap : Array Value) (w : World), (Instr.makeFunc fn first cap).run Try.prog w = .ok (.func fn first cap) w := fun _ _ _ _ => rfl
  have HB0 := Lib.hid (below_alloc0 w (.cells #[.int .i64 q] 3))
  have HL0 := Lib.hid (h.on HB0.out)
  have HL0' := Lib.hid (h'.on HB0.out)
  have HL := Lib.hid h
  have HN := Lib.hid hL
  have HL' := Lib.hid h'
  have HN' := Lib.hid hG
  clear h hL h' hG
  cases h1 : MW.wOk L q
  · have H1 := Lib.hid h1
    have HK := Lib.hid (MW.ldOk_1 (G := G) h1)
    clear h1
    go_enter Try.func16, Try.ntmps16
    go_wp2_with (go_at_call 12; refine (impl_WeightsValid _ _ _ _ _ HL0.out HN.out hn q).mono ?_; rw [H1.out]; rintro e w1 ⟨rfl, hb1⟩; have HL1 := Lib.hid (HL0.out.on hb1); have HL1' := Lib.hid (HL0'.out.on hb1); have hq1 : w1.cell? ⟨w.heap.size, 0, none⟩ = some (.int .i64 q) := (hb1.cell (p := ⟨w.heap.size, 0, none⟩) (by simp)).trans (by simp); have z1 := hb1.size; replace hb1 := Lib.hid (sstep HB0.out hb1))
    go_ret
    exact ⟨ret_bool (MW.fine_no HK.out).symm, hb1.out⟩
  · have H1 := Lib.hid h1
    cases h2 : MW.gOk G
    · have H2 := Lib.hid h2
      have HK := Lib.hid (MW.ldOk_2 (L := L) (q := q) h2)
      clear h1 h2
      have HT := Lib.hid (MW.trucks_no H2.out)
      go_enter Try.func16, Try.ntmps16
      go_wp2_with (first | (go_at_call 12; refine (impl_WeightsValid _ _ _ _ _ HL0.out HN.out hn q).mono ?_; rw [H1.out]; rintro e w1 ⟨rfl, hb1⟩; have HL1 := Lib.hid (HL0.out.on hb1); have HL1' := Lib.hid (HL0'.out.on hb1); have hq1 : w1.cell? ⟨w.heap.size, 0, none⟩ = some (.int .i64 q) := (hb1.cell (p := ⟨w.heap.size, 0, none⟩) (by simp)).trans (by simp); have z1 := hb1.size; replace hb1 := Lib.hid (sstep HB0.out hb1)) | (go_at_call 14; refine (impl_TruckCount _ _ _ _ _ HL1'.out HN'.out (by omega)).mono ?_; rw [HT.out]; rintro e w2 ⟨rfl, rfl⟩))
      go_ret
      exact ⟨ret_bool (MW.fine_no HK.out).symm, hb1.out⟩
    · have H2 := Lib.hid h2
      by_cases h3 : n = n'
      · subst h3
        have HK := Lib.hid (MW.ldOk_4 h1 h2 (by rw [HN.out, HN'.out]))
        have h8 : n ≤ 8 := by have := ((MW.wOk_iff L q).1 h1).2.1; have := HN.out; omega
        have HWB := Lib.hid (MW.wOk_gz h1)
        clear h1 h2
        obtain ⟨m, hm⟩ : ∃ m : Nat, MW.trucks G = m := ⟨(MW.trucks G).toNat, by rw [MW.trucks_yes H2.out]; have := MW.cnt_le8 H2.out; omega⟩
        have HT := Lib.hid hm
        clear hm
        have mneg : decide ((m : Int) < 0) = false := by simp
        obtain ⟨R, hR⟩ : ∃ R, MW.truckLoads L G = R := ⟨_, rfl⟩
        have HR := Lib.hid hR
        have HLE : Hid (R.length ≤ 8) := by
          rw [Hid, ← hR, MW.truckLoads_yes (MW.ldOk_4 (MW.wOk_up H1.out) H2.out (by rw [HN.out, HN'.out]))]
          unfold MW.loads
          rw [MW.loadsTo_length]
          have := MW.cnt_le8 H2.out; omega
        obtain ⟨bb, hbb⟩ : ∃ bb, (R.any fun x => overL x q) = bb := ⟨_, rfl⟩
        have HV := Lib.hid hbb
        have HF : Hid (MW.fine L q G = !bb) := by
          rw [Hid, MW.fine_yes HK.out, ← hbb, any_overL, ← hR, MW.truckLoads_yes (MW.ldOk_4 (MW.wOk_up H1.out) H2.out (by rw [HN.out, HN'.out]))]
        clear hR hbb
        go_enter Try.func16, Try.ntmps16
        go_wp2_with (first | (go_at_call 12; refine (impl_WeightsValid _ _ _ _ _ HL0.out HN.out hn q).mono ?_; rw [H1.out]; rintro e w1 ⟨rfl, hb1⟩; have HL1 := Lib.hid (HL0.out.on hb1); have HL1' := Lib.hid (HL0'.out.on hb1); have hq1 : w1.cell? ⟨w.heap.size, 0, none⟩ = some (.int .i64 q) := (hb1.cell (p := ⟨w.heap.size, 0, none⟩) (by simp)).trans (by simp); have z1 := hb1.size; replace hb1 := Lib.hid (sstep HB0.out hb1)) | (go_at_call 14; refine (impl_TruckCount _ _ _ _ _ HL1'.out HN'.out (by omega)).mono ?_; rw [HT.out]; rintro e w2 ⟨rfl, rfl⟩) | (go_at_call 21; refine (impl_TruckLoads _ _ _ _ _ HL1.out HN.out hn _ _ _ _ HL1'.out HN'.out hn).mono ?_; rw [HR.out]; rintro e w3 ⟨v, rfl, hr, hb3⟩; obtain ⟨ra, rc, rfl, _, _⟩ := hr.form; have HRN := Lib.hid hr.nums; obtain ⟨mm, hmm⟩ : ∃ mm, R.length = mm := ⟨_, rfl⟩; have HM := Lib.hid hmm; have hm9 := HLE.out; rw [hmm] at hm9 ⊢; have hq3 := Lib.hid ((hb3.cell (p := ⟨w.heap.size, 0, none⟩) (World.block_lt_of_cell? _ _ hq1)).trans hq1); replace hb3 := Lib.hid (sstep hb1.out hb3); clear hmm hr) | (go_at_call 33; refine (any_over _ _ _ _ _ HRN.out HM.out (by omega) _ q hq3.out).mono ?_; rw [HV.out]; rintro e w4 ⟨rfl, hb4⟩))
        go_ret
        exact ⟨ret_bool HF.out.symm, sstep hb3.out hb4⟩
      · have HK := Lib.hid (MW.ldOk_3 (L := L) (G := G) (q := q) (by have := HN.out; have := HN'.out; omega))
        have q1 : ((n : Int) != (n' : Int)) = true := by simp; omega
        have q2 : ((n' : Int) != (n : Int)) = true := by simp; omega
        clear h1 h2 h3
        obtain ⟨m, hm⟩ : ∃ m : Nat, MW.trucks G = m := ⟨(MW.trucks G).toNat, by rw [MW.trucks_yes H2.out]; have := MW.cnt_le8 H2.out; omega⟩
        have HT := Lib.hid hm
        clear hm
        have mneg : decide ((m : Int) < 0) = false := by simp
        go_enter Try.func16, Try.ntmps16
        go_wp2_with (first | (go_at_call 12; refine (impl_WeightsValid _ _ _ _ _ HL0.out HN.out hn q).mono ?_; rw [H1.out]; rintro e w1 ⟨rfl, hb1⟩; have HL1 := Lib.hid (HL0.out.on hb1); have HL1' := Lib.hid (HL0'.out.on hb1); have hq1 : w1.cell? ⟨w.heap.size, 0, none⟩ = some (.int .i64 q) := (hb1.cell (p := ⟨w.heap.size, 0, none⟩) (by simp)).trans (by simp); have z1 := hb1.size; replace hb1 := Lib.hid (sstep HB0.out hb1)) | (go_at_call 14; refine (impl_TruckCount _ _ _ _ _ HL1'.out HN'.out (by omega)).mono ?_; rw [HT.out]; rintro e w2 ⟨rfl, rfl⟩))
        go_ret
        exact ⟨ret_bool (MW.fine_no HK.out).symm, hb1.out⟩
end Go.Proofs.Ytmoghfgfdbdioaa
