/-
  How many letters can stay, and how many must be moved: KeptLetters and MovedLetters, in the program and in the model of the document.
-/
import Derived.Test.YtbcoklognedffaaOrd
import Derived.Test.YtbcoklognedffaaKeptA
import Derived.Test.YtbcoklognedffaaNums
import Derived.Laws.Small
import Derived.BigQuiet
namespace Go.Proofs.Ytbcoklognedffaa
open Go.RowKit
open Go.PlainAid (bt get_bt bt_nonneg bt_le)

set_option maxHeartbeats 1000000 in
/-- The greatest of some numbers in memory. -/
theorem slices_Max (w : World) (g r l c : Nat) (hl : l = r + 1) (f : Nat → Nat) (h : ∀ i, i ≤ r → w.cell? ⟨g, i, none⟩ = some (.int .i64 ((f i : Nat) : Int))) (hf : ∀ i, i ≤ r → f i ≤ 1048576) (hr : r ≤ 1048576) :
    Calls Try.prog 81 #[.slice (some ⟨g, 0, none⟩) l c] w fun e w' => e = .returned (.int .i64 ((M.maxTo f r : Nat) : Int)) ∧ w = w' := by
  subst hl
  have HL := Lib.hid h
  have HF := Lib.hid hf
  have h0 := h 0 (Nat.zero_le _)
  clear h hf
  go_enter Try.func81, Try.ntmps81
  go_wp2
  clear h0
  go_loop [3, 4] (fun t i => ∃ k : Nat, k ≤ r ∧ i = .int .i64 ((k : Int) + 1) ∧ t = .int .i64 ((M.maxTo f k : Nat) : Int)) (fun _ i => (r + 1) - (intOf i).toNat)
  case atStart => exact ⟨0, Nat.zero_le _, rfl, rfl⟩
  case round =>
    obtain ⟨k, hk, rfl, rfl⟩ := hrel
    have hb := M.maxTo_le f 1048576 k fun i hi => HF.out i (by omega)
    by_cases hlt : k < r
    · have c0 := HL.out (k + 1) (by omega)
      have hb1 := HF.out (k + 1) (by omega)
      have HS : Hid (M.maxTo f (k + 1) = max (M.maxTo f k) (f (k + 1))) := rfl
      obtain ⟨x, hx⟩ : ∃ x, f (k + 1) = x := ⟨_, rfl⟩
      obtain ⟨y, hy⟩ : ∃ y, M.maxTo f k = y := ⟨_, rfl⟩
      rw [hx, hy] at HS
      rw [hx] at c0 hb1
      rw [hy] at hb ⊢
      clear hx hy
      have hmax : ∀ (ts : Array TypeId) (t : TypeId) (W : World), (Builtin.max_ ts t #[.int .i64 (y : Int), .int .i64 (x : Int)]).run Try.prog W = .ok (.int .i64 ((max y x : Nat) : Int)) W := fun ts t W => by
        rw [run_max_int2]
        congr 2
        split <;> omega
      go_wp2
      go_round
      case rel => exact ⟨k + 1, by omega, by go_num, by rw [HS.out]⟩
      case measure => simp [intOf]; omega
    · obtain rfl : k = r := by omega
      go_wp2
      go_ret
      exact ⟨rfl, rfl⟩

/-- The numbers that the program keeps, one for each rank. -/
def mostL (K : Nat → Int) (n k : Nat) : List Int := (List.range n).map fun r => ((M.most K k r : Nat) : Int)
theorem mostL_length (K : Nat → Int) (n k : Nat) : (mostL K n k).length = n := by simp [mostL]
theorem mostL_at {K : Nat → Int} {n k j : Nat} (h : j < n) : MW.gz (mostL K n k) j = ((M.most K k j : Nat) : Int) := by
  rw [MW.gz_at (by rw [mostL_length]; exact h)]
  simp [mostL]
theorem mostL_zero (K : Nat → Int) (n : Nat) : mostL K n 0 = List.replicate n 0 := by
  apply List.ext_getElem
  · simp [mostL]
  · intro i h1 h2
    simp [mostL, M.most]
theorem mostL_none {K : Nat → Int} {n k : Nat} (h : K k < 0) : mostL K n (k + 1) = mostL K n k := by unfold mostL; rw [M.most_none h]
theorem mostL_set {K : Nat → Int} {n k r : Nat} (h : K k = (r : Int)) : (mostL K n k).set r (((M.maxTo (M.most K k) r : Nat) : Int) + 1) = mostL K n (k + 1) := by
  apply List.ext_getElem?
  intro i
  by_cases hi : i < n
  · by_cases e : r = i
    · subst e
      rw [List.getElem?_set_self (by rw [mostL_length]; exact hi)]
      simp [mostL, hi, M.most_hit h, M.lng_some h]
      omega
    · rw [List.getElem?_set_ne e]
      simp [mostL, hi, M.most_miss (show K k ≠ ((i : Nat) : Int) by omega)]
  · rw [List.getElem?_eq_none (by rw [List.length_set, mostL_length]; omega), List.getElem?_eq_none (by rw [mostL_length]; omega)]

set_option maxRecDepth 100000 in
set_option maxHeartbeats 2000000 in
theorem impl_KeptLetters (w : World) (b p : Int) (a : Option Addr) (n c : Nat) (S : Nat → ByteArray) (h : Strs w a n S) (hf : SFits n S) (hn : n ≤ 1048576) (a2 : Option Addr) (m c2 : Nat) (I : Nat → Int) (C : Nat → ByteArray) (h2 : Lts w a2 m I C) (hf2 : Fits m I C) :
    Calls Try.prog 43 #[.agg #[.int .i64 b, .int .i64 p, .slice a n c], .slice a2 m c2] w fun e w' => e = .returned (.int .i64 (M.kept b p n S m I C)) ∧ Below w.heap.size w w' := by
  have HL := Lib.hid (h.on ((Below.refl _ _).alloc (Nat.le_refl _) (.cells #[.int .i64 b, .int .i64 p, .slice a n c] 25)))
  have HL2 := Lib.hid (h2.on ((Below.refl _ _).alloc (Nat.le_refl _) (.cells #[.int .i64 b, .int .i64 p, .slice a n c] 25)))
  have bx := Lib.hid (tri_made w (.int .i64 b) (.int .i64 p) (.slice a n c) 25)
  have HF := Lib.hid hf
  have HF2 := Lib.hid hf2
  clear h hf h2 hf2
  cases hp : M.plan b p n S
  · have hv := Lib.hid (M.kept_no (b := b) (p := p) (n := n) (S := S) (m := m) (I := I) (C := C) (by rw [hp]; rfl))
    go_enter Try.func43, Try.ntmps43
    go_wp2_with fail
    refine (impl_PlanValid _ b p a n c S HL.out HF.out hn).mono ?_
    rw [hp]
    rintro e w1 ⟨rfl, hb1⟩
    go_wp2
    go_ret
    exact ⟨ret_int hv.out.symm, sstep (by go_grown) hb1⟩
  cases hb : M.batch m I C
  · have hv := Lib.hid (M.kept_no (b := b) (p := p) (n := n) (S := S) (m := m) (I := I) (C := C) (by rw [hp, hb]; rfl))
    go_enter Try.func43, Try.ntmps43
    go_wp2_with fail
    refine (impl_PlanValid _ b p a n c S HL.out HF.out hn).mono ?_
    rw [hp]
    rintro e w1 ⟨rfl, hb1⟩
    go_wp2_with fail
    refine (impl_BatchValid _ a2 m c2 I C (HL2.out.on hb1) HF2.out).mono ?_
    rw [hb]
    rintro e w2 ⟨rfl, hb2⟩
    go_wp2
    go_ret
    exact ⟨ret_int hv.out.symm, sstep (sstep (by go_grown) hb1) hb2⟩
  have hv := Lib.hid (M.kept_yes (b := b) (p := p) (n := n) (S := S) (m := m) (I := I) (C := C) (by rw [hp, hb]; rfl))
  have hm60 := (M.batch_yes hb).1
  obtain ⟨q0, q1⟩ : 1 ≤ n ∧ n ≤ 60 := by have := M.fits_yes (M.plan_yes hp).1; omega
  obtain ⟨N, hN⟩ : ∃ N, n = N + 1 := ⟨n - 1, by omega⟩
  have HN := Lib.hid hN
  obtain ⟨K, hK⟩ : ∃ K : Nat → Int, (fun k => M.rankTo S (C k) n) = K := ⟨_, rfl⟩
  have hbd : Hid (∀ k, -1 ≤ K k ∧ K k < n) := fun k => by have := M.rank_bd S (C k) n; have := HN.out; rw [← hK]; show -1 ≤ M.rankTo S (C k) n ∧ M.rankTo S (C k) n < (n : Int); omega
  have hSI : Hid (∀ W (hs : Strs W a n S) k, Calls Try.prog 61 #[.slice a n c, .string (C k)] W fun e w' => e = .returned (.int .i64 (K k)) ∧ W = w') := fun W hs k => by rw [← hK]; exact slices_Index W a n c S hs hn (C k)
  have hbm : Hid (M.best K m = M.maxTo (M.most K m) N) := M.best_most fun j _ => by have := (hbd.out j).2; have := HN.out; omega
  rw [hK] at hv
  have HP := Lib.hid hp
  have HB := Lib.hid hb
  clear hp hb hK hN
  have hmk := make_ints n hn
  go_enter Try.func43, Try.ntmps43
  go_wp2_with fail
  refine (impl_PlanValid _ b p a n c S HL.out HF.out hn).mono ?_
  rw [HP.out]
  rintro e w1 ⟨rfl, hb1⟩
  go_wp2_with fail
  refine (impl_BatchValid _ a2 m c2 I C (HL2.out.on hb1) HF2.out).mono ?_
  rw [HB.out]
  rintro e w2 ⟨rfl, hb2⟩
  have HS := Lib.hid ((HL.out.on hb1).on hb2)
  have HT := Lib.hid ((HL2.out.on hb1).on hb2)
  have BX := Lib.hid ((bx.out.on hb1).on hb2)
  have BL : Hid (Below w.heap.size w w2) := sstep (sstep (by go_grown) hb1) hb2
  have hzw : w.heap.size < w2.heap.size := BX.out.lt
  obtain ⟨⟨t0, t1, t2⟩, _⟩ := BX.out
  clear hb1 hb2
  go_wp2
  clear t0 t1 t2
  go_loopw [23] (fun i wr => ∃ k : Nat, k ≤ m ∧ i = .int .i64 k ∧ Hid (IRow wr w2.heap.size (.slice (some ⟨w2.heap.size, 0, none⟩) n n) (mostL K n k)) ∧ Below w2.heap.size w2 wr) (fun i _ => m - (intOf i).toNat)
  case atStart => exact ⟨0, Nat.zero_le _, rfl, by rw [mostL_zero]; exact irow_made w2 n _ hn (Nat.le_refl _), by go_grown⟩
  case round =>
    obtain ⟨k, hk, rfl, hrow, hb⟩ := hrel
    have hz := hb.size
    have hzl : w.heap.size < wr.heap.size := by omega
    by_cases hlt : k < m
    · obtain ⟨b1, o1, rfl, c0, c1⟩ := (HT.out.on hb) k hlt
      obtain ⟨⟨t0, t1, t2⟩, _⟩ := BX.out.on hb
      have hst := Lib.hid (HS.out.on hb)
      obtain ⟨r0, r1⟩ := hbd.out k
      have hSk := Lib.hid (fun W hs => hSI.out W hs k)
      have hno := Lib.hid (fun h => mostL_none (K := K) (n := n) (k := k) h)
      have hyes := Lib.hid (fun r h => mostL_set (K := K) (n := n) (k := k) (r := r) h)
      obtain ⟨x, hx⟩ : ∃ x, K k = x := ⟨_, rfl⟩
      rw [hx] at r0 r1 hSk hno hyes
      clear hx
      have hlg := hrow.out.lt _ rfl
      by_cases hx : x < 0
      · have hno2 := Lib.hid (hno.out hx)
        go_wp2_with fail
        refine (hSk.out _ (hst.out.on (by go_grown))).mono ?_
        rintro e w3 ⟨rfl, rfl⟩
        go_wp2
        go_roundw
        case rel => exact ⟨k + 1, by omega, by go_num, by rw [hno2.out]; exact hrow.out.alloc _, by go_grown⟩
        case measure => simp [intOf]; omega
      · obtain ⟨r, rfl⟩ := Int.eq_ofNat_of_zero_le (show 0 ≤ x by omega)
        have hyes2 := Lib.hid (hyes.out r rfl)
        have hmb := M.maxTo_most_le K k r
        have hrow2 := Lib.hid (hrow.out.alloc (.cells #[.int .i64 (I k), .string (C k)] 37))
        have HM : Hid (∀ W, (∀ i, i ≤ r → W.cell? ⟨w2.heap.size, i, none⟩ = some (.int .i64 ((M.most K k i : Nat) : Int))) → Calls Try.prog 81 #[.slice (some ⟨w2.heap.size, 0, none⟩) (r + 1) n] W fun e w' => e = .returned (.int .i64 ((M.maxTo (M.most K k) r : Nat) : Int)) ∧ W = w') := fun W hW =>
          slices_Max W _ r _ _ rfl (M.most K k) hW (fun i hi => by have := M.most_le K k i; omega) (by omega)
        obtain ⟨d0, d1⟩ := hrow2.out.at r (by rw [mostL_length]; omega)
        obtain ⟨y, hy⟩ : ∃ y, M.maxTo (M.most K k) r = y := ⟨_, rfl⟩
        rw [hy] at hmb HM hyes2
        clear hy
        go_wp2_with fail
        refine (hSk.out _ (hst.out.on (by go_grown))).mono ?_
        rintro e w3 ⟨rfl, rfl⟩
        go_wp2_with fail
        refine (HM.out _ fun i hi => by
          obtain ⟨e0, _⟩ := hrow2.out.at i (by rw [mostL_length]; omega)
          rw [e0, mostL_at (by omega)]).mono ?_
        rintro e w3 ⟨rfl, rfl⟩
        go_wp2
        go_roundw
        case rel => exact ⟨k + 1, by omega, by go_num, by rw [← hyes2.out]; exact (hrow.out.put (by rw [mostL_length]) r _).alloc _, by go_grown⟩
        case measure => simp [intOf]; omega
    · obtain rfl : k = m := by omega
      have HM : Hid (∀ W, (∀ i, i ≤ N → W.cell? ⟨w2.heap.size, i, none⟩ = some (.int .i64 ((M.most K k i : Nat) : Int))) → Calls Try.prog 81 #[.slice (some ⟨w2.heap.size, 0, none⟩) n n] W fun e w' => e = .returned (.int .i64 ((M.maxTo (M.most K k) N : Nat) : Int)) ∧ W = w') := fun W hW =>
        slices_Max W _ N _ _ HN.out (M.most K k) hW (fun i hi => by have := M.most_le K k i; omega) (by have := HN.out; omega)
      rw [← hbm.out] at HM
      go_wp2_with fail
      refine (HM.out _ fun i hi => by
        obtain ⟨e0, _⟩ := hrow.out.at i (by rw [mostL_length]; have := HN.out; omega)
        rw [e0, mostL_at (by have := HN.out; omega)]).mono ?_
      rintro e w3 ⟨rfl, rfl⟩
      go_wp2
      go_ret
      exact ⟨ret_int hv.out.symm, BL.out.trans (hb.mono BL.out.size)⟩

set_option maxHeartbeats 1000000 in
theorem impl_MovedLetters (w : World) (b p : Int) (a : Option Addr) (n c : Nat) (S : Nat → ByteArray) (h : Strs w a n S) (hf : SFits n S) (hn : n ≤ 1048576) (a2 : Option Addr) (m c2 : Nat) (I : Nat → Int) (C : Nat → ByteArray) (h2 : Lts w a2 m I C) (hf2 : Fits m I C) (hm : m ≤ 1048576) :
    Calls Try.prog 44 #[.agg #[.int .i64 b, .int .i64 p, .slice a n c], .slice a2 m c2] w fun e w' => e = .returned (.int .i64 (M.moved b p n S m I C)) ∧ Below w.heap.size w w' := by
  have b0 := below_alloc0 w (.cells #[.int .i64 b, .int .i64 p, .slice a n c] 25)
  have HR := Lib.hid (impl_KeptLetters _ b p a n c S (h.on b0) hf hn a2 m c2 I C (h2.on b0) hf2)
  have B0 := Lib.hid b0
  obtain ⟨k0, k1⟩ := M.kept_bd b p n S m I C
  have hv : Hid (M.moved b p n S m I C = if M.kept b p n S m I C < 0 then -1 else m - M.kept b p n S m I C) := rfl
  obtain ⟨x, hx⟩ : ∃ x, M.kept b p n S m I C = x := ⟨_, rfl⟩
  rw [hx] at HR k0 k1 hv
  clear h hf h2 hf2 b0 hx
  by_cases h0 : x < 0
  · have hv2 : Hid (M.moved b p n S m I C = -1) := by rw [hv.out, if_pos h0]; rfl
    go_enter Try.func44, Try.ntmps44
    go_wp2_with fail
    refine HR.out.mono ?_
    rintro e w1 ⟨rfl, hb1⟩
    go_wp2
    go_ret
    exact ⟨ret_int hv2.out.symm, sstep B0.out hb1⟩
  · have hv2 : Hid (M.moved b p n S m I C = m - x) := by rw [hv.out, if_neg h0]; rfl
    go_enter Try.func44, Try.ntmps44
    go_wp2_with fail
    refine HR.out.mono ?_
    rintro e w1 ⟨rfl, hb1⟩
    go_wp2
    go_ret
    exact ⟨ret_int hv2.out.symm, sstep B0.out hb1⟩

/-- The numbers that the model keeps, one for each letter. -/
def lngL (K : Nat → Int) (m k : Nat) : List Int := (List.range m).map fun j => if j < k then ((M.lng K j : Nat) : Int) else 0
theorem lngL_length (K : Nat → Int) (m k : Nat) : (lngL K m k).length = m := by simp [lngL]
theorem lngL_at {K : Nat → Int} {m k j : Nat} (h : j < k) (hm : j < m) : MW.gz (lngL K m k) j = ((M.lng K j : Nat) : Int) := by
  rw [MW.gz_at (by rw [lngL_length]; exact hm)]
  simp [lngL, h]
theorem lngL_zero (K : Nat → Int) (m : Nat) : lngL K m 0 = List.replicate m 0 := by
  apply List.ext_getElem
  · simp [lngL]
  · intro i h1 h2
    simp [lngL]
theorem lngL_set {K : Nat → Int} {m k : Nat} {x : Int} (hx : x = ((M.lng K k : Nat) : Int)) : (lngL K m k).set k x = lngL K m (k + 1) := by
  subst hx
  apply List.ext_getElem?
  intro i
  by_cases hi : i < m
  · by_cases e : k = i
    · subst e
      rw [List.getElem?_set_self (by rw [lngL_length]; exact hi)]
      simp [lngL, hi]
    · rw [List.getElem?_set_ne e]
      simp [lngL, hi]
      by_cases h1 : i < k
      · rw [if_pos h1, if_pos (by omega)]
      · rw [if_neg h1, if_neg (by omega)]
  · rw [List.getElem?_eq_none (by rw [List.length_set, lngL_length]; omega), List.getElem?_eq_none (by rw [lngL_length]; omega)]
theorem lngL_none {K : Nat → Int} {m k : Nat} (h : K k < 0) : lngL K m (k + 1) = lngL K m k := by
  apply List.ext_getElem?
  intro i
  by_cases hi : i < m
  · simp [lngL, hi]
    by_cases e : i = k
    · subst e
      rw [if_pos (by omega), if_neg (by omega), M.lng_none h]; rfl
    · by_cases h1 : i < k
      · rw [if_pos h1, if_pos (by omega)]
      · rw [if_neg h1, if_neg (by omega)]
  · rw [List.getElem?_eq_none (by rw [lngL_length]; omega), List.getElem?_eq_none (by rw [lngL_length]; omega)]

theorem IRow.put2 {w : World} {base g n c k : Nat} {L : List Int} {Y : Int} (h : IRow w base (.slice (some ⟨g, 0, none⟩) n c) (L.set k Y)) (hn : n = (L.set k Y).length) (k' : Nat) (x : Int) (e : k = k' := by rfl) :
    IRow (w.setCell ⟨g, k', none⟩ (.int .i64 x)) base (.slice (some ⟨g, 0, none⟩) n c) (L.set k' x) := by
  subst e
  have := h.put hn k x
  rwa [List.set_set] at this

set_option maxRecDepth 100000 in
set_option maxHeartbeats 4000000 in
theorem spec_KeptLetters (w : World) (b p : Int) (a : Option Addr) (n c : Nat) (S : Nat → ByteArray) (h : Strs w a n S) (hf : SFits n S) (hn : n ≤ 1048576) (a2 : Option Addr) (m c2 : Nat) (I : Nat → Int) (C : Nat → ByteArray) (h2 : Lts w a2 m I C) (hf2 : Fits m I C) (hm : m ≤ 1048576) :
    Calls Try.prog 45 #[.agg #[.int .i64 b, .int .i64 p, .slice a n c], .slice a2 m c2] w fun e w' => e = .returned (.int .i64 (M.kept b p n S m I C)) ∧ Below w.heap.size w w' := by
  have BL0 := Lib.hid ((tri_made w (.int .i64 b) (.int .i64 p) (.slice a n c) 25).alloc (.cells (madeCells #[.int .i64 0] m) 3))
  obtain ⟨w1, hw1⟩ : ∃ w1, w.alloc (.cells #[.int .i64 b, .int .i64 p, .slice a n c] 25) = w1 := ⟨_, rfl⟩
  have b0 : Below w.heap.size w w1 := hw1 ▸ below_alloc0 w _
  have bx : Hid (Tri w1 w.heap.size (.int .i64 b) (.int .i64 p) (.slice a n c)) := hw1 ▸ tri_made w (.int .i64 b) (.int .i64 p) (.slice a n c) 25
  have HL := Lib.hid (h.on b0)
  have HL2 := Lib.hid (h2.on b0)
  have HF := Lib.hid hf
  have HF2 := Lib.hid hf2
  have B0 := Lib.hid b0
  have hz1 : w.heap.size < w1.heap.size := bx.out.lt
  have hz1' : w1.heap.size ≤ w.heap.size + 1 := by rw [← hw1]; simp
  have HZ : Hid (w1.heap.size = w.heap.size + 1) := Nat.le_antisymm hz1' hz1
  have HW := Lib.hid hw1
  clear h hf h2 hf2 b0 hw1
  have hmk := make_ints m hm
  have hRd := Lib.hid (fun W hs ht => spec_l3Ready W b p a n c S hs HF.out hn a2 m c2 I C ht HF2.out hm)
  obtain ⟨w2, hw2⟩ : ∃ w2, w1.alloc (.cells (madeCells #[.int .i64 0] m) 3) = w2 := ⟨_, rfl⟩
  have k2 : Below w1.heap.size w1 w2 := hw2 ▸ below_alloc0 w1 _
  have hz2 : w1.heap.size < w2.heap.size := by rw [← hw2]; simp
  obtain ⟨K, hK⟩ : ∃ K : Nat → Int, (fun k => M.rankTo S (C k) n) = K := ⟨_, rfl⟩
  have hrow : Hid (IRow w2 (w.heap.size + 1) (.slice (some ⟨w.heap.size + 1, 0, none⟩) m m) (lngL K m 0)) := by rw [lngL_zero, ← HZ.out]; exact hw2 ▸ irow_made w1 m _ hm (Nat.le_refl _)
  have HW2 := Lib.hid hw2
  have K2 := Lib.hid k2
  clear hw2 k2
  cases hr : (M.plan b p n S && M.batch m I C)
  · have hv := Lib.hid (M.kept_no hr)
    rw [hr] at hRd
    clear hr hK
    go_enter Try.func45, Try.ntmps45
    obtain ⟨⟨t0, t1, t2⟩, _⟩ := BL0.out
    go_wp2_with fail
    rw [HW.out, HW2.out]
    refine (hRd.out _ (HL.out.on K2.out) (HL2.out.on K2.out)).mono ?_
    rintro e w3 ⟨rfl, hb3⟩
    go_wp2
    go_ret
    exact ⟨ret_int hv.out.symm, sstep (sstep B0.out K2.out) hb3⟩
  have hv := Lib.hid (M.kept_yes hr)
  rw [hr] at hRd
  rw [hK] at hv
  have hm60 : m ≤ 60 := by rw [Bool.and_eq_true] at hr; exact (M.batch_yes hr.2).1
  have hbd : Hid (∀ k, -1 ≤ K k ∧ K k < 1048576) := fun k => by have := M.rank_bd S (C k) n; rw [← hK]; show -1 ≤ M.rankTo S (C k) n ∧ M.rankTo S (C k) n < 1048576; omega
  have hSI : Hid (∀ W (hs : Strs W a n S) k, Calls Try.prog 67 #[.slice a n c, .string (C k)] W fun e w' => e = .returned (.int .i64 (K k)) ∧ w' = W) := fun W hs k => by rw [← hK]; exact quiet_flip (spec_l3Rank W a n c S hs hn (C k))
  clear hr hK
  go_enter Try.func45, Try.ntmps45
  obtain ⟨⟨t0, t1, t2⟩, _⟩ := BL0.out
  go_wp2_with fail
  rw [HW.out, HW2.out]
  refine (hRd.out _ (HL.out.on K2.out) (HL2.out.on K2.out)).mono ?_
  rintro e w3 ⟨rfl, hb3⟩
  have k3 := sstep K2.out hb3
  have hz3 := k3.size
  have hrow3 := Lib.hid (hrow.out.on hb3)
  have hz3' := hb3.size
  clear t0 t1 t2 hb3
  go_wp2
  go_loopw [5, 7] (fun q i wr => ∃ k : Nat, k ≤ m ∧ i = .int .i64 k ∧ q = .int .i64 ((M.best K k : Nat) : Int) ∧ Hid (IRow wr (w.heap.size + 1) (.slice (some ⟨w.heap.size + 1, 0, none⟩) m m) (lngL K m k)) ∧ Below w1.heap.size w1 wr ∧ w.heap.size + 1 < wr.heap.size) (fun _ i _ => m - (intOf i).toNat)
  case atStart => exact ⟨0, Nat.zero_le _, rfl, rfl, hrow3.out, k3, by omega⟩
  case round =>
    obtain ⟨k, hk, rfl, rfl, hrow, hb, hlt1⟩ := hrel
    by_cases hlt : k < m
    · obtain ⟨b1, o1, rfl, c0, c1⟩ := (HL2.out.on hb) k hlt
      obtain ⟨⟨t0, t1, t2⟩, _⟩ := bx.out.on hb
      have hst := Lib.hid (HL.out.on hb)
      obtain ⟨r0, r1⟩ := hbd.out k
      have hSk := Lib.hid (fun W hs => hSI.out W hs k)
      have hno := Lib.hid (fun h => lngL_none (K := K) (m := m) (k := k) h)
      have hlno := Lib.hid (fun h => M.lng_none (K := K) (k := k) h)
      have hlof := Lib.hid (fun r h => M.lng_of_in (K := K) (k := k) (r := r) h)
      have hBS : Hid (M.best K (k + 1) = max (M.best K k) (M.lng K k)) := rfl
      have hbl := M.best_le K k
      obtain ⟨x, hx⟩ : ∃ x, K k = x := ⟨_, rfl⟩
      rw [hx] at r0 r1 hSk hno hlno hlof
      clear hx
      by_cases hx : x < 0
      · have hno2 := Lib.hid (hno.out hx)
        have hB2 : Hid (M.best K (k + 1) = M.best K k) := by rw [hBS.out, hlno.out hx]; exact Nat.max_zero _
        go_wp2
        go_quiet ((go_at_call 67; exact Calls.quiet_of_same (hSk.out _ (hst.out.on (below_drewN0 (Below.refl _ _) _)))))
        go_wp2
        go_roundw
        case rel => exact ⟨k + 1, by omega, by go_num, by rw [hB2.out], by rw [hno2.out]; exact hrow.out.on (below_drewN0 (Below.refl _ _) _), below_drewN0 hb _, hlt1⟩
        case measure => simp [intOf]; omega
      · obtain ⟨r, rfl⟩ := Int.eq_ofNat_of_zero_le (show 0 ≤ x by omega)
        have hlo2 := Lib.hid (hlof.out r rfl)
        have hll := Lib.hid (lngL_length K m k)
        obtain ⟨d0, d1⟩ := hrow.out.at k (by have := hll.out; omega)
        obtain ⟨G, hG⟩ : ∃ G, MW.gz (lngL K m k) k = G := ⟨_, rfl⟩
        rw [hG] at d0
        clear hG
        go_wp2
        go_quiet ((go_at_call 67; exact Calls.quiet_of_same (hSk.out _ (hst.out.on (below_drewN0 (Below.refl _ _) _)))))
        clear hSk hno hlno hlof r0 r1 hmk
        go_wp2
        go_loopw [9] (fun i ws => ∃ (j : Nat) (Y : Int), j ≤ k ∧ i = .int .i64 j ∧ Hid (Y = 1 + ((M.inTo K r j : Nat) : Int)) ∧ Hid (IRow ws (w.heap.size + 1) (.slice (some ⟨w.heap.size + 1, 0, none⟩) m m) ((lngL K m k).set k Y)) ∧ Below w1.heap.size w1 ws ∧ w.heap.size + 1 < ws.heap.size) (fun i _ => k - (intOf i).toNat)
        case atStart => exact ⟨0, 1, Nat.zero_le _, rfl, rfl, (hrow.out.on (below_drewN0 (Below.refl _ _) _)).put hll.out.symm k 1, (below_drewN0 hb _).setCell (by omega) _, by simpa using hlt1⟩
        case round =>
          obtain ⟨j, Y, hj, rfl, hY, hrow2, hb2, hlt2⟩ := hrel
          have hll2 : ((lngL K m k).set k Y).length = m := by rw [List.length_set]; exact hll.out
          by_cases hjk : j < k
          · obtain ⟨b2, o2, e2, c2, c3⟩ := (HL2.out.on hb2) j (by omega)
            cases e2
            clear t0 t1 t2 c0 c1 d0 d1
            obtain ⟨⟨t0, t1, t2⟩, _⟩ := bx.out.on hb2
            have hst2 := Lib.hid (HL.out.on hb2)
            have hSj := Lib.hid (fun W hs => hSI.out W hs j)
            obtain ⟨d0, d1⟩ := hrow2.out.at j (by omega)
            rw [MW.gz_set_ne (by omega), lngL_at hjk (by omega)] at d0
            obtain ⟨f0, f1⟩ := hrow2.out.at k (by omega)
            rw [MW.gz_set_self (by have := hll.out; omega)] at f0
            have hin := M.inTo_le K r j
            have hl0 := M.lng_le K j
            have hpos := Lib.hid (M.lng_pos (K := K) (k := j))
            have hyes := Lib.hid (fun h h2 => M.inTo_yes (K := K) (n := (r : Int)) (k := j) h h2)
            have hno := Lib.hid (fun h => M.inTo_no (K := K) (n := (r : Int)) (k := j) h)
            obtain ⟨s0, s1⟩ := hbd.out j
            obtain ⟨z, hz⟩ : ∃ z, K j = z := ⟨_, rfl⟩
            obtain ⟨x, hx⟩ : ∃ x, M.lng K j = x := ⟨_, rfl⟩
            obtain ⟨y, hy⟩ : ∃ y, M.inTo K r j = y := ⟨_, rfl⟩
            rw [hz] at hSj hpos hyes hno s0 s1
            rw [hx] at hpos hyes hl0 d0
            rw [hy] at hyes hno hin hY
            clear hz hx hy
            have hY1 : 1 ≤ Y ∧ Y ≤ 100 := by have := hY.out; omega
            obtain ⟨y0, y1⟩ := hY1
            by_cases hz0 : z < 0
            · have hx0 : x = 0 := by have := hpos.out; omega
              subst hx0
              have hno2 := Lib.hid (hno.out (Or.inl hz0))
              go_wp2
              go_quiet (fail)
              go_wp2
              go_roundw
              case rel => exact ⟨j + 1, Y, by omega, by go_num, by rw [hno2.out]; exact hY.out, hrow2.out.on (below_drewN0 (Below.refl _ _) _), below_drewN0 hb2 _, hlt2⟩
              case measure => simp [intOf]; omega
            · have hx1 : 0 < x := hpos.out.2 (by omega)
              have hxd : decide ((0 : Int) < (x : Int)) = true := decide_eq_true (by omega)
              by_cases hzr : z ≤ (r : Int)
              · have hyes2 := Lib.hid (hyes.out (by omega) hzr)
                obtain ⟨U, hU⟩ : ∃ U : Int, (if (x : Int) + 1 > Y then (x : Int) + 1 else Y) = U := ⟨_, rfl⟩
                have hUv : Hid (U = 1 + ((max y x : Nat) : Int)) := by have := hY.out; show U = _; rw [← hU]; split <;> omega
                have hmax : ∀ (ts : Array TypeId) (t : TypeId) (W : World), (Builtin.max_ ts t #[.int .i64 Y, .int .i64 ((x : Int) + 1)]).run Try.prog W = .ok (.int .i64 U) W := fun ts t W => by rw [run_max_int2, hU]
                clear hU
                go_wp2
                go_quiet ((go_at_call 67; exact Calls.quiet_of_same (hSj.out _ (hst2.out.on (below_drewN0 (Below.refl _ _) _)))))
                go_wp2
                go_region
                all_goals
                  go_wp2
                  go_roundw
                  case rel => exact ⟨j + 1, U, by omega, by go_num, by rw [hyes2.out]; exact hUv.out, (hrow2.out.on (below_drewN0 (Below.refl _ _) _)).put2 hll2.symm k U, (below_drewN0 hb2 _).setCell (by omega) _, by simpa using hlt2⟩
                  case measure => simp [intOf]; omega
              · have hno2 := Lib.hid (hno.out (Or.inr (by omega)))
                go_wp2
                go_quiet ((go_at_call 67; exact Calls.quiet_of_same (hSj.out _ (hst2.out.on (below_drewN0 (Below.refl _ _) _)))))
                go_wp2
                go_roundw
                case rel => exact ⟨j + 1, Y, by omega, by go_num, by rw [hno2.out]; exact hY.out, hrow2.out.on (below_drewN0 (Below.refl _ _) _), below_drewN0 hb2 _, hlt2⟩
                case measure => simp [intOf]; omega
          · obtain rfl : j = k := by omega
            have hll3 := hll.out
            clear c0 c1 d0 d1
            obtain ⟨f0, f1⟩ := hrow2.out.at j (by omega)
            rw [MW.gz_set_self (by omega)] at f0
            have hY1 : Hid (Y = ((M.lng K j : Nat) : Int)) := by have := hY.out; have := hlo2.out; show Y = _; omega
            have hlb := M.lng_le K j
            obtain ⟨U, hU⟩ : ∃ U : Int, (if Y > ((M.best K j : Nat) : Int) then Y else ((M.best K j : Nat) : Int)) = U := ⟨_, rfl⟩
            have hUv : Hid (U = ((M.best K (j + 1) : Nat) : Int)) := by have := hY1.out; show U = _; rw [← hU, hBS.out]; split <;> omega
            obtain ⟨q, hq⟩ : ∃ q, M.best K j = q := ⟨_, rfl⟩
            rw [hq] at hU ⊢
            have hmax : ∀ (ts : Array TypeId) (t : TypeId) (W : World), (Builtin.max_ ts t #[.int .i64 (q : Int), .int .i64 Y]).run Try.prog W = .ok (.int .i64 U) W := fun ts t W => by rw [run_max_int2, hU]
            have HS : Hid ((lngL K m j).set j Y = lngL K m (j + 1)) := lngL_set hY1.out
            clear hU hq hll3
            go_wp2
            go_roundw
            case rel => exact ⟨j + 1, by omega, by go_num, by rw [hUv.out], by rw [← HS.out]; exact hrow2.out, hb2, hlt2⟩
            case measure => simp [intOf]; omega
    · obtain rfl : k = m := by omega
      go_wp2
      go_ret
      exact ⟨ret_int hv.out.symm, B0.out.trans (hb.mono (by omega))⟩
set_option maxHeartbeats 1000000 in
theorem spec_MovedLetters (w : World) (b p : Int) (a : Option Addr) (n c : Nat) (S : Nat → ByteArray) (h : Strs w a n S) (hf : SFits n S) (hn : n ≤ 1048576) (a2 : Option Addr) (m c2 : Nat) (I : Nat → Int) (C : Nat → ByteArray) (h2 : Lts w a2 m I C) (hf2 : Fits m I C) (hm : m ≤ 1048576) :
    Calls Try.prog 46 #[.agg #[.int .i64 b, .int .i64 p, .slice a n c], .slice a2 m c2] w fun e w' => e = .returned (.int .i64 (M.moved b p n S m I C)) ∧ Below w.heap.size w w' := by
  have b0 := below_alloc0 w (.cells #[.int .i64 b, .int .i64 p, .slice a n c] 25)
  have HR := Lib.hid (spec_KeptLetters _ b p a n c S (h.on b0) hf hn a2 m c2 I C (h2.on b0) hf2 hm)
  have B0 := Lib.hid b0
  obtain ⟨k0, k1⟩ := M.kept_bd b p n S m I C
  have hv : Hid (M.moved b p n S m I C = if M.kept b p n S m I C < 0 then -1 else m - M.kept b p n S m I C) := rfl
  obtain ⟨x, hx⟩ : ∃ x, M.kept b p n S m I C = x := ⟨_, rfl⟩
  rw [hx] at HR k0 k1 hv
  clear h hf h2 hf2 b0 hx
  by_cases h0 : x < 0
  · have hv2 : Hid (M.moved b p n S m I C = -1) := by rw [hv.out, if_pos h0]; rfl
    go_enter Try.func46, Try.ntmps46
    go_wp2_with fail
    refine HR.out.mono ?_
    rintro e w1 ⟨rfl, hb1⟩
    go_wp2
    go_ret
    exact ⟨ret_int hv2.out.symm, sstep B0.out hb1⟩
  · have hv2 : Hid (M.moved b p n S m I C = m - x) := by rw [hv.out, if_neg h0]; rfl
    go_enter Try.func46, Try.ntmps46
    go_wp2_with fail
    refine HR.out.mono ?_
    rintro e w1 ⟨rfl, hb1⟩
    go_wp2
    go_ret
    exact ⟨ret_int hv2.out.symm, sstep B0.out hb1⟩

end Go.Proofs.Ytbcoklognedffaa
