/-
  Weights and numbers of trucks: what WeightsValid and TruckCount return, in the program and in the model of the document.
-/
import Derived.Test.YtmoghfgfdbdioaaTrkA
namespace Go.Proofs.Ytmoghfgfdbdioaa
open Go.RowKit

set_option maxHeartbeats 1000000 in
theorem index_weight (w : World) (a : Option Addr) (n c : Nat) (L : List Int) (h : Nums w a L) (hL : L.length = n) (hn : n ≤ 1048576) (B : Nat) (q : Int) (hq : w.cell? ⟨B, 0, none⟩ = some (.int .i64 q))  :
    Calls Try.prog 49 #[.slice a n c, .func (.func 34) #[] #[.pointer (some ⟨B, 0, none⟩)]] w fun e w' => ∃ r : Int, e = .returned (.int .i64 r) ∧ FirstAt (fun x => badW x q) L r ∧ Below w.heap.size w w' := by
  have HL := Lib.hid h
  have HN := Lib.hid hL
  have l_hq := World.block_lt_of_cell? _ _ hq
  have HC := Lib.hid (fun W (hW : Below w.heap.size w W) (x : Int) => weight_it W B x q ((hW.cell (p := ⟨B, 0, none⟩) l_hq).trans hq))
  clear h hL hq l_hq 
  go_enter Try.func49, Try.ntmps49
  go_wp2
  go_loopw [8] (fun i wr => ∃ k : Nat, k ≤ n ∧ i = .int .i64 k ∧ Hid (∀ j, j < k → (fun x => badW x q) (MW.gz L j) = false) ∧ Below w.heap.size w wr) (fun i _ => n - (intOf i).toNat)
  case atStart => exact ⟨0, Nat.zero_le _, rfl, fun j hj => absurd hj (by omega), Below.refl _ _⟩
  case round =>
    obtain ⟨k, hk, rfl, hno, hb⟩ := hrel
    have hz := hb.size
    by_cases hlt : k < n
    · obtain ⟨b, o, rfl, c0⟩ := (HL.out.on hb) k (by rw [HN.out]; exact hlt)
      cases he : (fun x => badW x q) (MW.gz L k)
      · have HE := Lib.hid he
        clear he
        go_wp2_with (go_at_call 34; refine (HC.out _ hb _).mono ?_; rw [HE.out]; rintro e w1 ⟨rfl, hb1⟩)
        go_roundw
        case rel => exact ⟨k + 1, by omega, by go_num, fun j hj => by by_cases e : j = k; (subst e; exact HE.out); exact hno.out j (by omega), sstep hb hb1⟩
        case measure => simp [intOf]; omega
      · have HE := Lib.hid he
        clear he
        go_wp2_with (go_at_call 34; refine (HC.out _ hb _).mono ?_; rw [HE.out]; rintro e w1 ⟨rfl, hb1⟩)
        go_ret
        exact ⟨_, rfl, Or.inr ⟨k, rfl, by rw [HN.out]; exact hlt, HE.out, hno.out⟩, sstep hb hb1⟩
    · obtain rfl : k = n := by omega
      go_wp2
      go_ret
      exact ⟨_, rfl, Or.inl ⟨rfl, fun i hi => hno.out i (by rw [HN.out] at hi; exact hi)⟩, hb⟩

set_option maxHeartbeats 400000 in
theorem any_weight (w : World) (a : Option Addr) (n c : Nat) (L : List Int) (h : Nums w a L) (hL : L.length = n) (hn : n ≤ 1048576) (B : Nat) (q : Int) (hq : w.cell? ⟨B, 0, none⟩ = some (.int .i64 q)) :
    Calls Try.prog 33 #[.slice a n c, .func (.func 34) #[] #[.pointer (some ⟨B, 0, none⟩)]] w fun e w' => e = .returned (.bool (L.any (fun x => badW x q))) ∧ Below w.heap.size w w' := by
  have HC := Lib.hid (index_weight w a n c L h hL hn B q hq)
  clear h hL hq
  go_enter Try.func33, Try.ntmps33
  go_wp2_with (go_at_call 49; refine HC.out.mono ?_; rintro e w1 ⟨r, rfl, hr, hb1⟩)
  go_ret
  exact ⟨ret_bool hr.neg, hb1⟩

theorem any_badW (L : List Int) (q : Int) : (!(L.any fun x => badW x q)) = MW.allIn 1 q L := by
  unfold MW.allIn badW
  rw [List.not_any_eq_all_not]
  congr 1
  funext x
  by_cases h : 1 ≤ x ∧ x ≤ q <;> simp [h]

set_option maxHeartbeats 1000000 in
theorem impl_WeightsValid (w : World) (a : Option Addr) (n c : Nat) (L : List Int) (h : Nums w a L) (hL : L.length = n) (hn : n ≤ 1048576) (q : Int) :
    Calls Try.prog 12 #[.slice a n c, .int .i64 q] w fun e w' => e = .returned (.bool (MW.wOk L q)) ∧ Below w.heap.size w w' := by
  have hmf : ∀ (fn : Fn) (first cap : Array Value) (w : World), (Instr.makeFunc fn first cap).run Try.prog w = .ok (.func fn first cap) w := fun _ _ _ _ => rfl
  have HL := Lib.hid h
  have HN := Lib.hid hL
  clear h hL
  by_cases h1 : q < 1
  · have hv := Lib.hid (MW.wOk_cap (L := L) (c := q) (by omega))
    go_enter Try.func12, Try.ntmps12
    go_wp2
    go_ret
    exact ⟨ret_bool hv.out.symm, by go_grown⟩
  · by_cases h2 : 1000 < q
    · have hv := Lib.hid (MW.wOk_cap (L := L) (c := q) (by omega))
      go_enter Try.func12, Try.ntmps12
      go_wp2
      go_ret
      exact ⟨ret_bool hv.out.symm, by go_grown⟩
    · by_cases h3 : 8 < n
      · have hv := Lib.hid (MW.wOk_long (L := L) (c := q) (by have := HN.out; omega))
        have h4 : (8 : Int) < (n : Int) := by omega
        go_enter Try.func12, Try.ntmps12
        go_wp2
        go_ret
        exact ⟨ret_bool hv.out.symm, by go_grown⟩
      · have hv := Lib.hid (MW.wOk_in (L := L) (c := q) (by omega) (by have := HN.out; omega))
        have h4 : ¬ (8 : Int) < (n : Int) := by omega
        have hb0 := below_alloc0 w (.cells #[.int .i64 q] 3)
        have H0 := Lib.hid (any_weight (w.alloc (.cells #[.int .i64 q] 3)) a n c L (HL.out.on hb0) HN.out hn w.heap.size q (by simp))
        go_enter Try.func12, Try.ntmps12
        go_wp2_with (go_at_call 33; refine H0.out.mono ?_; rintro e w1 ⟨rfl, hb1⟩)
        go_ret
        exact ⟨ret_bool (by rw [any_badW, hv.out]), sstep hb0 hb1⟩

set_option maxHeartbeats 1000000 in
theorem spec_WeightsValid (w : World) (a : Option Addr) (n c : Nat) (L : List Int) (h : Nums w a L) (hL : L.length = n) (hn : n ≤ 1048576) (q : Int) :
    Calls Try.prog 13 #[.slice a n c, .int .i64 q] w fun e w' => e = .returned (.bool (MW.wOk L q)) ∧ w = w' := by
  have HL := Lib.hid h
  have HN := Lib.hid hL
  clear h hL
  go_enter Try.func13, Try.ntmps13
  go_wp2
  go_loop [5] (fun i => ∃ k : Nat, k ≤ n ∧ i = .int .i64 k ∧ Hid (∀ j, j < k → 1 ≤ MW.gz L j ∧ MW.gz L j ≤ q)) (fun i => n - (intOf i).toNat)
  case atStart => exact ⟨0, Nat.zero_le _, rfl, fun j hj => absurd hj (by omega)⟩
  case round =>
    obtain ⟨k, hk, rfl, hno⟩ := hrel
    by_cases hlt : k < n
    · obtain ⟨b, o, rfl, c0⟩ := HL.out k (by rw [HN.out]; exact hlt)
      by_cases he : 1 ≤ MW.gz L k ∧ MW.gz L k ≤ q
      · have HE := Lib.hid he
        have D1 := Lib.hid (decide_eq_true he)
        clear he
        go_wp2_with (go_at_call 35; refine (spec_l1In _ _ _ _).mono ?_; rw [D1.out]; rintro e w1 ⟨rfl, rfl⟩)
        go_round
        case rel => exact ⟨k + 1, by omega, by go_num, fun j hj => by by_cases e : j = k; (subst e; exact HE.out); exact hno.out j (by omega)⟩
        case measure => simp [intOf]; omega
      · have HE : Hid (MW.wOk L q = false) := by
          have hnn := HN.out
          by_cases h1 : 1 ≤ q ∧ q ≤ 1000
          · by_cases h2 : L.length ≤ 8
            · rw [Hid, MW.wOk_in h1 h2]; exact MW.allIn_no (by omega) he
            · exact MW.wOk_long h2
          · exact MW.wOk_cap h1
        have D1 := Lib.hid (decide_eq_false he)
        clear he
        go_wp2_with (go_at_call 35; refine (spec_l1In _ _ _ _).mono ?_; rw [D1.out]; rintro e w1 ⟨rfl, rfl⟩)
        go_ret
        exact ⟨ret_bool HE.out.symm, rfl⟩
    · obtain rfl : k = n := by omega
      have HA : Hid (MW.allIn 1 q L = true) := MW.allIn_yes fun i hi => hno.out i (by rw [HN.out] at hi; exact hi)
      clear hno hlt
      by_cases h8 : k ≤ 8
      · by_cases h1 : 1 ≤ q ∧ q ≤ 1000
        · have hv : Hid (MW.wOk L q = true) := by rw [Hid, MW.wOk_in h1 (by have := HN.out; omega)]; exact HA.out
          have D1 := Lib.hid (decide_eq_true h1)
          have h9 : (k : Int) ≤ 8 := by omega
          clear h1
          go_wp2_with (go_at_call 35; refine (spec_l1In _ _ _ _).mono ?_; rw [D1.out]; rintro e w1 ⟨rfl, rfl⟩)
          go_ret
          exact ⟨ret_bool hv.out.symm, rfl⟩
        · have hv := Lib.hid (MW.wOk_cap (L := L) h1)
          have D1 := Lib.hid (decide_eq_false h1)
          have h9 : (k : Int) ≤ 8 := by omega
          clear h1
          go_wp2_with (go_at_call 35; refine (spec_l1In _ _ _ _).mono ?_; rw [D1.out]; rintro e w1 ⟨rfl, rfl⟩)
          go_ret
          exact ⟨ret_bool hv.out.symm, rfl⟩
      · have hv := Lib.hid (MW.wOk_long (L := L) (c := q) (by have := HN.out; omega))
        have h9 : ¬ (k : Int) ≤ 8 := by omega
        go_wp2
        go_ret
        exact ⟨ret_bool hv.out.symm, rfl⟩

set_option maxHeartbeats 1000000 in
theorem spec_l5Given (w : World) (a : Option Addr) (n c : Nat) (L : List Int) (h : Nums w a L) (hL : L.length = n) (hn : n ≤ 1048576) :
    Calls Try.prog 44 #[.slice a n c] w fun e w' => e = .returned (.bool (MW.gOk L)) ∧ w = w' := by
  have HL := Lib.hid h
  have HN := Lib.hid hL
  clear h hL
  go_enter Try.func44, Try.ntmps44
  go_wp2
  go_loop [3] (fun i => ∃ k : Nat, k ≤ n ∧ i = .int .i64 k ∧ Hid (∀ j, j < k → 0 ≤ MW.gz L j ∧ MW.gz L j ≤ 7)) (fun i => n - (intOf i).toNat)
  case atStart => exact ⟨0, Nat.zero_le _, rfl, fun j hj => absurd hj (by omega)⟩
  case round =>
    obtain ⟨k, hk, rfl, hno⟩ := hrel
    by_cases hlt : k < n
    · obtain ⟨b, o, rfl, c0⟩ := HL.out k (by rw [HN.out]; exact hlt)
      by_cases he : 0 ≤ MW.gz L k ∧ MW.gz L k ≤ 7
      · have HE := Lib.hid he
        have D1 := Lib.hid (decide_eq_true he)
        clear he
        go_wp2_with (go_at_call 35; refine (spec_l1In _ _ _ _).mono ?_; rw [D1.out]; rintro e w1 ⟨rfl, rfl⟩)
        go_round
        case rel => exact ⟨k + 1, by omega, by go_num, fun j hj => by by_cases e : j = k; (subst e; exact HE.out); exact hno.out j (by omega)⟩
        case measure => simp [intOf]; omega
      · have HE : Hid (MW.gOk L = false) := by
          have hnn := HN.out
          by_cases h2 : L.length ≤ 8
          · rw [Hid, MW.gOk_in h2]; exact MW.allIn_no (by omega) he
          · exact MW.gOk_long h2
        have D1 := Lib.hid (decide_eq_false he)
        clear he
        go_wp2_with (go_at_call 35; refine (spec_l1In _ _ _ _).mono ?_; rw [D1.out]; rintro e w1 ⟨rfl, rfl⟩)
        go_ret
        exact ⟨ret_bool HE.out.symm, rfl⟩
    · obtain rfl : k = n := by omega
      have HA : Hid (MW.allIn 0 7 L = true) := MW.allIn_yes fun i hi => hno.out i (by rw [HN.out] at hi; exact hi)
      clear hno hlt
      by_cases h8 : k ≤ 8
      · have hv : Hid (MW.gOk L = true) := by rw [Hid, MW.gOk_in (by have := HN.out; omega)]; exact HA.out
        have h9 : (k : Int) ≤ 8 := by omega
        go_wp2
        go_ret
        exact ⟨ret_bool hv.out.symm, rfl⟩
      · have hv := Lib.hid (MW.gOk_long (L := L) (by have := HN.out; omega))
        have h9 : ¬ (k : Int) ≤ 8 := by omega
        go_wp2
        go_ret
        exact ⟨ret_bool hv.out.symm, rfl⟩

set_option maxHeartbeats 1000000 in
theorem spec_TruckCount (w : World) (a : Option Addr) (n c : Nat) (L : List Int) (h : Nums w a L) (hL : L.length = n) (hn : n ≤ 1048576) :
    Calls Try.prog 23 #[.slice a n c] w fun e w' => e = .returned (.int .i64 (MW.trucks L)) ∧ w = w' := by
  have HL := Lib.hid h
  have HN := Lib.hid hL
  clear h hL
  cases hg : MW.gOk L
  · have HG := Lib.hid hg
    have hv := Lib.hid (MW.trucks_no hg)
    clear hg
    go_enter Try.func23, Try.ntmps23
    go_wp2_with (go_at_call 44; refine (spec_l5Given _ _ _ _ _ HL.out HN.out hn).mono ?_; rw [HG.out]; rintro e w1 ⟨rfl, rfl⟩)
    go_ret
    exact ⟨ret_int hv.out.symm, rfl⟩
  · have HG := Lib.hid hg
    have hv := Lib.hid (MW.trucks_yes hg)
    have HI := Lib.hid ((MW.gOk_iff L).1 hg).2
    clear hg
    go_enter Try.func23, Try.ntmps23
    go_wp2_with (go_at_call 44; refine (spec_l5Given _ _ _ _ _ HL.out HN.out hn).mono ?_; rw [HG.out]; rintro e w1 ⟨rfl, rfl⟩)
    go_loop [3, 4] (fun m i => ∃ (k : Nat) (x : Int), k ≤ n ∧ i = .int .i64 k ∧ m = .int .i64 x ∧ Hid (x = MW.cntTo L k)) (fun _ i => n - (intOf i).toNat)
    case atStart => exact ⟨0, 0, Nat.zero_le _, rfl, rfl, rfl⟩
    case round =>
      obtain ⟨k, x, hk, rfl, rfl, hx⟩ := hrel
      by_cases hlt : k < n
      · obtain ⟨b, o, rfl, c0⟩ := HL.out k (by rw [HN.out]; exact hlt)
        obtain ⟨g0, g1⟩ := HI.out k (by rw [HN.out]; exact hlt)
        have HS : Hid (MW.cntTo L (k + 1) = max x (MW.gz L k + 1)) := by rw [hx.out]; rfl
        clear hx
        generalize MW.gz L k = y at *
        by_cases hm : x ≤ y + 1
        all_goals
          go_wp2
          go_round
          case rel => exact ⟨k + 1, _, by omega, by go_num, rfl, by rw [Hid, HS.out]; omega⟩
          case measure => simp [intOf]; omega
      · obtain rfl : k = n := by omega
        go_wp2
        go_ret
        exact ⟨ret_int (by rw [hv.out, hx.out]; unfold MW.cnt; rw [HN.out]), rfl⟩

set_option maxHeartbeats 1000000 in
theorem impl_TruckCount (w : World) (a : Option Addr) (n c : Nat) (L : List Int) (h : Nums w a L) (hL : L.length = n) (hn : n ≤ 1048576) :
    Calls Try.prog 14 #[.slice a n c] w fun e w' => e = .returned (.int .i64 (MW.trucks L)) ∧ w = w' := by
  have HL := Lib.hid h
  have HN := Lib.hid hL
  clear h hL
  by_cases h8 : n ≤ 8
  · have h9 : ¬ (8 : Int) < (n : Int) := by omega
    go_enter Try.func14, Try.ntmps14
    go_wp2
    go_loop [3, 11] (fun m i => ∃ (k : Nat) (x : Int), k ≤ n ∧ i = .int .i64 k ∧ m = .int .i64 x ∧ Hid (x = MW.cntTo L k) ∧ Hid (∀ j, j < k → 0 ≤ MW.gz L j ∧ MW.gz L j ≤ 7)) (fun _ i => n - (intOf i).toNat)
    case atStart => exact ⟨0, 0, Nat.zero_le _, rfl, rfl, rfl, fun j hj => absurd hj (by omega)⟩
    case round =>
      obtain ⟨k, x, hk, rfl, rfl, hx, hno⟩ := hrel
      by_cases hlt : k < n
      · obtain ⟨b, o, rfl, c0⟩ := HL.out k (by rw [HN.out]; exact hlt)
        by_cases he : 0 ≤ MW.gz L k ∧ MW.gz L k ≤ 7
        · have HE := Lib.hid he
          have D1 := Lib.hid (decide_eq_true he)
          obtain ⟨g0, g1⟩ := he
          have HS : Hid (MW.cntTo L (k + 1) = max x (MW.gz L k + 1)) := by rw [hx.out]; rfl
          have HN2 : Hid (∀ j, j < k + 1 → 0 ≤ MW.gz L j ∧ MW.gz L j ≤ 7) := fun j hj => by by_cases e : j = k; (subst e; exact HE.out); exact hno.out j (by omega)
          clear hx hno HE
          generalize MW.gz L k = y at *
          by_cases hm : x ≤ y + 1
          all_goals
            go_wp2_with (go_at_call 36; refine (impl_within _ _ _).mono ?_; rw [D1.out]; rintro e w1 ⟨rfl, rfl⟩)
            go_round
            case rel => exact ⟨k + 1, _, by omega, by go_num, rfl, by rw [Hid, HS.out]; omega, HN2⟩
            case measure => simp [intOf]; omega
        · have hv : Hid (MW.trucks L = -1) := by
            have hnn := HN.out
            rw [Hid, MW.trucks_no]
            rw [MW.gOk_in (by omega)]; exact MW.allIn_no (by omega) he
          have D1 := Lib.hid (decide_eq_false he)
          clear he
          go_wp2_with (go_at_call 36; refine (impl_within _ _ _).mono ?_; rw [D1.out]; rintro e w1 ⟨rfl, rfl⟩)
          go_ret
          exact ⟨ret_int hv.out.symm, rfl⟩
      · obtain rfl : k = n := by omega
        have hv : Hid (MW.trucks L = x) := by
          have hnn := HN.out
          rw [Hid, MW.trucks_yes (by rw [MW.gOk_in (by omega)]; exact MW.allIn_yes fun i hi => hno.out i (by omega)), hx.out]
          unfold MW.cnt; rw [HN.out]
        go_wp2
        go_ret
        exact ⟨ret_int hv.out.symm, rfl⟩
  · have hv := Lib.hid (MW.trucks_no (MW.gOk_long (L := L) (by have := HN.out; omega)))
    have h9 : (8 : Int) < (n : Int) := by omega
    go_enter Try.func14, Try.ntmps14
    go_wp2
    go_ret
    exact ⟨ret_int hv.out.symm, rfl⟩
end Go.Proofs.Ytmoghfgfdbdioaa
