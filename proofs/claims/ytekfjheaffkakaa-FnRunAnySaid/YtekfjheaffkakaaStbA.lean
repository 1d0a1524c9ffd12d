/-
  Letters of a row are exchanged, turned round and inserted by the library's sort: what each of its functions leaves.
-/
import Derived.Test.YtekfjheaffkakaaStbL
import Derived.Test.YtekfjheaffkakaaStr
import Derived.Test.YtekfjheaffkakaaMark
import Derived.BigQuiet
import Derived.Lib.ReflectliteSwap
namespace Go.Proofs.Ytekfjheaffkakaa
open Go.RowKit
set_option linter.unusedVariables false

/-- The row's letters are those of F. -/
def RF (W : World) (base g n c : Nat) (F : Nat → Int × ByteArray) : Prop := Row W base (.slice (some ⟨g, 0, none⟩) n c) (lf F n)
def Did (W : World) (base g n c : Nat) (F : Nat → Int × ByteArray) (e : Ending) (W' : World) : Prop := e = .returned (.tuple #[]) ∧ RF W' base g n c F ∧ Only W W' (fun k => k = g)
def DAT (V : Value) (sf : Nat) (sb : Array Value) : Value := .agg #[.func (.func 35) #[V] #[], .func (.func sf) #[] sb]
def SwapOk (base g n c sf : Nat) (sb : Array Value) : Prop := ∀ W F, RF W base g n c F → ∀ i j : Nat, i < n → j < n → i ≠ j → ∃ W', (callFunc sf (#[.int .i64 i, .int .i64 j] ++ sb)).run Try.prog W = .ok (.value (.tuple #[])) W' ∧ RF W' base g n c (Sy.swp F i j) ∧ Only W W' (fun k => k = g)
theorem RF.on {W W' : World} {base g n c : Nat} {F : Nat → Int × ByteArray} (h : RF W base g n c F) (hb : Below W.heap.size W W') : RF W' base g n c F := Row.on h hb
theorem RF.lt {W : World} {base g n c : Nat} {F : Nat → Int × ByteArray} (h : RF W base g n c F) : g < W.heap.size := (Row.lt h g rfl).2
theorem RF.at {W : World} {base g n c : Nat} {F : Nat → Int × ByteArray} (h : RF W base g n c F) {i : Nat} (hi : i < n) : W.cell? ⟨g, i * 2, none⟩ = some (.int .i64 (F i).1) ∧ W.cell? ⟨g, i * 2 + 1, none⟩ = some (.string (F i).2) := by
  have hl : i < (lf F n).length := by rw [lf_len]; exact hi
  obtain ⟨h1, h2⟩ := lcells_at (lf F n) i hl
  rw [lf_at] at h1 h2
  have h' : W.ownsRow base 33 2 (.slice (some ⟨g, 0, none⟩) n c) n (lcells (lf F n)) := by
    have := h
    unfold RF Row at this
    rw [lf_len] at this
    exact this
  exact ⟨(World.ownsRow.cellAt h' _ (by omega)).trans h1, (World.ownsRow.cellAt h' _ (by omega)).trans h2⟩
theorem RF.frozen {W : World} {base g n c : Nat} {F : Nat → Int × ByteArray} (h : RF W base g n c F) (k : Nat) : W.frozen? ⟨g, k, none⟩ = false := by
  have h' : W.ownsRow base 33 2 (.slice (some ⟨g, 0, none⟩) n c) n (lcells (lf F n)) := by
    have := h
    unfold RF Row at this
    rw [lf_len] at this
    exact this
  exact World.ownsRow.frozenAt h' k
theorem lf_swp (F : Nat → Int × ByteArray) (n : Nat) {i j : Nat} (hi : i < n) (hj : j < n) : ((lf F n).set i (F j)).set j (F i) = lf (Sy.swp F i j) n := by
  apply List.ext_getElem
  · simp [lf]
  · intro k h1 h2
    rw [List.getElem_set, List.getElem_set, lf_at, lf_at]
    unfold Sy.swp
    by_cases e1 : k = i
    · subst e1
      by_cases e2 : j = k
      · subst e2; simp
      · simp [e2]
    · by_cases e2 : k = j
      · subst e2; simp [e1]
      · rw [if_neg (fun h => e2 h.symm), if_neg (fun h => e1 h.symm), if_neg e1, if_neg e2]
/-- Two letters exchanged in memory. -/
theorem RF.swap {W : World} {base g n c : Nat} {F : Nat → Int × ByteArray} (h : RF W base g n c F) {i j : Nat} (hi : i < n) (hj : j < n) :
    RF ((W.setCells g (0 + i * 2) [.int .i64 (F j).1, .string (F j).2]).setCells g (0 + j * 2) [.int .i64 (F i).1, .string (F i).2]) base g n c (Sy.swp F i j) ∧ Only W ((W.setCells g (0 + i * 2) [.int .i64 (F j).1, .string (F j).2]).setCells g (0 + j * 2) [.int .i64 (F i).1, .string (F i).2]) (fun k => k = g) := by
  have h' : W.ownsRow base 33 2 (.slice (some ⟨g, 0, none⟩) n c) n (lcells (lf F n)) := by
    have := h
    unfold RF Row at this
    rw [lf_len] at this
    exact this
  obtain ⟨a1, g1⟩ := World.ownsRow.stored h' (i * 2) (.int .i64 (F j).1)
  obtain ⟨a2, g2⟩ := World.ownsRow.stored a1 (i * 2 + 1) (.string (F j).2)
  rw [lcells_set] at a2
  obtain ⟨a3, g3⟩ := World.ownsRow.stored a2 (j * 2) (.int .i64 (F i).1)
  obtain ⟨a4, g4⟩ := World.ownsRow.stored a3 (j * 2 + 1) (.string (F i).2)
  rw [lcells_set, show ((F j).1, (F j).2) = F j from rfl, show ((F i).1, (F i).2) = F i from rfl, lf_swp F n hi hj] at a4
  have o : ∀ {A B : World}, A.grownBy B (some g) → Only A B (fun k => k = g) := fun hg => (Only.of_grown hg).mono fun x _ e => by cases e; rfl
  rw [Nat.zero_add, Nat.zero_add]
  refine ⟨?_, (((o g1).trans (o g2) fun _ _ h => h).trans (o g3) fun _ _ h => h).trans (o g4) fun _ _ h => h⟩
  unfold RF Row
  rw [lf_len]
  exact a4
theorem only_box {W W1 W' : World} {g B : Nat} (ho : Only W1 W' (fun k => k = g)) {k : Nat} {v : Value} (hc : W1.cell? ⟨B, k, none⟩ = some v) (hne : B ≠ g) : W'.cell? ⟨B, k, none⟩ = some v :=
  (World.cell?_of_block (a := ⟨B, k, none⟩) (ho.block B (World.block_lt_of_cell? _ _ hc) hne)).trans hc
theorem only_new {W W' : World} {o : Obj} {g : Nat} (h : Only (W.alloc o) W' (fun k => k = g)) : Only W W' (fun k => k = g) :=
  (Only.new (S := fun k => k = g) (below_alloc0 W o)).trans h fun _ _ h => h

set_option maxHeartbeats 1000000 in
set_option maxRecDepth 100000 in
theorem before_rows (W : World) (base g n c : Nat) (F : Nat → Int × ByteArray) (h : RF W base g n c F) (i j : Nat) (hi : i < n) (hj : j < n) (hn : n ≤ 1048576) :
    Calls Try.prog 35 #[.slice (some ⟨g, 0, none⟩) n c, .int .i64 i, .int .i64 j] W fun e w' => e = .returned (.bool (ltL (F i) (F j))) ∧ ∃ q, w' = W.drewN q := by
  have c1 := (h.at hi).2
  have c2 := (h.at hj).2
  obtain ⟨x, hx⟩ : ∃ x, (F i).2 = x := ⟨_, rfl⟩
  obtain ⟨y, hy⟩ : ∃ y, (F j).2 = y := ⟨_, rfl⟩
  have HLT : Hid (Op.bytesLess x.toList y.toList = ltL (F i) (F j)) := by rw [← hx, ← hy]; rfl
  rw [hx] at c1
  rw [hy] at c2
  clear hx hy h
  obtain ⟨b, hb⟩ : ∃ b, Op.bytesLess x.toList y.toList = b := ⟨_, rfl⟩
  rw [hb] at HLT
  go_enter Try.func35, Try.ntmps35
  go_wp2_with fail
  go_quiet (fail)
  go_wp2
  go_ret
  exact ⟨by rw [HLT.out]; rfl, _, rfl⟩
set_option maxHeartbeats 1000000 in
set_option maxRecDepth 100000 in
theorem swapRange_any (base g n c : Nat) (V : Value) (sf : Nat) (sb : Array Value) (HS : SwapOk base g n c sf sb) (W : World) (F : Nat → Int × ByteArray) (a b m : Nat) (h : RF W base g n c F) (h1 : a + m ≤ b) (h2 : b + m ≤ n) (hn : n ≤ 1048576) :
    Calls Try.prog 71 #[DAT V sf sb, .int .i64 a, .int .i64 b, .int .i64 m] W (Did W base g n c (Sy.swr F a b m)) := by
  have HSW := Lib.hid HS
  have hg := h.lt
  unfold DAT
  obtain ⟨W1, hW1⟩ : ∃ W1, W.alloc (.cells #[.func (.func 35) #[V] #[], .func (.func sf) #[] sb] 90) = W1 := ⟨_, rfl⟩
  have R0 : Hid (RF W1 base g n c F) := hW1 ▸ h.on (below_alloc0 W _)
  have BX : Hid (W1.cell? ⟨W.heap.size, 1, none⟩ = some (.func (.func sf) #[] sb)) := by rw [Hid, ← hW1]; simp [go_sem]
  have HO1 : Hid (∀ W', Only W1 W' (fun k => k = g) → Only W W' (fun k => k = g)) := fun W' ho => by rw [← hW1] at ho; exact only_new ho
  have hne : W.heap.size ≠ g := by omega
  clear h HS
  go_enter Try.func71, Try.ntmps71
  go_wp2_with fail
  clear hW1
  go_loopw [8] (fun vi wr => ∃ i : Nat, vi = .int .i64 i ∧ i ≤ m ∧ Hid (RF wr base g n c (Sy.swr F a b i)) ∧ Hid (Only W1 wr (fun k => k = g))) (fun vi _ => m - (intOf vi).toNat)
  case atStart => exact ⟨0, by go_num, Nat.zero_le _, by rw [Sy.swr_zero]; exact R0, Lib.hid (Only.refl _ _)⟩
  case round =>
    obtain ⟨i, rfl, him, hr, ho⟩ := hrel
    by_cases hlt : i < m
    · have c1 := only_box (W := W) ho.out BX.out hne
      obtain ⟨W', hs, hr2, ho2⟩ := HSW.out wr _ hr.out (a + i) (b + i) (by omega) (by omega) (by omega)
      rw [Sy.swr_succ F a b i (by omega)] at hr2
      rw [Int.natCast_add, Int.natCast_add] at hs
      have R2 := Lib.hid hr2
      have O2 := Lib.hid (ho.out.trans ho2 fun _ _ h => h)
      have HH := Lib.hid hs
      clear hs hr2 ho2 hr ho
      go_wp2
      rw [HH.out, Oper.upon_value]
      go_wp2
      go_roundw
      case rel => exact ⟨i + 1, by go_num, by omega, R2, O2⟩
      case measure => simp [intOf]; omega
    · obtain rfl : i = m := by omega
      go_wp2
      go_end0
      exact ⟨rfl, hr.out, HO1.out _ ho.out⟩
set_option maxHeartbeats 1000000 in
set_option maxRecDepth 100000 in
theorem rotate_any (base g n c : Nat) (V : Value) (sf : Nat) (sb : Array Value) (HS : SwapOk base g n c sf sb) (W : World) (F : Nat → Int × ByteArray) (a m b : Nat) (h : RF W base g n c F) (h1 : a < m) (h2 : m < b) (h3 : b ≤ n) (hn : n ≤ 1048576) :
    Calls Try.prog 69 #[DAT V sf sb, .int .i64 a, .int .i64 m, .int .i64 b] W (Did W base g n c (Sy.rot F a m b)) := by
  have HSR := Lib.hid (swapRange_any base g n c V sf sb HS)
  have hg := h.lt
  unfold DAT at HSR ⊢
  obtain ⟨W1, hW1⟩ : ∃ W1, W.alloc (.cells #[.func (.func 35) #[V] #[], .func (.func sf) #[] sb] 90) = W1 := ⟨_, rfl⟩
  have R0 : Hid (RF W1 base g n c F) := hW1 ▸ h.on (below_alloc0 W _)
  have BX : Hid (W1.cell? ⟨W.heap.size, 0, none⟩ = some (.func (.func 35) #[V] #[]) ∧ W1.cell? ⟨W.heap.size, 1, none⟩ = some (.func (.func sf) #[] sb)) := by rw [Hid, ← hW1]; simp [go_sem]
  have HO1 : Hid (∀ W', Only W1 W' (fun k => k = g) → Only W W' (fun k => k = g)) := fun W' ho => by rw [← hW1] at ho; exact only_new ho
  have hne : W.heap.size ≠ g := by omega
  clear h HS
  go_enter Try.func69, Try.ntmps69
  go_wp2_with fail
  clear hW1
  go_loopw [8, 9] (fun vi vj wr => ∃ (i j : Nat) (G : Nat → Int × ByteArray), vi = .int .i64 i ∧ vj = .int .i64 j ∧ 0 < i ∧ 0 < j ∧ a + i ≤ m ∧ m + j ≤ b ∧ Hid (Sy.rot G (m - i) m (m + j) = Sy.rot F a m b) ∧ Hid (RF wr base g n c G) ∧ Hid (Only W1 wr (fun k => k = g))) (fun vi vj _ => (intOf vi).toNat + (intOf vj).toNat)
  case atStart => exact ⟨m - a, b - m, F, by go_num, by go_num, by omega, by omega, by omega, by omega, by rw [Hid, show m - (m - a) = a by omega, show m + (b - m) = b by omega], R0, Lib.hid (Only.refl _ _)⟩
  case round =>
    obtain ⟨i, j, G, rfl, rfl, hi, hj, hi2, hj2, he, hr, ho⟩ := hrel
    have c0 := only_box (W := W) ho.out BX.out.1 hne
    have c1 := only_box (W := W) ho.out BX.out.2 hne
    by_cases heq : i = j
    · subst heq
      have hc := HSR.out wr G (m - i) m i hr.out (by omega) (by omega) hn
      rw [show ((m - i : Nat) : Int) = (m : Int) - i by omega] at hc
      have HC := Lib.hid hc
      clear hc
      go_wp2_with fail
      refine HC.out.mono ?_
      rintro e w2 ⟨rfl, r2, o2⟩
      have e1 : Sy.swr G (m - i) m i = Sy.rot F a m b := by
        rw [← he.out]
        have := Sy.rot_eq G (m - i) i
        rw [show m - i + i = m by omega] at this
        exact this
      rw [e1] at r2
      go_wp2
      go_end0
      exact ⟨rfl, r2, HO1.out _ (ho.out.trans o2 fun _ _ h => h)⟩
    · by_cases hlt : j < i
      · have hc := HSR.out wr G (m - i) m j hr.out (by omega) (by omega) hn
        rw [show ((m - i : Nat) : Int) = (m : Int) - i by omega] at hc
        have HC := Lib.hid hc
        clear hc
        go_wp2_with fail
        refine HC.out.mono ?_
        rintro e w2 ⟨rfl, r2, o2⟩
        have E2 : Hid (Sy.rot (Sy.swr G (m - i) m j) (m - (i - j)) m (m + j) = Sy.rot F a m b) := by
          rw [Hid, ← he.out]; exact Sy.rot_left G m i j (by omega) hlt
        have R2 := Lib.hid r2
        have O2 := Lib.hid (ho.out.trans o2 fun _ _ h => h)
        clear r2 o2 hr ho he c0 c1
        go_wp2
        go_roundw
        case rel => exact ⟨i - j, j, _, by go_num, rfl, by omega, hj, by omega, hj2, E2, R2, O2⟩
        case measure => simp [intOf]; omega
      · have hc := HSR.out wr G (m - i) (m + j - i) i hr.out (by omega) (by omega) hn
        rw [show ((m - i : Nat) : Int) = (m : Int) - i by omega, show ((m + j - i : Nat) : Int) = (m : Int) + j - i by omega] at hc
        have HC := Lib.hid hc
        clear hc
        go_wp2_with fail
        refine HC.out.mono ?_
        rintro e w2 ⟨rfl, r2, o2⟩
        have E2 : Hid (Sy.rot (Sy.swr G (m - i) (m + j - i) i) (m - i) m (m + (j - i)) = Sy.rot F a m b) := by
          rw [Hid, ← he.out]; exact Sy.rot_right G m i j (by omega) (by omega)
        have R2 := Lib.hid r2
        have O2 := Lib.hid (ho.out.trans o2 fun _ _ h => h)
        clear r2 o2 hr ho he c0 c1
        go_wp2
        go_roundw
        case rel => exact ⟨i, j - i, _, rfl, by go_num, hi, by omega, hi2, by omega, E2, R2, O2⟩
        case measure => simp [intOf]; omega
set_option maxHeartbeats 1000000 in
set_option maxRecDepth 100000 in
theorem insertion_any (base g n c : Nat) (sf : Nat) (sb : Array Value) (HS : SwapOk base g n c sf sb) (pos : Int × ByteArray → Nat) (W : World) (F : Nat → Int × ByteArray) (a b : Nat) (h : RF W base g n c F) (h1 : a ≤ b) (h3 : b ≤ n) (hp : ∀ i j, a ≤ i → i < j → j < b → pos (F i) < pos (F j)) (hn : n ≤ 1048576) :
    Calls Try.prog 66 #[DAT (.slice (some ⟨g, 0, none⟩) n c) sf sb, .int .i64 a, .int .i64 b] W fun e W' => ∃ F', Did W base g n c F' e W' ∧ Sy.Mix F F' a b ∧ Sy.Srt ltL pos F' a b := by
  have HSW := Lib.hid HS
  have HP := Lib.hid hp
  have HBF := Lib.hid (fun (W : World) F h i j hi hj => before_rows W base g n c F h i j hi hj hn)
  have hg := h.lt
  unfold DAT
  obtain ⟨W1, hW1⟩ : ∃ W1, W.alloc (.cells #[.func (.func 35) #[.slice (some ⟨g, 0, none⟩) n c] #[], .func (.func sf) #[] sb] 90) = W1 := ⟨_, rfl⟩
  have R0 : Hid (RF W1 base g n c F) := hW1 ▸ h.on (below_alloc0 W _)
  have BX : Hid (W1.cell? ⟨W.heap.size, 0, none⟩ = some (.func (.func 35) #[.slice (some ⟨g, 0, none⟩) n c] #[]) ∧ W1.cell? ⟨W.heap.size, 1, none⟩ = some (.func (.func sf) #[] sb)) := by rw [Hid, ← hW1]; simp [go_sem]
  have HO1 : Hid (∀ W', Only W1 W' (fun k => k = g) → Only W W' (fun k => k = g)) := fun W' ho => by rw [← hW1] at ho; exact only_new ho
  have hne : W.heap.size ≠ g := by omega
  clear h HS hp
  go_enter Try.func66, Try.ntmps66
  go_wp2_with fail
  clear hW1
  go_loopw [6] (fun vi wr => ∃ (i : Nat) (G : Nat → Int × ByteArray), vi = .int .i64 i ∧ a < i ∧ i ≤ b + 1 ∧ Hid (Sy.Mix F G a b) ∧ Hid (∀ k, i ≤ k → k < b → G k = F k) ∧ Hid (Sy.Srt ltL pos G a (min i b)) ∧ Hid (Sy.Stay F G a (min i b)) ∧ Hid (RF wr base g n c G) ∧ Hid (Only W1 wr (fun k => k = g))) (fun vi _ => b + 1 - (intOf vi).toNat)
  case atStart =>
    refine ⟨a + 1, F, by go_num, by omega, by omega, Lib.hid (Sy.Mix.refl _ _ _), Lib.hid (fun _ _ _ => rfl), Lib.hid (Sy.srt_one _ (by omega)), Lib.hid (Sy.Stay.refl _ _ _), R0, Lib.hid (Only.refl _ _)⟩
  case round =>
    obtain ⟨i, G, rfl, hai, hib, hm, hk, hs, hy, hr, ho⟩ := hrel
    by_cases hlt : i < b
    · have HPI : Hid (∀ k, a ≤ k → k < i → pos (G k) < pos (G i)) := fun k k1 k2 => by
        obtain ⟨j, j1, j2, e⟩ := hy.out k k1 (by omega)
        rw [e, hk.out i (Nat.le_refl _) hlt]
        exact HP.out j i j1 (by omega) hlt
      have HSG : Hid (Sy.Srt ltL pos G a i) := by have := hs.out; rw [show min i b = i by omega] at this; exact this
      have HYG : Hid (Sy.Stay F G a i) := by have := hy.out; rw [show min i b = i by omega] at this; exact this
      have HNEXT : Hid (∀ j, a ≤ j → j ≤ i → (j = a ∨ ltL (G i) (G (j - 1)) = false) → (∀ k, j ≤ k → k < i → ltL (G i) (G k) = true) → Sy.Mix F (Sy.rot G j i (i + 1)) a b ∧ (∀ k, i + 1 ≤ k → k < b → Sy.rot G j i (i + 1) k = F k) ∧ Sy.Srt ltL pos (Sy.rot G j i (i + 1)) a (min (i + 1) b) ∧ Sy.Stay F (Sy.rot G j i (i + 1)) a (min (i + 1) b)) := fun j j1 j2 jl jr => by
        have mx := Sy.mix_rot G (a := a) (b := b) j1 j2 (by omega : i ≤ i + 1) (by omega)
        have mx2 := Sy.mix_rot G (a := a) (b := i + 1) j1 j2 (by omega : i ≤ i + 1) (Nat.le_refl _)
        refine ⟨hm.out.trans mx, fun k k1 k2 => ?_, ?_, ?_⟩
        · rw [← hk.out k (by omega) k2]
          unfold Sy.rot
          rw [if_neg (by omega), if_neg (by omega)]
        · rw [show min (i + 1) b = i + 1 by omega]
          refine Sy.ins_left HSG.out HPI.out j1 j2 (fun k k1 k2 => ?_) jr
          rcases jl with e | e
          · omega
          · exact Sy.low_false (ltL_ord pos) HSG.out k1 (by omega) (by omega) e
        · rw [show min (i + 1) b = i + 1 by omega]
          have : Sy.Stay F G a (i + 1) := fun q q1 q2 => by
            by_cases e : q < i
            · obtain ⟨p, p1, p2, e2⟩ := HYG.out q q1 e
              exact ⟨p, p1, by omega, e2⟩
            · obtain rfl : q = i := by omega
              exact ⟨q, q1, q2, hk.out q (Nat.le_refl _) hlt⟩
          exact this.mix mx2
      clear hm hk hs hy HPI HSG HYG HP
      have hrr := hr.out
      rw [← Sy.rot_none' G i (i + 1)] at hrr
      have e0 : Sy.rot G i (i + 1) (i + 1) = Sy.rot G i i (i + 1) := by rw [Sy.rot_none', Sy.rot_none]
      rw [e0] at hrr
      have R1 := Lib.hid hrr
      clear hrr e0 hr
      go_wp2
      go_loopw [7] (fun vj wr2 => ∃ (j : Nat), vj = .int .i64 j ∧ a ≤ j ∧ j ≤ i ∧ Hid (∀ k, j ≤ k → k < i → ltL (G i) (G k) = true) ∧ Hid (RF wr2 base g n c (Sy.rot G j i (i + 1))) ∧ Hid (Only W1 wr2 (fun k => k = g))) (fun vj _ => (intOf vj).toNat)
      case atStart => exact ⟨i, rfl, by omega, Nat.le_refl _, Lib.hid (fun k k1 k2 => by omega), R1, ho⟩
      case round =>
        obtain ⟨j, rfl, haj, hji, hall, hr, ho⟩ := hrel
        have c0 := only_box (W := W) ho.out BX.out.1 hne
        by_cases hja : a < j
        · have g1 : Sy.rot G j i (i + 1) j = G i := by unfold Sy.rot; rw [if_pos (by omega)]; congr 1; omega
          have g2 : Sy.rot G j i (i + 1) (j - 1) = G (j - 1) := by unfold Sy.rot; rw [if_neg (by omega), if_neg (by omega)]
          have hl := HBF.out wr _ hr.out j (j - 1) (by omega) (by omega)
          rw [g1, g2, show ((j - 1 : Nat) : Int) = (j : Int) - 1 by omega] at hl
          have HL2 := Lib.hid hl
          clear g1 g2 hl
          cases hlv : ltL (G i) (G (j - 1)) with
          | true =>
            rw [hlv] at HL2
            have HLV := Lib.hid hlv
            clear hlv
            go_wp2_with fail
            refine HL2.out.mono ?_
            rintro e w2 ⟨rfl, q, rfl⟩
            have hbq : Below wr.heap.size wr (wr.drewN q) := ⟨rfl, rfl, rfl, Nat.le_refl _, fun _ _ => rfl⟩
            have R2 := hr.out.on hbq
            have O2 : Only W1 (wr.drewN q) (fun k => k = g) := ho.out.trans (Only.new (S := fun k => k = g) hbq) fun _ _ h => h
            have c1 := only_box (W := W) O2 BX.out.2 hne
            obtain ⟨W', hs, hr2, ho2⟩ := HSW.out (wr.drewN q) _ R2 j (j - 1) (by omega) (by omega) (by omega)
            have hb := Sy.rot_back G i (j - 1) (by omega)
            rw [show j - 1 + 1 = j by omega] at hb
            rw [hb] at hr2
            rw [show ((j - 1 : Nat) : Int) = (j : Int) - 1 by omega] at hs
            have R3 := Lib.hid hr2
            have O3 := Lib.hid (O2.trans ho2 fun _ _ h => h)
            have HH := Lib.hid hs
            clear hs hr2 ho2 hr ho hb O2 R2 hbq c0
            go_wp2
            rw [HH.out, Oper.upon_value]
            go_wp2
            go_roundw
            case rel => exact ⟨j - 1, by go_num, by omega, by omega, Lib.hid (fun k k1 k2 => by
                          by_cases e : k = j - 1
                          · subst e; exact HLV.out
                          · exact hall.out k (by omega) k2), R3, O3⟩
            case measure => simp [intOf]; omega
          | false =>
            rw [hlv] at HL2
            obtain ⟨m1, m2, m3, m4⟩ := HNEXT.out j haj hji (Or.inr hlv) hall.out
            have M1 := Lib.hid m1
            have M2 := Lib.hid m2
            have M3 := Lib.hid m3
            have M4 := Lib.hid m4
            clear hlv m1 m2 m3 m4
            go_wp2_with fail
            refine HL2.out.mono ?_
            rintro e w2 ⟨rfl, q, rfl⟩
            have hbq : Below wr.heap.size wr (wr.drewN q) := ⟨rfl, rfl, rfl, Nat.le_refl _, fun _ _ => rfl⟩
            have R2 := Lib.hid (hr.out.on hbq)
            have O2 := Lib.hid (ho.out.trans (Only.new (S := fun k => k = g) hbq) fun _ _ h => h)
            clear hr ho hbq c0
            go_wp2
            go_roundw
            case rel => exact ⟨i + 1, _, by go_num, by omega, by omega, M1, M2, M3, M4, R2, O2⟩
            case measure => simp [intOf]; omega
        · obtain ⟨m1, m2, m3, m4⟩ := HNEXT.out j haj hji (Or.inl (by omega)) hall.out
          have M1 := Lib.hid m1
          have M2 := Lib.hid m2
          have M3 := Lib.hid m3
          have M4 := Lib.hid m4
          clear m1 m2 m3 m4
          go_wp2
          go_roundw
          case rel => exact ⟨i + 1, _, by go_num, by omega, by omega, M1, M2, M3, M4, hr, ho⟩
          case measure => simp [intOf]; omega
    · have hs' := hs.out
      rw [show min i b = b by omega] at hs'
      go_wp2
      go_end0
      exact ⟨G, ⟨rfl, hr.out, HO1.out _ ho.out⟩, hm.out, hs'⟩
end Go.Proofs.Ytekfjheaffkakaa
