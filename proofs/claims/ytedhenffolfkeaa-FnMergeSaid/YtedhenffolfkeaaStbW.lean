/-
  Letters of a row are exchanged, turned round and inserted by the library's sort: what each of its functions leaves.
-/
import Derived.Test.YtedhenffolfkeaaStbL
import Derived.Test.YtedhenffolfkeaaStr
import Derived.Test.YtedhenffolfkeaaMark
import Derived.BigQuiet
import Derived.Lib.ReflectliteSwap
import Derived.Deep.CutRange
namespace Go.Proofs.Ytedhenffolfkeaa
open Go.RowKit
set_option linter.unusedVariables false

/-- The row's letters are those of F. -/
def RF (W : World) (base g n c : Nat) (F : Nat → Int × ByteArray) : Prop := Row W base (.slice (some ⟨g, 0, none⟩) n c) (lf F n)
def Did (W : World) (base g n c : Nat) (F : Nat → Int × ByteArray) (e : Ending) (W' : World) : Prop := e = .returned (.tuple #[]) ∧ RF W' base g n c F ∧ Only W W' (fun k => k = g)
def DAT (V : Value) (sf : Nat) (sb : Array Value) : Value := .agg #[.func (.func 39) #[V] #[], .func (.func sf) #[] sb]
def SwapOk (base g n c sf : Nat) (sb : Array Value) : Prop := ∀ W F, RF W base g n c F → ∀ i j : Nat, i < n → j < n → i ≠ j → ∃ W', (callFunc sf (#[.int .i64 i, .int .i64 j] ++ sb)).run Try.prog W = .ok (.value (.tuple #[])) W' ∧ RF W' base g n c (Sy.swp F i j) ∧ Only W W' (fun k => k = g)
theorem RF.on {W W' : World} {base g n c : Nat} {F : Nat → Int × ByteArray} (h : RF W base g n c F) (hb : Below W.heap.size W W') : RF W' base g n c F := Row.on h hb
theorem RF.lt {W : World} {base g n c : Nat} {F : Nat → Int × ByteArray} (h : RF W base g n c F) : g < W.heap.size := (Row.lt h g rfl).2
theorem RF.at {W : World} {base g n c : Nat} {F : Nat → Int × ByteArray} (h : RF W base g n c F) {i : Nat} (hi : i < n) : W.cell? ⟨g, i * 2, none⟩ = some (.int .i64 (F i).1) ∧ W.cell? ⟨g, i * 2 + 1, none⟩ = some (.string (F i).2) := by
  have hl : i < (lf F n).length := by rw [lf_len]; exact hi
  obtain ⟨h1, h2⟩ := lcells_at (lf F n) i hl
  rw [lf_at] at h1 h2
  have h' : W.ownsRow base 29 2 (.slice (some ⟨g, 0, none⟩) n c) n (lcells (lf F n)) := by
    have := h
    unfold RF Row at this
    rw [lf_len] at this
    exact this
  exact ⟨(World.ownsRow.cellAt h' _ (by omega)).trans h1, (World.ownsRow.cellAt h' _ (by omega)).trans h2⟩
theorem RF.frozen {W : World} {base g n c : Nat} {F : Nat → Int × ByteArray} (h : RF W base g n c F) (k : Nat) : W.frozen? ⟨g, k, none⟩ = false := by
  have h' : W.ownsRow base 29 2 (.slice (some ⟨g, 0, none⟩) n c) n (lcells (lf F n)) := by
    have := h
    unfold RF Row at this
    rw [lf_len] at this
    exact this
  exact World.ownsRow.frozenAt h' k
theorem lf_swp (F : Nat → Int × ByteArray) (n : Nat) {i j : Nat} (hi : i < n) (hj : j < n) : ((lf F n).set i (F j)).set j (F i) = lf (Sy.swp F i j) n := by
  apply List.ext_getElem
  · simp [lf]
  · intro k h1 h2
    rw [List.getElem_set, List.getElem_set, lf_at, lf_at]
    unfold Sy.swp
    by_cases e1 : k = i
    · subst e1
      by_cases e2 : j = k
      · subst e2; simp
      · simp [e2]
    · by_cases e2 : k = j
      · subst e2; simp [e1]
      · rw [if_neg (fun h => e2 h.symm), if_neg (fun h => e1 h.symm), if_neg e1, if_neg e2]
/-- Two letters exchanged in memory. -/
theorem RF.swap {W : World} {base g n c : Nat} {F : Nat → Int × ByteArray} (h : RF W base g n c F) {i j : Nat} (hi : i < n) (hj : j < n) :
    RF ((W.setCells g (0 + i * 2) [.int .i64 (F j).1, .string (F j).2]).setCells g (0 + j * 2) [.int .i64 (F i).1, .string (F i).2]) base g n c (Sy.swp F i j) ∧ Only W ((W.setCells g (0 + i * 2) [.int .i64 (F j).1, .string (F j).2]).setCells g (0 + j * 2) [.int .i64 (F i).1, .string (F i).2]) (fun k => k = g) := by
  have h' : W.ownsRow base 29 2 (.slice (some ⟨g, 0, none⟩) n c) n (lcells (lf F n)) := by
    have := h
    unfold RF Row at this
    rw [lf_len] at this
    exact this
  obtain ⟨a1, g1⟩ := World.ownsRow.stored h' (i * 2) (.int .i64 (F j).1)
  obtain ⟨a2, g2⟩ := World.ownsRow.stored a1 (i * 2 + 1) (.string (F j).2)
  rw [lcells_set] at a2
  obtain ⟨a3, g3⟩ := World.ownsRow.stored a2 (j * 2) (.int .i64 (F i).1)
  obtain ⟨a4, g4⟩ := World.ownsRow.stored a3 (j * 2 + 1) (.string (F i).2)
  rw [lcells_set, show ((F j).1, (F j).2) = F j from rfl, show ((F i).1, (F i).2) = F i from rfl, lf_swp F n hi hj] at a4
  have o : ∀ {A B : World}, A.grownBy B (some g) → Only A B (fun k => k = g) := fun hg => (Only.of_grown hg).mono fun x _ e => by cases e; rfl
  rw [Nat.zero_add, Nat.zero_add]
  refine ⟨?_, (((o g1).trans (o g2) fun _ _ h => h).trans (o g3) fun _ _ h => h).trans (o g4) fun _ _ h => h⟩
  unfold RF Row
  rw [lf_len]
  exact a4
theorem only_box {W W1 W' : World} {g B : Nat} (ho : Only W1 W' (fun k => k = g)) {k : Nat} {v : Value} (hc : W1.cell? ⟨B, k, none⟩ = some v) (hne : B ≠ g) : W'.cell? ⟨B, k, none⟩ = some v :=
  (World.cell?_of_block (a := ⟨B, k, none⟩) (ho.block B (World.block_lt_of_cell? _ _ hc) hne)).trans hc
theorem only_new {W W' : World} {o : Obj} {g : Nat} (h : Only (W.alloc o) W' (fun k => k = g)) : Only W W' (fun k => k = g) :=
  (Only.new (S := fun k => k = g) (below_alloc0 W o)).trans h fun _ _ h => h

set_option maxHeartbeats 1000000 in
set_option maxRecDepth 100000 in
theorem before_rows (W : World) (base g n c : Nat) (F : Nat → Int × ByteArray) (h : RF W base g n c F) (i j : Nat) (hi : i < n) (hj : j < n) (hn : n ≤ 1048576) :
    Calls Try.prog 39 #[.slice (some ⟨g, 0, none⟩) n c, .int .i64 i, .int .i64 j] W fun e w' => e = .returned (.bool (ltL (F i) (F j))) ∧ ∃ q, w' = W.drewN q := by
  have c1 := (h.at hi).2
  have c2 := (h.at hj).2
  obtain ⟨x, hx⟩ : ∃ x, (F i).2 = x := ⟨_, rfl⟩
  obtain ⟨y, hy⟩ : ∃ y, (F j).2 = y := ⟨_, rfl⟩
  have HLT : Hid (Op.bytesLess x.toList y.toList = ltL (F i) (F j)) := by rw [← hx, ← hy]; rfl
  rw [hx] at c1
  rw [hy] at c2
  clear hx hy h
  obtain ⟨b, hb⟩ : ∃ b, Op.bytesLess x.toList y.toList = b := ⟨_, rfl⟩
  rw [hb] at HLT
  go_enter Try.func39, Try.ntmps39
  go_wp2_with fail
  go_quiet (fail)
  go_wp2
  go_ret
  exact ⟨by rw [HLT.out]; rfl, _, rfl⟩
set_option maxHeartbeats 1000000 in
set_option maxRecDepth 100000 in
theorem swapRange_any (base g n c : Nat) (V : Value) (sf : Nat) (sb : Array Value) (HS : SwapOk base g n c sf sb) (W : World) (F : Nat → Int × ByteArray) (a b m : Nat) (h : RF W base g n c F) (h1 : a + m ≤ b) (h2 : b + m ≤ n) (hn : n ≤ 1048576) :
    Calls Try.prog 95 #[DAT V sf sb, .int .i64 a, .int .i64 b, .int .i64 m] W (Did W base g n c (Sy.swr F a b m)) := by
  have HSW := Lib.hid HS
  have hg := h.lt
  unfold DAT
  obtain ⟨W1, hW1⟩ : ∃ W1, W.alloc (.cells #[.func (.func 39) #[V] #[], .func (.func sf) #[] sb] 86) = W1 := ⟨_, rfl⟩
  have R0 : Hid (RF W1 base g n c F) := hW1 ▸ h.on (below_alloc0 W _)
  have BX : Hid (W1.cell? ⟨W.heap.size, 1, none⟩ = some (.func (.func sf) #[] sb)) := by rw [Hid, ← hW1]; simp [go_sem]
  have HO1 : Hid (∀ W', Only W1 W' (fun k => k = g) → Only W W' (fun k => k = g)) := fun W' ho => by rw [← hW1] at ho; exact only_new ho
  have hne : W.heap.size ≠ g := by omega
  clear h HS
  go_enter Try.func95, Try.ntmps95
  go_wp2_with fail
  clear hW1
  go_loopw [8] (fun vi wr => ∃ i : Nat, vi = .int .i64 i ∧ i ≤ m ∧ Hid (RF wr base g n c (Sy.swr F a b i)) ∧ Hid (Only W1 wr (fun k => k = g))) (fun vi _ => m - (intOf vi).toNat)
  case atStart => exact ⟨0, by go_num, Nat.zero_le _, by rw [Sy.swr_zero]; exact R0, Lib.hid (Only.refl _ _)⟩
  case round =>
    obtain ⟨i, rfl, him, hr, ho⟩ := hrel
    by_cases hlt : i < m
    · have c1 := only_box (W := W) ho.out BX.out hne
      obtain ⟨W', hs, hr2, ho2⟩ := HSW.out wr _ hr.out (a + i) (b + i) (by omega) (by omega) (by omega)
      rw [Sy.swr_succ F a b i (by omega)] at hr2
      rw [Int.natCast_add, Int.natCast_add] at hs
      have R2 := Lib.hid hr2
      have O2 := Lib.hid (ho.out.trans ho2 fun _ _ h => h)
      have HH := Lib.hid hs
      clear hs hr2 ho2 hr ho
      go_wp2
      rw [HH.out, Oper.upon_value]
      go_wp2
      go_roundw
      case rel => exact ⟨i + 1, by go_num, by omega, R2, O2⟩
      case measure => simp [intOf]; omega
    · obtain rfl : i = m := by omega
      go_wp2
      go_end0
      exact ⟨rfl, hr.out, HO1.out _ ho.out⟩
set_option maxHeartbeats 1000000 in
set_option maxRecDepth 100000 in
theorem rotate_any (base g n c : Nat) (V : Value) (sf : Nat) (sb : Array Value) (HS : SwapOk base g n c sf sb) (W : World) (F : Nat → Int × ByteArray) (a m b : Nat) (h : RF W base g n c F) (h1 : a < m) (h2 : m < b) (h3 : b ≤ n) (hn : n ≤ 1048576) :
    Calls Try.prog 93 #[DAT V sf sb, .int .i64 a, .int .i64 m, .int .i64 b] W (Did W base g n c (Sy.rot F a m b)) := by
  have HSR := Lib.hid (swapRange_any base g n c V sf sb HS)
  have hg := h.lt
  unfold DAT at HSR ⊢
  obtain ⟨W1, hW1⟩ : ∃ W1, W.alloc (.cells #[.func (.func 39) #[V] #[], .func (.func sf) #[] sb] 86) = W1 := ⟨_, rfl⟩
  have R0 : Hid (RF W1 base g n c F) := hW1 ▸ h.on (below_alloc0 W _)
  have BX : Hid (W1.cell? ⟨W.heap.size, 0, none⟩ = some (.func (.func 39) #[V] #[]) ∧ W1.cell? ⟨W.heap.size, 1, none⟩ = some (.func (.func sf) #[] sb)) := by rw [Hid, ← hW1]; simp [go_sem]
  have HO1 : Hid (∀ W', Only W1 W' (fun k => k = g) → Only W W' (fun k => k = g)) := fun W' ho => by rw [← hW1] at ho; exact only_new ho
  have hne : W.heap.size ≠ g := by omega
  clear h HS
  go_enter Try.func93, Try.ntmps93
  go_wp2_with fail
  clear hW1
  go_loopw [8, 9] (fun vi vj wr => ∃ (i j : Nat) (G : Nat → Int × ByteArray), vi = .int .i64 i ∧ vj = .int .i64 j ∧ 0 < i ∧ 0 < j ∧ a + i ≤ m ∧ m + j ≤ b ∧ Hid (Sy.rot G (m - i) m (m + j) = Sy.rot F a m b) ∧ Hid (RF wr base g n c G) ∧ Hid (Only W1 wr (fun k => k = g))) (fun vi vj _ => (intOf vi).toNat + (intOf vj).toNat)
  case atStart => exact ⟨m - a, b - m, F, by go_num, by go_num, by omega, by omega, by omega, by omega, by rw [Hid, show m - (m - a) = a by omega, show m + (b - m) = b by omega], R0, Lib.hid (Only.refl _ _)⟩
  case round =>
    obtain ⟨i, j, G, rfl, rfl, hi, hj, hi2, hj2, he, hr, ho⟩ := hrel
    have c0 := only_box (W := W) ho.out BX.out.1 hne
    have c1 := only_box (W := W) ho.out BX.out.2 hne
    by_cases heq : i = j
    · subst heq
      have hc := HSR.out wr G (m - i) m i hr.out (by omega) (by omega) hn
      rw [show ((m - i : Nat) : Int) = (m : Int) - i by omega] at hc
      have HC := Lib.hid hc
      clear hc
      go_wp2_with fail
      refine HC.out.mono ?_
      rintro e w2 ⟨rfl, r2, o2⟩
      have e1 : Sy.swr G (m - i) m i = Sy.rot F a m b := by
        rw [← he.out]
        have := Sy.rot_eq G (m - i) i
        rw [show m - i + i = m by omega] at this
        exact this
      rw [e1] at r2
      go_wp2
      go_end0
      exact ⟨rfl, r2, HO1.out _ (ho.out.trans o2 fun _ _ h => h)⟩
    · by_cases hlt : j < i
      · have hc := HSR.out wr G (m - i) m j hr.out (by omega) (by omega) hn
        rw [show ((m - i : Nat) : Int) = (m : Int) - i by omega] at hc
        have HC := Lib.hid hc
        clear hc
        go_wp2_with fail
        refine HC.out.mono ?_
        rintro e w2 ⟨rfl, r2, o2⟩
        have E2 : Hid (Sy.rot (Sy.swr G (m - i) m j) (m - (i - j)) m (m + j) = Sy.rot F a m b) := by
          rw [Hid, ← he.out]; exact Sy.rot_left G m i j (by omega) hlt
        have R2 := Lib.hid r2
        have O2 := Lib.hid (ho.out.trans o2 fun _ _ h => h)
        clear r2 o2 hr ho he c0 c1
        go_wp2
        go_roundw
        case rel => exact ⟨i - j, j, _, by go_num, rfl, by omega, hj, by omega, hj2, E2, R2, O2⟩
        case measure => simp [intOf]; omega
      · have hc := HSR.out wr G (m - i) (m + j - i) i hr.out (by omega) (by omega) hn
        rw [show ((m - i : Nat) : Int) = (m : Int) - i by omega, show ((m + j - i : Nat) : Int) = (m : Int) + j - i by omega] at hc
        have HC := Lib.hid hc
        clear hc
        go_wp2_with fail
        refine HC.out.mono ?_
        rintro e w2 ⟨rfl, r2, o2⟩
        have E2 : Hid (Sy.rot (Sy.swr G (m - i) (m + j - i) i) (m - i) m (m + (j - i)) = Sy.rot F a m b) := by
          rw [Hid, ← he.out]; exact Sy.rot_right G m i j (by omega) (by omega)
        have R2 := Lib.hid r2
        have O2 := Lib.hid (ho.out.trans o2 fun _ _ h => h)
        clear r2 o2 hr ho he c0 c1
        go_wp2
        go_roundw
        case rel => exact ⟨i, j - i, _, rfl, by go_num, hi, by omega, hi2, by omega, E2, R2, O2⟩
        case measure => simp [intOf]; omega
set_option maxHeartbeats 1000000 in
set_option maxRecDepth 100000 in
theorem insertion_any (base g n c : Nat) (sf : Nat) (sb : Array Value) (HS : SwapOk base g n c sf sb) (pos : Int × ByteArray → Nat) (W : World) (F : Nat → Int × ByteArray) (a b : Nat) (h : RF W base g n c F) (h1 : a ≤ b) (h3 : b ≤ n) (hp : ∀ i j, a ≤ i → i < j → j < b → pos (F i) < pos (F j)) (hn : n ≤ 1048576) :
    Calls Try.prog 88 #[DAT (.slice (some ⟨g, 0, none⟩) n c) sf sb, .int .i64 a, .int .i64 b] W fun e W' => ∃ F', Did W base g n c F' e W' ∧ Sy.Mix F F' a b ∧ Sy.Srt ltL pos F' a b := by
  have HSW := Lib.hid HS
  have HP := Lib.hid hp
  have HBF := Lib.hid (fun (W : World) F h i j hi hj => before_rows W base g n c F h i j hi hj hn)
  have hg := h.lt
  unfold DAT
  obtain ⟨W1, hW1⟩ : ∃ W1, W.alloc (.cells #[.func (.func 39) #[.slice (some ⟨g, 0, none⟩) n c] #[], .func (.func sf) #[] sb] 86) = W1 := ⟨_, rfl⟩
  have R0 : Hid (RF W1 base g n c F) := hW1 ▸ h.on (below_alloc0 W _)
  have BX : Hid (W1.cell? ⟨W.heap.size, 0, none⟩ = some (.func (.func 39) #[.slice (some ⟨g, 0, none⟩) n c] #[]) ∧ W1.cell? ⟨W.heap.size, 1, none⟩ = some (.func (.func sf) #[] sb)) := by rw [Hid, ← hW1]; simp [go_sem]
  have HO1 : Hid (∀ W', Only W1 W' (fun k => k = g) → Only W W' (fun k => k = g)) := fun W' ho => by rw [← hW1] at ho; exact only_new ho
  have hne : W.heap.size ≠ g := by omega
  clear h HS hp
  go_enter Try.func88, Try.ntmps88
  go_wp2_with fail
  clear hW1
  go_loopw [6] (fun vi wr => ∃ (i : Nat) (G : Nat → Int × ByteArray), vi = .int .i64 i ∧ a < i ∧ i ≤ b + 1 ∧ Hid (Sy.Mix F G a b) ∧ Hid (∀ k, i ≤ k → k < b → G k = F k) ∧ Hid (Sy.Srt ltL pos G a (min i b)) ∧ Hid (Sy.Stay F G a (min i b)) ∧ Hid (RF wr base g n c G) ∧ Hid (Only W1 wr (fun k => k = g))) (fun vi _ => b + 1 - (intOf vi).toNat)
  case atStart =>
    refine ⟨a + 1, F, by go_num, by omega, by omega, Lib.hid (Sy.Mix.refl _ _ _), Lib.hid (fun _ _ _ => rfl), Lib.hid (Sy.srt_one _ (by omega)), Lib.hid (Sy.Stay.refl _ _ _), R0, Lib.hid (Only.refl _ _)⟩
  case round =>
    obtain ⟨i, G, rfl, hai, hib, hm, hk, hs, hy, hr, ho⟩ := hrel
    by_cases hlt : i < b
    · have HPI : Hid (∀ k, a ≤ k → k < i → pos (G k) < pos (G i)) := fun k k1 k2 => by
        obtain ⟨j, j1, j2, e⟩ := hy.out k k1 (by omega)
        rw [e, hk.out i (Nat.le_refl _) hlt]
        exact HP.out j i j1 (by omega) hlt
      have HSG : Hid (Sy.Srt ltL pos G a i) := by have := hs.out; rw [show min i b = i by omega] at this; exact this
      have HYG : Hid (Sy.Stay F G a i) := by have := hy.out; rw [show min i b = i by omega] at this; exact this
      have HNEXT : Hid (∀ j, a ≤ j → j ≤ i → (j = a ∨ ltL (G i) (G (j - 1)) = false) → (∀ k, j ≤ k → k < i → ltL (G i) (G k) = true) → Sy.Mix F (Sy.rot G j i (i + 1)) a b ∧ (∀ k, i + 1 ≤ k → k < b → Sy.rot G j i (i + 1) k = F k) ∧ Sy.Srt ltL pos (Sy.rot G j i (i + 1)) a (min (i + 1) b) ∧ Sy.Stay F (Sy.rot G j i (i + 1)) a (min (i + 1) b)) := fun j j1 j2 jl jr => by
        have mx := Sy.mix_rot G (a := a) (b := b) j1 j2 (by omega : i ≤ i + 1) (by omega)
        have mx2 := Sy.mix_rot G (a := a) (b := i + 1) j1 j2 (by omega : i ≤ i + 1) (Nat.le_refl _)
        refine ⟨hm.out.trans mx, fun k k1 k2 => ?_, ?_, ?_⟩
        · rw [← hk.out k (by omega) k2]
          unfold Sy.rot
          rw [if_neg (by omega), if_neg (by omega)]
        · rw [show min (i + 1) b = i + 1 by omega]
          refine Sy.ins_left HSG.out HPI.out j1 j2 (fun k k1 k2 => ?_) jr
          rcases jl with e | e
          · omega
          · exact Sy.low_false (ltL_ord pos) HSG.out k1 (by omega) (by omega) e
        · rw [show min (i + 1) b = i + 1 by omega]
          have : Sy.Stay F G a (i + 1) := fun q q1 q2 => by
            by_cases e : q < i
            · obtain ⟨p, p1, p2, e2⟩ := HYG.out q q1 e
              exact ⟨p, p1, by omega, e2⟩
            · obtain rfl : q = i := by omega
              exact ⟨q, q1, q2, hk.out q (Nat.le_refl _) hlt⟩
          exact this.mix mx2
      clear hm hk hs hy HPI HSG HYG HP
      have hrr := hr.out
      rw [← Sy.rot_none' G i (i + 1)] at hrr
      have e0 : Sy.rot G i (i + 1) (i + 1) = Sy.rot G i i (i + 1) := by rw [Sy.rot_none', Sy.rot_none]
      rw [e0] at hrr
      have R1 := Lib.hid hrr
      clear hrr e0 hr
      go_wp2
      go_loopw [7] (fun vj wr2 => ∃ (j : Nat), vj = .int .i64 j ∧ a ≤ j ∧ j ≤ i ∧ Hid (∀ k, j ≤ k → k < i → ltL (G i) (G k) = true) ∧ Hid (RF wr2 base g n c (Sy.rot G j i (i + 1))) ∧ Hid (Only W1 wr2 (fun k => k = g))) (fun vj _ => (intOf vj).toNat)
      case atStart => exact ⟨i, rfl, by omega, Nat.le_refl _, Lib.hid (fun k k1 k2 => by omega), R1, ho⟩
      case round =>
        obtain ⟨j, rfl, haj, hji, hall, hr, ho⟩ := hrel
        have c0 := only_box (W := W) ho.out BX.out.1 hne
        by_cases hja : a < j
        · have g1 : Sy.rot G j i (i + 1) j = G i := by unfold Sy.rot; rw [if_pos (by omega)]; congr 1; omega
          have g2 : Sy.rot G j i (i + 1) (j - 1) = G (j - 1) := by unfold Sy.rot; rw [if_neg (by omega), if_neg (by omega)]
          have hl := HBF.out wr _ hr.out j (j - 1) (by omega) (by omega)
          rw [g1, g2, show ((j - 1 : Nat) : Int) = (j : Int) - 1 by omega] at hl
          have HL2 := Lib.hid hl
          clear g1 g2 hl
          cases hlv : ltL (G i) (G (j - 1)) with
          | true =>
            rw [hlv] at HL2
            have HLV := Lib.hid hlv
            clear hlv
            go_wp2_with fail
            refine HL2.out.mono ?_
            rintro e w2 ⟨rfl, q, rfl⟩
            have hbq : Below wr.heap.size wr (wr.drewN q) := ⟨rfl, rfl, rfl, Nat.le_refl _, fun _ _ => rfl⟩
            have R2 := hr.out.on hbq
            have O2 : Only W1 (wr.drewN q) (fun k => k = g) := ho.out.trans (Only.new (S := fun k => k = g) hbq) fun _ _ h => h
            have c1 := only_box (W := W) O2 BX.out.2 hne
            obtain ⟨W', hs, hr2, ho2⟩ := HSW.out (wr.drewN q) _ R2 j (j - 1) (by omega) (by omega) (by omega)
            have hb := Sy.rot_back G i (j - 1) (by omega)
            rw [show j - 1 + 1 = j by omega] at hb
            rw [hb] at hr2
            rw [show ((j - 1 : Nat) : Int) = (j : Int) - 1 by omega] at hs
            have R3 := Lib.hid hr2
            have O3 := Lib.hid (O2.trans ho2 fun _ _ h => h)
            have HH := Lib.hid hs
            clear hs hr2 ho2 hr ho hb O2 R2 hbq c0
            go_wp2
            rw [HH.out, Oper.upon_value]
            go_wp2
            go_roundw
            case rel => exact ⟨j - 1, by go_num, by omega, by omega, Lib.hid (fun k k1 k2 => by
                          by_cases e : k = j - 1
                          · subst e; exact HLV.out
                          · exact hall.out k (by omega) k2), R3, O3⟩
            case measure => simp [intOf]; omega
          | false =>
            rw [hlv] at HL2
            obtain ⟨m1, m2, m3, m4⟩ := HNEXT.out j haj hji (Or.inr hlv) hall.out
            have M1 := Lib.hid m1
            have M2 := Lib.hid m2
            have M3 := Lib.hid m3
            have M4 := Lib.hid m4
            clear hlv m1 m2 m3 m4
            go_wp2_with fail
            refine HL2.out.mono ?_
            rintro e w2 ⟨rfl, q, rfl⟩
            have hbq : Below wr.heap.size wr (wr.drewN q) := ⟨rfl, rfl, rfl, Nat.le_refl _, fun _ _ => rfl⟩
            have R2 := Lib.hid (hr.out.on hbq)
            have O2 := Lib.hid (ho.out.trans (Only.new (S := fun k => k = g) hbq) fun _ _ h => h)
            clear hr ho hbq c0
            go_wp2
            go_roundw
            case rel => exact ⟨i + 1, _, by go_num, by omega, by omega, M1, M2, M3, M4, R2, O2⟩
            case measure => simp [intOf]; omega
        · obtain ⟨m1, m2, m3, m4⟩ := HNEXT.out j haj hji (Or.inl (by omega)) hall.out
          have M1 := Lib.hid m1
          have M2 := Lib.hid m2
          have M3 := Lib.hid m3
          have M4 := Lib.hid m4
          clear m1 m2 m3 m4
          go_wp2
          go_roundw
          case rel => exact ⟨i + 1, _, by go_num, by omega, by omega, M1, M2, M3, M4, hr, ho⟩
          case measure => simp [intOf]; omega
    · have hs' := hs.out
      rw [show min i b = b by omega] at hs'
      go_wp2
      go_end0
      exact ⟨G, ⟨rfl, hr.out, HO1.out _ ho.out⟩, hm.out, hs'⟩
end Go.Proofs.Ytedhenffolfkeaa

/-
  symMerge: two runs merged in place, an entry in front, an entry behind, or both runs cut and turned round.
-/
namespace Go.Proofs.Ytedhenffolfkeaa
open Go.RowKit
set_option linter.unusedVariables false

def Merged (W : World) (base g n c : Nat) (pos : Int × ByteArray → Nat) (F : Nat → Int × ByteArray) (a b : Nat) (e : Ending) (W' : World) : Prop := ∃ F', Did W base g n c F' e W' ∧ Sy.Mix F F' a b ∧ Sy.Srt ltL pos F' a b
set_option maxHeartbeats 2000000 in
set_option maxRecDepth 100000 in
theorem symMerge_one (base g n c : Nat) (sf : Nat) (sb : Array Value) (HS : SwapOk base g n c sf sb) (pos : Int × ByteArray → Nat) (W : World) (F : Nat → Int × ByteArray) (a m b : Nat) (h : RF W base g n c F) (h1 : a < m) (h2 : m < b) (h3 : b ≤ n) (hl : Sy.Srt ltL pos F a m) (hr : Sy.Srt ltL pos F m b) (hp : Sy.Par pos F a m b) (hn : n ≤ 1048576) (hone : m = a + 1) :
    Calls Try.prog 89 #[DAT (.slice (some ⟨g, 0, none⟩) n c) sf sb, .int .i64 a, .int .i64 m, .int .i64 b] W (Merged W base g n c pos F a b) := by
  have HSW := Lib.hid HS
  have HBF := Lib.hid (fun (W : World) F h i j hi hj => before_rows W base g n c F h i j hi hj hn)
  have hg := h.lt
  unfold DAT
  obtain ⟨W1, hW1⟩ : ∃ W1, W.alloc (.cells #[.func (.func 39) #[.slice (some ⟨g, 0, none⟩) n c] #[], .func (.func sf) #[] sb] 86) = W1 := ⟨_, rfl⟩
  have R0 : Hid (RF W1 base g n c F) := hW1 ▸ h.on (below_alloc0 W _)
  have BX : Hid (W1.cell? ⟨W.heap.size, 0, none⟩ = some (.func (.func 39) #[.slice (some ⟨g, 0, none⟩) n c] #[]) ∧ W1.cell? ⟨W.heap.size, 1, none⟩ = some (.func (.func sf) #[] sb)) := by rw [Hid, ← hW1]; simp [go_sem]
  have HO1 : Hid (∀ W', Only W1 W' (fun k => k = g) → Only W W' (fun k => k = g)) := fun W' ho => by rw [← hW1] at ho; exact only_new ho
  have hne : W.heap.size ≠ g := by omega
  have HSL := Lib.hid hl
  have HSR := Lib.hid hr
  have HPR := Lib.hid hp
  have q1 : ((m : Int) - a == 1) = true := by rw [beq_iff_eq]; omega
  have h4 : m ≤ a + 1 := by omega
  rw [hone] at HSR
  have HONE := Lib.hid hone
  clear h HS hl hr hp hone
  go_enter Try.func89, Try.ntmps89
  go_wp2_with fail
  clear hW1
  go_loopw [8, 9] (fun vi vj wr => ∃ (i j : Nat), vi = .int .i64 i ∧ vj = .int .i64 j ∧ m ≤ i ∧ i ≤ j ∧ j ≤ b ∧ Hid (∀ k, a < k → k < i → ltL (F k) (F a) = true) ∧ Hid (∀ k, j ≤ k → k < b → ltL (F k) (F a) = false) ∧ Hid (RF wr base g n c F) ∧ Hid (Only W1 wr (fun k => k = g))) (fun vi vj _ => (intOf vj).toNat - (intOf vi).toNat)
  case atStart => exact ⟨m, b, rfl, rfl, Nat.le_refl _, by omega, Nat.le_refl _, Lib.hid (fun k k1 k2 => by omega), Lib.hid (fun k k1 k2 => by omega), R0, Lib.hid (Only.refl _ _)⟩
  case round =>
    obtain ⟨i, j, rfl, rfl, hai, hij, hjb, hlo, hhi, hrw, how⟩ := hrel
    by_cases hlt : i < j
    · have c0 := only_box (W := W) how.out BX.out.1 hne
      have hh : ∃ h : Nat, (i + j) / 2 = h ∧ i ≤ h ∧ h < j := ⟨_, rfl, by omega, by omega⟩
      obtain ⟨h, hh0, hh1, hh2⟩ := hh
      have u1 : IntKind.u64.wrap ((i : Int) + j) = (i : Int) + j := IntWalk.u64_in _ (by omega)
      have u2 : ((i : Int) + j) / 2 = (h : Int) := by omega
      have u3 : IntKind.i64.wrap (h : Int) = (h : Int) := IntWalk.i64_in _ (by omega)
      have u4 : IntKind.u64.wrap (h : Int) = (h : Int) := IntWalk.u64_in _ (by omega)
      clear hh0
      have HB := Lib.hid (HBF.out wr _ hrw.out h a (by omega) (by omega))
      cases hlv : ltL (F h) (F a) with
      | true =>
        rw [hlv] at HB
        have HLV := Lib.hid hlv
        clear hlv
        go_wp2_with fail
        refine HB.out.mono ?_
        rintro e w2 ⟨rfl, q, rfl⟩
        have hbq : Below wr.heap.size wr (wr.drewN q) := ⟨rfl, rfl, rfl, Nat.le_refl _, fun _ _ => rfl⟩
        have R2 := Lib.hid (hrw.out.on hbq)
        have O2 := Lib.hid (how.out.trans (Only.new (S := fun k => k = g) hbq) fun _ _ h => h)
        clear hbq
        clear hrw how c0
        go_wp2
        go_roundw
        case rel => exact ⟨h + 1, j, by go_num, rfl, by omega, by omega, hjb, Lib.hid (fun k k1 k2 => Sy.low_true (ltL_ord pos) HSR.out (i := h) (by omega) (by omega) (by omega) HLV.out), hhi, R2, O2⟩
        case measure => simp [intOf]; omega
      | false =>
        rw [hlv] at HB
        have HLV := Lib.hid hlv
        clear hlv
        go_wp2_with fail
        refine HB.out.mono ?_
        rintro e w2 ⟨rfl, q, rfl⟩
        have hbq : Below wr.heap.size wr (wr.drewN q) := ⟨rfl, rfl, rfl, Nat.le_refl _, fun _ _ => rfl⟩
        have R2 := Lib.hid (hrw.out.on hbq)
        have O2 := Lib.hid (how.out.trans (Only.new (S := fun k => k = g) hbq) fun _ _ h => h)
        clear hbq
        clear hrw how c0
        go_wp2
        go_roundw
        case rel => exact ⟨i, h, rfl, by go_num, hai, by omega, by omega, hlo, Lib.hid (fun k k1 k2 => Sy.high_false (ltL_ord pos) HSR.out (i := h) (by omega) (by omega) (by omega) HLV.out), R2, O2⟩
        case measure => simp [intOf]; omega
    · obtain rfl : i = j := by omega
      have HINS := Lib.hid (Sy.ins_right HSR.out (fun k k1 k2 => HPR.out a k (Nat.le_refl _) (by omega) (by omega) k2) (by omega) hjb hlo.out hhi.out)
      clear hlo hhi
      have hrr := hrw.out
      rw [← Sy.rot_none' F a (a + 1)] at hrr
      have R1 := Lib.hid hrr
      clear hrr hrw
      go_wp2
      go_loopw [11] (fun vk wr2 => ∃ (k : Nat), vk = .int .i64 k ∧ a ≤ k ∧ k + 1 ≤ i ∧ Hid (RF wr2 base g n c (Sy.rot F a (a + 1) (k + 1))) ∧ Hid (Only W1 wr2 (fun k => k = g))) (fun vk _ => b - (intOf vk).toNat)
      case atStart => exact ⟨a, rfl, Nat.le_refl _, by omega, R1, how⟩
      case round =>
        obtain ⟨k, rfl, hak, hki, hr2, ho2⟩ := hrel
        by_cases hlt2 : k + 1 < i
        · have c1 := only_box (W := W) ho2.out BX.out.2 hne
          obtain ⟨W', hs, hr3, ho3⟩ := HSW.out wr _ hr2.out k (k + 1) (by omega) (by omega) (by omega)
          rw [Sy.rot_step F a k hak] at hr3
          rw [show ((k + 1 : Nat) : Int) = (k : Int) + 1 by omega] at hs
          have R3 := Lib.hid hr3
          have O3 := Lib.hid (ho2.out.trans ho3 fun _ _ h => h)
          have HH := Lib.hid hs
          clear hs hr3 ho3 hr2 ho2
          go_wp2
          rw [HH.out, Oper.upon_value]
          go_wp2
          go_roundw
          case rel => exact ⟨k + 1, by go_num, by omega, by omega, R3, O3⟩
          case measure => simp [intOf]; omega
        · obtain rfl : i = k + 1 := by omega
          go_wp2
          go_end0
          exact ⟨_, ⟨rfl, hr2.out, HO1.out _ ho2.out⟩, Sy.mix_rot F (Nat.le_refl _) (by omega) (by omega) (by omega), HINS.out⟩
set_option maxHeartbeats 2000000 in
set_option maxRecDepth 100000 in
theorem symMerge_last (base g n c : Nat) (sf : Nat) (sb : Array Value) (HS : SwapOk base g n c sf sb) (pos : Int × ByteArray → Nat) (W : World) (F : Nat → Int × ByteArray) (a m b : Nat) (h : RF W base g n c F) (h1 : a < m) (h2 : m < b) (h3 : b ≤ n) (hl : Sy.Srt ltL pos F a m) (hr : Sy.Srt ltL pos F m b) (hp : Sy.Par pos F a m b) (hn : n ≤ 1048576) (hone : b = m + 1) (htwo : m ≠ a + 1) :
    Calls Try.prog 89 #[DAT (.slice (some ⟨g, 0, none⟩) n c) sf sb, .int .i64 a, .int .i64 m, .int .i64 b] W (Merged W base g n c pos F a b) := by
  have HSW := Lib.hid HS
  have HBF := Lib.hid (fun (W : World) F h i j hi hj => before_rows W base g n c F h i j hi hj hn)
  have hg := h.lt
  unfold DAT
  obtain ⟨W1, hW1⟩ : ∃ W1, W.alloc (.cells #[.func (.func 39) #[.slice (some ⟨g, 0, none⟩) n c] #[], .func (.func sf) #[] sb] 86) = W1 := ⟨_, rfl⟩
  have R0 : Hid (RF W1 base g n c F) := hW1 ▸ h.on (below_alloc0 W _)
  have BX : Hid (W1.cell? ⟨W.heap.size, 0, none⟩ = some (.func (.func 39) #[.slice (some ⟨g, 0, none⟩) n c] #[]) ∧ W1.cell? ⟨W.heap.size, 1, none⟩ = some (.func (.func sf) #[] sb)) := by rw [Hid, ← hW1]; simp [go_sem]
  have HO1 : Hid (∀ W', Only W1 W' (fun k => k = g) → Only W W' (fun k => k = g)) := fun W' ho => by rw [← hW1] at ho; exact only_new ho
  have hne : W.heap.size ≠ g := by omega
  have HSL := Lib.hid hl
  have HSR := Lib.hid hr
  have HPR := Lib.hid hp
  have HPI : Hid (∀ k, a ≤ k → k < m → pos (F k) < pos (F m)) := fun k k1 k2 => hp k m k1 k2 (Nat.le_refl _) h2
  have q1 : ((m : Int) - a == 1) = false := by rw [beq_eq_false_iff_ne]; omega
  have q2 : ((b : Int) - m == 1) = true := by rw [beq_iff_eq]; omega
  have h4 : b ≤ m + 1 := by omega
  have HONE : Hid (m + 1 = b) := hone.symm
  clear h HS hl hr hp hone
  go_enter Try.func89, Try.ntmps89
  go_wp2_with fail
  clear hW1
  go_loopw [12, 13] (fun vi vj wr => ∃ (i j : Nat), vi = .int .i64 i ∧ vj = .int .i64 j ∧ a ≤ i ∧ i ≤ j ∧ j ≤ m ∧ Hid (∀ k, a ≤ k → k < i → ltL (F m) (F k) = false) ∧ Hid (∀ k, j ≤ k → k < m → ltL (F m) (F k) = true) ∧ Hid (RF wr base g n c F) ∧ Hid (Only W1 wr (fun k => k = g))) (fun vi vj _ => (intOf vj).toNat - (intOf vi).toNat)
  case atStart => exact ⟨a, m, rfl, rfl, Nat.le_refl _, by omega, Nat.le_refl _, Lib.hid (fun k k1 k2 => by omega), Lib.hid (fun k k1 k2 => by omega), R0, Lib.hid (Only.refl _ _)⟩
  case round =>
    obtain ⟨i, j, rfl, rfl, hai, hij, hjb, hlo, hhi, hrw, how⟩ := hrel
    by_cases hlt : i < j
    · have c0 := only_box (W := W) how.out BX.out.1 hne
      have hh : ∃ h : Nat, (i + j) / 2 = h ∧ i ≤ h ∧ h < j := ⟨_, rfl, by omega, by omega⟩
      obtain ⟨h, hh0, hh1, hh2⟩ := hh
      have u1 : IntKind.u64.wrap ((i : Int) + j) = (i : Int) + j := IntWalk.u64_in _ (by omega)
      have u2 : ((i : Int) + j) / 2 = (h : Int) := by omega
      have u3 : IntKind.i64.wrap (h : Int) = (h : Int) := IntWalk.i64_in _ (by omega)
      have u4 : IntKind.u64.wrap (h : Int) = (h : Int) := IntWalk.u64_in _ (by omega)
      clear hh0
      have HB := Lib.hid (HBF.out wr _ hrw.out m h (by omega) (by omega))
      cases hlv : ltL (F m) (F h) with
      | true =>
        rw [hlv] at HB
        have HLV := Lib.hid hlv
        clear hlv
        go_wp2_with fail
        refine HB.out.mono ?_
        rintro e w2 ⟨rfl, q, rfl⟩
        have hbq : Below wr.heap.size wr (wr.drewN q) := ⟨rfl, rfl, rfl, Nat.le_refl _, fun _ _ => rfl⟩
        have R2 := Lib.hid (hrw.out.on hbq)
        have O2 := Lib.hid (how.out.trans (Only.new (S := fun k => k = g) hbq) fun _ _ h => h)
        clear hbq
        clear hrw how c0
        go_wp2
        go_roundw
        case rel => exact ⟨i, h, rfl, by go_num, hai, by omega, by omega, hlo, Lib.hid (fun k k1 k2 => Sy.high_true (ltL_ord pos) HSL.out (i := h) (by omega) (by omega) (by omega) HLV.out), R2, O2⟩
        case measure => simp [intOf]; omega
      | false =>
        rw [hlv] at HB
        have HLV := Lib.hid hlv
        clear hlv
        go_wp2_with fail
        refine HB.out.mono ?_
        rintro e w2 ⟨rfl, q, rfl⟩
        have hbq : Below wr.heap.size wr (wr.drewN q) := ⟨rfl, rfl, rfl, Nat.le_refl _, fun _ _ => rfl⟩
        have R2 := Lib.hid (hrw.out.on hbq)
        have O2 := Lib.hid (how.out.trans (Only.new (S := fun k => k = g) hbq) fun _ _ h => h)
        clear hbq
        clear hrw how c0
        go_wp2
        go_roundw
        case rel => exact ⟨h + 1, j, by go_num, rfl, by omega, by omega, hjb, Lib.hid (fun k k1 k2 => Sy.low_false (ltL_ord pos) HSL.out (i := h) (by omega) (by omega) (by omega) HLV.out), hhi, R2, O2⟩
        case measure => simp [intOf]; omega
    · obtain rfl : i = j := by omega
      have HINS := Lib.hid (Sy.ins_left HSL.out HPI.out hai hjb hlo.out hhi.out)
      rw [show m + 1 = b from HONE.out] at HINS
      clear hlo hhi
      have hrr := hrw.out
      rw [← Sy.rot_none F m b] at hrr
      have R1 := Lib.hid hrr
      clear hrr hrw
      go_wp2
      go_loopw [15] (fun vk wr2 => ∃ (k : Nat), vk = .int .i64 k ∧ i ≤ k ∧ k ≤ m ∧ Hid (RF wr2 base g n c (Sy.rot F k m b)) ∧ Hid (Only W1 wr2 (fun k => k = g))) (fun vk _ => (intOf vk).toNat)
      case atStart => exact ⟨m, rfl, hjb, Nat.le_refl _, R1, how⟩
      case round =>
        obtain ⟨k, rfl, hik, hkm, hr2, ho2⟩ := hrel
        by_cases hlt2 : i < k
        · have c1 := only_box (W := W) ho2.out BX.out.2 hne
          obtain ⟨W', hs, hr3, ho3⟩ := HSW.out wr _ hr2.out k (k - 1) (by omega) (by omega) (by omega)
          have hb := Sy.rot_back F m (k - 1) (by omega)
          rw [show k - 1 + 1 = k by omega, show m + 1 = b from HONE.out] at hb
          rw [hb] at hr3
          rw [show ((k - 1 : Nat) : Int) = (k : Int) - 1 by omega] at hs
          have R3 := Lib.hid hr3
          have O3 := Lib.hid (ho2.out.trans ho3 fun _ _ h => h)
          have HH := Lib.hid hs
          clear hs hr3 ho3 hr2 ho2 hb
          go_wp2
          rw [HH.out, Oper.upon_value]
          go_wp2
          go_roundw
          case rel => exact ⟨k - 1, by go_num, by omega, by omega, R3, O3⟩
          case measure => simp [intOf]; omega
        · obtain rfl : i = k := by omega
          go_wp2
          go_end0
          exact ⟨_, ⟨rfl, hr2.out, HO1.out _ ho2.out⟩, Sy.mix_rot F hai hkm (by omega) (Nat.le_refl _), HINS.out⟩
end Go.Proofs.Ytedhenffolfkeaa

/-
  symMerge in general: both runs are cut, the middle is turned round, each half is merged in turn.
-/
namespace Go.Proofs.Ytedhenffolfkeaa
open Go.RowKit
set_option linter.unusedVariables false

theorem srt_kept {pos : Int × ByteArray → Nat} {F G : Nat → Int × ByteArray} {a b c d : Nat} (h : Sy.Srt ltL pos F c d) (m : Sy.Mix F G a b) (ho : d ≤ a ∨ b ≤ c) : Sy.Srt ltL pos G c d := Sy.srt_same h fun k k1 k2 => m.1 k (by omega)
theorem par_kept {pos : Int × ByteArray → Nat} {F G : Nat → Int × ByteArray} {a b c d e : Nat} (h : Sy.Par pos F c d e) (m : Sy.Mix F G a b) (ho : b ≤ c) : Sy.Par pos G c d e := fun i j i1 i2 j1 j2 => by
  rw [m.1 i (by omega), m.1 j (by omega)]; exact h i j i1 i2 j1 j2
set_option maxHeartbeats 2000000 in
set_option maxRecDepth 100000 in
theorem symMerge_gen (base g n c : Nat) (sf : Nat) (sb : Array Value) (HS : SwapOk base g n c sf sb) (pos : Int × ByteArray → Nat) (W : World) (F : Nat → Int × ByteArray) (a m b : Nat) (h : RF W base g n c F) (h1 : a < m) (h2 : m < b) (h3 : b ≤ n) (hl : Sy.Srt ltL pos F a m) (hr : Sy.Srt ltL pos F m b) (hp : Sy.Par pos F a m b) (hn : n ≤ 1048576) (hone : m ≠ a + 1) (htwo : b ≠ m + 1) (HIH : ∀ a' m' b', a' < m' → m' < b' → b' ≤ n → b' - a' < b - a → ∀ W F, RF W base g n c F → Sy.Srt ltL pos F a' m' → Sy.Srt ltL pos F m' b' → Sy.Par pos F a' m' b' → Calls Try.prog 89 #[DAT (.slice (some ⟨g, 0, none⟩) n c) sf sb, .int .i64 (a' : Nat), .int .i64 (m' : Nat), .int .i64 (b' : Nat)] W (Merged W base g n c pos F a' b')) :
    Calls Try.prog 89 #[DAT (.slice (some ⟨g, 0, none⟩) n c) sf sb, .int .i64 a, .int .i64 m, .int .i64 b] W (Merged W base g n c pos F a b) := by
  have HROT := Lib.hid (fun W F a m b h h1 h2 h3 => rotate_any base g n c (.slice (some ⟨g, 0, none⟩) n c) sf sb HS W F a m b h h1 h2 h3 hn)
  have HIH' := Lib.hid HIH
  clear HIH
  have HSW := Lib.hid HS
  have HBF := Lib.hid (fun (W : World) F h i j hi hj => before_rows W base g n c F h i j hi hj hn)
  have hg := h.lt
  unfold DAT at HROT HIH' ⊢
  obtain ⟨W1, hW1⟩ : ∃ W1, W.alloc (.cells #[.func (.func 39) #[.slice (some ⟨g, 0, none⟩) n c] #[], .func (.func sf) #[] sb] 86) = W1 := ⟨_, rfl⟩
  have R0 : Hid (RF W1 base g n c F) := hW1 ▸ h.on (below_alloc0 W _)
  have BX : Hid (W1.cell? ⟨W.heap.size, 0, none⟩ = some (.func (.func 39) #[.slice (some ⟨g, 0, none⟩) n c] #[]) ∧ W1.cell? ⟨W.heap.size, 1, none⟩ = some (.func (.func sf) #[] sb)) := by rw [Hid, ← hW1]; simp [go_sem]
  have HO1 : Hid (∀ W', Only W1 W' (fun k => k = g) → Only W W' (fun k => k = g)) := fun W' ho => by rw [← hW1] at ho; exact only_new ho
  have hne : W.heap.size ≠ g := by omega
  have HSL := Lib.hid hl
  have HSR := Lib.hid hr
  have HPR := Lib.hid hp
  have q1 : ((m : Int) - a == 1) = false := by rw [beq_eq_false_iff_ne]; omega
  have q2 : ((b : Int) - m == 1) = false := by rw [beq_eq_false_iff_ne]; omega
  have hh : ∃ mid : Nat, mid = (a + b) / 2 ∧ a < mid ∧ mid < b := ⟨_, rfl, by omega, by omega⟩
  obtain ⟨mid, hm0, hm1, hm2⟩ := hh
  have u1 : IntKind.u64.wrap ((a : Int) + b) = (a : Int) + b := IntWalk.u64_in _ (by omega)
  have u2 : ((a : Int) + b) / 2 = (mid : Int) := by omega
  have u3 : IntKind.i64.wrap (mid : Int) = (mid : Int) := IntWalk.i64_in _ (by omega)
  have u4 : IntKind.u64.wrap (mid : Int) = (mid : Int) := IntWalk.u64_in _ (by omega)
  have HM0 := Lib.hid hm0
  have v1 : a + b ≤ 2 * mid + 1 := by omega
  have v2 : 2 * mid ≤ a + b := by omega
  clear h HS hl hr hp hm0 hone htwo
  go_enter Try.func89, Try.ntmps89
  go_upto_if 106 with fail
  clear hW1
  go_cut [18, 19] from 104 to 112 (fun v18 v19 wx => ∃ s0 r0 : Nat, v18 = .int .i64 s0 ∧ v19 = .int .i64 r0 ∧ Hid ((mid < m ∧ s0 = mid + m - b ∧ r0 = mid) ∨ (m ≤ mid ∧ s0 = a ∧ r0 = m)) ∧ W1 = wx)
  case first =>
    by_cases hmid : mid < m
    · have : (mid : Int) < m := by omega
      go_wp2_with fail
      go_meet
      exact ⟨mid + m - b, mid, by go_num, rfl, Or.inl ⟨hmid, rfl, rfl⟩, rfl⟩
    · have : ¬ (mid : Int) < m := by omega
      go_wp2_with fail
      go_meet
      exact ⟨a, m, rfl, rfl, Or.inr ⟨by omega, rfl, rfl⟩, rfl⟩
  case rest =>
    obtain ⟨s0, r0, rfl, rfl, hc0, rfl⟩ := hcut
    have w1 : a ≤ s0 ∧ s0 ≤ r0 ∧ r0 ≤ mid ∧ r0 ≤ m ∧ (∀ k, s0 ≤ k → k < r0 → m ≤ mid + m - 1 - k ∧ mid + m - 1 - k < b) := by
      rcases hc0.out with ⟨e1, e2, e3⟩ | ⟨e1, e2, e3⟩
      · subst e2 e3; exact ⟨by omega, by omega, by omega, by omega, fun k k1 k2 => ⟨by omega, by omega⟩⟩
      · subst e2 e3; exact ⟨by omega, by omega, by omega, by omega, fun k k1 k2 => ⟨by omega, by omega⟩⟩
    obtain ⟨w1, w2, w3, w4, w5⟩ := w1
    have HW5 := Lib.hid w5
    clear w5
    go_wp2_with fail
    go_loopw [18, 19] (fun vi vj wr => ∃ (i j : Nat), vi = .int .i64 i ∧ vj = .int .i64 j ∧ s0 ≤ i ∧ i ≤ j ∧ j ≤ r0 ∧ Hid (i = s0 ∨ ltL (F (mid + m - i)) (F (i - 1)) = false) ∧ Hid (j = r0 ∨ ltL (F (mid + m - 1 - j)) (F j) = true) ∧ Hid (RF wr base g n c F) ∧ Hid (Only W1 wr (fun k => k = g))) (fun vi vj _ => (intOf vj).toNat - (intOf vi).toNat)
    case atStart => exact ⟨s0, r0, rfl, rfl, Nat.le_refl _, w2, Nat.le_refl _, Or.inl rfl, Or.inl rfl, R0, Lib.hid (Only.refl _ _)⟩
    case round =>
      obtain ⟨i, j, rfl, rfl, hai, hij, hjb, hlo, hhi, hrw, how⟩ := hrel
      by_cases hlt : i < j
      · have c0 := only_box (W := W) how.out BX.out.1 hne
        have hh : ∃ h : Nat, (i + j) / 2 = h ∧ i ≤ h ∧ h < j := ⟨_, rfl, by omega, by omega⟩
        obtain ⟨h, hh0, hh1, hh2⟩ := hh
        have t1 : IntKind.u64.wrap ((i : Int) + j) = (i : Int) + j := IntWalk.u64_in _ (by omega)
        have t2 : ((i : Int) + j) / 2 = (h : Int) := by omega
        have t3 : IntKind.i64.wrap (h : Int) = (h : Int) := IntWalk.i64_in _ (by omega)
        have t4 : IntKind.u64.wrap (h : Int) = (h : Int) := IntWalk.u64_in _ (by omega)
        clear hh0
        obtain ⟨p1, p2⟩ := HW5.out h (by omega) (by omega)
        have hb := HBF.out wr _ hrw.out (mid + m - 1 - h) h (by omega) (by omega)
        rw [show ((mid + m - 1 - h : Nat) : Int) = (mid : Int) + m - 1 - h by omega] at hb
        have HB := Lib.hid hb
        clear hb
        cases hlv : ltL (F (mid + m - 1 - h)) (F h) with
        | true =>
          rw [hlv] at HB
          have HLV := Lib.hid hlv
          clear hlv
          go_wp2_with fail
          refine HB.out.mono ?_
          rintro e w2 ⟨rfl, q, rfl⟩
          have hbq : Below wr.heap.size wr (wr.drewN q) := ⟨rfl, rfl, rfl, Nat.le_refl _, fun _ _ => rfl⟩
          have R2 := Lib.hid (hrw.out.on hbq)
          have O2 := Lib.hid (how.out.trans (Only.new (S := fun k => k = g) hbq) fun _ _ h => h)
          clear hbq
          clear hrw how c0
          go_wp2
          go_roundw
          case rel => exact ⟨i, h, rfl, by go_num, hai, by omega, by omega, hlo, Or.inr HLV.out, R2, O2⟩
          case measure => simp [intOf]; omega
        | false =>
          rw [hlv] at HB
          have HLV : Hid (ltL (F (mid + m - (h + 1))) (F (h + 1 - 1)) = false) := by
            rw [Hid, show mid + m - (h + 1) = mid + m - 1 - h by omega, Nat.add_sub_cancel]; exact hlv
          clear hlv
          go_wp2_with fail
          refine HB.out.mono ?_
          rintro e w2 ⟨rfl, q, rfl⟩
          have hbq : Below wr.heap.size wr (wr.drewN q) := ⟨rfl, rfl, rfl, Nat.le_refl _, fun _ _ => rfl⟩
          have R2 := Lib.hid (hrw.out.on hbq)
          have O2 := Lib.hid (how.out.trans (Only.new (S := fun k => k = g) hbq) fun _ _ h => h)
          clear hbq
          clear hrw how c0
          go_wp2
          go_roundw
          case rel => exact ⟨h + 1, j, by go_num, rfl, by omega, by omega, hjb, Or.inr HLV.out, hhi, R2, O2⟩
          case measure => simp [intOf]; omega
      · obtain rfl : i = j := by omega
        obtain ⟨k1, k2, k3, k4, H1, H2⟩ := Sy.cut_found (ltL_ord pos) h1 h2 HM0.out HSL.out HSR.out s0 r0 hc0.out hai hjb hlo.out hhi.out
        obtain ⟨t, ht⟩ : ∃ t, mid + m - i = t := ⟨_, rfl⟩
        rw [ht] at k3 k4 H1 H2
        have HT : Hid ((t : Int) = (mid : Int) + m - i) := by rw [Hid]; omega
        obtain ⟨F1, hF1⟩ : ∃ F1, Sy.rot F i m t = F1 := ⟨_, rfl⟩
        have HV := Sy.cut_halves (mid := mid) (t := t) k1 k2 k3 k4 (by omega) HSL.out HSR.out HPR.out H1 H2
        rw [hF1] at HV
        obtain ⟨V1, V2, V3, V4, V5, V6, V7⟩ := HV
        have HX : Hid (Sy.Mix F F1 a b) := by rw [Hid, ← hF1]; exact Sy.mix_rot F k1 k2 k3 k4
        have HF1 := Lib.hid hF1
        have V1 := Lib.hid V1
        have V2 := Lib.hid V2
        have V3 := Lib.hid V3
        have V4 := Lib.hid V4
        have V5 := Lib.hid V5
        have V6 := Lib.hid V6
        have V7 := Lib.hid V7
        have m1 : i ≤ mid := by omega
        have m2 : mid ≤ t := by omega
        clear H1 H2 ht hF1 hlo hhi u1 u2 u3 u4 q1 q2
        have e0 : ((mid : Int) + m - i) ≤ 3000000 := by omega
        go_upto_region 40 with fail
        go_cut [145] from 138 to 144 (fun v wx => ∃ bC : Bool, v = .bool bC ∧ Hid (bC = decide (i < m ∧ m < t)) ∧ wr = wx)
        case first =>
          by_cases d1 : i < m
          · have d1' : (i : Int) < m := by omega
            by_cases d2 : m < t
            · have d2' : (m : Int) < (mid : Int) + m - i := by have := HT.out; omega
              go_wp2_with fail
              go_meet
              exact ⟨true, rfl, by rw [Hid, decide_eq_true ⟨d1, d2⟩], rfl⟩
            · have d2' : ¬ (m : Int) < (mid : Int) + m - i := by have := HT.out; omega
              go_wp2_with fail
              go_meet
              exact ⟨false, rfl, by rw [Hid, decide_eq_false fun e => d2 e.2], rfl⟩
          · have d1' : ¬ (i : Int) < m := by omega
            go_wp2_with fail
            go_meet
            exact ⟨false, rfl, by rw [Hid, decide_eq_false fun e => d1 e.1], rfl⟩
        case rest =>
          obtain ⟨bC, rfl, hbC, rfl⟩ := hcut
          go_upto_if 145 with fail
          go_cut [] from 138 to 150 (fun wx => Hid (RF wx base g n c F1) ∧ Hid (Only W1 wx (fun k => k = g)))
          case first =>
            have c0 := only_box (W := W) how.out BX.out.1 hne
            have c1 := only_box (W := W) how.out BX.out.2 hne
            cases bC
            case true =>
              have hC : i < m ∧ m < t := of_decide_eq_true hbC.out.symm
              have hc := HROT.out _ F i m t hrw.out hC.1 hC.2 (by omega)
              rw [HT.out, HF1.out] at hc
              have HC := Lib.hid hc
              clear hc hC
              go_wp2_with fail
              refine HC.out.mono ?_
              rintro e w2 ⟨rfl, r2, o2⟩
              go_wp2_with fail
              go_meet
              exact ⟨r2, how.out.trans o2 fun _ _ h => h⟩
            case false =>
              have hC : ¬ (i < m ∧ m < t) := of_decide_eq_false hbC.out.symm
              have e1 : F = F1 := by
                rw [← HF1.out]
                by_cases d1 : i = m
                · subst d1; exact (Sy.rot_none F i t).symm
                · have : t = m := by omega
                  subst this; exact (Sy.rot_none' F i t).symm
              have r2 := hrw.out
              rw [e1] at r2
              have R2 := Lib.hid r2
              clear r2 e1 hC
              go_wp2_with fail
              go_meet
              exact ⟨R2, how⟩
          case rest =>
            obtain ⟨R1, O1⟩ := hcut
            clear hrw how
            go_upto_region 42 with fail
            go_cut [158] from 151 to 157 (fun v wx => ∃ bC : Bool, v = .bool bC ∧ Hid (bC = decide (a < i ∧ i < mid)) ∧ Hid (RF wx base g n c F1) ∧ Hid (Only W1 wx (fun k => k = g)))
            case first =>
              by_cases d1 : a < i
              · have d1' : (a : Int) < i := by omega
                by_cases d2 : i < mid
                · have d2' : (i : Int) < mid := by omega
                  go_wp2_with fail
                  go_meet
                  exact ⟨true, rfl, by rw [Hid, decide_eq_true ⟨d1, d2⟩], R1, O1⟩
                · have d2' : ¬ (i : Int) < mid := by omega
                  go_wp2_with fail
                  go_meet
                  exact ⟨false, rfl, by rw [Hid, decide_eq_false fun e => d2 e.2], R1, O1⟩
              · have d1' : ¬ (a : Int) < i := by omega
                go_wp2_with fail
                go_meet
                exact ⟨false, rfl, by rw [Hid, decide_eq_false fun e => d1 e.1], R1, O1⟩
            case rest =>
              clear R1 O1
              obtain ⟨bC, rfl, hbC, R1, O1⟩ := hcut
              go_upto_if 158 with fail
              go_cut [] from 151 to 163 (fun wx => ∃ G1, Hid (Sy.Mix F1 G1 a mid) ∧ Hid (Sy.Srt ltL pos G1 a mid) ∧ Hid (RF wx base g n c G1) ∧ Hid (Only W1 wx (fun k => k = g)))
              case first =>
                have c0 := only_box (W := W) O1.out BX.out.1 hne
                have c1 := only_box (W := W) O1.out BX.out.2 hne
                cases bC
                case true =>
                  have hC : a < i ∧ i < mid := of_decide_eq_true hbC.out.symm
                  have HC := Lib.hid (HIH'.out a i mid hC.1 hC.2 (by omega) (by omega) _ F1 R1.out V2.out V3.out V4.out)
                  clear hC
                  go_wp2_with fail
                  refine HC.out.mono ?_
                  rintro e w2 ⟨G1, ⟨rfl, r2, o2⟩, mx, sr⟩
                  go_wp2_with fail
                  go_meet
                  exact ⟨G1, mx, sr, r2, O1.out.trans o2 fun _ _ h => h⟩
                case false =>
                  have hC : ¬ (a < i ∧ i < mid) := of_decide_eq_false hbC.out.symm
                  have sr : Hid (Sy.Srt ltL pos F1 a mid) := by
                    by_cases d1 : i = a
                    · subst d1; exact V3.out
                    · have : mid = i := by omega
                      subst this; exact V2.out
                  clear hC
                  go_wp2_with fail
                  go_meet
                  exact ⟨F1, Sy.Mix.refl _ _ _, sr, R1, O1⟩
              case rest =>
                clear R1 O1
                obtain ⟨G1, MX, SR, R1, O1⟩ := hcut
                have K5 := Lib.hid (srt_kept V5.out MX.out (by omega))
                have K6 := Lib.hid (srt_kept V6.out MX.out (by omega))
                have K7 := Lib.hid (par_kept V7.out MX.out (by omega))
                have HFIN : Hid (∀ G2, Sy.Mix G1 G2 mid b → Sy.Srt ltL pos G2 mid b → Sy.Mix F G2 a b ∧ Sy.Srt ltL pos G2 a b) := fun G2 mx sr =>
                  ⟨(HX.out.trans (MX.out.wide (Nat.le_refl _) (by omega))).trans (mx.wide (by omega) (Nat.le_refl _)), Sy.halves V1.out MX.out SR.out mx sr⟩
                clear V1 V2 V3 V4 V5 V6 V7 MX SR HX
                go_upto_region 44 with fail
                have c0 := only_box (W := W) O1.out BX.out.1 hne
                have c1 := only_box (W := W) O1.out BX.out.2 hne
                have e3 : mid < t ↔ (mid : Int) < (mid : Int) + m - i := by have := HT.out; omega
                have e4 : t < b ↔ ((mid : Int) + m - i) < b := by have := HT.out; omega
                by_cases d1 : mid < t
                · have d1' := e3.1 d1
                  by_cases d2 : t < b
                  · have d2' := e4.1 d2
                    have hc := HIH'.out mid t b d1 d2 h3 (by omega) _ G1 R1.out K5.out K6.out K7.out
                    rw [HT.out] at hc
                    have HC := Lib.hid hc
                    clear hc d1 d2 e3 e4
                    go_wp2_with fail
                    refine HC.out.mono ?_
                    rintro e w2 ⟨G2, ⟨rfl, r2, o2⟩, mx, sr⟩
                    go_wp2
                    go_end0
                    exact ⟨G2, ⟨rfl, r2, HO1.out _ (O1.out.trans o2 fun _ _ h => h)⟩, HFIN.out G2 mx sr⟩
                  · have d2' : ¬ ((mid : Int) + m - i) < b := fun e => d2 (e4.2 e)
                    have htb : t = b := by omega
                    have K5' := K5.out
                    rw [htb] at K5'
                    have HE := Lib.hid (HFIN.out G1 (Sy.Mix.refl _ _ _) K5')
                    clear K5' htb d1 d2 e3 e4
                    go_wp2
                    go_end0
                    exact ⟨G1, ⟨rfl, R1.out, HO1.out _ O1.out⟩, HE.out⟩
                · have d1' : ¬ (mid : Int) < (mid : Int) + m - i := fun e => d1 (e3.2 e)
                  have htb : t = mid := by omega
                  have K6' := K6.out
                  rw [htb] at K6'
                  have HE := Lib.hid (HFIN.out G1 (Sy.Mix.refl _ _ _) K6')
                  clear K6' htb d1 e3 e4
                  go_wp2
                  go_end0
                  exact ⟨G1, ⟨rfl, R1.out, HO1.out _ O1.out⟩, HE.out⟩
/-- symMerge merges two runs that ascend. -/
theorem symMerge_any (base g n c : Nat) (sf : Nat) (sb : Array Value) (HS : SwapOk base g n c sf sb) (pos : Int × ByteArray → Nat) (hn : n ≤ 1048576) : ∀ d a m b, b - a ≤ d → a < m → m < b → b ≤ n → ∀ W F, RF W base g n c F → Sy.Srt ltL pos F a m → Sy.Srt ltL pos F m b → Sy.Par pos F a m b →
    Calls Try.prog 89 #[DAT (.slice (some ⟨g, 0, none⟩) n c) sf sb, .int .i64 (a : Nat), .int .i64 (m : Nat), .int .i64 (b : Nat)] W (Merged W base g n c pos F a b)
  | 0, a, m, b, h0, h1, h2, _, _, _, _, _, _, _ => absurd h0 (by omega)
  | d + 1, a, m, b, h0, h1, h2, h3, W, F, hr, s1, s2, hp => by
    by_cases e1 : m = a + 1
    · exact symMerge_one base g n c sf sb HS pos W F a m b hr h1 h2 h3 s1 s2 hp hn e1
    · by_cases e2 : b = m + 1
      · exact symMerge_last base g n c sf sb HS pos W F a m b hr h1 h2 h3 s1 s2 hp hn e2 e1
      · exact symMerge_gen base g n c sf sb HS pos W F a m b hr h1 h2 h3 s1 s2 hp hn e1 e2 fun a' m' b' k1 k2 k3 k4 W F q1 q2 q3 q4 => symMerge_any base g n c sf sb HS pos hn d a' m' b' (by omega) k1 k2 k3 W F q1 q2 q3 q4
end Go.Proofs.Ytedhenffolfkeaa

/-
  The library's stable sort of 60 letters or fewer: blocks of twenty are sorted by insertion and merged.
-/
namespace Go.Proofs.Ytedhenffolfkeaa
open Go.RowKit
set_option linter.unusedVariables false

def Stabled (W : World) (base g n c : Nat) (pos : Int × ByteArray → Nat) (F : Nat → Int × ByteArray) (e : Ending) (W' : World) : Prop := ∃ F', Did W base g n c F' e W' ∧ Sy.Srt ltL pos F' 0 n ∧ Sy.Stay F F' 0 n
set_option maxHeartbeats 4000000 in
set_option maxRecDepth 100000 in
theorem stable_A (base g n c : Nat) (sf : Nat) (sb : Array Value) (HS : SwapOk base g n c sf sb) (pos : Int × ByteArray → Nat) (W : World) (F : Nat → Int × ByteArray) (h : RF W base g n c F) (hF : ∀ i j, i < j → j < n → pos (F i) < pos (F j)) (k1 : n < 20) :
    Calls Try.prog 59 #[DAT (.slice (some ⟨g, 0, none⟩) n c) sf sb, .int .i64 n] W (Stabled W base g n c pos F) := by
  have hn : n ≤ 1048576 := by omega
  have HINS := Lib.hid (insertion_any base g n c sf sb HS pos)
  have HMER := Lib.hid (fun a m b h1 h2 h3 => symMerge_any base g n c sf sb HS pos hn (b - a) a m b (Nat.le_refl _) h1 h2 h3)
  have HFF := Lib.hid hF
  have hg := h.lt
  unfold DAT at HINS HMER ⊢
  obtain ⟨W1, hW1⟩ : ∃ W1, W.alloc (.cells #[.func (.func 39) #[.slice (some ⟨g, 0, none⟩) n c] #[], .func (.func sf) #[] sb] 86) = W1 := ⟨_, rfl⟩
  have R0 : Hid (RF W1 base g n c F) := hW1 ▸ h.on (below_alloc0 W _)
  have BX : Hid (W1.cell? ⟨W.heap.size, 0, none⟩ = some (.func (.func 39) #[.slice (some ⟨g, 0, none⟩) n c] #[]) ∧ W1.cell? ⟨W.heap.size, 1, none⟩ = some (.func (.func sf) #[] sb)) := by rw [Hid, ← hW1]; simp [go_sem]
  have HO1 : Hid (∀ W', Only W1 W' (fun k => k = g) → Only W W' (fun k => k = g)) := fun W' ho => by rw [← hW1] at ho; exact only_new ho
  have hne : W.heap.size ≠ g := by omega
  have i1 : ¬ (20 : Int) ≤ n := by omega
  have i2 : ¬ (20 : Int) < n := by omega
  have O0 : Hid (Only W1 W1 (fun k => k = g)) := Lib.hid (Only.refl _ _)
  have U0 : Hid (∀ k, F k = F k) := fun _ => rfl
  clear h HS hF
  go_enter Try.func59, Try.ntmps59
  go_wp2_with fail
  clear hW1
  refine wp_loop_rounds 1 ?_
  rw [rounds_succ]
  have hc := HINS.out W1 F 0 n R0.out (by omega) (by omega) (fun i j i1 ij j2 => HFF.out i j ij (by omega)) hn
  try rw [show ((0 : Nat) : Int) = 0 from rfl] at hc
  have HC := Lib.hid hc
  clear hc
  have c0 := only_box (W := W) O0.out BX.out.1 hne
  have c1 := only_box (W := W) O0.out BX.out.2 hne
  go_wp2_with fail
  refine HC.out.mono ?_
  rintro e w1 ⟨F1, ⟨rfl, r1, o1⟩, m1, s1⟩
  have S_0_n := Lib.hid s1
  have T_0_n : Hid (Sy.Stay F F1 0 n) := fun q q1 q2 => by
    obtain ⟨j, j1, j2, e⟩ := m1.2 q q1 q2
    exact ⟨j, j1, j2, e⟩
  have U1 : Hid (∀ q, n ≤ q → q < n → F1 q = F q) := fun q q1 q2 => (m1.1 q (by omega)).trans (rfl)
  have R1 := Lib.hid r1
  have O1 := Lib.hid (O0.out.trans o1 fun _ _ h => h)
  clear r1 o1 m1 s1 c0 c1 HC R0 O0 U0
  go_wp2_with fail
  refine wp_loop_rounds 1 ?_
  rw [rounds_succ]
  go_wp2
  go_end0
  exact ⟨F1, ⟨rfl, R1.out, HO1.out _ O1.out⟩, S_0_n.out, T_0_n.out⟩
set_option maxHeartbeats 4000000 in
set_option maxRecDepth 100000 in
theorem stable_B (base g n c : Nat) (sf : Nat) (sb : Array Value) (HS : SwapOk base g n c sf sb) (pos : Int × ByteArray → Nat) (W : World) (F : Nat → Int × ByteArray) (h : RF W base g n c F) (hF : ∀ i j, i < j → j < n → pos (F i) < pos (F j)) (k1 : 20 ≤ n) (k2 : n ≤ 20) :
    Calls Try.prog 59 #[DAT (.slice (some ⟨g, 0, none⟩) n c) sf sb, .int .i64 n] W (Stabled W base g n c pos F) := by
  have hn : n ≤ 1048576 := by omega
  have HINS := Lib.hid (insertion_any base g n c sf sb HS pos)
  have HMER := Lib.hid (fun a m b h1 h2 h3 => symMerge_any base g n c sf sb HS pos hn (b - a) a m b (Nat.le_refl _) h1 h2 h3)
  have HFF := Lib.hid hF
  have hg := h.lt
  unfold DAT at HINS HMER ⊢
  obtain ⟨W1, hW1⟩ : ∃ W1, W.alloc (.cells #[.func (.func 39) #[.slice (some ⟨g, 0, none⟩) n c] #[], .func (.func sf) #[] sb] 86) = W1 := ⟨_, rfl⟩
  have R0 : Hid (RF W1 base g n c F) := hW1 ▸ h.on (below_alloc0 W _)
  have BX : Hid (W1.cell? ⟨W.heap.size, 0, none⟩ = some (.func (.func 39) #[.slice (some ⟨g, 0, none⟩) n c] #[]) ∧ W1.cell? ⟨W.heap.size, 1, none⟩ = some (.func (.func sf) #[] sb)) := by rw [Hid, ← hW1]; simp [go_sem]
  have HO1 : Hid (∀ W', Only W1 W' (fun k => k = g) → Only W W' (fun k => k = g)) := fun W' ho => by rw [← hW1] at ho; exact only_new ho
  have hne : W.heap.size ≠ g := by omega
  have i1 : (20 : Int) ≤ n := by omega
  have i2 : ¬ (20 : Int) < n := by omega
  have i3 : ¬ (40 : Int) ≤ n := by omega
  have O0 : Hid (Only W1 W1 (fun k => k = g)) := Lib.hid (Only.refl _ _)
  have U0 : Hid (∀ k, F k = F k) := fun _ => rfl
  clear h HS hF
  go_enter Try.func59, Try.ntmps59
  go_wp2_with fail
  clear hW1
  refine wp_loop_rounds 2 ?_
  rw [rounds_succ]
  have hc := HINS.out W1 F 0 20 R0.out (by omega) (by omega) (fun i j i1 ij j2 => HFF.out i j ij (by omega)) hn
  try rw [show ((0 : Nat) : Int) = 0 from rfl] at hc
  try rw [show ((20 : Nat) : Int) = 20 from rfl] at hc
  have HC := Lib.hid hc
  clear hc
  have c0 := only_box (W := W) O0.out BX.out.1 hne
  have c1 := only_box (W := W) O0.out BX.out.2 hne
  go_wp2_with fail
  refine HC.out.mono ?_
  rintro e w1 ⟨F1, ⟨rfl, r1, o1⟩, m1, s1⟩
  have S_0_20 := Lib.hid s1
  have T_0_20 : Hid (Sy.Stay F F1 0 20) := fun q q1 q2 => by
    obtain ⟨j, j1, j2, e⟩ := m1.2 q q1 q2
    exact ⟨j, j1, j2, e⟩
  have U1 : Hid (∀ q, 20 ≤ q → q < n → F1 q = F q) := fun q q1 q2 => (m1.1 q (by omega)).trans (rfl)
  have R1 := Lib.hid r1
  have O1 := Lib.hid (O0.out.trans o1 fun _ _ h => h)
  clear r1 o1 m1 s1 c0 c1 HC R0 O0 U0
  go_wp2_with fail
  rw [rounds_succ]
  have hc := HINS.out w1 F1 20 n R1.out (by omega) (by omega) (fun i j i1 ij j2 => by rw [U1.out i (by omega) (by omega), U1.out j (by omega) (by omega)]; exact HFF.out i j ij (by omega)) hn
  try rw [show ((20 : Nat) : Int) = 20 from rfl] at hc
  have HC := Lib.hid hc
  clear hc
  have c0 := only_box (W := W) O1.out BX.out.1 hne
  have c1 := only_box (W := W) O1.out BX.out.2 hne
  go_wp2_with fail
  refine HC.out.mono ?_
  rintro e w2 ⟨F2, ⟨rfl, r2, o2⟩, m2, s2⟩
  have S_20_n := Lib.hid s2
  have T_20_n : Hid (Sy.Stay F F2 20 n) := fun q q1 q2 => by
    obtain ⟨j, j1, j2, e⟩ := m2.2 q q1 q2
    exact ⟨j, j1, j2, e.trans (U1.out j (by omega) (by omega))⟩
  replace S_0_20 := Lib.hid (srt_kept S_0_20.out m2 (by omega))
  replace T_0_20 := Lib.hid (T_0_20.out.off m2 (by omega))
  have U2 : Hid (∀ q, n ≤ q → q < n → F2 q = F q) := fun q q1 q2 => (m2.1 q (by omega)).trans (U1.out q (by omega) q2)
  have R2 := Lib.hid r2
  have O2 := Lib.hid (O1.out.trans o2 fun _ _ h => h)
  clear r2 o2 m2 s2 c0 c1 HC R1 O1 U1
  go_wp2_with fail
  refine wp_loop_rounds 1 ?_
  rw [rounds_succ]
  go_wp2
  go_end0
  have e : n = 20 := by omega
  have s := S_0_20.out
  have t := T_0_20.out
  exact ⟨F2, ⟨rfl, R2.out, HO1.out _ O2.out⟩, Sy.srt_sub s (Nat.le_refl _) (by omega), fun q q1 q2 => by
    obtain ⟨j, j1, j2, e2⟩ := t q q1 (by omega)
    exact ⟨j, j1, by omega, e2⟩⟩
set_option maxHeartbeats 4000000 in
set_option maxRecDepth 100000 in
theorem stable_C (base g n c : Nat) (sf : Nat) (sb : Array Value) (HS : SwapOk base g n c sf sb) (pos : Int × ByteArray → Nat) (W : World) (F : Nat → Int × ByteArray) (h : RF W base g n c F) (hF : ∀ i j, i < j → j < n → pos (F i) < pos (F j)) (k1 : 20 < n) (k2 : n < 40) :
    Calls Try.prog 59 #[DAT (.slice (some ⟨g, 0, none⟩) n c) sf sb, .int .i64 n] W (Stabled W base g n c pos F) := by
  have hn : n ≤ 1048576 := by omega
  have HINS := Lib.hid (insertion_any base g n c sf sb HS pos)
  have HMER := Lib.hid (fun a m b h1 h2 h3 => symMerge_any base g n c sf sb HS pos hn (b - a) a m b (Nat.le_refl _) h1 h2 h3)
  have HFF := Lib.hid hF
  have hg := h.lt
  unfold DAT at HINS HMER ⊢
  obtain ⟨W1, hW1⟩ : ∃ W1, W.alloc (.cells #[.func (.func 39) #[.slice (some ⟨g, 0, none⟩) n c] #[], .func (.func sf) #[] sb] 86) = W1 := ⟨_, rfl⟩
  have R0 : Hid (RF W1 base g n c F) := hW1 ▸ h.on (below_alloc0 W _)
  have BX : Hid (W1.cell? ⟨W.heap.size, 0, none⟩ = some (.func (.func 39) #[.slice (some ⟨g, 0, none⟩) n c] #[]) ∧ W1.cell? ⟨W.heap.size, 1, none⟩ = some (.func (.func sf) #[] sb)) := by rw [Hid, ← hW1]; simp [go_sem]
  have HO1 : Hid (∀ W', Only W1 W' (fun k => k = g) → Only W W' (fun k => k = g)) := fun W' ho => by rw [← hW1] at ho; exact only_new ho
  have hne : W.heap.size ≠ g := by omega
  have i1 : (20 : Int) ≤ n := by omega
  have i2 : (20 : Int) < n := by omega
  have i3 : ¬ (40 : Int) ≤ n := by omega
  have i4 : ¬ (40 : Int) < n := by omega
  have O0 : Hid (Only W1 W1 (fun k => k = g)) := Lib.hid (Only.refl _ _)
  have U0 : Hid (∀ k, F k = F k) := fun _ => rfl
  clear h HS hF
  go_enter Try.func59, Try.ntmps59
  go_wp2_with fail
  clear hW1
  refine wp_loop_rounds 2 ?_
  rw [rounds_succ]
  have hc := HINS.out W1 F 0 20 R0.out (by omega) (by omega) (fun i j i1 ij j2 => HFF.out i j ij (by omega)) hn
  try rw [show ((0 : Nat) : Int) = 0 from rfl] at hc
  try rw [show ((20 : Nat) : Int) = 20 from rfl] at hc
  have HC := Lib.hid hc
  clear hc
  have c0 := only_box (W := W) O0.out BX.out.1 hne
  have c1 := only_box (W := W) O0.out BX.out.2 hne
  go_wp2_with fail
  refine HC.out.mono ?_
  rintro e w1 ⟨F1, ⟨rfl, r1, o1⟩, m1, s1⟩
  have S_0_20 := Lib.hid s1
  have T_0_20 : Hid (Sy.Stay F F1 0 20) := fun q q1 q2 => by
    obtain ⟨j, j1, j2, e⟩ := m1.2 q q1 q2
    exact ⟨j, j1, j2, e⟩
  have U1 : Hid (∀ q, 20 ≤ q → q < n → F1 q = F q) := fun q q1 q2 => (m1.1 q (by omega)).trans (rfl)
  have R1 := Lib.hid r1
  have O1 := Lib.hid (O0.out.trans o1 fun _ _ h => h)
  clear r1 o1 m1 s1 c0 c1 HC R0 O0 U0
  go_wp2_with fail
  rw [rounds_succ]
  have hc := HINS.out w1 F1 20 n R1.out (by omega) (by omega) (fun i j i1 ij j2 => by rw [U1.out i (by omega) (by omega), U1.out j (by omega) (by omega)]; exact HFF.out i j ij (by omega)) hn
  try rw [show ((20 : Nat) : Int) = 20 from rfl] at hc
  have HC := Lib.hid hc
  clear hc
  have c0 := only_box (W := W) O1.out BX.out.1 hne
  have c1 := only_box (W := W) O1.out BX.out.2 hne
  go_wp2_with fail
  refine HC.out.mono ?_
  rintro e w2 ⟨F2, ⟨rfl, r2, o2⟩, m2, s2⟩
  have S_20_n := Lib.hid s2
  have T_20_n : Hid (Sy.Stay F F2 20 n) := fun q q1 q2 => by
    obtain ⟨j, j1, j2, e⟩ := m2.2 q q1 q2
    exact ⟨j, j1, j2, e.trans (U1.out j (by omega) (by omega))⟩
  replace S_0_20 := Lib.hid (srt_kept S_0_20.out m2 (by omega))
  replace T_0_20 := Lib.hid (T_0_20.out.off m2 (by omega))
  have U2 : Hid (∀ q, n ≤ q → q < n → F2 q = F q) := fun q q1 q2 => (m2.1 q (by omega)).trans (U1.out q (by omega) q2)
  have R2 := Lib.hid r2
  have O2 := Lib.hid (O1.out.trans o2 fun _ _ h => h)
  clear r2 o2 m2 s2 c0 c1 HC R1 O1 U1
  go_wp2_with fail
  refine wp_loop_rounds 2 ?_
  rw [rounds_succ]
  go_wp2_with fail
  refine wp_loop_rounds 1 ?_
  rw [rounds_succ]
  have hc := HMER.out 0 20 n (by omega) (by omega) (by omega) w2 F2 R2.out S_0_20.out S_20_n.out (Sy.par_of (fun i j ij j2 => HFF.out i j ij (by omega)) T_0_20.out T_20_n.out)
  try rw [show ((0 : Nat) : Int) = 0 from rfl] at hc
  try rw [show ((20 : Nat) : Int) = 20 from rfl] at hc
  have HC := Lib.hid hc
  clear hc
  have c0 := only_box (W := W) O2.out BX.out.1 hne
  have c1 := only_box (W := W) O2.out BX.out.2 hne
  go_wp2_with fail
  refine HC.out.mono ?_
  rintro e w3 ⟨F3, ⟨rfl, r3, o3⟩, m3, s3⟩
  have S_0_n := Lib.hid s3
  have T_0_n := Lib.hid ((T_0_20.out.join T_20_n.out (by omega) (by omega)).mix m3)
  clear S_0_20 S_20_n T_0_20 T_20_n
  have R3 := Lib.hid r3
  have O3 := Lib.hid (O2.out.trans o3 fun _ _ h => h)
  clear r3 o3 m3 s3 c0 c1 HC R2 O2
  go_wp2_with fail
  rw [rounds_succ]
  go_wp2
  go_end0
  exact ⟨F3, ⟨rfl, R3.out, HO1.out _ O3.out⟩, S_0_n.out, T_0_n.out⟩
set_option maxHeartbeats 4000000 in
set_option maxRecDepth 100000 in
theorem stable_D (base g n c : Nat) (sf : Nat) (sb : Array Value) (HS : SwapOk base g n c sf sb) (pos : Int × ByteArray → Nat) (W : World) (F : Nat → Int × ByteArray) (h : RF W base g n c F) (hF : ∀ i j, i < j → j < n → pos (F i) < pos (F j)) (k1 : 40 ≤ n) (k2 : n ≤ 40) :
    Calls Try.prog 59 #[DAT (.slice (some ⟨g, 0, none⟩) n c) sf sb, .int .i64 n] W (Stabled W base g n c pos F) := by
  have hn : n ≤ 1048576 := by omega
  have HINS := Lib.hid (insertion_any base g n c sf sb HS pos)
  have HMER := Lib.hid (fun a m b h1 h2 h3 => symMerge_any base g n c sf sb HS pos hn (b - a) a m b (Nat.le_refl _) h1 h2 h3)
  have HFF := Lib.hid hF
  have hg := h.lt
  unfold DAT at HINS HMER ⊢
  obtain ⟨W1, hW1⟩ : ∃ W1, W.alloc (.cells #[.func (.func 39) #[.slice (some ⟨g, 0, none⟩) n c] #[], .func (.func sf) #[] sb] 86) = W1 := ⟨_, rfl⟩
  have R0 : Hid (RF W1 base g n c F) := hW1 ▸ h.on (below_alloc0 W _)
  have BX : Hid (W1.cell? ⟨W.heap.size, 0, none⟩ = some (.func (.func 39) #[.slice (some ⟨g, 0, none⟩) n c] #[]) ∧ W1.cell? ⟨W.heap.size, 1, none⟩ = some (.func (.func sf) #[] sb)) := by rw [Hid, ← hW1]; simp [go_sem]
  have HO1 : Hid (∀ W', Only W1 W' (fun k => k = g) → Only W W' (fun k => k = g)) := fun W' ho => by rw [← hW1] at ho; exact only_new ho
  have hne : W.heap.size ≠ g := by omega
  have i1 : (20 : Int) ≤ n := by omega
  have i2 : (20 : Int) < n := by omega
  have i3 : (40 : Int) ≤ n := by omega
  have i4 : ¬ (40 : Int) < n := by omega
  have i5 : ¬ (60 : Int) ≤ n := by omega
  have i6 : ¬ (60 : Int) < n := by omega
  have i7 : ¬ (80 : Int) ≤ n := by omega
  have O0 : Hid (Only W1 W1 (fun k => k = g)) := Lib.hid (Only.refl _ _)
  have U0 : Hid (∀ k, F k = F k) := fun _ => rfl
  clear h HS hF
  go_enter Try.func59, Try.ntmps59
  go_wp2_with fail
  clear hW1
  refine wp_loop_rounds 3 ?_
  rw [rounds_succ]
  have hc := HINS.out W1 F 0 20 R0.out (by omega) (by omega) (fun i j i1 ij j2 => HFF.out i j ij (by omega)) hn
  try rw [show ((0 : Nat) : Int) = 0 from rfl] at hc
  try rw [show ((20 : Nat) : Int) = 20 from rfl] at hc
  have HC := Lib.hid hc
  clear hc
  have c0 := only_box (W := W) O0.out BX.out.1 hne
  have c1 := only_box (W := W) O0.out BX.out.2 hne
  go_wp2_with fail
  refine HC.out.mono ?_
  rintro e w1 ⟨F1, ⟨rfl, r1, o1⟩, m1, s1⟩
  have S_0_20 := Lib.hid s1
  have T_0_20 : Hid (Sy.Stay F F1 0 20) := fun q q1 q2 => by
    obtain ⟨j, j1, j2, e⟩ := m1.2 q q1 q2
    exact ⟨j, j1, j2, e⟩
  have U1 : Hid (∀ q, 20 ≤ q → q < n → F1 q = F q) := fun q q1 q2 => (m1.1 q (by omega)).trans (rfl)
  have R1 := Lib.hid r1
  have O1 := Lib.hid (O0.out.trans o1 fun _ _ h => h)
  clear r1 o1 m1 s1 c0 c1 HC R0 O0 U0
  go_wp2_with fail
  rw [rounds_succ]
  have hc := HINS.out w1 F1 20 40 R1.out (by omega) (by omega) (fun i j i1 ij j2 => by rw [U1.out i (by omega) (by omega), U1.out j (by omega) (by omega)]; exact HFF.out i j ij (by omega)) hn
  try rw [show ((20 : Nat) : Int) = 20 from rfl] at hc
  try rw [show ((40 : Nat) : Int) = 40 from rfl] at hc
  have HC := Lib.hid hc
  clear hc
  have c0 := only_box (W := W) O1.out BX.out.1 hne
  have c1 := only_box (W := W) O1.out BX.out.2 hne
  go_wp2_with fail
  refine HC.out.mono ?_
  rintro e w2 ⟨F2, ⟨rfl, r2, o2⟩, m2, s2⟩
  have S_20_40 := Lib.hid s2
  have T_20_40 : Hid (Sy.Stay F F2 20 40) := fun q q1 q2 => by
    obtain ⟨j, j1, j2, e⟩ := m2.2 q q1 q2
    exact ⟨j, j1, j2, e.trans (U1.out j (by omega) (by omega))⟩
  replace S_0_20 := Lib.hid (srt_kept S_0_20.out m2 (by omega))
  replace T_0_20 := Lib.hid (T_0_20.out.off m2 (by omega))
  have U2 : Hid (∀ q, 40 ≤ q → q < n → F2 q = F q) := fun q q1 q2 => (m2.1 q (by omega)).trans (U1.out q (by omega) q2)
  have R2 := Lib.hid r2
  have O2 := Lib.hid (O1.out.trans o2 fun _ _ h => h)
  clear r2 o2 m2 s2 c0 c1 HC R1 O1 U1
  go_wp2_with fail
  rw [rounds_succ]
  have hc := HINS.out w2 F2 40 n R2.out (by omega) (by omega) (fun i j i1 ij j2 => by rw [U2.out i (by omega) (by omega), U2.out j (by omega) (by omega)]; exact HFF.out i j ij (by omega)) hn
  try rw [show ((40 : Nat) : Int) = 40 from rfl] at hc
  have HC := Lib.hid hc
  clear hc
  have c0 := only_box (W := W) O2.out BX.out.1 hne
  have c1 := only_box (W := W) O2.out BX.out.2 hne
  go_wp2_with fail
  refine HC.out.mono ?_
  rintro e w3 ⟨F3, ⟨rfl, r3, o3⟩, m3, s3⟩
  have S_40_n := Lib.hid s3
  have T_40_n : Hid (Sy.Stay F F3 40 n) := fun q q1 q2 => by
    obtain ⟨j, j1, j2, e⟩ := m3.2 q q1 q2
    exact ⟨j, j1, j2, e.trans (U2.out j (by omega) (by omega))⟩
  replace S_0_20 := Lib.hid (srt_kept S_0_20.out m3 (by omega))
  replace T_0_20 := Lib.hid (T_0_20.out.off m3 (by omega))
  replace S_20_40 := Lib.hid (srt_kept S_20_40.out m3 (by omega))
  replace T_20_40 := Lib.hid (T_20_40.out.off m3 (by omega))
  have U3 : Hid (∀ q, n ≤ q → q < n → F3 q = F q) := fun q q1 q2 => (m3.1 q (by omega)).trans (U2.out q (by omega) q2)
  have R3 := Lib.hid r3
  have O3 := Lib.hid (O2.out.trans o3 fun _ _ h => h)
  clear r3 o3 m3 s3 c0 c1 HC R2 O2 U2
  go_wp2_with fail
  refine wp_loop_rounds 2 ?_
  rw [rounds_succ]
  go_wp2_with fail
  refine wp_loop_rounds 2 ?_
  rw [rounds_succ]
  have hc := HMER.out 0 20 40 (by omega) (by omega) (by omega) w3 F3 R3.out S_0_20.out S_20_40.out (Sy.par_of (fun i j ij j2 => HFF.out i j ij (by omega)) T_0_20.out T_20_40.out)
  try rw [show ((0 : Nat) : Int) = 0 from rfl] at hc
  try rw [show ((20 : Nat) : Int) = 20 from rfl] at hc
  try rw [show ((40 : Nat) : Int) = 40 from rfl] at hc
  have HC := Lib.hid hc
  clear hc
  have c0 := only_box (W := W) O3.out BX.out.1 hne
  have c1 := only_box (W := W) O3.out BX.out.2 hne
  go_wp2_with fail
  refine HC.out.mono ?_
  rintro e w4 ⟨F4, ⟨rfl, r4, o4⟩, m4, s4⟩
  have S_0_40 := Lib.hid s4
  have T_0_40 := Lib.hid ((T_0_20.out.join T_20_40.out (by omega) (by omega)).mix m4)
  clear S_0_20 S_20_40 T_0_20 T_20_40
  replace S_40_n := Lib.hid (srt_kept S_40_n.out m4 (by omega))
  replace T_40_n := Lib.hid (T_40_n.out.off m4 (by omega))
  have R4 := Lib.hid r4
  have O4 := Lib.hid (O3.out.trans o4 fun _ _ h => h)
  clear r4 o4 m4 s4 c0 c1 HC R3 O3
  go_wp2_with fail
  rw [rounds_succ]
  go_wp2_with fail
  rw [rounds_succ]
  go_wp2
  go_end0
  have e : n = 40 := by omega
  have s := S_0_40.out
  have t := T_0_40.out
  exact ⟨F4, ⟨rfl, R4.out, HO1.out _ O4.out⟩, Sy.srt_sub s (Nat.le_refl _) (by omega), fun q q1 q2 => by
    obtain ⟨j, j1, j2, e2⟩ := t q q1 (by omega)
    exact ⟨j, j1, by omega, e2⟩⟩
set_option maxHeartbeats 4000000 in
set_option maxRecDepth 100000 in
theorem stable_E (base g n c : Nat) (sf : Nat) (sb : Array Value) (HS : SwapOk base g n c sf sb) (pos : Int × ByteArray → Nat) (W : World) (F : Nat → Int × ByteArray) (h : RF W base g n c F) (hF : ∀ i j, i < j → j < n → pos (F i) < pos (F j)) (k1 : 40 < n) (k2 : n < 60) :
    Calls Try.prog 59 #[DAT (.slice (some ⟨g, 0, none⟩) n c) sf sb, .int .i64 n] W (Stabled W base g n c pos F) := by
  have hn : n ≤ 1048576 := by omega
  have HINS := Lib.hid (insertion_any base g n c sf sb HS pos)
  have HMER := Lib.hid (fun a m b h1 h2 h3 => symMerge_any base g n c sf sb HS pos hn (b - a) a m b (Nat.le_refl _) h1 h2 h3)
  have HFF := Lib.hid hF
  have hg := h.lt
  unfold DAT at HINS HMER ⊢
  obtain ⟨W1, hW1⟩ : ∃ W1, W.alloc (.cells #[.func (.func 39) #[.slice (some ⟨g, 0, none⟩) n c] #[], .func (.func sf) #[] sb] 86) = W1 := ⟨_, rfl⟩
  have R0 : Hid (RF W1 base g n c F) := hW1 ▸ h.on (below_alloc0 W _)
  have BX : Hid (W1.cell? ⟨W.heap.size, 0, none⟩ = some (.func (.func 39) #[.slice (some ⟨g, 0, none⟩) n c] #[]) ∧ W1.cell? ⟨W.heap.size, 1, none⟩ = some (.func (.func sf) #[] sb)) := by rw [Hid, ← hW1]; simp [go_sem]
  have HO1 : Hid (∀ W', Only W1 W' (fun k => k = g) → Only W W' (fun k => k = g)) := fun W' ho => by rw [← hW1] at ho; exact only_new ho
  have hne : W.heap.size ≠ g := by omega
  have i1 : (20 : Int) ≤ n := by omega
  have i2 : (20 : Int) < n := by omega
  have i3 : (40 : Int) ≤ n := by omega
  have i4 : (40 : Int) < n := by omega
  have i5 : ¬ (60 : Int) ≤ n := by omega
  have i6 : ¬ (60 : Int) < n := by omega
  have i7 : ¬ (80 : Int) ≤ n := by omega
  have i8 : ¬ (80 : Int) < n := by omega
  have O0 : Hid (Only W1 W1 (fun k => k = g)) := Lib.hid (Only.refl _ _)
  have U0 : Hid (∀ k, F k = F k) := fun _ => rfl
  clear h HS hF
  go_enter Try.func59, Try.ntmps59
  go_wp2_with fail
  clear hW1
  refine wp_loop_rounds 3 ?_
  rw [rounds_succ]
  have hc := HINS.out W1 F 0 20 R0.out (by omega) (by omega) (fun i j i1 ij j2 => HFF.out i j ij (by omega)) hn
  try rw [show ((0 : Nat) : Int) = 0 from rfl] at hc
  try rw [show ((20 : Nat) : Int) = 20 from rfl] at hc
  have HC := Lib.hid hc
  clear hc
  have c0 := only_box (W := W) O0.out BX.out.1 hne
  have c1 := only_box (W := W) O0.out BX.out.2 hne
  go_wp2_with fail
  refine HC.out.mono ?_
  rintro e w1 ⟨F1, ⟨rfl, r1, o1⟩, m1, s1⟩
  have S_0_20 := Lib.hid s1
  have T_0_20 : Hid (Sy.Stay F F1 0 20) := fun q q1 q2 => by
    obtain ⟨j, j1, j2, e⟩ := m1.2 q q1 q2
    exact ⟨j, j1, j2, e⟩
  have U1 : Hid (∀ q, 20 ≤ q → q < n → F1 q = F q) := fun q q1 q2 => (m1.1 q (by omega)).trans (rfl)
  have R1 := Lib.hid r1
  have O1 := Lib.hid (O0.out.trans o1 fun _ _ h => h)
  clear r1 o1 m1 s1 c0 c1 HC R0 O0 U0
  go_wp2_with fail
  rw [rounds_succ]
  have hc := HINS.out w1 F1 20 40 R1.out (by omega) (by omega) (fun i j i1 ij j2 => by rw [U1.out i (by omega) (by omega), U1.out j (by omega) (by omega)]; exact HFF.out i j ij (by omega)) hn
  try rw [show ((20 : Nat) : Int) = 20 from rfl] at hc
  try rw [show ((40 : Nat) : Int) = 40 from rfl] at hc
  have HC := Lib.hid hc
  clear hc
  have c0 := only_box (W := W) O1.out BX.out.1 hne
  have c1 := only_box (W := W) O1.out BX.out.2 hne
  go_wp2_with fail
  refine HC.out.mono ?_
  rintro e w2 ⟨F2, ⟨rfl, r2, o2⟩, m2, s2⟩
  have S_20_40 := Lib.hid s2
  have T_20_40 : Hid (Sy.Stay F F2 20 40) := fun q q1 q2 => by
    obtain ⟨j, j1, j2, e⟩ := m2.2 q q1 q2
    exact ⟨j, j1, j2, e.trans (U1.out j (by omega) (by omega))⟩
  replace S_0_20 := Lib.hid (srt_kept S_0_20.out m2 (by omega))
  replace T_0_20 := Lib.hid (T_0_20.out.off m2 (by omega))
  have U2 : Hid (∀ q, 40 ≤ q → q < n → F2 q = F q) := fun q q1 q2 => (m2.1 q (by omega)).trans (U1.out q (by omega) q2)
  have R2 := Lib.hid r2
  have O2 := Lib.hid (O1.out.trans o2 fun _ _ h => h)
  clear r2 o2 m2 s2 c0 c1 HC R1 O1 U1
  go_wp2_with fail
  rw [rounds_succ]
  have hc := HINS.out w2 F2 40 n R2.out (by omega) (by omega) (fun i j i1 ij j2 => by rw [U2.out i (by omega) (by omega), U2.out j (by omega) (by omega)]; exact HFF.out i j ij (by omega)) hn
  try rw [show ((40 : Nat) : Int) = 40 from rfl] at hc
  have HC := Lib.hid hc
  clear hc
  have c0 := only_box (W := W) O2.out BX.out.1 hne
  have c1 := only_box (W := W) O2.out BX.out.2 hne
  go_wp2_with fail
  refine HC.out.mono ?_
  rintro e w3 ⟨F3, ⟨rfl, r3, o3⟩, m3, s3⟩
  have S_40_n := Lib.hid s3
  have T_40_n : Hid (Sy.Stay F F3 40 n) := fun q q1 q2 => by
    obtain ⟨j, j1, j2, e⟩ := m3.2 q q1 q2
    exact ⟨j, j1, j2, e.trans (U2.out j (by omega) (by omega))⟩
  replace S_0_20 := Lib.hid (srt_kept S_0_20.out m3 (by omega))
  replace T_0_20 := Lib.hid (T_0_20.out.off m3 (by omega))
  replace S_20_40 := Lib.hid (srt_kept S_20_40.out m3 (by omega))
  replace T_20_40 := Lib.hid (T_20_40.out.off m3 (by omega))
  have U3 : Hid (∀ q, n ≤ q → q < n → F3 q = F q) := fun q q1 q2 => (m3.1 q (by omega)).trans (U2.out q (by omega) q2)
  have R3 := Lib.hid r3
  have O3 := Lib.hid (O2.out.trans o3 fun _ _ h => h)
  clear r3 o3 m3 s3 c0 c1 HC R2 O2 U2
  go_wp2_with fail
  refine wp_loop_rounds 3 ?_
  rw [rounds_succ]
  go_wp2_with fail
  refine wp_loop_rounds 2 ?_
  rw [rounds_succ]
  have hc := HMER.out 0 20 40 (by omega) (by omega) (by omega) w3 F3 R3.out S_0_20.out S_20_40.out (Sy.par_of (fun i j ij j2 => HFF.out i j ij (by omega)) T_0_20.out T_20_40.out)
  try rw [show ((0 : Nat) : Int) = 0 from rfl] at hc
  try rw [show ((20 : Nat) : Int) = 20 from rfl] at hc
  try rw [show ((40 : Nat) : Int) = 40 from rfl] at hc
  have HC := Lib.hid hc
  clear hc
  have c0 := only_box (W := W) O3.out BX.out.1 hne
  have c1 := only_box (W := W) O3.out BX.out.2 hne
  go_wp2_with fail
  refine HC.out.mono ?_
  rintro e w4 ⟨F4, ⟨rfl, r4, o4⟩, m4, s4⟩
  have S_0_40 := Lib.hid s4
  have T_0_40 := Lib.hid ((T_0_20.out.join T_20_40.out (by omega) (by omega)).mix m4)
  clear S_0_20 S_20_40 T_0_20 T_20_40
  replace S_40_n := Lib.hid (srt_kept S_40_n.out m4 (by omega))
  replace T_40_n := Lib.hid (T_40_n.out.off m4 (by omega))
  have R4 := Lib.hid r4
  have O4 := Lib.hid (O3.out.trans o4 fun _ _ h => h)
  clear r4 o4 m4 s4 c0 c1 HC R3 O3
  go_wp2_with fail
  rw [rounds_succ]
  go_wp2_with fail
  rw [rounds_succ]
  go_wp2_with fail
  refine wp_loop_rounds 1 ?_
  rw [rounds_succ]
  have hc := HMER.out 0 40 n (by omega) (by omega) (by omega) w4 F4 R4.out S_0_40.out S_40_n.out (Sy.par_of (fun i j ij j2 => HFF.out i j ij (by omega)) T_0_40.out T_40_n.out)
  try rw [show ((0 : Nat) : Int) = 0 from rfl] at hc
  try rw [show ((40 : Nat) : Int) = 40 from rfl] at hc
  have HC := Lib.hid hc
  clear hc
  have c0 := only_box (W := W) O4.out BX.out.1 hne
  have c1 := only_box (W := W) O4.out BX.out.2 hne
  go_wp2_with fail
  refine HC.out.mono ?_
  rintro e w5 ⟨F5, ⟨rfl, r5, o5⟩, m5, s5⟩
  have S_0_n := Lib.hid s5
  have T_0_n := Lib.hid ((T_0_40.out.join T_40_n.out (by omega) (by omega)).mix m5)
  clear S_0_40 S_40_n T_0_40 T_40_n
  have R5 := Lib.hid r5
  have O5 := Lib.hid (O4.out.trans o5 fun _ _ h => h)
  clear r5 o5 m5 s5 c0 c1 HC R4 O4
  go_wp2_with fail
  rw [rounds_succ]
  go_wp2
  go_end0
  exact ⟨F5, ⟨rfl, R5.out, HO1.out _ O5.out⟩, S_0_n.out, T_0_n.out⟩
set_option maxHeartbeats 4000000 in
set_option maxRecDepth 100000 in
theorem stable_F (base g n c : Nat) (sf : Nat) (sb : Array Value) (HS : SwapOk base g n c sf sb) (pos : Int × ByteArray → Nat) (W : World) (F : Nat → Int × ByteArray) (h : RF W base g n c F) (hF : ∀ i j, i < j → j < n → pos (F i) < pos (F j)) (k1 : 60 ≤ n) (k2 : n ≤ 60) :
    Calls Try.prog 59 #[DAT (.slice (some ⟨g, 0, none⟩) n c) sf sb, .int .i64 n] W (Stabled W base g n c pos F) := by
  have hn : n ≤ 1048576 := by omega
  have HINS := Lib.hid (insertion_any base g n c sf sb HS pos)
  have HMER := Lib.hid (fun a m b h1 h2 h3 => symMerge_any base g n c sf sb HS pos hn (b - a) a m b (Nat.le_refl _) h1 h2 h3)
  have HFF := Lib.hid hF
  have hg := h.lt
  unfold DAT at HINS HMER ⊢
  obtain ⟨W1, hW1⟩ : ∃ W1, W.alloc (.cells #[.func (.func 39) #[.slice (some ⟨g, 0, none⟩) n c] #[], .func (.func sf) #[] sb] 86) = W1 := ⟨_, rfl⟩
  have R0 : Hid (RF W1 base g n c F) := hW1 ▸ h.on (below_alloc0 W _)
  have BX : Hid (W1.cell? ⟨W.heap.size, 0, none⟩ = some (.func (.func 39) #[.slice (some ⟨g, 0, none⟩) n c] #[]) ∧ W1.cell? ⟨W.heap.size, 1, none⟩ = some (.func (.func sf) #[] sb)) := by rw [Hid, ← hW1]; simp [go_sem]
  have HO1 : Hid (∀ W', Only W1 W' (fun k => k = g) → Only W W' (fun k => k = g)) := fun W' ho => by rw [← hW1] at ho; exact only_new ho
  have hne : W.heap.size ≠ g := by omega
  have i1 : (20 : Int) ≤ n := by omega
  have i2 : (20 : Int) < n := by omega
  have i3 : (40 : Int) ≤ n := by omega
  have i4 : (40 : Int) < n := by omega
  have i5 : (60 : Int) ≤ n := by omega
  have i6 : ¬ (60 : Int) < n := by omega
  have i7 : ¬ (80 : Int) ≤ n := by omega
  have i8 : ¬ (80 : Int) < n := by omega
  have O0 : Hid (Only W1 W1 (fun k => k = g)) := Lib.hid (Only.refl _ _)
  have U0 : Hid (∀ k, F k = F k) := fun _ => rfl
  clear h HS hF
  go_enter Try.func59, Try.ntmps59
  go_wp2_with fail
  clear hW1
  refine wp_loop_rounds 4 ?_
  rw [rounds_succ]
  have hc := HINS.out W1 F 0 20 R0.out (by omega) (by omega) (fun i j i1 ij j2 => HFF.out i j ij (by omega)) hn
  try rw [show ((0 : Nat) : Int) = 0 from rfl] at hc
  try rw [show ((20 : Nat) : Int) = 20 from rfl] at hc
  have HC := Lib.hid hc
  clear hc
  have c0 := only_box (W := W) O0.out BX.out.1 hne
  have c1 := only_box (W := W) O0.out BX.out.2 hne
  go_wp2_with fail
  refine HC.out.mono ?_
  rintro e w1 ⟨F1, ⟨rfl, r1, o1⟩, m1, s1⟩
  have S_0_20 := Lib.hid s1
  have T_0_20 : Hid (Sy.Stay F F1 0 20) := fun q q1 q2 => by
    obtain ⟨j, j1, j2, e⟩ := m1.2 q q1 q2
    exact ⟨j, j1, j2, e⟩
  have U1 : Hid (∀ q, 20 ≤ q → q < n → F1 q = F q) := fun q q1 q2 => (m1.1 q (by omega)).trans (rfl)
  have R1 := Lib.hid r1
  have O1 := Lib.hid (O0.out.trans o1 fun _ _ h => h)
  clear r1 o1 m1 s1 c0 c1 HC R0 O0 U0
  go_wp2_with fail
  rw [rounds_succ]
  have hc := HINS.out w1 F1 20 40 R1.out (by omega) (by omega) (fun i j i1 ij j2 => by rw [U1.out i (by omega) (by omega), U1.out j (by omega) (by omega)]; exact HFF.out i j ij (by omega)) hn
  try rw [show ((20 : Nat) : Int) = 20 from rfl] at hc
  try rw [show ((40 : Nat) : Int) = 40 from rfl] at hc
  have HC := Lib.hid hc
  clear hc
  have c0 := only_box (W := W) O1.out BX.out.1 hne
  have c1 := only_box (W := W) O1.out BX.out.2 hne
  go_wp2_with fail
  refine HC.out.mono ?_
  rintro e w2 ⟨F2, ⟨rfl, r2, o2⟩, m2, s2⟩
  have S_20_40 := Lib.hid s2
  have T_20_40 : Hid (Sy.Stay F F2 20 40) := fun q q1 q2 => by
    obtain ⟨j, j1, j2, e⟩ := m2.2 q q1 q2
    exact ⟨j, j1, j2, e.trans (U1.out j (by omega) (by omega))⟩
  replace S_0_20 := Lib.hid (srt_kept S_0_20.out m2 (by omega))
  replace T_0_20 := Lib.hid (T_0_20.out.off m2 (by omega))
  have U2 : Hid (∀ q, 40 ≤ q → q < n → F2 q = F q) := fun q q1 q2 => (m2.1 q (by omega)).trans (U1.out q (by omega) q2)
  have R2 := Lib.hid r2
  have O2 := Lib.hid (O1.out.trans o2 fun _ _ h => h)
  clear r2 o2 m2 s2 c0 c1 HC R1 O1 U1
  go_wp2_with fail
  rw [rounds_succ]
  have hc := HINS.out w2 F2 40 60 R2.out (by omega) (by omega) (fun i j i1 ij j2 => by rw [U2.out i (by omega) (by omega), U2.out j (by omega) (by omega)]; exact HFF.out i j ij (by omega)) hn
  try rw [show ((40 : Nat) : Int) = 40 from rfl] at hc
  try rw [show ((60 : Nat) : Int) = 60 from rfl] at hc
  have HC := Lib.hid hc
  clear hc
  have c0 := only_box (W := W) O2.out BX.out.1 hne
  have c1 := only_box (W := W) O2.out BX.out.2 hne
  go_wp2_with fail
  refine HC.out.mono ?_
  rintro e w3 ⟨F3, ⟨rfl, r3, o3⟩, m3, s3⟩
  have S_40_60 := Lib.hid s3
  have T_40_60 : Hid (Sy.Stay F F3 40 60) := fun q q1 q2 => by
    obtain ⟨j, j1, j2, e⟩ := m3.2 q q1 q2
    exact ⟨j, j1, j2, e.trans (U2.out j (by omega) (by omega))⟩
  replace S_0_20 := Lib.hid (srt_kept S_0_20.out m3 (by omega))
  replace T_0_20 := Lib.hid (T_0_20.out.off m3 (by omega))
  replace S_20_40 := Lib.hid (srt_kept S_20_40.out m3 (by omega))
  replace T_20_40 := Lib.hid (T_20_40.out.off m3 (by omega))
  have U3 : Hid (∀ q, 60 ≤ q → q < n → F3 q = F q) := fun q q1 q2 => (m3.1 q (by omega)).trans (U2.out q (by omega) q2)
  have R3 := Lib.hid r3
  have O3 := Lib.hid (O2.out.trans o3 fun _ _ h => h)
  clear r3 o3 m3 s3 c0 c1 HC R2 O2 U2
  go_wp2_with fail
  rw [rounds_succ]
  have hc := HINS.out w3 F3 60 n R3.out (by omega) (by omega) (fun i j i1 ij j2 => by rw [U3.out i (by omega) (by omega), U3.out j (by omega) (by omega)]; exact HFF.out i j ij (by omega)) hn
  try rw [show ((60 : Nat) : Int) = 60 from rfl] at hc
  have HC := Lib.hid hc
  clear hc
  have c0 := only_box (W := W) O3.out BX.out.1 hne
  have c1 := only_box (W := W) O3.out BX.out.2 hne
  go_wp2_with fail
  refine HC.out.mono ?_
  rintro e w4 ⟨F4, ⟨rfl, r4, o4⟩, m4, s4⟩
  have S_60_n := Lib.hid s4
  have T_60_n : Hid (Sy.Stay F F4 60 n) := fun q q1 q2 => by
    obtain ⟨j, j1, j2, e⟩ := m4.2 q q1 q2
    exact ⟨j, j1, j2, e.trans (U3.out j (by omega) (by omega))⟩
  replace S_0_20 := Lib.hid (srt_kept S_0_20.out m4 (by omega))
  replace T_0_20 := Lib.hid (T_0_20.out.off m4 (by omega))
  replace S_20_40 := Lib.hid (srt_kept S_20_40.out m4 (by omega))
  replace T_20_40 := Lib.hid (T_20_40.out.off m4 (by omega))
  replace S_40_60 := Lib.hid (srt_kept S_40_60.out m4 (by omega))
  replace T_40_60 := Lib.hid (T_40_60.out.off m4 (by omega))
  have U4 : Hid (∀ q, n ≤ q → q < n → F4 q = F q) := fun q q1 q2 => (m4.1 q (by omega)).trans (U3.out q (by omega) q2)
  have R4 := Lib.hid r4
  have O4 := Lib.hid (O3.out.trans o4 fun _ _ h => h)
  clear r4 o4 m4 s4 c0 c1 HC R3 O3 U3
  go_wp2_with fail
  refine wp_loop_rounds 3 ?_
  rw [rounds_succ]
  go_wp2_with fail
  refine wp_loop_rounds 2 ?_
  rw [rounds_succ]
  have hc := HMER.out 0 20 40 (by omega) (by omega) (by omega) w4 F4 R4.out S_0_20.out S_20_40.out (Sy.par_of (fun i j ij j2 => HFF.out i j ij (by omega)) T_0_20.out T_20_40.out)
  try rw [show ((0 : Nat) : Int) = 0 from rfl] at hc
  try rw [show ((20 : Nat) : Int) = 20 from rfl] at hc
  try rw [show ((40 : Nat) : Int) = 40 from rfl] at hc
  have HC := Lib.hid hc
  clear hc
  have c0 := only_box (W := W) O4.out BX.out.1 hne
  have c1 := only_box (W := W) O4.out BX.out.2 hne
  go_wp2_with fail
  refine HC.out.mono ?_
  rintro e w5 ⟨F5, ⟨rfl, r5, o5⟩, m5, s5⟩
  have S_0_40 := Lib.hid s5
  have T_0_40 := Lib.hid ((T_0_20.out.join T_20_40.out (by omega) (by omega)).mix m5)
  clear S_0_20 S_20_40 T_0_20 T_20_40
  replace S_40_60 := Lib.hid (srt_kept S_40_60.out m5 (by omega))
  replace T_40_60 := Lib.hid (T_40_60.out.off m5 (by omega))
  replace S_60_n := Lib.hid (srt_kept S_60_n.out m5 (by omega))
  replace T_60_n := Lib.hid (T_60_n.out.off m5 (by omega))
  have R5 := Lib.hid r5
  have O5 := Lib.hid (O4.out.trans o5 fun _ _ h => h)
  clear r5 o5 m5 s5 c0 c1 HC R4 O4
  go_wp2_with fail
  rw [rounds_succ]
  go_wp2_with fail
  rw [rounds_succ]
  go_wp2_with fail
  refine wp_loop_rounds 1 ?_
  rw [rounds_succ]
  have S_40_n := Lib.hid (Sy.srt_sub S_40_60.out (Nat.le_refl _) (by omega : n ≤ 60))
  have T_40_n : Hid (Sy.Stay F F5 40 n) := fun q q1 q2 => by
    obtain ⟨j, j1, j2, e⟩ := T_40_60.out q q1 (by omega)
    exact ⟨j, j1, by omega, e⟩
  clear S_40_60 T_40_60
  have hc := HMER.out 0 40 n (by omega) (by omega) (by omega) w5 F5 R5.out S_0_40.out S_40_n.out (Sy.par_of (fun i j ij j2 => HFF.out i j ij (by omega)) T_0_40.out T_40_n.out)
  try rw [show ((0 : Nat) : Int) = 0 from rfl] at hc
  try rw [show ((40 : Nat) : Int) = 40 from rfl] at hc
  have HC := Lib.hid hc
  clear hc
  have c0 := only_box (W := W) O5.out BX.out.1 hne
  have c1 := only_box (W := W) O5.out BX.out.2 hne
  go_wp2_with fail
  refine HC.out.mono ?_
  rintro e w6 ⟨F6, ⟨rfl, r6, o6⟩, m6, s6⟩
  have S_0_n := Lib.hid s6
  have T_0_n := Lib.hid ((T_0_40.out.join T_40_n.out (by omega) (by omega)).mix m6)
  clear S_0_40 S_40_n T_0_40 T_40_n
  replace S_60_n := Lib.hid (srt_kept S_60_n.out m6 (by omega))
  replace T_60_n := Lib.hid (T_60_n.out.off m6 (by omega))
  have R6 := Lib.hid r6
  have O6 := Lib.hid (O5.out.trans o6 fun _ _ h => h)
  clear r6 o6 m6 s6 c0 c1 HC R5 O5
  go_wp2_with fail
  rw [rounds_succ]
  go_wp2
  go_end0
  exact ⟨F6, ⟨rfl, R6.out, HO1.out _ O6.out⟩, S_0_n.out, T_0_n.out⟩
theorem stable_any (base g n c : Nat) (sf : Nat) (sb : Array Value) (HS : SwapOk base g n c sf sb) (pos : Int × ByteArray → Nat) (W : World) (F : Nat → Int × ByteArray) (h : RF W base g n c F) (hF : ∀ i j, i < j → j < n → pos (F i) < pos (F j)) (hn : n ≤ 60) :
    Calls Try.prog 59 #[DAT (.slice (some ⟨g, 0, none⟩) n c) sf sb, .int .i64 n] W (Stabled W base g n c pos F) := by
  by_cases e1 : n < 20
  · exact stable_A base g n c sf sb HS pos W F h hF e1
  · by_cases e2 : n ≤ 20
    · exact stable_B base g n c sf sb HS pos W F h hF (by omega) e2
    · by_cases e3 : n < 40
      · exact stable_C base g n c sf sb HS pos W F h hF (by omega) e3
      · by_cases e4 : n ≤ 40
        · exact stable_D base g n c sf sb HS pos W F h hF (by omega) e4
        · by_cases e5 : n < 60
          · exact stable_E base g n c sf sb HS pos W F h hF (by omega) e5
          · exact stable_F base g n c sf sb HS pos W F h hF (by omega) hn
end Go.Proofs.Ytedhenffolfkeaa
