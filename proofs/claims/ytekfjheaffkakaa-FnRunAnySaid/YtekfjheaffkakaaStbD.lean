/-
  The library's stable sort of 60 letters or fewer: blocks of twenty are sorted by insertion and merged.
-/
import Derived.Test.YtekfjheaffkakaaStbC
namespace Go.Proofs.Ytekfjheaffkakaa
open Go.RowKit
set_option linter.unusedVariables false

def Stabled (W : World) (base g n c : Nat) (pos : Int × ByteArray → Nat) (F : Nat → Int × ByteArray) (e : Ending) (W' : World) : Prop := ∃ F', Did W base g n c F' e W' ∧ Sy.Srt ltL pos F' 0 n ∧ Sy.Stay F F' 0 n
set_option maxHeartbeats 4000000 in
set_option maxRecDepth 100000 in
theorem stable_A (base g n c : Nat) (sf : Nat) (sb : Array Value) (HS : SwapOk base g n c sf sb) (pos : Int × ByteArray → Nat) (W : World) (F : Nat → Int × ByteArray) (h : RF W base g n c F) (hF : ∀ i j, i < j → j < n → pos (F i) < pos (F j)) (k1 : n < 20) :
    Calls Try.prog 52 #[DAT (.slice (some ⟨g, 0, none⟩) n c) sf sb, .int .i64 n] W (Stabled W base g n c pos F) := by
  have hn : n ≤ 1048576 := by omega
  have HINS := Lib.hid (insertion_any base g n c sf sb HS pos)
  have HMER := Lib.hid (fun a m b h1 h2 h3 => symMerge_any base g n c sf sb HS pos hn (b - a) a m b (Nat.le_refl _) h1 h2 h3)
  have HFF := Lib.hid hF
  have hg := h.lt
  unfold DAT at HINS HMER ⊢
  obtain ⟨W1, hW1⟩ : ∃ W1, W.alloc (.cells #[.func (.func 35) #[.slice (some ⟨g, 0, none⟩) n c] #[], .func (.func sf) #[] sb] 90) = W1 := ⟨_, rfl⟩
  have R0 : Hid (RF W1 base g n c F) := hW1 ▸ h.on (below_alloc0 W _)
  have BX : Hid (W1.cell? ⟨W.heap.size, 0, none⟩ = some (.func (.func 35) #[.slice (some ⟨g, 0, none⟩) n c] #[]) ∧ W1.cell? ⟨W.heap.size, 1, none⟩ = some (.func (.func sf) #[] sb)) := by rw [Hid, ← hW1]; simp [go_sem]
  have HO1 : Hid (∀ W', Only W1 W' (fun k => k = g) → Only W W' (fun k => k = g)) := fun W' ho => by rw [← hW1] at ho; exact only_new ho
  have hne : W.heap.size ≠ g := by omega
  have i1 : ¬ (20 : Int) ≤ n := by omega
  have i2 : ¬ (20 : Int) < n := by omega
  have O0 : Hid (Only W1 W1 (fun k => k = g)) := Lib.hid (Only.refl _ _)
  have U0 : Hid (∀ k, F k = F k) := fun _ => rfl
  clear h HS hF
  go_enter Try.func52, Try.ntmps52
  go_wp2_with fail
  clear hW1
  refine wp_loop_rounds 1 ?_
  rw [rounds_succ]
  have hc := HINS.out W1 F 0 n R0.out (by omega) (by omega) (fun i j i1 ij j2 => HFF.out i j ij (by omega)) hn
  try rw [show ((0 : Nat) : Int) = 0 from rfl] at hc
  have HC := Lib.hid hc
  clear hc
  have c0 := only_box (W := W) O0.out BX.out.1 hne
  have c1 := only_box (W := W) O0.out BX.out.2 hne
  go_wp2_with fail
  refine HC.out.mono ?_
  rintro e w1 ⟨F1, ⟨rfl, r1, o1⟩, m1, s1⟩
  have S_0_n := Lib.hid s1
  have T_0_n : Hid (Sy.Stay F F1 0 n) := fun q q1 q2 => by
    obtain ⟨j, j1, j2, e⟩ := m1.2 q q1 q2
    exact ⟨j, j1, j2, e⟩
  have U1 : Hid (∀ q, n ≤ q → q < n → F1 q = F q) := fun q q1 q2 => (m1.1 q (by omega)).trans (rfl)
  have R1 := Lib.hid r1
  have O1 := Lib.hid (O0.out.trans o1 fun _ _ h => h)
  clear r1 o1 m1 s1 c0 c1 HC R0 O0 U0
  go_wp2_with fail
  refine wp_loop_rounds 1 ?_
  rw [rounds_succ]
  go_wp2
  go_end0
  exact ⟨F1, ⟨rfl, R1.out, HO1.out _ O1.out⟩, S_0_n.out, T_0_n.out⟩
set_option maxHeartbeats 4000000 in
set_option maxRecDepth 100000 in
theorem stable_B (base g n c : Nat) (sf : Nat) (sb : Array Value) (HS : SwapOk base g n c sf sb) (pos : Int × ByteArray → Nat) (W : World) (F : Nat → Int × ByteArray) (h : RF W base g n c F) (hF : ∀ i j, i < j → j < n → pos (F i) < pos (F j)) (k1 : 20 ≤ n) (k2 : n ≤ 20) :
    Calls Try.prog 52 #[DAT (.slice (some ⟨g, 0, none⟩) n c) sf sb, .int .i64 n] W (Stabled W base g n c pos F) := by
  have hn : n ≤ 1048576 := by omega
  have HINS := Lib.hid (insertion_any base g n c sf sb HS pos)
  have HMER := Lib.hid (fun a m b h1 h2 h3 => symMerge_any base g n c sf sb HS pos hn (b - a) a m b (Nat.le_refl _) h1 h2 h3)
  have HFF := Lib.hid hF
  have hg := h.lt
  unfold DAT at HINS HMER ⊢
  obtain ⟨W1, hW1⟩ : ∃ W1, W.alloc (.cells #[.func (.func 35) #[.slice (some ⟨g, 0, none⟩) n c] #[], .func (.func sf) #[] sb] 90) = W1 := ⟨_, rfl⟩
  have R0 : Hid (RF W1 base g n c F) := hW1 ▸ h.on (below_alloc0 W _)
  have BX : Hid (W1.cell? ⟨W.heap.size, 0, none⟩ = some (.func (.func 35) #[.slice (some ⟨g, 0, none⟩) n c] #[]) ∧ W1.cell? ⟨W.heap.size, 1, none⟩ = some (.func (.func sf) #[] sb)) := by rw [Hid, ← hW1]; simp [go_sem]
  have HO1 : Hid (∀ W', Only W1 W' (fun k => k = g) → Only W W' (fun k => k = g)) := fun W' ho => by rw [← hW1] at ho; exact only_new ho
  have hne : W.heap.size ≠ g := by omega
  have i1 : (20 : Int) ≤ n := by omega
  have i2 : ¬ (20 : Int) < n := by omega
  have i3 : ¬ (40 : Int) ≤ n := by omega
  have O0 : Hid (Only W1 W1 (fun k => k = g)) := Lib.hid (Only.refl _ _)
  have U0 : Hid (∀ k, F k = F k) := fun _ => rfl
  clear h HS hF
  go_enter Try.func52, Try.ntmps52
  go_wp2_with fail
  clear hW1
  refine wp_loop_rounds 2 ?_
  rw [rounds_succ]
  have hc := HINS.out W1 F 0 20 R0.out (by omega) (by omega) (fun i j i1 ij j2 => HFF.out i j ij (by omega)) hn
  try rw [show ((0 : Nat) : Int) = 0 from rfl] at hc
  try rw [show ((20 : Nat) : Int) = 20 from rfl] at hc
  have HC := Lib.hid hc
  clear hc
  have c0 := only_box (W := W) O0.out BX.out.1 hne
  have c1 := only_box (W := W) O0.out BX.out.2 hne
  go_wp2_with fail
  refine HC.out.mono ?_
  rintro e w1 ⟨F1, ⟨rfl, r1, o1⟩, m1, s1⟩
  have S_0_20 := Lib.hid s1
  have T_0_20 : Hid (Sy.Stay F F1 0 20) := fun q q1 q2 => by
    obtain ⟨j, j1, j2, e⟩ := m1.2 q q1 q2
    exact ⟨j, j1, j2, e⟩
  have U1 : Hid (∀ q, 20 ≤ q → q < n → F1 q = F q) := fun q q1 q2 => (m1.1 q (by omega)).trans (rfl)
  have R1 := Lib.hid r1
  have O1 := Lib.hid (O0.out.trans o1 fun _ _ h => h)
  clear r1 o1 m1 s1 c0 c1 HC R0 O0 U0
  go_wp2_with fail
  rw [rounds_succ]
  have hc := HINS.out w1 F1 20 n R1.out (by omega) (by omega) (fun i j i1 ij j2 => by rw [U1.out i (by omega) (by omega), U1.out j (by omega) (by omega)]; exact HFF.out i j ij (by omega)) hn
  try rw [show ((20 : Nat) : Int) = 20 from rfl] at hc
  have HC := Lib.hid hc
  clear hc
  have c0 := only_box (W := W) O1.out BX.out.1 hne
  have c1 := only_box (W := W) O1.out BX.out.2 hne
  go_wp2_with fail
  refine HC.out.mono ?_
  rintro e w2 ⟨F2, ⟨rfl, r2, o2⟩, m2, s2⟩
  have S_20_n := Lib.hid s2
  have T_20_n : Hid (Sy.Stay F F2 20 n) := fun q q1 q2 => by
    obtain ⟨j, j1, j2, e⟩ := m2.2 q q1 q2
    exact ⟨j, j1, j2, e.trans (U1.out j (by omega) (by omega))⟩
  replace S_0_20 := Lib.hid (srt_kept S_0_20.out m2 (by omega))
  replace T_0_20 := Lib.hid (T_0_20.out.off m2 (by omega))
  have U2 : Hid (∀ q, n ≤ q → q < n → F2 q = F q) := fun q q1 q2 => (m2.1 q (by omega)).trans (U1.out q (by omega) q2)
  have R2 := Lib.hid r2
  have O2 := Lib.hid (O1.out.trans o2 fun _ _ h => h)
  clear r2 o2 m2 s2 c0 c1 HC R1 O1 U1
  go_wp2_with fail
  refine wp_loop_rounds 1 ?_
  rw [rounds_succ]
  go_wp2
  go_end0
  have e : n = 20 := by omega
  have s := S_0_20.out
  have t := T_0_20.out
  exact ⟨F2, ⟨rfl, R2.out, HO1.out _ O2.out⟩, Sy.srt_sub s (Nat.le_refl _) (by omega), fun q q1 q2 => by
    obtain ⟨j, j1, j2, e2⟩ := t q q1 (by omega)
    exact ⟨j, j1, by omega, e2⟩⟩
set_option maxHeartbeats 4000000 in
set_option maxRecDepth 100000 in
theorem stable_C (base g n c : Nat) (sf : Nat) (sb : Array Value) (HS : SwapOk base g n c sf sb) (pos : Int × ByteArray → Nat) (W : World) (F : Nat → Int × ByteArray) (h : RF W base g n c F) (hF : ∀ i j, i < j → j < n → pos (F i) < pos (F j)) (k1 : 20 < n) (k2 : n < 40) :
    Calls Try.prog 52 #[DAT (.slice (some ⟨g, 0, none⟩) n c) sf sb, .int .i64 n] W (Stabled W base g n c pos F) := by
  have hn : n ≤ 1048576 := by omega
  have HINS := Lib.hid (insertion_any base g n c sf sb HS pos)
  have HMER := Lib.hid (fun a m b h1 h2 h3 => symMerge_any base g n c sf sb HS pos hn (b - a) a m b (Nat.le_refl _) h1 h2 h3)
  have HFF := Lib.hid hF
  have hg := h.lt
  unfold DAT at HINS HMER ⊢
  obtain ⟨W1, hW1⟩ : ∃ W1, W.alloc (.cells #[.func (.func 35) #[.slice (some ⟨g, 0, none⟩) n c] #[], .func (.func sf) #[] sb] 90) = W1 := ⟨_, rfl⟩
  have R0 : Hid (RF W1 base g n c F) := hW1 ▸ h.on (below_alloc0 W _)
  have BX : Hid (W1.cell? ⟨W.heap.size, 0, none⟩ = some (.func (.func 35) #[.slice (some ⟨g, 0, none⟩) n c] #[]) ∧ W1.cell? ⟨W.heap.size, 1, none⟩ = some (.func (.func sf) #[] sb)) := by rw [Hid, ← hW1]; simp [go_sem]
  have HO1 : Hid (∀ W', Only W1 W' (fun k => k = g) → Only W W' (fun k => k = g)) := fun W' ho => by rw [← hW1] at ho; exact only_new ho
  have hne : W.heap.size ≠ g := by omega
  have i1 : (20 : Int) ≤ n := by omega
  have i2 : (20 : Int) < n := by omega
  have i3 : ¬ (40 : Int) ≤ n := by omega
  have i4 : ¬ (40 : Int) < n := by omega
  have O0 : Hid (Only W1 W1 (fun k => k = g)) := Lib.hid (Only.refl _ _)
  have U0 : Hid (∀ k, F k = F k) := fun _ => rfl
  clear h HS hF
  go_enter Try.func52, Try.ntmps52
  go_wp2_with fail
  clear hW1
  refine wp_loop_rounds 2 ?_
  rw [rounds_succ]
  have hc := HINS.out W1 F 0 20 R0.out (by omega) (by omega) (fun i j i1 ij j2 => HFF.out i j ij (by omega)) hn
  try rw [show ((0 : Nat) : Int) = 0 from rfl] at hc
  try rw [show ((20 : Nat) : Int) = 20 from rfl] at hc
  have HC := Lib.hid hc
  clear hc
  have c0 := only_box (W := W) O0.out BX.out.1 hne
  have c1 := only_box (W := W) O0.out BX.out.2 hne
  go_wp2_with fail
  refine HC.out.mono ?_
  rintro e w1 ⟨F1, ⟨rfl, r1, o1⟩, m1, s1⟩
  have S_0_20 := Lib.hid s1
  have T_0_20 : Hid (Sy.Stay F F1 0 20) := fun q q1 q2 => by
    obtain ⟨j, j1, j2, e⟩ := m1.2 q q1 q2
    exact ⟨j, j1, j2, e⟩
  have U1 : Hid (∀ q, 20 ≤ q → q < n → F1 q = F q) := fun q q1 q2 => (m1.1 q (by omega)).trans (rfl)
  have R1 := Lib.hid r1
  have O1 := Lib.hid (O0.out.trans o1 fun _ _ h => h)
  clear r1 o1 m1 s1 c0 c1 HC R0 O0 U0
  go_wp2_with fail
  rw [rounds_succ]
  have hc := HINS.out w1 F1 20 n R1.out (by omega) (by omega) (fun i j i1 ij j2 => by rw [U1.out i (by omega) (by omega), U1.out j (by omega) (by omega)]; exact HFF.out i j ij (by omega)) hn
  try rw [show ((20 : Nat) : Int) = 20 from rfl] at hc
  have HC := Lib.hid hc
  clear hc
  have c0 := only_box (W := W) O1.out BX.out.1 hne
  have c1 := only_box (W := W) O1.out BX.out.2 hne
  go_wp2_with fail
  refine HC.out.mono ?_
  rintro e w2 ⟨F2, ⟨rfl, r2, o2⟩, m2, s2⟩
  have S_20_n := Lib.hid s2
  have T_20_n : Hid (Sy.Stay F F2 20 n) := fun q q1 q2 => by
    obtain ⟨j, j1, j2, e⟩ := m2.2 q q1 q2
    exact ⟨j, j1, j2, e.trans (U1.out j (by omega) (by omega))⟩
  replace S_0_20 := Lib.hid (srt_kept S_0_20.out m2 (by omega))
  replace T_0_20 := Lib.hid (T_0_20.out.off m2 (by omega))
  have U2 : Hid (∀ q, n ≤ q → q < n → F2 q = F q) := fun q q1 q2 => (m2.1 q (by omega)).trans (U1.out q (by omega) q2)
  have R2 := Lib.hid r2
  have O2 := Lib.hid (O1.out.trans o2 fun _ _ h => h)
  clear r2 o2 m2 s2 c0 c1 HC R1 O1 U1
  go_wp2_with fail
  refine wp_loop_rounds 2 ?_
  rw [rounds_succ]
  go_wp2_with fail
  refine wp_loop_rounds 1 ?_
  rw [rounds_succ]
  have hc := HMER.out 0 20 n (by omega) (by omega) (by omega) w2 F2 R2.out S_0_20.out S_20_n.out (Sy.par_of (fun i j ij j2 => HFF.out i j ij (by omega)) T_0_20.out T_20_n.out)
  try rw [show ((0 : Nat) : Int) = 0 from rfl] at hc
  try rw [show ((20 : Nat) : Int) = 20 from rfl] at hc
  have HC := Lib.hid hc
  clear hc
  have c0 := only_box (W := W) O2.out BX.out.1 hne
  have c1 := only_box (W := W) O2.out BX.out.2 hne
  go_wp2_with fail
  refine HC.out.mono ?_
  rintro e w3 ⟨F3, ⟨rfl, r3, o3⟩, m3, s3⟩
  have S_0_n := Lib.hid s3
  have T_0_n := Lib.hid ((T_0_20.out.join T_20_n.out (by omega) (by omega)).mix m3)
  clear S_0_20 S_20_n T_0_20 T_20_n
  have R3 := Lib.hid r3
  have O3 := Lib.hid (O2.out.trans o3 fun _ _ h => h)
  clear r3 o3 m3 s3 c0 c1 HC R2 O2
  go_wp2_with fail
  rw [rounds_succ]
  go_wp2
  go_end0
  exact ⟨F3, ⟨rfl, R3.out, HO1.out _ O3.out⟩, S_0_n.out, T_0_n.out⟩
set_option maxHeartbeats 4000000 in
set_option maxRecDepth 100000 in
theorem stable_D (base g n c : Nat) (sf : Nat) (sb : Array Value) (HS : SwapOk base g n c sf sb) (pos : Int × ByteArray → Nat) (W : World) (F : Nat → Int × ByteArray) (h : RF W base g n c F) (hF : ∀ i j, i < j → j < n → pos (F i) < pos (F j)) (k1 : 40 ≤ n) (k2 : n ≤ 40) :
    Calls Try.prog 52 #[DAT (.slice (some ⟨g, 0, none⟩) n c) sf sb, .int .i64 n] W (Stabled W base g n c pos F) := by
  have hn : n ≤ 1048576 := by omega
  have HINS := Lib.hid (insertion_any base g n c sf sb HS pos)
  have HMER := Lib.hid (fun a m b h1 h2 h3 => symMerge_any base g n c sf sb HS pos hn (b - a) a m b (Nat.le_refl _) h1 h2 h3)
  have HFF := Lib.hid hF
  have hg := h.lt
  unfold DAT at HINS HMER ⊢
  obtain ⟨W1, hW1⟩ : ∃ W1, W.alloc (.cells #[.func (.func 35) #[.slice (some ⟨g, 0, none⟩) n c] #[], .func (.func sf) #[] sb] 90) = W1 := ⟨_, rfl⟩
  have R0 : Hid (RF W1 base g n c F) := hW1 ▸ h.on (below_alloc0 W _)
  have BX : Hid (W1.cell? ⟨W.heap.size, 0, none⟩ = some (.func (.func 35) #[.slice (some ⟨g, 0, none⟩) n c] #[]) ∧ W1.cell? ⟨W.heap.size, 1, none⟩ = some (.func (.func sf) #[] sb)) := by rw [Hid, ← hW1]; simp [go_sem]
  have HO1 : Hid (∀ W', Only W1 W' (fun k => k = g) → Only W W' (fun k => k = g)) := fun W' ho => by rw [← hW1] at ho; exact only_new ho
  have hne : W.heap.size ≠ g := by omega
  have i1 : (20 : Int) ≤ n := by omega
  have i2 : (20 : Int) < n := by omega
  have i3 : (40 : Int) ≤ n := by omega
  have i4 : ¬ (40 : Int) < n := by omega
  have i5 : ¬ (60 : Int) ≤ n := by omega
  have i6 : ¬ (60 : Int) < n := by omega
  have i7 : ¬ (80 : Int) ≤ n := by omega
  have O0 : Hid (Only W1 W1 (fun k => k = g)) := Lib.hid (Only.refl _ _)
  have U0 : Hid (∀ k, F k = F k) := fun _ => rfl
  clear h HS hF
  go_enter Try.func52, Try.ntmps52
  go_wp2_with fail
  clear hW1
  refine wp_loop_rounds 3 ?_
  rw [rounds_succ]
  have hc := HINS.out W1 F 0 20 R0.out (by omega) (by omega) (fun i j i1 ij j2 => HFF.out i j ij (by omega)) hn
  try rw [show ((0 : Nat) : Int) = 0 from rfl] at hc
  try rw [show ((20 : Nat) : Int) = 20 from rfl] at hc
  have HC := Lib.hid hc
  clear hc
  have c0 := only_box (W := W) O0.out BX.out.1 hne
  have c1 := only_box (W := W) O0.out BX.out.2 hne
  go_wp2_with fail
  refine HC.out.mono ?_
  rintro e w1 ⟨F1, ⟨rfl, r1, o1⟩, m1, s1⟩
  have S_0_20 := Lib.hid s1
  have T_0_20 : Hid (Sy.Stay F F1 0 20) := fun q q1 q2 => by
    obtain ⟨j, j1, j2, e⟩ := m1.2 q q1 q2
    exact ⟨j, j1, j2, e⟩
  have U1 : Hid (∀ q, 20 ≤ q → q < n → F1 q = F q) := fun q q1 q2 => (m1.1 q (by omega)).trans (rfl)
  have R1 := Lib.hid r1
  have O1 := Lib.hid (O0.out.trans o1 fun _ _ h => h)
  clear r1 o1 m1 s1 c0 c1 HC R0 O0 U0
  go_wp2_with fail
  rw [rounds_succ]
  have hc := HINS.out w1 F1 20 40 R1.out (by omega) (by omega) (fun i j i1 ij j2 => by rw [U1.out i (by omega) (by omega), U1.out j (by omega) (by omega)]; exact HFF.out i j ij (by omega)) hn
  try rw [show ((20 : Nat) : Int) = 20 from rfl] at hc
  try rw [show ((40 : Nat) : Int) = 40 from rfl] at hc
  have HC := Lib.hid hc
  clear hc
  have c0 := only_box (W := W) O1.out BX.out.1 hne
  have c1 := only_box (W := W) O1.out BX.out.2 hne
  go_wp2_with fail
  refine HC.out.mono ?_
  rintro e w2 ⟨F2, ⟨rfl, r2, o2⟩, m2, s2⟩
  have S_20_40 := Lib.hid s2
  have T_20_40 : Hid (Sy.Stay F F2 20 40) := fun q q1 q2 => by
    obtain ⟨j, j1, j2, e⟩ := m2.2 q q1 q2
    exact ⟨j, j1, j2, e.trans (U1.out j (by omega) (by omega))⟩
  replace S_0_20 := Lib.hid (srt_kept S_0_20.out m2 (by omega))
  replace T_0_20 := Lib.hid (T_0_20.out.off m2 (by omega))
  have U2 : Hid (∀ q, 40 ≤ q → q < n → F2 q = F q) := fun q q1 q2 => (m2.1 q (by omega)).trans (U1.out q (by omega) q2)
  have R2 := Lib.hid r2
  have O2 := Lib.hid (O1.out.trans o2 fun _ _ h => h)
  clear r2 o2 m2 s2 c0 c1 HC R1 O1 U1
  go_wp2_with fail
  rw [rounds_succ]
  have hc := HINS.out w2 F2 40 n R2.out (by omega) (by omega) (fun i j i1 ij j2 => by rw [U2.out i (by omega) (by omega), U2.out j (by omega) (by omega)]; exact HFF.out i j ij (by omega)) hn
  try rw [show ((40 : Nat) : Int) = 40 from rfl] at hc
  have HC := Lib.hid hc
  clear hc
  have c0 := only_box (W := W) O2.out BX.out.1 hne
  have c1 := only_box (W := W) O2.out BX.out.2 hne
  go_wp2_with fail
  refine HC.out.mono ?_
  rintro e w3 ⟨F3, ⟨rfl, r3, o3⟩, m3, s3⟩
  have S_40_n := Lib.hid s3
  have T_40_n : Hid (Sy.Stay F F3 40 n) := fun q q1 q2 => by
    obtain ⟨j, j1, j2, e⟩ := m3.2 q q1 q2
    exact ⟨j, j1, j2, e.trans (U2.out j (by omega) (by omega))⟩
  replace S_0_20 := Lib.hid (srt_kept S_0_20.out m3 (by omega))
  replace T_0_20 := Lib.hid (T_0_20.out.off m3 (by omega))
  replace S_20_40 := Lib.hid (srt_kept S_20_40.out m3 (by omega))
  replace T_20_40 := Lib.hid (T_20_40.out.off m3 (by omega))
  have U3 : Hid (∀ q, n ≤ q → q < n → F3 q = F q) := fun q q1 q2 => (m3.1 q (by omega)).trans (U2.out q (by omega) q2)
  have R3 := Lib.hid r3
  have O3 := Lib.hid (O2.out.trans o3 fun _ _ h => h)
  clear r3 o3 m3 s3 c0 c1 HC R2 O2 U2
  go_wp2_with fail
  refine wp_loop_rounds 2 ?_
  rw [rounds_succ]
  go_wp2_with fail
  refine wp_loop_rounds 2 ?_
  rw [rounds_succ]
  have hc := HMER.out 0 20 40 (by omega) (by omega) (by omega) w3 F3 R3.out S_0_20.out S_20_40.out (Sy.par_of (fun i j ij j2 => HFF.out i j ij (by omega)) T_0_20.out T_20_40.out)
  try rw [show ((0 : Nat) : Int) = 0 from rfl] at hc
  try rw [show ((20 : Nat) : Int) = 20 from rfl] at hc
  try rw [show ((40 : Nat) : Int) = 40 from rfl] at hc
  have HC := Lib.hid hc
  clear hc
  have c0 := only_box (W := W) O3.out BX.out.1 hne
  have c1 := only_box (W := W) O3.out BX.out.2 hne
  go_wp2_with fail
  refine HC.out.mono ?_
  rintro e w4 ⟨F4, ⟨rfl, r4, o4⟩, m4, s4⟩
  have S_0_40 := Lib.hid s4
  have T_0_40 := Lib.hid ((T_0_20.out.join T_20_40.out (by omega) (by omega)).mix m4)
  clear S_0_20 S_20_40 T_0_20 T_20_40
  replace S_40_n := Lib.hid (srt_kept S_40_n.out m4 (by omega))
  replace T_40_n := Lib.hid (T_40_n.out.off m4 (by omega))
  have R4 := Lib.hid r4
  have O4 := Lib.hid (O3.out.trans o4 fun _ _ h => h)
  clear r4 o4 m4 s4 c0 c1 HC R3 O3
  go_wp2_with fail
  rw [rounds_succ]
  go_wp2_with fail
  rw [rounds_succ]
  go_wp2
  go_end0
  have e : n = 40 := by omega
  have s := S_0_40.out
  have t := T_0_40.out
  exact ⟨F4, ⟨rfl, R4.out, HO1.out _ O4.out⟩, Sy.srt_sub s (Nat.le_refl _) (by omega), fun q q1 q2 => by
    obtain ⟨j, j1, j2, e2⟩ := t q q1 (by omega)
    exact ⟨j, j1, by omega, e2⟩⟩
set_option maxHeartbeats 4000000 in
set_option maxRecDepth 100000 in
theorem stable_E (base g n c : Nat) (sf : Nat) (sb : Array Value) (HS : SwapOk base g n c sf sb) (pos : Int × ByteArray → Nat) (W : World) (F : Nat → Int × ByteArray) (h : RF W base g n c F) (hF : ∀ i j, i < j → j < n → pos (F i) < pos (F j)) (k1 : 40 < n) (k2 : n < 60) :
    Calls Try.prog 52 #[DAT (.slice (some ⟨g, 0, none⟩) n c) sf sb, .int .i64 n] W (Stabled W base g n c pos F) := by
  have hn : n ≤ 1048576 := by omega
  have HINS := Lib.hid (insertion_any base g n c sf sb HS pos)
  have HMER := Lib.hid (fun a m b h1 h2 h3 => symMerge_any base g n c sf sb HS pos hn (b - a) a m b (Nat.le_refl _) h1 h2 h3)
  have HFF := Lib.hid hF
  have hg := h.lt
  unfold DAT at HINS HMER ⊢
  obtain ⟨W1, hW1⟩ : ∃ W1, W.alloc (.cells #[.func (.func 35) #[.slice (some ⟨g, 0, none⟩) n c] #[], .func (.func sf) #[] sb] 90) = W1 := ⟨_, rfl⟩
  have R0 : Hid (RF W1 base g n c F) := hW1 ▸ h.on (below_alloc0 W _)
  have BX : Hid (W1.cell? ⟨W.heap.size, 0, none⟩ = some (.func (.func 35) #[.slice (some ⟨g, 0, none⟩) n c] #[]) ∧ W1.cell? ⟨W.heap.size, 1, none⟩ = some (.func (.func sf) #[] sb)) := by rw [Hid, ← hW1]; simp [go_sem]
  have HO1 : Hid (∀ W', Only W1 W' (fun k => k = g) → Only W W' (fun k => k = g)) := fun W' ho => by rw [← hW1] at ho; exact only_new ho
  have hne : W.heap.size ≠ g := by omega
  have i1 : (20 : Int) ≤ n := by omega
  have i2 : (20 : Int) < n := by omega
  have i3 : (40 : Int) ≤ n := by omega
  have i4 : (40 : Int) < n := by omega
  have i5 : ¬ (60 : Int) ≤ n := by omega
  have i6 : ¬ (60 : Int) < n := by omega
  have i7 : ¬ (80 : Int) ≤ n := by omega
  have i8 : ¬ (80 : Int) < n := by omega
  have O0 : Hid (Only W1 W1 (fun k => k = g)) := Lib.hid (Only.refl _ _)
  have U0 : Hid (∀ k, F k = F k) := fun _ => rfl
  clear h HS hF
  go_enter Try.func52, Try.ntmps52
  go_wp2_with fail
  clear hW1
  refine wp_loop_rounds 3 ?_
  rw [rounds_succ]
  have hc := HINS.out W1 F 0 20 R0.out (by omega) (by omega) (fun i j i1 ij j2 => HFF.out i j ij (by omega)) hn
  try rw [show ((0 : Nat) : Int) = 0 from rfl] at hc
  try rw [show ((20 : Nat) : Int) = 20 from rfl] at hc
  have HC := Lib.hid hc
  clear hc
  have c0 := only_box (W := W) O0.out BX.out.1 hne
  have c1 := only_box (W := W) O0.out BX.out.2 hne
  go_wp2_with fail
  refine HC.out.mono ?_
  rintro e w1 ⟨F1, ⟨rfl, r1, o1⟩, m1, s1⟩
  have S_0_20 := Lib.hid s1
  have T_0_20 : Hid (Sy.Stay F F1 0 20) := fun q q1 q2 => by
    obtain ⟨j, j1, j2, e⟩ := m1.2 q q1 q2
    exact ⟨j, j1, j2, e⟩
  have U1 : Hid (∀ q, 20 ≤ q → q < n → F1 q = F q) := fun q q1 q2 => (m1.1 q (by omega)).trans (rfl)
  have R1 := Lib.hid r1
  have O1 := Lib.hid (O0.out.trans o1 fun _ _ h => h)
  clear r1 o1 m1 s1 c0 c1 HC R0 O0 U0
  go_wp2_with fail
  rw [rounds_succ]
  have hc := HINS.out w1 F1 20 40 R1.out (by omega) (by omega) (fun i j i1 ij j2 => by rw [U1.out i (by omega) (by omega), U1.out j (by omega) (by omega)]; exact HFF.out i j ij (by omega)) hn
  try rw [show ((20 : Nat) : Int) = 20 from rfl] at hc
  try rw [show ((40 : Nat) : Int) = 40 from rfl] at hc
  have HC := Lib.hid hc
  clear hc
  have c0 := only_box (W := W) O1.out BX.out.1 hne
  have c1 := only_box (W := W) O1.out BX.out.2 hne
  go_wp2_with fail
  refine HC.out.mono ?_
  rintro e w2 ⟨F2, ⟨rfl, r2, o2⟩, m2, s2⟩
  have S_20_40 := Lib.hid s2
  have T_20_40 : Hid (Sy.Stay F F2 20 40) := fun q q1 q2 => by
    obtain ⟨j, j1, j2, e⟩ := m2.2 q q1 q2
    exact ⟨j, j1, j2, e.trans (U1.out j (by omega) (by omega))⟩
  replace S_0_20 := Lib.hid (srt_kept S_0_20.out m2 (by omega))
  replace T_0_20 := Lib.hid (T_0_20.out.off m2 (by omega))
  have U2 : Hid (∀ q, 40 ≤ q → q < n → F2 q = F q) := fun q q1 q2 => (m2.1 q (by omega)).trans (U1.out q (by omega) q2)
  have R2 := Lib.hid r2
  have O2 := Lib.hid (O1.out.trans o2 fun _ _ h => h)
  clear r2 o2 m2 s2 c0 c1 HC R1 O1 U1
  go_wp2_with fail
  rw [rounds_succ]
  have hc := HINS.out w2 F2 40 n R2.out (by omega) (by omega) (fun i j i1 ij j2 => by rw [U2.out i (by omega) (by omega), U2.out j (by omega) (by omega)]; exact HFF.out i j ij (by omega)) hn
  try rw [show ((40 : Nat) : Int) = 40 from rfl] at hc
  have HC := Lib.hid hc
  clear hc
  have c0 := only_box (W := W) O2.out BX.out.1 hne
  have c1 := only_box (W := W) O2.out BX.out.2 hne
  go_wp2_with fail
  refine HC.out.mono ?_
  rintro e w3 ⟨F3, ⟨rfl, r3, o3⟩, m3, s3⟩
  have S_40_n := Lib.hid s3
  have T_40_n : Hid (Sy.Stay F F3 40 n) := fun q q1 q2 => by
    obtain ⟨j, j1, j2, e⟩ := m3.2 q q1 q2
    exact ⟨j, j1, j2, e.trans (U2.out j (by omega) (by omega))⟩
  replace S_0_20 := Lib.hid (srt_kept S_0_20.out m3 (by omega))
  replace T_0_20 := Lib.hid (T_0_20.out.off m3 (by omega))
  replace S_20_40 := Lib.hid (srt_kept S_20_40.out m3 (by omega))
  replace T_20_40 := Lib.hid (T_20_40.out.off m3 (by omega))
  have U3 : Hid (∀ q, n ≤ q → q < n → F3 q = F q) := fun q q1 q2 => (m3.1 q (by omega)).trans (U2.out q (by omega) q2)
  have R3 := Lib.hid r3
  have O3 := Lib.hid (O2.out.trans o3 fun _ _ h => h)
  clear r3 o3 m3 s3 c0 c1 HC R2 O2 U2
  go_wp2_with fail
  refine wp_loop_rounds 3 ?_
  rw [rounds_succ]
  go_wp2_with fail
  refine wp_loop_rounds 2 ?_
  rw [rounds_succ]
  have hc := HMER.out 0 20 40 (by omega) (by omega) (by omega) w3 F3 R3.out S_0_20.out S_20_40.out (Sy.par_of (fun i j ij j2 => HFF.out i j ij (by omega)) T_0_20.out T_20_40.out)
  try rw [show ((0 : Nat) : Int) = 0 from rfl] at hc
  try rw [show ((20 : Nat) : Int) = 20 from rfl] at hc
  try rw [show ((40 : Nat) : Int) = 40 from rfl] at hc
  have HC := Lib.hid hc
  clear hc
  have c0 := only_box (W := W) O3.out BX.out.1 hne
  have c1 := only_box (W := W) O3.out BX.out.2 hne
  go_wp2_with fail
  refine HC.out.mono ?_
  rintro e w4 ⟨F4, ⟨rfl, r4, o4⟩, m4, s4⟩
  have S_0_40 := Lib.hid s4
  have T_0_40 := Lib.hid ((T_0_20.out.join T_20_40.out (by omega) (by omega)).mix m4)
  clear S_0_20 S_20_40 T_0_20 T_20_40
  replace S_40_n := Lib.hid (srt_kept S_40_n.out m4 (by omega))
  replace T_40_n := Lib.hid (T_40_n.out.off m4 (by omega))
  have R4 := Lib.hid r4
  have O4 := Lib.hid (O3.out.trans o4 fun _ _ h => h)
  clear r4 o4 m4 s4 c0 c1 HC R3 O3
  go_wp2_with fail
  rw [rounds_succ]
  go_wp2_with fail
  rw [rounds_succ]
  go_wp2_with fail
  refine wp_loop_rounds 1 ?_
  rw [rounds_succ]
  have hc := HMER.out 0 40 n (by omega) (by omega) (by omega) w4 F4 R4.out S_0_40.out S_40_n.out (Sy.par_of (fun i j ij j2 => HFF.out i j ij (by omega)) T_0_40.out T_40_n.out)
  try rw [show ((0 : Nat) : Int) = 0 from rfl] at hc
  try rw [show ((40 : Nat) : Int) = 40 from rfl] at hc
  have HC := Lib.hid hc
  clear hc
  have c0 := only_box (W := W) O4.out BX.out.1 hne
  have c1 := only_box (W := W) O4.out BX.out.2 hne
  go_wp2_with fail
  refine HC.out.mono ?_
  rintro e w5 ⟨F5, ⟨rfl, r5, o5⟩, m5, s5⟩
  have S_0_n := Lib.hid s5
  have T_0_n := Lib.hid ((T_0_40.out.join T_40_n.out (by omega) (by omega)).mix m5)
  clear S_0_40 S_40_n T_0_40 T_40_n
  have R5 := Lib.hid r5
  have O5 := Lib.hid (O4.out.trans o5 fun _ _ h => h)
  clear r5 o5 m5 s5 c0 c1 HC R4 O4
  go_wp2_with fail
  rw [rounds_succ]
  go_wp2
  go_end0
  exact ⟨F5, ⟨rfl, R5.out, HO1.out _ O5.out⟩, S_0_n.out, T_0_n.out⟩
set_option maxHeartbeats 4000000 in
set_option maxRecDepth 100000 in
theorem stable_F (base g n c : Nat) (sf : Nat) (sb : Array Value) (HS : SwapOk base g n c sf sb) (pos : Int × ByteArray → Nat) (W : World) (F : Nat → Int × ByteArray) (h : RF W base g n c F) (hF : ∀ i j, i < j → j < n → pos (F i) < pos (F j)) (k1 : 60 ≤ n) (k2 : n ≤ 60) :
    Calls Try.prog 52 #[DAT (.slice (some ⟨g, 0, none⟩) n c) sf sb, .int .i64 n] W (Stabled W base g n c pos F) := by
  have hn : n ≤ 1048576 := by omega
  have HINS := Lib.hid (insertion_any base g n c sf sb HS pos)
  have HMER := Lib.hid (fun a m b h1 h2 h3 => symMerge_any base g n c sf sb HS pos hn (b - a) a m b (Nat.le_refl _) h1 h2 h3)
  have HFF := Lib.hid hF
  have hg := h.lt
  unfold DAT at HINS HMER ⊢
  obtain ⟨W1, hW1⟩ : ∃ W1, W.alloc (.cells #[.func (.func 35) #[.slice (some ⟨g, 0, none⟩) n c] #[], .func (.func sf) #[] sb] 90) = W1 := ⟨_, rfl⟩
  have R0 : Hid (RF W1 base g n c F) := hW1 ▸ h.on (below_alloc0 W _)
  have BX : Hid (W1.cell? ⟨W.heap.size, 0, none⟩ = some (.func (.func 35) #[.slice (some ⟨g, 0, none⟩) n c] #[]) ∧ W1.cell? ⟨W.heap.size, 1, none⟩ = some (.func (.func sf) #[] sb)) := by rw [Hid, ← hW1]; simp [go_sem]
  have HO1 : Hid (∀ W', Only W1 W' (fun k => k = g) → Only W W' (fun k => k = g)) := fun W' ho => by rw [← hW1] at ho; exact only_new ho
  have hne : W.heap.size ≠ g := by omega
  have i1 : (20 : Int) ≤ n := by omega
  have i2 : (20 : Int) < n := by omega
  have i3 : (40 : Int) ≤ n := by omega
  have i4 : (40 : Int) < n := by omega
  have i5 : (60 : Int) ≤ n := by omega
  have i6 : ¬ (60 : Int) < n := by omega
  have i7 : ¬ (80 : Int) ≤ n := by omega
  have i8 : ¬ (80 : Int) < n := by omega
  have O0 : Hid (Only W1 W1 (fun k => k = g)) := Lib.hid (Only.refl _ _)
  have U0 : Hid (∀ k, F k = F k) := fun _ => rfl
  clear h HS hF
  go_enter Try.func52, Try.ntmps52
  go_wp2_with fail
  clear hW1
  refine wp_loop_rounds 4 ?_
  rw [rounds_succ]
  have hc := HINS.out W1 F 0 20 R0.out (by omega) (by omega) (fun i j i1 ij j2 => HFF.out i j ij (by omega)) hn
  try rw [show ((0 : Nat) : Int) = 0 from rfl] at hc
  try rw [show ((20 : Nat) : Int) = 20 from rfl] at hc
  have HC := Lib.hid hc
  clear hc
  have c0 := only_box (W := W) O0.out BX.out.1 hne
  have c1 := only_box (W := W) O0.out BX.out.2 hne
  go_wp2_with fail
  refine HC.out.mono ?_
  rintro e w1 ⟨F1, ⟨rfl, r1, o1⟩, m1, s1⟩
  have S_0_20 := Lib.hid s1
  have T_0_20 : Hid (Sy.Stay F F1 0 20) := fun q q1 q2 => by
    obtain ⟨j, j1, j2, e⟩ := m1.2 q q1 q2
    exact ⟨j, j1, j2, e⟩
  have U1 : Hid (∀ q, 20 ≤ q → q < n → F1 q = F q) := fun q q1 q2 => (m1.1 q (by omega)).trans (rfl)
  have R1 := Lib.hid r1
  have O1 := Lib.hid (O0.out.trans o1 fun _ _ h => h)
  clear r1 o1 m1 s1 c0 c1 HC R0 O0 U0
  go_wp2_with fail
  rw [rounds_succ]
  have hc := HINS.out w1 F1 20 40 R1.out (by omega) (by omega) (fun i j i1 ij j2 => by rw [U1.out i (by omega) (by omega), U1.out j (by omega) (by omega)]; exact HFF.out i j ij (by omega)) hn
  try rw [show ((20 : Nat) : Int) = 20 from rfl] at hc
  try rw [show ((40 : Nat) : Int) = 40 from rfl] at hc
  have HC := Lib.hid hc
  clear hc
  have c0 := only_box (W := W) O1.out BX.out.1 hne
  have c1 := only_box (W := W) O1.out BX.out.2 hne
  go_wp2_with fail
  refine HC.out.mono ?_
  rintro e w2 ⟨F2, ⟨rfl, r2, o2⟩, m2, s2⟩
  have S_20_40 := Lib.hid s2
  have T_20_40 : Hid (Sy.Stay F F2 20 40) := fun q q1 q2 => by
    obtain ⟨j, j1, j2, e⟩ := m2.2 q q1 q2
    exact ⟨j, j1, j2, e.trans (U1.out j (by omega) (by omega))⟩
  replace S_0_20 := Lib.hid (srt_kept S_0_20.out m2 (by omega))
  replace T_0_20 := Lib.hid (T_0_20.out.off m2 (by omega))
  have U2 : Hid (∀ q, 40 ≤ q → q < n → F2 q = F q) := fun q q1 q2 => (m2.1 q (by omega)).trans (U1.out q (by omega) q2)
  have R2 := Lib.hid r2
  have O2 := Lib.hid (O1.out.trans o2 fun _ _ h => h)
  clear r2 o2 m2 s2 c0 c1 HC R1 O1 U1
  go_wp2_with fail
  rw [rounds_succ]
  have hc := HINS.out w2 F2 40 60 R2.out (by omega) (by omega) (fun i j i1 ij j2 => by rw [U2.out i (by omega) (by omega), U2.out j (by omega) (by omega)]; exact HFF.out i j ij (by omega)) hn
  try rw [show ((40 : Nat) : Int) = 40 from rfl] at hc
  try rw [show ((60 : Nat) : Int) = 60 from rfl] at hc
  have HC := Lib.hid hc
  clear hc
  have c0 := only_box (W := W) O2.out BX.out.1 hne
  have c1 := only_box (W := W) O2.out BX.out.2 hne
  go_wp2_with fail
  refine HC.out.mono ?_
  rintro e w3 ⟨F3, ⟨rfl, r3, o3⟩, m3, s3⟩
  have S_40_60 := Lib.hid s3
  have T_40_60 : Hid (Sy.Stay F F3 40 60) := fun q q1 q2 => by
    obtain ⟨j, j1, j2, e⟩ := m3.2 q q1 q2
    exact ⟨j, j1, j2, e.trans (U2.out j (by omega) (by omega))⟩
  replace S_0_20 := Lib.hid (srt_kept S_0_20.out m3 (by omega))
  replace T_0_20 := Lib.hid (T_0_20.out.off m3 (by omega))
  replace S_20_40 := Lib.hid (srt_kept S_20_40.out m3 (by omega))
  replace T_20_40 := Lib.hid (T_20_40.out.off m3 (by omega))
  have U3 : Hid (∀ q, 60 ≤ q → q < n → F3 q = F q) := fun q q1 q2 => (m3.1 q (by omega)).trans (U2.out q (by omega) q2)
  have R3 := Lib.hid r3
  have O3 := Lib.hid (O2.out.trans o3 fun _ _ h => h)
  clear r3 o3 m3 s3 c0 c1 HC R2 O2 U2
  go_wp2_with fail
  rw [rounds_succ]
  have hc := HINS.out w3 F3 60 n R3.out (by omega) (by omega) (fun i j i1 ij j2 => by rw [U3.out i (by omega) (by omega), U3.out j (by omega) (by omega)]; exact HFF.out i j ij (by omega)) hn
  try rw [show ((60 : Nat) : Int) = 60 from rfl] at hc
  have HC := Lib.hid hc
  clear hc
  have c0 := only_box (W := W) O3.out BX.out.1 hne
  have c1 := only_box (W := W) O3.out BX.out.2 hne
  go_wp2_with fail
  refine HC.out.mono ?_
  rintro e w4 ⟨F4, ⟨rfl, r4, o4⟩, m4, s4⟩
  have S_60_n := Lib.hid s4
  have T_60_n : Hid (Sy.Stay F F4 60 n) := fun q q1 q2 => by
    obtain ⟨j, j1, j2, e⟩ := m4.2 q q1 q2
    exact ⟨j, j1, j2, e.trans (U3.out j (by omega) (by omega))⟩
  replace S_0_20 := Lib.hid (srt_kept S_0_20.out m4 (by omega))
  replace T_0_20 := Lib.hid (T_0_20.out.off m4 (by omega))
  replace S_20_40 := Lib.hid (srt_kept S_20_40.out m4 (by omega))
  replace T_20_40 := Lib.hid (T_20_40.out.off m4 (by omega))
  replace S_40_60 := Lib.hid (srt_kept S_40_60.out m4 (by omega))
  replace T_40_60 := Lib.hid (T_40_60.out.off m4 (by omega))
  have U4 : Hid (∀ q, n ≤ q → q < n → F4 q = F q) := fun q q1 q2 => (m4.1 q (by omega)).trans (U3.out q (by omega) q2)
  have R4 := Lib.hid r4
  have O4 := Lib.hid (O3.out.trans o4 fun _ _ h => h)
  clear r4 o4 m4 s4 c0 c1 HC R3 O3 U3
  go_wp2_with fail
  refine wp_loop_rounds 3 ?_
  rw [rounds_succ]
  go_wp2_with fail
  refine wp_loop_rounds 2 ?_
  rw [rounds_succ]
  have hc := HMER.out 0 20 40 (by omega) (by omega) (by omega) w4 F4 R4.out S_0_20.out S_20_40.out (Sy.par_of (fun i j ij j2 => HFF.out i j ij (by omega)) T_0_20.out T_20_40.out)
  try rw [show ((0 : Nat) : Int) = 0 from rfl] at hc
  try rw [show ((20 : Nat) : Int) = 20 from rfl] at hc
  try rw [show ((40 : Nat) : Int) = 40 from rfl] at hc
  have HC := Lib.hid hc
  clear hc
  have c0 := only_box (W := W) O4.out BX.out.1 hne
  have c1 := only_box (W := W) O4.out BX.out.2 hne
  go_wp2_with fail
  refine HC.out.mono ?_
  rintro e w5 ⟨F5, ⟨rfl, r5, o5⟩, m5, s5⟩
  have S_0_40 := Lib.hid s5
  have T_0_40 := Lib.hid ((T_0_20.out.join T_20_40.out (by omega) (by omega)).mix m5)
  clear S_0_20 S_20_40 T_0_20 T_20_40
  replace S_40_60 := Lib.hid (srt_kept S_40_60.out m5 (by omega))
  replace T_40_60 := Lib.hid (T_40_60.out.off m5 (by omega))
  replace S_60_n := Lib.hid (srt_kept S_60_n.out m5 (by omega))
  replace T_60_n := Lib.hid (T_60_n.out.off m5 (by omega))
  have R5 := Lib.hid r5
  have O5 := Lib.hid (O4.out.trans o5 fun _ _ h => h)
  clear r5 o5 m5 s5 c0 c1 HC R4 O4
  go_wp2_with fail
  rw [rounds_succ]
  go_wp2_with fail
  rw [rounds_succ]
  go_wp2_with fail
  refine wp_loop_rounds 1 ?_
  rw [rounds_succ]
  have S_40_n := Lib.hid (Sy.srt_sub S_40_60.out (Nat.le_refl _) (by omega : n ≤ 60))
  have T_40_n : Hid (Sy.Stay F F5 40 n) := fun q q1 q2 => by
    obtain ⟨j, j1, j2, e⟩ := T_40_60.out q q1 (by omega)
    exact ⟨j, j1, by omega, e⟩
  clear S_40_60 T_40_60
  have hc := HMER.out 0 40 n (by omega) (by omega) (by omega) w5 F5 R5.out S_0_40.out S_40_n.out (Sy.par_of (fun i j ij j2 => HFF.out i j ij (by omega)) T_0_40.out T_40_n.out)
  try rw [show ((0 : Nat) : Int) = 0 from rfl] at hc
  try rw [show ((40 : Nat) : Int) = 40 from rfl] at hc
  have HC := Lib.hid hc
  clear hc
  have c0 := only_box (W := W) O5.out BX.out.1 hne
  have c1 := only_box (W := W) O5.out BX.out.2 hne
  go_wp2_with fail
  refine HC.out.mono ?_
  rintro e w6 ⟨F6, ⟨rfl, r6, o6⟩, m6, s6⟩
  have S_0_n := Lib.hid s6
  have T_0_n := Lib.hid ((T_0_40.out.join T_40_n.out (by omega) (by omega)).mix m6)
  clear S_0_40 S_40_n T_0_40 T_40_n
  replace S_60_n := Lib.hid (srt_kept S_60_n.out m6 (by omega))
  replace T_60_n := Lib.hid (T_60_n.out.off m6 (by omega))
  have R6 := Lib.hid r6
  have O6 := Lib.hid (O5.out.trans o6 fun _ _ h => h)
  clear r6 o6 m6 s6 c0 c1 HC R5 O5
  go_wp2_with fail
  rw [rounds_succ]
  go_wp2
  go_end0
  exact ⟨F6, ⟨rfl, R6.out, HO1.out _ O6.out⟩, S_0_n.out, T_0_n.out⟩
theorem stable_any (base g n c : Nat) (sf : Nat) (sb : Array Value) (HS : SwapOk base g n c sf sb) (pos : Int × ByteArray → Nat) (W : World) (F : Nat → Int × ByteArray) (h : RF W base g n c F) (hF : ∀ i j, i < j → j < n → pos (F i) < pos (F j)) (hn : n ≤ 60) :
    Calls Try.prog 52 #[DAT (.slice (some ⟨g, 0, none⟩) n c) sf sb, .int .i64 n] W (Stabled W base g n c pos F) := by
  by_cases e1 : n < 20
  · exact stable_A base g n c sf sb HS pos W F h hF e1
  · by_cases e2 : n ≤ 20
    · exact stable_B base g n c sf sb HS pos W F h hF (by omega) e2
    · by_cases e3 : n < 40
      · exact stable_C base g n c sf sb HS pos W F h hF (by omega) e3
      · by_cases e4 : n ≤ 40
        · exact stable_D base g n c sf sb HS pos W F h hF (by omega) e4
        · by_cases e5 : n < 60
          · exact stable_E base g n c sf sb HS pos W F h hF (by omega) e5
          · exact stable_F base g n c sf sb HS pos W F h hF (by omega) hn
end Go.Proofs.Ytekfjheaffkakaa
