/-
  Missorts in memory: where their numbers and bins lie. And what the functions of the law's own text return: how many they are, their copy, whether two lists of them agree.
-/
import Derived.Test.YtnaghfppeejaoaaDoorLet
import Derived.Test.YtnaghfppeejaoaaDoorOrd
import Derived.Test.YtnaghfppeejaoaaDoorPureA
import Derived.BigQuiet
import Derived.IntWalk
namespace Go.Proofs.YtnaghfppeejaoaaDoor
open Go.RowKit
open Go.PlainAid (bt get_bt bt_nonneg bt_le)

/-- A slice of n missorts: the numbers I and the codes C. -/
def Mss (w : World) (a : Option Addr) (n : Nat) (I : Nat → Int) (C : Nat → Int) : Prop :=
  ∀ i, i < n → ∃ b o, a = some ⟨b, o, none⟩ ∧ w.cell? ⟨b, o + i * 2, none⟩ = some (.int .i64 (I i)) ∧ w.cell? ⟨b, o + i * 2 + 1, none⟩ = some (.int .i64 (C i))
/-- Of fitting sizes. -/
def MFits (n : Nat) (I : Nat → Int) (C : Nat → Int) : Prop := ∀ i, i < n → (-9223372036854775808 ≤ I i ∧ I i ≤ 9223372036854775807) ∧ (-9223372036854775808 ≤ C i ∧ C i ≤ 9223372036854775807)
theorem Mss.lt {w : World} {a : Option Addr} {n : Nat} {I C : Nat → Int} (h : Mss w a n I C) {b o : Nat} (ha : a = some ⟨b, o, none⟩) (h0 : 0 < n) : b < w.heap.size := by
  obtain ⟨b', o', e, hc, _⟩ := h 0 h0
  rw [ha] at e
  cases e
  exact World.block_lt_of_cell? _ _ hc
theorem Mss.below {w w' : World} {B : Nat} {a : Option Addr} {n : Nat} {I C : Nat → Int} (h : Mss w a n I C) (hb : Below B w w') (hB : ∀ b o, a = some ⟨b, o, none⟩ → 0 < n → b < B) : Mss w' a n I C := by
  intro i hi
  obtain ⟨b, o, e, h1, h2⟩ := h i hi
  have hl := hB b o e (by omega)
  exact ⟨b, o, e, by rw [hb.cell (p := ⟨b, o + i * 2, none⟩) hl]; exact h1, by rw [hb.cell (p := ⟨b, o + i * 2 + 1, none⟩) hl]; exact h2⟩
theorem Mss.on {w w' : World} {a : Option Addr} {n : Nat} {I C : Nat → Int} (h : Mss w a n I C) (hb : Below w.heap.size w w') : Mss w' a n I C :=
  h.below hb fun _ _ e h0 => h.lt e h0
theorem Mss.congr {w : World} {a : Option Addr} {n : Nat} {I J : Nat → Int} {C D : Nat → Int} (h : Mss w a n I C) (e : ∀ i, i < n → I i = J i ∧ C i = D i) : Mss w a n J D := by
  intro i hi
  obtain ⟨b, o, ha, h1, h2⟩ := h i hi
  obtain ⟨e1, e2⟩ := e i hi
  exact ⟨b, o, ha, by rw [← e1]; exact h1, by rw [← e2]; exact h2⟩

/-- A row of cells that holds missorts, nobody's but the call's. -/
def MOwn (w : World) (b n : Nat) (I : Nat → Int) (C : Nat → Int) : Prop :=
  ∃ f, w.rowIs b 40 (n * 2) f ∧ ∀ i, i < n → f (i * 2) = .int .i64 (I i) ∧ f (i * 2 + 1) = .int .i64 (C i)
theorem MOwn.mss {w : World} {b n : Nat} {I C : Nat → Int} (h : MOwn w b n I C) : Mss w (some ⟨b, 0, none⟩) n I C := by
  obtain ⟨f, hr, hf⟩ := h
  intro i hi
  obtain ⟨h1, h2⟩ := hf i hi
  refine ⟨b, 0, rfl, ?_, ?_⟩
  · rw [Nat.zero_add, ← h1]; exact hr.cell (by omega)
  · rw [Nat.zero_add, ← h2]; exact hr.cell (by omega)
theorem make_missorts (n : Nat) (hn : n ≤ 1048576) (w : World) :
    (Instr.makeSlice 27 (.int .i64 (n : Int)) (.int .i64 (n : Int))).run Tryd.prog w = .ok (.slice (some ⟨w.heap.size, 0, none⟩) n n) (w.alloc (.cells (madeCells #[.int .i64 0, .int .i64 0] (n * 2)) 40)) := by
  have hinfo : (Tryd.prog.info? 40).map (fun i => (i.zero, i.size, i.bytes)) = some (some (.agg #[.int .i64 0, .int .i64 0]), 2, 16) := by kernel_rfl
  obtain ⟨i, hi, hzz⟩ := Option.map_eq_some_iff.1 hinfo
  simp only [Prod.mk.injEq] at hzz
  obtain ⟨hz, hs, hb⟩ := hzz
  have hr := run_make (P := Tryd.prog) w 27 40 i _ Tryd.underlying27 hi hz .i64 .i64 n n (by omega) (Int.le_refl _) (by rw [hb]; omega) (by omega)
  simp only [Int.toNat_natCast, hs] at hr
  exact hr
theorem mown_made (w : World) (n : Nat) : ∃ f, (w.alloc (.cells (madeCells #[.int .i64 0, .int .i64 0] (n * 2)) 40)).rowIs w.heap.size 40 (n * 2) f := by
  refine ⟨fun j => (madeCells #[.int .i64 0, .int .i64 0] (n * 2)).getD j undef, ?_⟩
  have := World.rowIs_alloc w (madeCells #[.int .i64 0, .int .i64 0] (n * 2)) 40 (fun j => (madeCells #[.int .i64 0, .int .i64 0] (n * 2)).getD j undef) (fun i hi => by simp [Array.getD, hi])
  rwa [size_madeCells] at this

theorem mstored {f : Nat → Value} {k : Nat} {I C : Nat → Int} (h : ∀ j, j < k → f (j * 2) = .int .i64 (I j) ∧ f (j * 2 + 1) = .int .i64 (C j)) (j : Nat) (hj : j < k + 1) :
    (fun q => if q = k * 2 + 1 then Value.int .i64 (C k) else if q = k * 2 then .int .i64 (I k) else f q) (j * 2) = .int .i64 (I j) ∧
    (fun q => if q = k * 2 + 1 then Value.int .i64 (C k) else if q = k * 2 then .int .i64 (I k) else f q) (j * 2 + 1) = .int .i64 (C j) := by
  by_cases e : j = k
  · subst e
    constructor
    · show (if j * 2 = j * 2 + 1 then _ else if j * 2 = j * 2 then _ else _) = _
      rw [if_neg (by omega), if_pos rfl]
    · show (if j * 2 + 1 = j * 2 + 1 then _ else _) = _
      rw [if_pos rfl]
  · have := h j (by omega)
    constructor
    · show (if j * 2 = k * 2 + 1 then _ else if j * 2 = k * 2 then _ else _) = _
      rw [if_neg (by omega), if_neg (by omega)]; exact this.1
    · show (if j * 2 + 1 = k * 2 + 1 then _ else if j * 2 + 1 = k * 2 then _ else _) = _
      rw [if_neg (by omega), if_neg (by omega)]; exact this.2

end Go.Proofs.YtnaghfppeejaoaaDoor

/-
  Whether missorts are valid: MissortsValid in the program and in the model of the document.
-/
namespace Go.Proofs.YtnaghfppeejaoaaDoor
open Go.RowKit Go.Maps
open Go.PlainAid (bt get_bt bt_nonneg bt_le)

/-- The first m missorts are good ones for bins up to y. -/
def M.misTo (y : Int) (I B : Nat → Int) (m : Nat) : Prop := ∀ i, i < m → (1 ≤ I i ∧ I i ≤ 9999) ∧ (0 ≤ B i ∧ B i ≤ y) ∧ ∀ k, k < i → I k ≠ I i
theorem M.misTo_zero (y : Int) (I B : Nat → Int) : M.misTo y I B 0 := fun i h => absurd h (by omega)
theorem M.misTo_succ {y : Int} {I B : Nat → Int} {m : Nat} (h : M.misTo y I B m) (h1 : 1 ≤ I m ∧ I m ≤ 9999) (h2 : 0 ≤ B m ∧ B m ≤ y) (h3 : ∀ k, k < m → I k ≠ I m) : M.misTo y I B (m + 1) := fun i hi => by
  by_cases e : i = m
  · subst e; exact ⟨h1, h2, h3⟩
  · exact h i (by omega)
/-- Missorts are valid for a plan. -/
noncomputable def M.mis (b p : Int) (n : Nat) (S : Nat → ByteArray) (m : Nat) (I B : Nat → Int) : Bool := @decide (M.plan b p n S = true ∧ m ≤ 60 ∧ M.misTo (b - 1) I B m) (Classical.propDecidable _)
theorem M.mis_yes {b p : Int} {n : Nat} {S : Nat → ByteArray} {m : Nat} {I B : Nat → Int} (h1 : M.plan b p n S = true) (h2 : m ≤ 60) (h3 : M.misTo (b - 1) I B m) : M.mis b p n S m I B = true := by unfold M.mis; exact @decide_eq_true _ (Classical.propDecidable _) ⟨h1, h2, h3⟩
theorem M.mis_true {b p : Int} {n : Nat} {S : Nat → ByteArray} {m : Nat} {I B : Nat → Int} (h : M.mis b p n S m I B = true) : M.plan b p n S = true ∧ m ≤ 60 ∧ M.misTo (b - 1) I B m := by unfold M.mis at h; exact @of_decide_eq_true _ (Classical.propDecidable _) h
theorem M.mis_plan {b p : Int} {n : Nat} {S : Nat → ByteArray} {m : Nat} {I B : Nat → Int} (h : M.plan b p n S = false) : M.mis b p n S m I B = false := by unfold M.mis; exact @decide_eq_false _ (Classical.propDecidable _) fun e => by rw [h] at e; cases e.1
theorem M.mis_long {b p : Int} {n : Nat} {S : Nat → ByteArray} {m : Nat} {I B : Nat → Int} (h : 60 < m) : M.mis b p n S m I B = false := by unfold M.mis; exact @decide_eq_false _ (Classical.propDecidable _) fun e => by omega
theorem M.mis_at {b p : Int} {n : Nat} {S : Nat → ByteArray} {m : Nat} {I B : Nat → Int} {k : Nat} (hk : k < m) (h : I k < 1 ∨ 9999 < I k ∨ B k < 0 ∨ b - 1 < B k ∨ ∃ j, j < k ∧ I j = I k) : M.mis b p n S m I B = false := by
  unfold M.mis
  refine @decide_eq_false _ (Classical.propDecidable _) fun e => ?_
  obtain ⟨h1, h2, h3⟩ := e.2.2 k hk
  rcases h with h | h | h | h | ⟨j, hj, h⟩
  · omega
  · omega
  · omega
  · omega
  · exact h3 j hj h

theorem M.find_first {I : Nat → Int} {n : Nat} {x : Int} {k : Nat} (h : M.find I n x = (k : Int)) : ∀ j, j < k → I j ≠ x := by
  unfold M.find at h
  cases e : (List.range n).find? (fun i => decide (I i = x)) with
  | none => rw [e] at h; simp only at h; omega
  | some i =>
    rw [e] at h
    simp only at h
    obtain rfl : i = k := by omega
    rw [List.find?_range_eq_some] at e
    intro j hj
    have := e.2.2 j hj
    simpa using this

set_option maxHeartbeats 400000 in
theorem spec_l7Index (w : World) (a : Option Addr) (n c : Nat) (I B : Nat → Int) (h : Mss w a n I B) (hn : n ≤ 1048576) (x : Int) :
    Calls Tryd.prog 118 #[.slice a n c, .int .i64 x] w fun e w' => e = .returned (.int .i64 (M.find I n x)) ∧ w = w' := by
  have HL := Lib.hid h
  clear h
  go_enter Tryd.func118, Tryd.ntmps118
  go_wp2
  go_loop [5] (fun i => ∃ k : Nat, k ≤ n ∧ i = .int .i64 k ∧ Hid (∀ j, j < k → I j ≠ x)) (fun i => n - (intOf i).toNat)
  case atStart => exact ⟨0, Nat.zero_le _, rfl, fun j hj => absurd hj (by omega)⟩
  case round =>
    obtain ⟨k, hk, rfl, hno⟩ := hrel
    by_cases hlt : k < n
    · obtain ⟨b, o, rfl, c0, c1⟩ := HL.out k hlt
      by_cases he : I k = x
      · have hd : (I k == x) = true := by simpa using he
        have hv := Lib.hid (M.find_hit hlt he hno.out)
        clear he
        go_wp2
        go_ret
        exact ⟨ret_int hv.out.symm, rfl⟩
      · have hd : (I k == x) = false := by simpa using he
        have HE := Lib.hid he
        clear he
        go_wp2
        go_round
        case rel => exact ⟨k + 1, by omega, by go_num, M.find_below hno.out HE.out⟩
        case measure => simp [intOf]; omega
    · obtain rfl : k = n := by omega
      have hv := Lib.hid (M.find_miss hno.out)
      go_wp2
      go_ret
      exact ⟨ret_int hv.out.symm, rfl⟩

/-- Within bounds, as the walk has it. -/
def inB (x lo hi : Int) : Bool := decide (lo ≤ x ∧ x ≤ hi)
theorem inB_yes {x lo hi : Int} (h : lo ≤ x ∧ x ≤ hi) : inB x lo hi = true := decide_eq_true h
theorem inB_no {x lo hi : Int} (h : ¬ (lo ≤ x ∧ x ≤ hi)) : inB x lo hi = false := decide_eq_false h
theorem spec_inB (x lo hi : Int) (w : World) : Calls Tryd.prog 107 #[.int .i64 x, .int .i64 lo, .int .i64 hi] w fun e w' => e = .returned (.bool (inB x lo hi)) ∧ w' = w := quiet_flip (spec_l1In x lo hi w)

set_option maxRecDepth 100000 in
set_option maxHeartbeats 2000000 in
theorem spec_MissortsValid (w : World) (b p : Int) (a : Option Addr) (n c : Nat) (S : Nat → ByteArray) (h : Strs w a n S) (hf : SFits n S) (hn : n ≤ 1048576) (a2 : Option Addr) (m c2 : Nat) (I B : Nat → Int) (h2 : Mss w a2 m I B) (hf2 : MFits m I B) (hm : m ≤ 1048576) :
    Calls Tryd.prog 113 #[.agg #[.int .i64 b, .int .i64 p, .slice a n c], .slice a2 m c2] w fun e w' => e = .returned (.bool (M.mis b p n S m I B)) ∧ Below w.heap.size w w' := by
  have HL := Lib.hid h
  have HL2 := Lib.hid h2
  have bx := Lib.hid (tri_made w (.int .i64 b) (.int .i64 p) (.slice a n c) 25)
  have HF := Lib.hid hf
  have HF2 := Lib.hid hf2
  clear h hf h2 hf2
  obtain ⟨y, hy⟩ : ∃ y, IntKind.i64.wrap (b - 1) = y := ⟨_, rfl⟩
  have hyb : Hid (M.plan b p n S = true → y = b - 1) := fun hp => by
    obtain ⟨s1, s2, _⟩ := M.plan_shape hp
    rw [← hy, IntWalk.i64_in _ (by omega)]
  have HNO : Hid (∀ k, k < m → (I k < 1 ∨ 9999 < I k ∨ B k < 0 ∨ y < B k ∨ ∃ j, j < k ∧ I j = I k) → M.mis b p n S m I B = false) := fun k hk hc => by
    cases hp : M.plan b p n S
    · exact M.mis_plan hp
    · rw [hyb.out hp] at hc
      exact M.mis_at hk hc
  have HYES : Hid (M.misTo y I B m → (M.plan b p n S && decide (m ≤ 60)) = M.mis b p n S m I B) := fun hc => by
    cases hp : M.plan b p n S
    · exact (M.mis_plan hp).symm
    · rw [hyb.out hp] at hc
      by_cases h60 : m ≤ 60
      · rw [decide_eq_true h60, M.mis_yes hp h60 hc]; rfl
      · rw [decide_eq_false h60, M.mis_long (by omega)]; rfl
  obtain ⟨V, hV⟩ : ∃ V, M.mis b p n S m I B = V := ⟨_, rfl⟩
  rw [hV] at HNO HYES ⊢
  clear hV hyb
  have HW := Lib.hid hy
  clear hy
  go_enter Tryd.func113, Tryd.ntmps113
  go_wp2
  go_loopw [5] (fun i wr => ∃ k : Nat, k ≤ m ∧ i = .int .i64 k ∧ Hid (M.misTo y I B k) ∧ Hid (Tri wr w.heap.size (.int .i64 b) (.int .i64 p) (.slice a n c)) ∧ Below w.heap.size w wr) (fun i _ => m - (intOf i).toNat)
  case atStart => exact ⟨0, Nat.zero_le _, rfl, M.misTo_zero _ _ _, bx.out, by go_grown⟩
  case round =>
    obtain ⟨k, hk, rfl, hg, hx, hb⟩ := hrel
    have hz := hb.size
    obtain ⟨⟨t0, t1, t2⟩, _⟩ := hx.out
    by_cases hlt : k < m
    · have ht := Lib.hid (HL2.out.on hb)
      obtain ⟨b1, o1, rfl, c0, c1⟩ := ht.out k hlt
      have hwy := HW.out
      have hq : Hid (∀ W : World, Below wr.heap.size wr W → Calls Tryd.prog 118 #[.slice (some ⟨b1, o1, none⟩) m c2, .int .i64 (I k)] W fun e w' => e = .returned (.int .i64 (M.find I m (I k))) ∧ w' = W) := fun W hW => quiet_flip (spec_l7Index W _ m c2 I B (ht.out.on hW) hm (I k))
      by_cases l1 : 0 ≤ B k ∧ B k ≤ y
      case neg =>
        have hd := inB_no l1
        have hv := Lib.hid (HNO.out k hlt (by omega))
        clear l1
        go_wp2
        go_quiet ((go_at_call 107; exact Calls.quiet_of_same (spec_inB _ _ _ _)))
        go_wp2
        go_ret
        exact ⟨ret_bool hv.out.symm, below_drewN0 hb _⟩
      have hd := inB_yes l1
      have L1 := Lib.hid l1
      clear l1
      by_cases l2 : 1 ≤ I k ∧ I k ≤ 9999
      case neg =>
        have hd2 := inB_no l2
        have hv := Lib.hid (HNO.out k hlt (by omega))
        clear l2
        go_wp2
        go_quiet ((go_at_call 107; exact Calls.quiet_of_same (spec_inB _ _ _ _)))
        go_wp2
        go_ret
        exact ⟨ret_bool hv.out.symm, below_drewN0 hb _⟩
      have hd2 := inB_yes l2
      have L2 := Lib.hid l2
      clear l2
      by_cases l3 : ∃ j, j < k ∧ I j = I k
      · have hv := Lib.hid (HNO.out k hlt (Or.inr (Or.inr (Or.inr (Or.inr l3)))))
        have hne : (M.find I m (I k) == (k : Int)) = false := by
          rw [beq_eq_false_iff_ne]
          intro e
          obtain ⟨j, hj, ej⟩ := l3
          exact absurd (M.find_first e j hj) (by simpa using ej)
        have hne2 : (M.find I m (I k) != (k : Int)) = true := by unfold bne; rw [hne]; rfl
        obtain ⟨F, hF⟩ : ∃ F, M.find I m (I k) = F := ⟨_, rfl⟩
        rw [hF] at hq hne hne2
        clear l3 hF
        go_wp2
        go_quiet ((first
          | (go_at_call 107; exact Calls.quiet_of_same (spec_inB _ _ _ _))
          | (go_at_call 118; exact Calls.quiet_of_same (hq.out _ (below_drewN0 (Below.refl _ _) _)))))
        go_wp2
        go_ret
        exact ⟨ret_bool hv.out.symm, below_drewN0 hb _⟩
      · have hno : ∀ j, j < k → I j ≠ I k := fun j hj e => l3 ⟨j, hj, e⟩
        have hf := M.find_hit (I := I) hlt rfl hno
        rw [hf] at hq
        have HN := Lib.hid hno
        clear l3 hno hf
        go_wp2
        go_quiet ((first
          | (go_at_call 107; exact Calls.quiet_of_same (spec_inB _ _ _ _))
          | (go_at_call 118; exact Calls.quiet_of_same (hq.out _ (below_drewN0 (Below.refl _ _) _)))))
        go_wp2
        go_roundw
        case rel => exact ⟨k + 1, by omega, by go_num, M.misTo_succ hg.out L2.out L1.out HN.out, hx.out, below_drewN0 hb _⟩
        case measure => simp [intOf]; omega
    · obtain rfl : k = m := by omega
      have hv := Lib.hid (HYES.out hg.out)
      have HLw := Lib.hid (HL.out.on hb)
      cases hp : M.plan b p n S
      · rw [hp] at hv
        go_wp2_with fail
        refine (spec_PlanValid _ b p a n c S HLw.out HF.out hn).mono ?_
        rw [hp]
        rintro e w1 ⟨rfl, hb1⟩
        go_wp2
        go_ret
        exact ⟨ret_bool hv.out, sstep hb hb1⟩
      · rw [hp] at hv
        go_wp2_with fail
        refine (spec_PlanValid _ b p a n c S HLw.out HF.out hn).mono ?_
        rw [hp]
        rintro e w1 ⟨rfl, hb1⟩
        go_wp2
        go_ret
        exact ⟨ret_bool (by rw [← hv.out, Bool.true_and]; exact decide_eq_decide.2 (by omega)), sstep hb hb1⟩

set_option maxRecDepth 100000 in
set_option maxHeartbeats 2000000 in
theorem impl_MissortsValid (w : World) (b p : Int) (a : Option Addr) (n c : Nat) (S : Nat → ByteArray) (h : Strs w a n S) (hf : SFits n S) (hn : n ≤ 1048576) (a2 : Option Addr) (m c2 : Nat) (I B : Nat → Int) (h2 : Mss w a2 m I B) (hf2 : MFits m I B) :
    Calls Tryd.prog 94 #[.agg #[.int .i64 b, .int .i64 p, .slice a n c], .slice a2 m c2] w fun e w' => e = .returned (.bool (M.mis b p n S m I B)) ∧ Below w.heap.size w w' := by
  have HL := Lib.hid (h.on (below_alloc0 w (.cells #[.int .i64 b, .int .i64 p, .slice a n c] 25)))
  have HL2 := Lib.hid (h2.on (below_alloc0 w (.cells #[.int .i64 b, .int .i64 p, .slice a n c] 25)))
  have bx := Lib.hid (tri_made w (.int .i64 b) (.int .i64 p) (.slice a n c) 25)
  have HF := Lib.hid hf
  have HF2 := Lib.hid hf2
  clear h hf h2 hf2
  have hmm := @run_makeMap Tryd.prog
  cases hp : M.plan b p n S
  · have hv := Lib.hid (M.mis_plan (m := m) (I := I) (B := B) hp)
    go_enter Tryd.func94, Tryd.ntmps94
    go_wp2_with fail
    refine (impl_PlanValid _ b p a n c S HL.out HF.out hn).mono ?_
    rw [hp]
    rintro e w1 ⟨rfl, hb1⟩
    go_wp2
    go_ret
    exact ⟨ret_bool hv.out.symm, sstep (by go_grown) hb1⟩
  by_cases hlong : 60 < m
  · have hv := Lib.hid (M.mis_long (b := b) (p := p) (n := n) (S := S) (I := I) (B := B) hlong)
    go_enter Tryd.func94, Tryd.ntmps94
    go_wp2_with fail
    refine (impl_PlanValid _ b p a n c S HL.out HF.out hn).mono ?_
    rw [hp]
    rintro e w1 ⟨rfl, hb1⟩
    go_wp2
    go_ret
    exact ⟨ret_bool hv.out.symm, sstep (by go_grown) hb1⟩
  obtain ⟨s1, s2, s3, s4⟩ := M.plan_shape hp
  have HP := Lib.hid hp
  have HNO : Hid (∀ k, k < m → (I k < 1 ∨ 9999 < I k ∨ B k < 0 ∨ b - 1 < B k ∨ ∃ j, j < k ∧ I j = I k) → M.mis b p n S m I B = false) := fun k hk hc => M.mis_at hk hc
  have HYES : Hid (M.misTo (b - 1) I B m → M.mis b p n S m I B = true) := fun hc => M.mis_yes hp (by omega) hc
  obtain ⟨V, hV⟩ : ∃ V, M.mis b p n S m I B = V := ⟨_, rfl⟩
  rw [hV] at HNO HYES ⊢
  clear hV hp
  go_enter Tryd.func94, Tryd.ntmps94
  go_wp2_with fail
  refine (impl_PlanValid _ b p a n c S HL.out HF.out hn).mono ?_
  rw [HP.out]
  rintro e w1 ⟨rfl, hb1⟩
  have HT := Lib.hid (HL2.out.on hb1)
  have BX := Lib.hid (bx.out.on hb1)
  have BL : Hid (Below w.heap.size w w1) := sstep (by go_grown) hb1
  have hzw : w.heap.size < w1.heap.size := BX.out.lt
  clear hb1
  go_wp2
  go_loopw [19] (fun i wr => ∃ k : Nat, k ≤ m ∧ i = .int .i64 k ∧ Hid (M.misTo (b - 1) I B k) ∧ OwnSeen wr w1.heap.size I k ∧ Below w1.heap.size w1 wr) (fun i _ => m - (intOf i).toNat)
  case atStart => exact ⟨0, Nat.zero_le _, rfl, M.misTo_zero _ _ _, World.ownsMap_made _ _ _ _, (Below.refl _ _).alloc (Nat.le_refl _) _⟩
  case round =>
    obtain ⟨k, hk, rfl, hg, hown, hb⟩ := hrel
    have hz := hb.size
    have hzl : w.heap.size < wr.heap.size := by omega
    by_cases hlt : k < m
    · obtain ⟨b1, o1, rfl, c0, c1⟩ := (HT.out.on hb) k hlt
      obtain ⟨⟨t0, t1, t2⟩, _⟩ := BX.out.on hb
      obtain ⟨⟨i0, i1⟩, j0, j1⟩ := HF2.out k hlt
      have HO := Lib.hid hown
      clear hown
      by_cases l1 : I k < 1
      · have hv := Lib.hid (HNO.out k hlt (Or.inl l1))
        go_wp2
        go_ret
        exact ⟨ret_bool hv.out.symm, sstep BL.out (by go_grown)⟩
      by_cases l2 : 9999 < I k
      · have hv := Lib.hid (HNO.out k hlt (Or.inr (Or.inl l2)))
        go_wp2
        go_ret
        exact ⟨ret_bool hv.out.symm, sstep BL.out (by go_grown)⟩
      by_cases hs : ∃ j, j < k ∧ I j = I k
      · have hbad := Lib.hid (HNO.out k hlt (Or.inr (Or.inr (Or.inr (Or.inr hs)))))
        have hlook : ∀ ob, (Instr.lookup 113 (.map (some w1.heap.size)) (.int .i64 (I k)) false).run Tryd.prog (wr.alloc ob) = .ok (.bool true) (wr.alloc ob) := fun ob => by
          obtain ⟨j, hj, e⟩ := hs
          exact OwnSeen.look (World.ownsMap.alloc HO.out ob) i0 i1 (by rw [← e]; exact Seen.hit I k j hj)
        clear hs
        go_wp2
        go_ret
        exact ⟨ret_bool hbad.out.symm, sstep BL.out (by go_grown)⟩
      have hno : ∀ j, j < k → I j ≠ I k := fun j hj e => hs ⟨j, hj, e⟩
      have hlook : ∀ ob, (Instr.lookup 113 (.map (some w1.heap.size)) (.int .i64 (I k)) false).run Tryd.prog (wr.alloc ob) = .ok (.bool false) (wr.alloc ob) := fun ob =>
        OwnSeen.look (World.ownsMap.alloc HO.out ob) i0 i1 (Seen.miss I (I k) k hno)
      have HN := Lib.hid hno
      clear hs hno
      by_cases l3 : 0 ≤ B k ∧ B k ≤ b - 1
      case neg =>
        have hd := Lib.hid (decide_eq_false l3)
        have hv := Lib.hid (HNO.out k hlt (by omega))
        clear l3
        go_wp2_with fail
        refine (impl_within (B k) (b - 1) _).mono ?_
        rw [hd.out]
        rintro e w2 ⟨rfl, rfl⟩
        go_wp2
        go_ret
        exact ⟨ret_bool hv.out.symm, sstep BL.out (by go_grown)⟩
      have hd := Lib.hid (decide_eq_true l3)
      have L3 := Lib.hid l3
      have L1 : Hid (1 ≤ I k ∧ I k ≤ 9999) := ⟨by omega, by omega⟩
      clear l3
      have hkey : keyOf Tryd.prog 3 (.int .i64 (I k)) = some (.int .i64 (I k)) := keyOf_int_mk Tryd.underlying3 (WalkArith.wf_i64 ⟨i0, i1⟩)
      have hkm : k < maxLen := by unfold maxLen; omega
      go_wp2_with fail
      refine (impl_within (B k) (b - 1) _).mono ?_
      rw [hd.out]
      rintro e w2 ⟨rfl, rfl⟩
      go_wp2_with (at_mapUpdate; refine wpList_mapUpdate_own _ rfl _ _ _ 113 rfl 3 4 lawInt Tryd.underlying113 _ w1.heap.size k _ rfl (World.ownsMap.alloc HO.out _) hkm _ _ _ rfl rfl hkey _ [] (plainElem_bool Tryd.underlying4 true) ?_; intro w3 hown1 hgrow1)
      go_roundw
      case rel => exact ⟨k + 1, by omega, by go_num, M.misTo_succ hg.out L1.out L3.out HN.out, hown1, (hb.alloc hz _).grown hgrow1 (by simp; omega) (fun j hj => by cases hj; exact Nat.le_refl _)⟩
      case measure => simp [intOf]; omega
    · obtain rfl : k = m := by omega
      have hv := Lib.hid (HYES.out hg.out)
      go_wp2
      go_ret
      exact ⟨ret_bool hv.out.symm, BL.out.trans (hb.mono BL.out.size)⟩
end Go.Proofs.YtnaghfppeejaoaaDoor
