/-
  A machine of the program: which one there is for a pass, the bin where a letter belongs, and whether bins are those of the pass.
-/
import Derived.Test.YtmjgblhihpbbdaaDoorJam
import Derived.Test.YtmjgblhihpbbdaaDoorRun
namespace Go.Proofs.YtmjgblhihpbbdaaDoor
open Go.RowKit
open Go.PlainAid (bt get_bt bt_nonneg bt_le)
set_option linter.unusedVariables false

/-- A machine as a value. -/
def mac (b p : Int) (s : Value) (x : Int) : Value := .agg #[.int .i64 b, .int .i64 p, s, .int .i64 x]
/-- The box of a machine. -/
def Mac (w : World) (g : Nat) (b p : Int) (s : Value) (x : Int) : Prop :=
  (w.cell? ⟨g, 0, none⟩ = some (.int .i64 b) ∧ w.cell? ⟨g, 1, none⟩ = some (.int .i64 p) ∧ w.cell? ⟨g, 2, none⟩ = some s ∧ w.cell? ⟨g, 3, none⟩ = some (.int .i64 x)) ∧
  w.frozen? ⟨g, 0, none⟩ = false ∧ w.frozen? ⟨g, 1, none⟩ = false ∧ w.frozen? ⟨g, 2, none⟩ = false ∧ w.frozen? ⟨g, 3, none⟩ = false
theorem mac_made (w : World) (b p : Int) (s : Value) (x : Int) (t : TypeId) : Mac (w.alloc (.cells #[.int .i64 b, .int .i64 p, s, .int .i64 x] t)) w.heap.size b p s x := by
  refine ⟨⟨?_, ?_, ?_, ?_⟩, ?_, ?_, ?_, ?_⟩ <;> simp [go_sem]
theorem Mac.lt {w : World} {g : Nat} {b p : Int} {s : Value} {x : Int} (h : Mac w g b p s x) : g < w.heap.size := World.block_lt_of_cell? _ _ h.1.1
theorem Mac.only {w w' : World} {g : Nat} {b p : Int} {s : Value} {x : Int} {S : Nat → Prop} (h : Mac w g b p s x) (ho : Only w w' S) (hn : ¬ S g) : Mac w' g b p s x := by
  have hb := ho.block g h.lt hn
  have k : ∀ i, w'.cell? ⟨g, i, none⟩ = w.cell? ⟨g, i, none⟩ := fun i => World.cell?_of_block hb
  have q : ∀ i, w'.frozen? ⟨g, i, none⟩ = w.frozen? ⟨g, i, none⟩ := fun i => World.frozen?_of_block hb
  obtain ⟨⟨h0, h1, h2, h3⟩, f0, f1, f2, f3⟩ := h
  exact ⟨⟨by rw [k]; exact h0, by rw [k]; exact h1, by rw [k]; exact h2, by rw [k]; exact h3⟩, by rw [q]; exact f0, by rw [q]; exact f1, by rw [q]; exact f2, by rw [q]; exact f3⟩
theorem Mac.on {w w' : World} {g : Nat} {b p : Int} {s : Value} {x : Int} (h : Mac w g b p s x) (hb : Below w.heap.size w w') : Mac w' g b p s x := h.only (Only.new (S := fun _ => False) hb) (fun e => e)

set_option maxHeartbeats 1000000 in
set_option maxRecDepth 100000 in
theorem machineFor_yes (w : World) (b p : Int) (a : Option Addr) (n c : Nat) (S : Nat → ByteArray) (h : Strs w a n S) (hf : SFits n S) (hn : n ≤ 1048576) (hp : M.plan b p n S = true) (x : Int) (hx : 0 ≤ x ∧ x < p) :
    Calls Tryd.prog 39 #[.agg #[.int .i64 b, .int .i64 p, .slice a n c], .int .i64 x] w fun e w' => e = .returned (mac b p (.slice a n c) x) ∧ Below w.heap.size w w' := by
  obtain ⟨s1, s2, s3, s4⟩ := M.plan_shape hp
  have b0 := below_alloc0 w (.cells #[.int .i64 b, .int .i64 p, .slice a n c] 32)
  have b1 := sstep b0 (below_alloc0 _ (.cells #[.int .i64 0, .int .i64 0, .slice none 0 0, .int .i64 0] 61))
  have HL := Lib.hid (h.on b1)
  have bx := Lib.hid ((tri_made w (.int .i64 b) (.int .i64 p) (.slice a n c) 32).alloc (.cells #[.int .i64 0, .int .i64 0, .slice none 0 0, .int .i64 0] 61))
  have mx0 := mac_made (w.alloc (.cells #[.int .i64 b, .int .i64 p, .slice a n c] 32)) 0 0 (.slice none 0 0) 0 61
  rw [World.size_alloc] at mx0
  have mx := Lib.hid mx0
  clear mx0
  have B0 := Lib.hid b1
  have HF := Lib.hid hf
  have HP := Lib.hid hp
  have hd := Lib.hid (decide_eq_true hx)
  clear h hf hp b0 b1
  obtain ⟨⟨t0, t1, t2⟩, _⟩ := bx.out
  go_enter Tryd.func39, Tryd.ntmps39
  go_wp2_with fail
  refine (impl_PlanValid _ b p a n c S HL.out HF.out hn).mono ?_
  rw [HP.out]
  rintro e w1 ⟨rfl, hb1⟩
  have bx1 := Lib.hid (bx.out.on hb1)
  have mx1 := Lib.hid (mx.out.on hb1)
  have B1 := Lib.hid (sstep B0.out hb1)
  clear t0 t1 t2 bx mx B0 hb1
  obtain ⟨⟨t0, t1, t2⟩, _⟩ := bx1.out
  go_wp2_with fail
  refine (impl_hasPass _ b p _ x s3 s4).mono ?_
  rw [hd.out]
  rintro e w2 ⟨rfl, hb2⟩
  have bx2 := Lib.hid (bx1.out.on hb2)
  have mx2 := Lib.hid (mx1.out.on hb2)
  have B2 := Lib.hid (sstep B1.out hb2)
  clear t0 t1 t2 bx1 mx1 B1 hb2
  go_wp2_with fail
  refine (insist_yes _).mono ?_
  rintro e w3 ⟨rfl, rfl⟩
  obtain ⟨⟨t0, t1, t2⟩, _⟩ := bx2.out
  obtain ⟨⟨u0, u1, u2, u3⟩, v0, v1, v2, v3⟩ := mx2.out
  go_wp2
  exact bodyPost_ret (v := mac b p (.slice a n c) x) (by simp [mac, results, Tryd.results39, go_sem, u0, u1, u2, u3]) rfl ⟨rfl, (((B2.out.setCell (by simp) _).setCell (by simp) _).setCell (by simp) _).setCell (by simp) _⟩

set_option maxHeartbeats 1000000 in
set_option maxRecDepth 100000 in
theorem machineFor_no (w : World) (J : Addr) (hj : Jam w J) (b p : Int) (a : Option Addr) (n c : Nat) (S : Nat → ByteArray) (h : Strs w a n S) (hf : SFits n S) (hn : n ≤ 1048576) (x : Int) (hbad : ¬ (M.plan b p n S = true ∧ 0 ≤ x ∧ x < p)) :
    Calls Tryd.prog 39 #[.agg #[.int .i64 b, .int .i64 p, .slice a n c], .int .i64 x] w fun e w' => e = JamEnd J ∧ Below w.heap.size w w' := by
  have b0 := below_alloc0 w (.cells #[.int .i64 b, .int .i64 p, .slice a n c] 32)
  have b1 := sstep b0 (below_alloc0 _ (.cells #[.int .i64 0, .int .i64 0, .slice none 0 0, .int .i64 0] 61))
  have HL := Lib.hid (h.on b1)
  have HJ := Lib.hid (hj.on b1)
  have bx := Lib.hid ((tri_made w (.int .i64 b) (.int .i64 p) (.slice a n c) 32).alloc (.cells #[.int .i64 0, .int .i64 0, .slice none 0 0, .int .i64 0] 61))
  have B0 := Lib.hid b1
  have HF := Lib.hid hf
  clear h hf b0 b1 hj
  obtain ⟨⟨t0, t1, t2⟩, _⟩ := bx.out
  cases hp : M.plan b p n S
  · clear hbad
    go_enter Tryd.func39, Tryd.ntmps39
    go_wp2_with fail
    refine (impl_PlanValid _ b p a n c S HL.out HF.out hn).mono ?_
    rw [hp]
    rintro e w1 ⟨rfl, hb1⟩
    go_wp2_with fail
    refine (insist_no _ J (HJ.out.on hb1)).mono ?_
    rintro e w3 ⟨rfl, rfl⟩
    unfold JamEnd
    go_wp2
    exact ⟨rfl, rfl, sstep B0.out hb1⟩
  · obtain ⟨s1, s2, s3, s4⟩ := M.plan_shape hp
    have hd := Lib.hid (decide_eq_false (show ¬ (0 ≤ x ∧ x < p) from fun e => hbad ⟨hp, e⟩))
    have HP := Lib.hid hp
    clear hbad hp
    go_enter Tryd.func39, Tryd.ntmps39
    go_wp2_with fail
    refine (impl_PlanValid _ b p a n c S HL.out HF.out hn).mono ?_
    rw [HP.out]
    rintro e w1 ⟨rfl, hb1⟩
    have bx1 := Lib.hid (bx.out.on hb1)
    have B1 := Lib.hid (sstep B0.out hb1)
    have HJ1 := Lib.hid (HJ.out.on hb1)
    clear t0 t1 t2 bx B0 hb1
    obtain ⟨⟨t0, t1, t2⟩, _⟩ := bx1.out
    go_wp2_with fail
    refine (impl_hasPass _ b p _ x s3 s4).mono ?_
    rw [hd.out]
    rintro e w2 ⟨rfl, hb2⟩
    go_wp2_with fail
    refine (insist_no _ J (HJ1.out.on hb2)).mono ?_
    rintro e w3 ⟨rfl, rfl⟩
    unfold JamEnd
    go_wp2
    exact ⟨rfl, rfl, sstep B1.out hb2⟩

set_option maxHeartbeats 1000000 in
set_option maxRecDepth 100000 in
/-- The bin where a letter belongs. -/
theorem impl_binOf (w : World) (b p : Int) (a : Option Addr) (n c : Nat) (S : Nat → ByteArray) (h : Strs w a n S) (hn : n ≤ 1048576) (b0 : 2 ≤ b) (b1 : b ≤ 16) (x : Nat) (hx : x ≤ 3) (i : Int) (s : ByteArray) :
    Calls Tryd.prog 71 #[mac b p (.slice a n c) x, .agg #[.int .i64 i, .string s]] w fun e w' => e = .returned (.int .i64 (if M.rankTo S s n < 0 then -1 else M.rankBin b (M.rankTo S s n) x)) ∧ Below w.heap.size w w' := by
  have HL := Lib.hid (h.on (sstep (below_alloc0 w (.cells #[.int .i64 b, .int .i64 p, .slice a n c, .int .i64 x] 61)) (below_alloc0 _ (.cells #[.int .i64 i, .string s] 66))))
  have hr := M.rank_bd S s n
  have hS := Lib.hid (slices_Index · a n c S · hn s)
  obtain ⟨r, hr0⟩ : ∃ r, M.rankTo S s n = r := ⟨_, rfl⟩
  rw [hr0] at hr hS ⊢
  clear h hr0
  unfold mac
  by_cases h0 : r < 0
  · rw [if_pos h0]
    go_enter Tryd.func71, Tryd.ntmps71
    go_wp2_with fail
    refine (hS.out _ HL.out).mono ?_
    rintro e w1 ⟨rfl, rfl⟩
    go_wp2
    go_ret
    exact ⟨rfl, by go_grown⟩
  · rw [if_neg h0]
    have hR := Lib.hid (fun W => impl_rankBin W b p (.slice a n c) r x b0 b1 hx (by omega) (by omega))
    go_enter Tryd.func71, Tryd.ntmps71
    go_wp2_with fail
    refine (hS.out _ HL.out).mono ?_
    rintro e w1 ⟨rfl, rfl⟩
    go_wp2_with fail
    refine (hR.out _).mono ?_
    rintro e w2 ⟨rfl, hb2⟩
    go_wp2
    go_ret
    exact ⟨rfl, sstep (by go_grown) hb2⟩

/-- The bin by a key, or -1. -/
def binNo : Option Nat → Int
  | none => -1
  | some d => d
theorem binNo_key (b : Int) (n : Nat) (S C : Nat → ByteArray) (x k : Nat) (hb : 2 ≤ b) : (if M.rankTo S (C k) n < 0 then -1 else M.rankBin b (M.rankTo S (C k) n) x) = binNo (M.planKey b n S C x k) := by
  by_cases h : M.rankTo S (C k) n < 0
  · rw [if_pos h, M.planKey_none h]; rfl
  · rw [if_neg h, M.planKey_some (by omega)]
    have := M.rankBin_bd (b := b) (r := M.rankTo S (C k) n) (k := x) hb
    show _ = (((M.rankBin b (M.rankTo S (C k) n) x).toNat : Nat) : Int)
    omega

/-- Whether bins are those of a pass. -/
def binsOk (b : Int) (N : Nat) (MM : Nat → List (Int × ByteArray)) : Bool := decide ((N : Int) = b) && M.batch (M.flat MM N).length (nI (M.flat MM N)) (nC (M.flat MM N))

set_option maxHeartbeats 1000000 in
set_option maxRecDepth 100000 in
theorem impl_check (w : World) (J : Addr) (hj : Jam w J) (b p x : Int) (s : Value) (base : Nat) (v : Value) (N : Nat) (V : Nat → Value) (MM : Nat → List (Int × ByteArray)) (h : Mat w base v N V MM) (hN : N ≤ 1048576) (hl : (M.flat MM N).length ≤ 1048576) (hf : Fits (M.flat MM N).length (nI (M.flat MM N)) (nC (M.flat MM N))) (b1 : 0 ≤ b) (b2 : b ≤ 16) :
    Calls Tryd.prog 76 #[mac b p s x, v] w fun e w' => e = (if binsOk b N MM then .returned (.tuple #[]) else JamEnd J) ∧ Below w.heap.size w w' := by
  have b0 := below_alloc0 w (.cells #[.int .i64 b, .int .i64 p, s, .int .i64 x] 61)
  have HJ := Lib.hid (hj.on b0)
  have HM := Lib.hid (h.on b0)
  have B0 := Lib.hid b0
  have HF := Lib.hid hf
  obtain ⟨u, c, hv⟩ : ∃ u c, v = .slice u N c := by
    rcases h.form with ⟨rfl, rfl⟩ | ⟨g, c, rfl, _⟩
    · exact ⟨_, _, rfl⟩
    · exact ⟨_, _, rfl⟩
  subst hv
  clear h hj hf b0
  unfold mac
  by_cases hNb : (N : Int) = b
  · have hbq : ((N : Int) == b) = true := by simpa using hNb
    have hok : Hid (binsOk b N MM = M.batch (M.flat MM N).length (nI (M.flat MM N)) (nC (M.flat MM N))) := by unfold Hid binsOk; rw [decide_eq_true hNb, Bool.true_and]
    rw [hok.out]
    obtain ⟨L, hL⟩ : ∃ L, M.flat MM N = L := ⟨_, rfl⟩
    have HC : Hid (∀ W, Below w.heap.size w W → Mat W base (.slice u N c) N V MM → Calls Tryd.prog 63 #[.slice u N c] W (RowOut W L)) := fun W _ hW => by
      rw [← hL]
      exact slices_Concat W base _ N V MM hW hN hl
    rw [hL] at hl HF ⊢
    clear hL hNb hok
    cases hb : M.batch L.length (nI L) (nC L)
    all_goals
      have HB := Lib.hid hb
      clear hb
      go_enter Tryd.func76, Tryd.ntmps76
      go_wp2_with fail
      refine (HC.out _ B0.out HM.out).mono ?_
      rintro e w1 ⟨v1, rfl, r1, k1⟩
      obtain ⟨a1, c1, rfl, _, l1⟩ := r1.form
      go_wp2_with fail
      refine (impl_BatchValid _ a1 _ c1 _ _ l1 HF.out).mono ?_
      rw [HB.out]
      rintro e w2 ⟨rfl, k2⟩
      have HJ2 := Lib.hid ((HJ.out.on k1).on k2)
      have B2 := Lib.hid (sstep (sstep B0.out k1) k2)
      clear r1 l1 k1 k2
      go_wp2_with fail
    · refine (insist_no _ J HJ2.out).mono ?_
      rintro e w3 ⟨rfl, rfl⟩
      unfold JamEnd
      go_wp2
      exact ⟨rfl, rfl, B2.out⟩
    · refine (insist_yes _).mono ?_
      rintro e w3 ⟨rfl, rfl⟩
      go_wp2
      go_end0
      exact ⟨rfl, B2.out⟩
  · have hbq : ((N : Int) == b) = false := by simpa using hNb
    have hok : Hid (binsOk b N MM = false) := by unfold Hid binsOk; rw [decide_eq_false hNb, Bool.false_and]
    rw [hok.out]
    clear hNb hok
    go_enter Tryd.func76, Tryd.ntmps76
    go_wp2_with fail
    refine (insist_no _ J HJ.out).mono ?_
    rintro e w3 ⟨rfl, rfl⟩
    unfold JamEnd
    go_wp2
    exact ⟨rfl, rfl, B0.out⟩
end Go.Proofs.YtmjgblhihpbbdaaDoor
