/-
  What PlanPass leaves, in the program and in the model of the document.
-/
import Derived.Test.YthnaglnmmgpiaaaMgN5
import Derived.Test.YthnaglnmmgpiaaaOrd
import Derived.Test.YthnaglnmmgpiaaaMgN9
import Derived.WalkMore
import Derived.OwnWalk
namespace Go.Proofs.Ythnaglnmmgpiaaa
open Go.RowKit
open Go.PlainAid (bt get_bt bt_nonneg bt_le)

/-- Bins, letters that have none, and whether there are any. -/
def PassRes (w : World) (ok : Bool) (N : Nat) (MM : Nat → List (Int × ByteArray)) (LL : List (Int × ByteArray)) (e : Ending) (w' : World) : Prop :=
  ∃ (v : Value) (V : Nat → Value) (u : Value), e = .returned (.tuple #[v, u, .bool ok]) ∧ Mat w' w.heap.size v N V MM ∧ Row w' w.heap.size u LL ∧ (∀ k, u.ownBlock = some k → ¬ inM v N V k) ∧ Below w.heap.size w w'

theorem triOnly {w w' : World} {b : Nat} {x y z : Value} {S : Nat → Prop} (h : Tri w b x y z) (ho : Only w w' S) (hn : ¬ S b) : Tri w' b x y z := by
  have hlt := h.lt
  obtain ⟨⟨h0, h1, h2⟩, f0, f1, f2⟩ := h
  have hb := ho.block b hlt hn
  have k : ∀ i, w'.cell? ⟨b, i, none⟩ = w.cell? ⟨b, i, none⟩ := fun i => World.cell?_of_block hb
  have q : ∀ i, w'.frozen? ⟨b, i, none⟩ = w.frozen? ⟨b, i, none⟩ := fun i => World.frozen?_of_block hb
  exact ⟨⟨by rw [k]; exact h0, by rw [k]; exact h1, by rw [k]; exact h2⟩, by rw [q]; exact f0, by rw [q]; exact f1, by rw [q]; exact f2⟩
theorem strsOnly {w w' : World} {a : Option Addr} {n : Nat} {S : Nat → ByteArray} {T : Nat → Prop} (h : Strs w a n S) (ho : Only w w' T) (hn : ∀ b o, a = some ⟨b, o, none⟩ → 0 < n → ¬ T b) : Strs w' a n S := by
  intro i hi
  obtain ⟨b, o, e, h1⟩ := h i hi
  have hl := h.lt e (by omega)
  exact ⟨b, o, e, (World.cell?_of_block (ho.block b hl (hn b o e (by omega)))).trans h1⟩

set_option maxHeartbeats 4000000 in
set_option maxRecDepth 100000 in
theorem impl_PlanPass_yes (w : World) (b p : Int) (a : Option Addr) (n c : Nat) (S : Nat → ByteArray) (h : Strs w a n S) (hf : SFits n S) (hn : n ≤ 1048576) (a2 : Option Addr) (m c2 : Nat) (I : Nat → Int) (C : Nat → ByteArray) (h2 : Lts w a2 m I C) (hf2 : Fits m I C)
    (hp : M.plan b p n S = true) (hb : M.batch m I C = true) (x : Nat) (hx : (x : Int) < p) :
    Calls Try.prog 31 #[.agg #[.int .i64 b, .int .i64 p, .slice a n c], .slice a2 m c2, .int .i64 x] w
      (PassRes w true b.toNat (M.binTo (M.planKey b n S C x) I C m) (M.restTo (M.planKey b n S C x) I C m)) := by
  obtain ⟨s1, s2, s3, s4⟩ := M.plan_shape hp
  obtain ⟨B, rfl⟩ := Int.eq_ofNat_of_zero_le (show 0 ≤ b by omega)
  rw [Int.toNat_natCast]
  have hm60 := (M.batch_yes hb).1
  have HP := Lib.hid hp
  have HB := Lib.hid hb
  have HL := Lib.hid (h.on (below_alloc0 w (.cells #[.int .i64 (B : Int), .int .i64 p, .slice a n c] 25)))
  have HL2 := Lib.hid (h2.on (below_alloc0 w (.cells #[.int .i64 (B : Int), .int .i64 p, .slice a n c] 25)))
  have bx := Lib.hid (tri_made w (.int .i64 (B : Int)) (.int .i64 p) (.slice a n c) 25)
  have b0 := below_alloc0 w (.cells #[.int .i64 (B : Int), .int .i64 p, .slice a n c] 25)
  have B0 := Lib.hid b0
  have HF := Lib.hid hf
  have HF2 := Lib.hid hf2
  have ha2 : Hid (∀ b' o', a2 = some ⟨b', o', none⟩ → 0 < m → b' < w.heap.size) := fun b' o' e h0 => h2.lt e h0
  have ha1 : Hid (∀ b' o', a = some ⟨b', o', none⟩ → 0 < n → b' < w.heap.size) := fun b' o' e h0 => h.lt e h0
  have hwi := Lib.hid (decide_eq_true (show (0 : Int) ≤ (x : Int) ∧ (x : Int) < p from by omega))
  obtain ⟨CC, hCC⟩ : ∃ CC, madeCells #[Value.slice none 0 0] B = CC := ⟨_, rfl⟩
  have hmm := fun W => mat_made W B (by omega) 77 Try.underlying77 .i64 .i64
  rw [hCC] at hmm
  have hmk : ∀ W : World, (Instr.makeSlice 77 (.int .i64 (B : Int)) (.int .i64 (B : Int))).run Try.prog W = .ok (.slice (some ⟨W.heap.size, 0, none⟩) B B) (W.alloc (.cells CC 30)) := fun W => (hmm W).1
  have hmt := Lib.hid (fun W => (hmm W).2)
  clear h hf h2 hf2 hp hb b0 hmm hCC
  go_enter Try.func31, Try.ntmps31
  go_wp2_with fail
  apply wp_scope_straight
  go_wp2_with fail
  refine (impl_PlanValid _ (B : Int) p a n c S HL.out HF.out hn).mono ?_
  rw [HP.out]
  rintro e w1 ⟨rfl, hb1⟩
  have bx1 := Lib.hid (bx.out.on hb1)
  obtain ⟨⟨t0, t1, t2⟩, _⟩ := bx1.out
  go_wp2_with fail
  refine (impl_BatchValid _ a2 m c2 I C (HL2.out.on hb1) HF2.out).mono ?_
  rw [HB.out]
  rintro e w2 ⟨rfl, hb2⟩
  have bx2 := Lib.hid (bx1.out.on hb2)
  clear t0 t1 t2
  obtain ⟨⟨t0, t1, t2⟩, _⟩ := bx2.out
  go_wp2_with fail
  refine (impl_hasPass _ (B : Int) p _ x s3 s4).mono ?_
  rw [hwi.out]
  rintro e w3 ⟨rfl, hb3⟩
  have k13 := (hb1.trans (hb2.mono hb1.size)).trans (hb3.mono (Nat.le_trans hb1.size hb2.size))
  have bx3 := Lib.hid (bx2.out.on hb3)
  have HL3 := Lib.hid (HL.out.on k13)
  have HLL3 := Lib.hid (HL2.out.on k13)
  have B3 : Hid (Below w.heap.size w w3) := sstep B0.out k13
  clear t0 t1 t2 k13 hb1 hb2 hb3 bx bx1 bx2 HL HL2 B0
  have ba := below_alloc0 w3 (.cells CC 30)
  have bx4 := Lib.hid (bx3.out.on ba)
  have HL4 := Lib.hid (HL3.out.on ba)
  have HLL4 := Lib.hid (HLL3.out.on ba)
  have B4 := Lib.hid (sstep B3.out ba)
  have HM4 := Lib.hid (hmt.out w3)
  obtain ⟨⟨t0, t1, t2⟩, _⟩ := bx3.out
  have hz3 : w.heap.size < w3.heap.size := bx3.out.lt
  obtain ⟨W4, hW4⟩ : ∃ W4, w3.alloc (.cells CC 30) = W4 := ⟨_, rfl⟩
  have hz4 : W4.heap.size = w3.heap.size + 1 := by rw [← hW4]; simp
  rw [hW4] at bx4 HL4 HLL4 B4 HM4
  have HW4 := Lib.hid hW4
  have HZ4 := Lib.hid hz4
  clear ba hW4 hmt HL3 HLL3 B3 hz4
  go_wp2
  go_step3
  go_wp2
  rw [HW4.out]
  go_loopw [10, 34] (fun q i wr => ∃ (k : Nat) (V : Nat → Value), k ≤ m ∧ i = .int .i64 k ∧ Hid (Mat wr w3.heap.size (.slice (some ⟨w3.heap.size, 0, none⟩) B B) B V (M.binTo (M.planKey B n S C x) I C k)) ∧ Hid (Row wr w3.heap.size q (M.restTo (M.planKey B n S C x) I C k)) ∧ Hid (∀ g, q.ownBlock = some g → ¬ inM (.slice (some ⟨w3.heap.size, 0, none⟩) B B) B V g) ∧ Hid (Lts wr a2 m I C) ∧ Hid (Strs wr a n S) ∧ Hid (Tri wr w.heap.size (.int .i64 (B : Int)) (.int .i64 p) (.slice a n c)) ∧ Hid (Below w.heap.size w wr) ∧ w3.heap.size < wr.heap.size) (fun _ i _ => m - (intOf i).toNat)
  case atStart => exact ⟨0, _, Nat.zero_le _, rfl, HM4, Row.nil _ _, (fun g e => by cases e), HLL4, HL4, bx4, B4, by have := HZ4.out; omega⟩
  case round =>
    obtain ⟨k, V, hk, rfl, hm, hr, hap, hl, hs, ht, hbw, hz⟩ := hrel
    by_cases hlt : k < m
    · obtain ⟨b1, o1, rfl, c0, c1⟩ := hl.out k hlt
      clear t0 t1 t2
      obtain ⟨⟨t0, t1, t2⟩, _⟩ := ht.out
      have hzl : w.heap.size < wr.heap.size := ht.out.lt
      go_wp2
      go_loop [41] (fun i => ∃ j : Nat, j ≤ n ∧ i = .int .i64 j ∧ Hid (∀ q, q < j → S q ≠ C k)) (fun i => n - (intOf i).toNat)
      case atStart => exact ⟨0, Nat.zero_le _, rfl, fun q hq => absurd hq (by omega)⟩
      case round =>
        obtain ⟨j, hj, rfl, hno⟩ := hrel
        by_cases hlj : j < n
        · obtain ⟨b3, o3, rfl, c3⟩ := hs.out j hlj
          have hb3 : b3 < wr.heap.size := hs.out.lt rfl (by omega)
          by_cases he : S j = C k
          · have hd : ((S j).toList == (C k).toList) = true := by rw [he]; simp
            have hrk := M.rank_hit hlj he hno.out
            have hrb := M.rankBin_bd (b := (B : Int)) (r := (j : Int)) (k := x) s1
            obtain ⟨d, hd'⟩ := Int.eq_ofNat_of_zero_le hrb.1
            have hdB : d < B := by omega
            have hkey : M.planKey B n S C x k = some d := by rw [M.planKey_some (by omega), hrk, hd', Int.toNat_natCast]
            have HK := Lib.hid (M.binTo_some hkey I C)
            have HR := Lib.hid (M.restTo_some hkey I C)
            have HLN := Lib.hid (M.binTo_len (M.planKey B n S C x) I C k d)
            have hRB := Lib.hid (fun W => impl_rankBin W (B : Int) p (.slice (some ⟨b3, o3, none⟩) n c) j x s1 s2 (by omega) (by omega) (by omega))
            have HD := Lib.hid hd'
            clear he hrk hrb hd' hkey hno
            go_wp2
            go_region_with (first
              | (go_at_call 53; refine (hRB.out _).mono ?_; rw [HD.out]; rintro e wb ⟨rfl, hbb⟩; have q0 : wb.cell? ⟨wr.heap.size, 0, none⟩ = some (.int .i64 (I k)) := (by rw [hbb.cell (by simp)]; simp); have q1 : wb.cell? ⟨wr.heap.size, 1, none⟩ = some (.string (C k)) := (by rw [hbb.cell (by simp)]; simp); have k5 : Below wr.heap.size wr wb := Below.trans (by go_grown) (hbb.mono (by simp)); have K5 := Lib.hid k5; clear hbb k5)
              | (go_at_call 52; refine (put_any _ w3.heap.size w3.heap.size B B V (M.binTo (M.planKey B n S C x) I C k) (hm.out.on K5.out) (by have := K5.out.size; omega) d hdB (I k) (C k) (by have := HLN.out; omega)).mono ?_; rintro e wp ⟨X, rfl, hp1, hp2, hp3⟩; have op : Only wr wp (inM (.slice (some ⟨w3.heap.size, 0, none⟩) B B) B V) := (Only.new K5.out).trans hp2 (fun _ _ h => h); have HM2 := Lib.hid hp1; have HX := Lib.hid hp3; have OP := Lib.hid op; have HZ2 := op.size; have HZ3 := K5.out.size; clear hp1 hp2 hp3 op))
            all_goals
              have Q2 : Hid (∀ g, u10.ownBlock = some g → ¬ inM (.slice (some ⟨w3.heap.size, 0, none⟩) B B) B (upd V d X) g) := by
                intro g eg hg
                rcases inM_put hdB HX.out hg with h1 | h1
                · exact hap.out g eg h1
                · have := (hr.out.lt g eg).2
                  omega
              have Q1 := Lib.hid (hr.out.only OP.out (fun g e h => hap.out g e h))
              have Q3 := Lib.hid (hl.out.only OP.out (fun b' o' e h0 hbad => by have := (hm.out.lt hbad).1; have := ha2.out _ _ e h0; omega))
              have Q4 := Lib.hid (strsOnly hs.out OP.out (fun b' o' e h0 hbad => by have := (hm.out.lt hbad).1; have := ha1.out _ _ e h0; omega))
              have Q5 := Lib.hid (triOnly ht.out OP.out (fun hbad => by have := (hm.out.lt hbad).1; omega))
              have Q6 := Lib.hid (below_only hbw.out hm.out (by omega) OP.out)
              go_wp2
              go_roundw
              case rel => exact ⟨k + 1, upd V d X, by omega, by go_num, by rw [HK.out]; exact HM2.out, by rw [HR.out]; exact Q1, Q2, Q3, Q4, Q5, Q6, by omega⟩
              case measure => simp [intOf]; omega
          · have hd : ((S j).toList == (C k).toList) = false := neq_list0 he
            have HE := Lib.hid he
            clear he
            go_wp2
            go_round
            case rel => exact ⟨j + 1, by omega, by go_num, fun q hq => by by_cases e : q = j; (subst e; exact HE.out); exact hno.out q (by omega)⟩
            case measure => simp [intOf]; omega
        · obtain rfl : j = n := by omega
          have hrk := M.rank_miss hno.out
          have hkey : M.planKey B j S C x k = none := M.planKey_none (by omega)
          have HK := Lib.hid (M.binTo_none hkey I C)
          have HR := Lib.hid (M.restTo_none hkey I C)
          have HLN := M.restTo_len (M.planKey B j S C x) I C k
          clear hrk hkey hno
          go_wp2_with (at_builtin; refine wpList_append_letter _ rfl _ _ rfl w3.heap.size u10 _ rfl ((hr.out.alloc _).alloc _) _ (I k) (C k) rfl ?_ (by omega) (by simp; omega) ?_)
          · intro v' w5 hr5 hg5 ho5
            have op : Only wr w5 (fun g => some g = u10.ownBlock) := (Only.new (by go_grown)).trans (Only.of_grown hg5) (fun _ _ h => h)
            have lr := hr.out.lt
            have Q1 := Lib.hid (hm.out.only op (fun g hg e => hap.out g e.symm hg))
            have Q2 : Hid (∀ g, v'.ownBlock = some g → ¬ inM (.slice (some ⟨w3.heap.size, 0, none⟩) B B) B V g) := by
              intro g eg hg
              rcases ho5 with e | e
              · exact hap.out g (e ▸ eg) hg
              · rw [e] at eg
                have e2 := Option.some.inj eg
                try simp only [World.size_alloc] at e2
                have := (hm.out.lt hg).2
                omega
            have Q3 := Lib.hid (hl.out.only op (fun b' o' e h0 hbad => by have := (lr _ hbad.symm).1; have := ha2.out _ _ e h0; omega))
            have Q4 := Lib.hid (strsOnly hs.out op (fun b' o' e h0 hbad => by have := (lr _ hbad.symm).1; have := ha1.out _ _ e h0; omega))
            have Q5 := Lib.hid (triOnly ht.out op (fun hbad => by have := (lr _ hbad.symm).1; omega))
            have Q6 : Hid (Below w.heap.size w w5) := hbw.out.trans (op.below (B := w.heap.size) (fun g hg _ hbad => by have := (lr _ hbad.symm).1; omega) (by omega))
            have Q7 := op.size
            have R5 := Lib.hid hr5
            clear hr5 hg5 ho5 op lr
            go_wp2
            go_roundw
            case rel => exact ⟨k + 1, V, by omega, by go_num, by rw [HK.out]; exact Q1, by rw [HR.out]; exact R5, Q2, Q3, Q4, Q5, Q6, by omega⟩
            case measure => simp [intOf]; omega
    · obtain rfl : k = m := by omega
      clear t0 t1 t2
      go_wp2
      go_ret3
      exact ⟨_, V, _, rfl, hm.out.lower (by omega), hr.out.lower (by omega), hap.out, hbw.out⟩
end Go.Proofs.Ythnaglnmmgpiaaa
