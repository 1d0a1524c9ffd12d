/-
  What putInto leaves: each letter behind those in its bin, and the letters that have none.
-/
import Derived.Test.YtnaghfppeejaoaaDoorJamA
import Derived.Test.YtnaghfppeejaoaaDoorMisA
namespace Go.Proofs.YtnaghfppeejaoaaDoor
open Go.RowKit
open Go.PlainAid (bt get_bt bt_nonneg bt_le)
set_option linter.unusedVariables false

/-- Bins with more letters behind. -/
def addTo (M0 B : Nat → List (Int × ByteArray)) : Nat → List (Int × ByteArray) := fun d => M0 d ++ B d
theorem addTo_upd (M0 B : Nat → List (Int × ByteArray)) (d : Nat) (x : Int × ByteArray) : upd (addTo M0 B) d (addTo M0 B d ++ [x]) = addTo M0 (upd B d (B d ++ [x])) := by
  funext q
  show (if q = d then addTo M0 B d ++ [x] else addTo M0 B q) = M0 q ++ (if q = d then B d ++ [x] else B q)
  by_cases e : q = d
  · subst e
    rw [if_pos rfl, if_pos rfl]
    exact List.append_assoc _ _ _
  · rw [if_neg e, if_neg e]; rfl
theorem addTo_nil (M0 : Nat → List (Int × ByteArray)) : addTo M0 (fun _ => []) = M0 := by
  funext q
  exact List.append_nil _
/-- What putInto leaves of the bins, and the rest. -/
def PutInto (w : World) (base G c N : Nat) (MM : Nat → List (Int × ByteArray)) (LL : List (Int × ByteArray)) (e : Ending) (w' : World) : Prop :=
  ∃ (V : Nat → Value) (u : Value), e = .returned u ∧ Mat w' base (.slice (some ⟨G, 0, none⟩) N c) N V MM ∧ Row w' w.heap.size u LL ∧ (∀ k, u.ownBlock = some k → ¬ inM (.slice (some ⟨G, 0, none⟩) N c) N V k) ∧ Below base w w' ∧ w.heap.size ≤ w'.heap.size

set_option maxHeartbeats 4000000 in
set_option maxRecDepth 100000 in
theorem putInto_sort (w : World) (Q B : Nat) (base G c N : Nat) (V0 : Nat → Value) (M0 : Nat → List (Int × ByteArray)) (h : Mat w base (.slice (some ⟨G, 0, none⟩) N c) N V0 M0) (hb0 : base ≤ w.heap.size) (hM0 : ∀ d, d < N → (M0 d).length ≤ 1000)
    (a2 : Option Addr) (m c2 : Nat) (I : Nat → Int) (C : Nat → ByteArray) (h2 : Lts w a2 m I C) (hm : m ≤ 60) (hap2 : ∀ g o, a2 = some ⟨g, o, none⟩ → 0 < m → ¬ inM (.slice (some ⟨G, 0, none⟩) N c) N V0 g)
    (key : Nat → Option Nat) (hkey : ∀ k, k < m → ∀ d, key k = some d → d < N) (hN : N ≤ 60)
    (HC0 : ∀ W, Below base w W → ∀ k, k < m → Calls Tryd.prog 96 #[.agg #[.int .i64 (I k), .string (C k)], .pointer (some ⟨Q, 0, none⟩), .pointer (some ⟨B, 0, none⟩)] W fun e w' => e = .returned (.int .i64 (binNo (key k))) ∧ Below W.heap.size W w') :
    Calls Tryd.prog 95 #[.slice (some ⟨G, 0, none⟩) N c, .slice a2 m c2, .func (.func 96) #[] #[.pointer (some ⟨Q, 0, none⟩), .pointer (some ⟨B, 0, none⟩)]] w (PutInto w base G c N (addTo M0 (M.binTo key I C m)) (M.restTo key I C m)) := by
  have HM := Lib.hid h
  have HL := Lib.hid h2
  have HC := Lib.hid HC0
  have HK := Lib.hid hkey
  have HM0 := Lib.hid hM0
  have HAP := Lib.hid (show ∀ g o, a2 = some ⟨g, o, none⟩ → 0 < m → g < w.heap.size ∧ ¬ inM (.slice (some ⟨G, 0, none⟩) N c) N V0 g from fun g o e h0 => ⟨h2.lt e h0, hap2 g o e h0⟩)
  have HZ : Hid (addTo M0 (M.binTo key I C 0) = M0) := addTo_nil M0
  clear h h2 hap2 HC0 hkey hM0
  go_enter Tryd.func95, Tryd.ntmps95
  go_wp2
  go_loopw [7, 13] (fun q i wr => ∃ (k : Nat) (V : Nat → Value), k ≤ m ∧ i = .int .i64 k ∧ Hid (Mat wr base (.slice (some ⟨G, 0, none⟩) N c) N V (addTo M0 (M.binTo key I C k))) ∧ Hid (Row wr w.heap.size q (M.restTo key I C k)) ∧ Hid (∀ g, q.ownBlock = some g → ¬ inM (.slice (some ⟨G, 0, none⟩) N c) N V g) ∧ Hid (∀ g o, a2 = some ⟨g, o, none⟩ → 0 < m → g < w.heap.size ∧ ¬ inM (.slice (some ⟨G, 0, none⟩) N c) N V g) ∧ Hid (Lts wr a2 m I C) ∧ Hid (Below base w wr) ∧ w.heap.size ≤ wr.heap.size) (fun _ i _ => m - (intOf i).toNat)
  case atStart => exact ⟨0, V0, Nat.zero_le _, rfl, by rw [HZ.out]; exact HM.out, Row.nil _ _, (fun g e => by cases e), HAP.out, HL.out, Below.refl _ _, Nat.le_refl _⟩
  case round =>
    obtain ⟨k, V, hk, rfl, hmt, hr, hap, hap2, hl, hbw, hzw⟩ := hrel
    by_cases hlt : k < m
    · obtain ⟨b1, o1, rfl, c0, c1⟩ := hl.out k hlt
      have hCk := Lib.hid (fun W hW => HC.out W hW k hlt)
      have hKd := Lib.hid (HK.out k hlt)
      have hbA : Hid (Below base w (wr.alloc (.cells #[.int .i64 (I k), .string (C k)] 37))) := hbw.out.alloc (by omega) _
      cases hkk : key k with
      | none =>
        have hB := Lib.hid (M.binTo_none hkk I C)
        have hR := Lib.hid (M.restTo_none hkk I C)
        have hLN := M.restTo_len key I C k
        have hcc : Hid (∀ W, Below base w W → Calls Tryd.prog 96 #[.agg #[.int .i64 (I k), .string (C k)], .pointer (some ⟨Q, 0, none⟩), .pointer (some ⟨B, 0, none⟩)] W fun e w' => e = .returned (.int .i64 (-1)) ∧ Below W.heap.size W w') := fun W hW => by
          have := hCk.out W hW
          rw [hkk] at this
          exact this
        clear hkk hCk hKd
        go_wp2_with fail
        refine (hcc.out _ hbA.out).mono ?_
        rintro e wb ⟨rfl, hbb⟩
        have q0 : wb.cell? ⟨wr.heap.size, 0, none⟩ = some (.int .i64 (I k)) := by rw [hbb.cell (by simp)]; simp
        have q1 : wb.cell? ⟨wr.heap.size, 1, none⟩ = some (.string (C k)) := by rw [hbb.cell (by simp)]; simp
        have k5 : Below wr.heap.size wr wb := Below.trans (by go_grown) (hbb.mono (by simp))
        have K5 := Lib.hid k5
        have HZ5 := k5.size
        have hr5 := Lib.hid (hr.out.on k5)
        clear hbb k5 c0 c1
        go_wp2_with (at_builtin; refine wpList_append_letter _ rfl _ _ rfl w.heap.size u7 _ rfl (hr5.out.alloc _) _ (I k) (C k) rfl ?_ (by omega) (by simp; omega) ?_)
        · simp [go_sem]
        · intro v' w5 hrw hg5 ho5
          have op : Only wr w5 (fun g => some g = u7.ownBlock) := (Only.new (sstep K5.out (below_alloc0 _ _))).trans (Only.of_grown hg5) (fun _ _ h => h)
          have lr := hr.out.lt
          have Q1 := Lib.hid (hmt.out.only op (fun g hg e => hap.out g e.symm hg))
          have Q2 : Hid (∀ g, v'.ownBlock = some g → ¬ inM (.slice (some ⟨G, 0, none⟩) N c) N V g) := by
            intro g eg hg
            rcases ho5 with e | e
            · exact hap.out g (e ▸ eg) hg
            · rw [e] at eg
              have e2 := Option.some.inj eg
              try simp only [World.size_alloc] at e2
              have := (hmt.out.lt hg).2
              omega
          have Q3 := Lib.hid (hl.out.only op (fun b' o' e h0 hbad => by have := (lr _ hbad.symm).1; have := (hap2.out _ _ e h0).1; omega))
          have Q6 : Hid (Below base w w5) := hbw.out.trans (op.below (B := base) (fun g hg _ hbad => by have := (lr _ hbad.symm).1; omega) (by omega))
          have Q7 := op.size
          have R5 : Hid (Row w5 w.heap.size v' (M.restTo key I C (k + 1))) := by unfold Hid; rw [hR.out]; exact hrw
          have M5 : Hid (Mat w5 base (.slice (some ⟨G, 0, none⟩) N c) N V (addTo M0 (M.binTo key I C (k + 1)))) := by unfold Hid; rw [hB.out]; exact Q1.out
          clear hrw hg5 ho5 op lr
          go_wp2
          go_roundw
          case rel => exact ⟨k + 1, V, by omega, by go_num, M5.out, R5.out, Q2.out, hap2.out, Q3.out, Q6.out, by omega⟩
          case measure => simp [intOf]; omega
      | some d =>
        have hB : Hid (M.binTo key I C (k + 1) = upd (M.binTo key I C k) d (M.binTo key I C k d ++ [(I k, C k)])) := M.binTo_some hkk I C
        have hR := Lib.hid (M.restTo_some hkk I C)
        have hLN := M.binTo_len key I C k d
        have hdN := hKd.out d hkk
        have hLd : (addTo M0 (M.binTo key I C k) d).length ≤ 1048576 := by
          have := HM0.out d hdN
          unfold addTo
          rw [List.length_append]
          omega
        have HU := Lib.hid (addTo_upd M0 (M.binTo key I C k) d (I k, C k))
        have hcc : Hid (∀ W, Below base w W → Calls Tryd.prog 96 #[.agg #[.int .i64 (I k), .string (C k)], .pointer (some ⟨Q, 0, none⟩), .pointer (some ⟨B, 0, none⟩)] W fun e w' => e = .returned (.int .i64 (d : Int)) ∧ Below W.heap.size W w') := fun W hW => by
          have := hCk.out W hW
          rw [hkk] at this
          exact this
        clear hkk hCk hKd
        go_wp2_with fail
        refine (hcc.out _ hbA.out).mono ?_
        rintro e wb ⟨rfl, hbb⟩
        have q0 : wb.cell? ⟨wr.heap.size, 0, none⟩ = some (.int .i64 (I k)) := by rw [hbb.cell (by simp)]; simp
        have q1 : wb.cell? ⟨wr.heap.size, 1, none⟩ = some (.string (C k)) := by rw [hbb.cell (by simp)]; simp
        have k5 : Below wr.heap.size wr wb := Below.trans (by go_grown) (hbb.mono (by simp))
        have K5 := Lib.hid k5
        have HZ5 := k5.size
        clear hbb k5 c0 c1
        go_wp2_with fail
        refine (put_any _ base G c N V (addTo M0 (M.binTo key I C k)) (hmt.out.on K5.out) (by omega) d hdN (I k) (C k) hLd).mono ?_
        rintro e wp ⟨X, rfl, hp1, hp2, hp3⟩
        have op : Only wr wp (inM (.slice (some ⟨G, 0, none⟩) N c) N V) := (Only.new K5.out).trans hp2 (fun _ _ h => h)
        rw [HU.out, ← hB.out] at hp1
        have HM2 := Lib.hid hp1
        have HX := Lib.hid hp3
        have OP := Lib.hid op
        have HZ2 := op.size
        clear hp1 hp2 hp3 op
        have Q2 : Hid (∀ g, u7.ownBlock = some g → ¬ inM (.slice (some ⟨G, 0, none⟩) N c) N (upd V d X) g) := by
          intro g eg hg
          rcases inM_put hdN HX.out hg with h1 | h1
          · exact hap.out g eg h1
          · have := (hr.out.lt g eg).2
            omega
        have Q1 : Hid (Row wp w.heap.size u7 (M.restTo key I C (k + 1))) := by unfold Hid; rw [hR.out]; exact hr.out.only OP.out (fun g e h => hap.out g e h)
        have Q3 := Lib.hid (hl.out.only OP.out (fun b' o' e h0 hbad => (hap2.out _ _ e h0).2 hbad))
        have Q4 : Hid (∀ g o, (some ⟨b1, o1, none⟩ : Option Addr) = some ⟨g, o, none⟩ → 0 < m → g < w.heap.size ∧ ¬ inM (.slice (some ⟨G, 0, none⟩) N c) N (upd V d X) g) := fun g o e h0 => by
          obtain ⟨h1, h2⟩ := hap2.out g o e h0
          refine ⟨h1, fun hg => ?_⟩
          rcases inM_put hdN HX.out hg with h3 | h3
          · exact h2 h3
          · omega
        have Q6 : Hid (Below base w wp) := hbw.out.trans (OP.out.below (B := base) (fun g hg _ hbad => by have := (hmt.out.lt hbad).1; omega) (by omega))
        go_wp2
        go_roundw
        case rel => exact ⟨k + 1, upd V d X, by omega, by go_num, HM2.out, Q1.out, Q2.out, Q4.out, Q3.out, Q6.out, by omega⟩
        case measure => simp [intOf]; omega
    · obtain rfl : k = m := by omega
      go_wp2
      go_ret
      exact ⟨V, _, rfl, hmt.out, hr.out, hap.out, hbw.out, hzw⟩

set_option maxHeartbeats 4000000 in
set_option maxRecDepth 100000 in
theorem putInto_bin (w : World) (b p x : Int) (s : Value) (base G c N : Nat) (V0 : Nat → Value) (M0 : Nat → List (Int × ByteArray)) (h : Mat w base (.slice (some ⟨G, 0, none⟩) N c) N V0 M0) (hb0 : base ≤ w.heap.size) (hM0 : ∀ d, d < N → (M0 d).length ≤ 1000)
    (a2 : Option Addr) (m c2 : Nat) (I : Nat → Int) (C : Nat → ByteArray) (h2 : Lts w a2 m I C) (hm : m ≤ 60) (hap2 : ∀ g o, a2 = some ⟨g, o, none⟩ → 0 < m → ¬ inM (.slice (some ⟨G, 0, none⟩) N c) N V0 g)
    (key : Nat → Option Nat) (hkey : ∀ k, k < m → ∀ d, key k = some d → d < N) (hN : N ≤ 60)
    (HC0 : ∀ W, Below base w W → ∀ k, k < m → Calls Tryd.prog 97 #[mac b p s x, .agg #[.int .i64 (I k), .string (C k)]] W fun e w' => e = .returned (.int .i64 (binNo (key k))) ∧ Below W.heap.size W w') :
    Calls Tryd.prog 95 #[.slice (some ⟨G, 0, none⟩) N c, .slice a2 m c2, .func (.func 97) #[mac b p s x] #[]] w (PutInto w base G c N (addTo M0 (M.binTo key I C m)) (M.restTo key I C m)) := by
  have HM := Lib.hid h
  have HL := Lib.hid h2
  have HC := Lib.hid HC0
  have HK := Lib.hid hkey
  have HM0 := Lib.hid hM0
  have HAP := Lib.hid (show ∀ g o, a2 = some ⟨g, o, none⟩ → 0 < m → g < w.heap.size ∧ ¬ inM (.slice (some ⟨G, 0, none⟩) N c) N V0 g from fun g o e h0 => ⟨h2.lt e h0, hap2 g o e h0⟩)
  have HZ : Hid (addTo M0 (M.binTo key I C 0) = M0) := addTo_nil M0
  clear h h2 hap2 HC0 hkey hM0
  go_enter Tryd.func95, Tryd.ntmps95
  go_wp2
  go_loopw [7, 13] (fun q i wr => ∃ (k : Nat) (V : Nat → Value), k ≤ m ∧ i = .int .i64 k ∧ Hid (Mat wr base (.slice (some ⟨G, 0, none⟩) N c) N V (addTo M0 (M.binTo key I C k))) ∧ Hid (Row wr w.heap.size q (M.restTo key I C k)) ∧ Hid (∀ g, q.ownBlock = some g → ¬ inM (.slice (some ⟨G, 0, none⟩) N c) N V g) ∧ Hid (∀ g o, a2 = some ⟨g, o, none⟩ → 0 < m → g < w.heap.size ∧ ¬ inM (.slice (some ⟨G, 0, none⟩) N c) N V g) ∧ Hid (Lts wr a2 m I C) ∧ Hid (Below base w wr) ∧ w.heap.size ≤ wr.heap.size) (fun _ i _ => m - (intOf i).toNat)
  case atStart => exact ⟨0, V0, Nat.zero_le _, rfl, by rw [HZ.out]; exact HM.out, Row.nil _ _, (fun g e => by cases e), HAP.out, HL.out, Below.refl _ _, Nat.le_refl _⟩
  case round =>
    obtain ⟨k, V, hk, rfl, hmt, hr, hap, hap2, hl, hbw, hzw⟩ := hrel
    by_cases hlt : k < m
    · obtain ⟨b1, o1, rfl, c0, c1⟩ := hl.out k hlt
      have hCk := Lib.hid (fun W hW => HC.out W hW k hlt)
      have hKd := Lib.hid (HK.out k hlt)
      have hbA : Hid (Below base w (wr.alloc (.cells #[.int .i64 (I k), .string (C k)] 37))) := hbw.out.alloc (by omega) _
      cases hkk : key k with
      | none =>
        have hB := Lib.hid (M.binTo_none hkk I C)
        have hR := Lib.hid (M.restTo_none hkk I C)
        have hLN := M.restTo_len key I C k
        have hcc : Hid (∀ W, Below base w W → Calls Tryd.prog 97 #[mac b p s x, .agg #[.int .i64 (I k), .string (C k)]] W fun e w' => e = .returned (.int .i64 (-1)) ∧ Below W.heap.size W w') := fun W hW => by
          have := hCk.out W hW
          rw [hkk] at this
          exact this
        clear hkk hCk hKd
        go_wp2_with fail
        refine (hcc.out _ hbA.out).mono ?_
        rintro e wb ⟨rfl, hbb⟩
        have q0 : wb.cell? ⟨wr.heap.size, 0, none⟩ = some (.int .i64 (I k)) := by rw [hbb.cell (by simp)]; simp
        have q1 : wb.cell? ⟨wr.heap.size, 1, none⟩ = some (.string (C k)) := by rw [hbb.cell (by simp)]; simp
        have k5 : Below wr.heap.size wr wb := Below.trans (by go_grown) (hbb.mono (by simp))
        have K5 := Lib.hid k5
        have HZ5 := k5.size
        have hr5 := Lib.hid (hr.out.on k5)
        clear hbb k5 c0 c1
        go_wp2_with (at_builtin; refine wpList_append_letter _ rfl _ _ rfl w.heap.size u7 _ rfl (hr5.out.alloc _) _ (I k) (C k) rfl ?_ (by omega) (by simp; omega) ?_)
        · simp [go_sem]
        · intro v' w5 hrw hg5 ho5
          have op : Only wr w5 (fun g => some g = u7.ownBlock) := (Only.new (sstep K5.out (below_alloc0 _ _))).trans (Only.of_grown hg5) (fun _ _ h => h)
          have lr := hr.out.lt
          have Q1 := Lib.hid (hmt.out.only op (fun g hg e => hap.out g e.symm hg))
          have Q2 : Hid (∀ g, v'.ownBlock = some g → ¬ inM (.slice (some ⟨G, 0, none⟩) N c) N V g) := by
            intro g eg hg
            rcases ho5 with e | e
            · exact hap.out g (e ▸ eg) hg
            · rw [e] at eg
              have e2 := Option.some.inj eg
              try simp only [World.size_alloc] at e2
              have := (hmt.out.lt hg).2
              omega
          have Q3 := Lib.hid (hl.out.only op (fun b' o' e h0 hbad => by have := (lr _ hbad.symm).1; have := (hap2.out _ _ e h0).1; omega))
          have Q6 : Hid (Below base w w5) := hbw.out.trans (op.below (B := base) (fun g hg _ hbad => by have := (lr _ hbad.symm).1; omega) (by omega))
          have Q7 := op.size
          have R5 : Hid (Row w5 w.heap.size v' (M.restTo key I C (k + 1))) := by unfold Hid; rw [hR.out]; exact hrw
          have M5 : Hid (Mat w5 base (.slice (some ⟨G, 0, none⟩) N c) N V (addTo M0 (M.binTo key I C (k + 1)))) := by unfold Hid; rw [hB.out]; exact Q1.out
          clear hrw hg5 ho5 op lr
          go_wp2
          go_roundw
          case rel => exact ⟨k + 1, V, by omega, by go_num, M5.out, R5.out, Q2.out, hap2.out, Q3.out, Q6.out, by omega⟩
          case measure => simp [intOf]; omega
      | some d =>
        have hB : Hid (M.binTo key I C (k + 1) = upd (M.binTo key I C k) d (M.binTo key I C k d ++ [(I k, C k)])) := M.binTo_some hkk I C
        have hR := Lib.hid (M.restTo_some hkk I C)
        have hLN := M.binTo_len key I C k d
        have hdN := hKd.out d hkk
        have hLd : (addTo M0 (M.binTo key I C k) d).length ≤ 1048576 := by
          have := HM0.out d hdN
          unfold addTo
          rw [List.length_append]
          omega
        have HU := Lib.hid (addTo_upd M0 (M.binTo key I C k) d (I k, C k))
        have hcc : Hid (∀ W, Below base w W → Calls Tryd.prog 97 #[mac b p s x, .agg #[.int .i64 (I k), .string (C k)]] W fun e w' => e = .returned (.int .i64 (d : Int)) ∧ Below W.heap.size W w') := fun W hW => by
          have := hCk.out W hW
          rw [hkk] at this
          exact this
        clear hkk hCk hKd
        go_wp2_with fail
        refine (hcc.out _ hbA.out).mono ?_
        rintro e wb ⟨rfl, hbb⟩
        have q0 : wb.cell? ⟨wr.heap.size, 0, none⟩ = some (.int .i64 (I k)) := by rw [hbb.cell (by simp)]; simp
        have q1 : wb.cell? ⟨wr.heap.size, 1, none⟩ = some (.string (C k)) := by rw [hbb.cell (by simp)]; simp
        have k5 : Below wr.heap.size wr wb := Below.trans (by go_grown) (hbb.mono (by simp))
        have K5 := Lib.hid k5
        have HZ5 := k5.size
        clear hbb k5 c0 c1
        go_wp2_with fail
        refine (put_any _ base G c N V (addTo M0 (M.binTo key I C k)) (hmt.out.on K5.out) (by omega) d hdN (I k) (C k) hLd).mono ?_
        rintro e wp ⟨X, rfl, hp1, hp2, hp3⟩
        have op : Only wr wp (inM (.slice (some ⟨G, 0, none⟩) N c) N V) := (Only.new K5.out).trans hp2 (fun _ _ h => h)
        rw [HU.out, ← hB.out] at hp1
        have HM2 := Lib.hid hp1
        have HX := Lib.hid hp3
        have OP := Lib.hid op
        have HZ2 := op.size
        clear hp1 hp2 hp3 op
        have Q2 : Hid (∀ g, u7.ownBlock = some g → ¬ inM (.slice (some ⟨G, 0, none⟩) N c) N (upd V d X) g) := by
          intro g eg hg
          rcases inM_put hdN HX.out hg with h1 | h1
          · exact hap.out g eg h1
          · have := (hr.out.lt g eg).2
            omega
        have Q1 : Hid (Row wp w.heap.size u7 (M.restTo key I C (k + 1))) := by unfold Hid; rw [hR.out]; exact hr.out.only OP.out (fun g e h => hap.out g e h)
        have Q3 := Lib.hid (hl.out.only OP.out (fun b' o' e h0 hbad => (hap2.out _ _ e h0).2 hbad))
        have Q4 : Hid (∀ g o, (some ⟨b1, o1, none⟩ : Option Addr) = some ⟨g, o, none⟩ → 0 < m → g < w.heap.size ∧ ¬ inM (.slice (some ⟨G, 0, none⟩) N c) N (upd V d X) g) := fun g o e h0 => by
          obtain ⟨h1, h2⟩ := hap2.out g o e h0
          refine ⟨h1, fun hg => ?_⟩
          rcases inM_put hdN HX.out hg with h3 | h3
          · exact h2 h3
          · omega
        have Q6 : Hid (Below base w wp) := hbw.out.trans (OP.out.below (B := base) (fun g hg _ hbad => by have := (hmt.out.lt hbad).1; omega) (by omega))
        go_wp2
        go_roundw
        case rel => exact ⟨k + 1, upd V d X, by omega, by go_num, HM2.out, Q1.out, Q2.out, Q4.out, Q3.out, Q6.out, by omega⟩
        case measure => simp [intOf]; omega
    · obtain rfl : k = m := by omega
      go_wp2
      go_ret
      exact ⟨V, _, rfl, hmt.out, hr.out, hap.out, hbw.out, hzw⟩
end Go.Proofs.YtnaghfppeejaoaaDoor

/-
  A pass with missorts: the program's machine, sort.
-/
namespace Go.Proofs.YtnaghfppeejaoaaDoor
open Go.RowKit Go.Maps
open Go.PlainAid (bt get_bt bt_nonneg bt_le)
set_option linter.unusedVariables false

/-- The map from numbers of letters to bins. -/
def MSeen (I B : Nat → Int) : Nat → DataW Unit
  | 0 => .map []
  | k + 1 => (MSeen I B k).put (.int .i64 (I k)) (.lit (.int .i64 (B k)))
theorem MSeen.isMap (I B : Nat → Int) : ∀ k, IsMap (MSeen I B k)
  | 0 => isMap_empty
  | k + 1 => (MSeen.isMap I B k).put _ _
theorem MSeen.hit (I B : Nat → Int) (z : DataW Unit) : ∀ k j, j < k → (∀ q, q < k → q ≠ j → I q ≠ I j) → (MSeen I B k).atKey (.int .i64 (I j)) z = .lit (.int .i64 (B j)) ∧ Maps.has (MSeen I B k) (.int .i64 (I j)) = true
  | 0, j, h, _ => absurd h (by omega)
  | k + 1, j, h, hd => by
    by_cases e : j = k
    · subst e
      exact ⟨atKey_put_same (MSeen.isMap I B j) (by simp [WideAt.IsKeyLit]) _ _, Maps.has_put_same (MSeen.isMap I B j) (by simp [WideAt.IsKeyLit]) _⟩
    · have hne : (Lit.int .i64 (I j)) ≠ .int .i64 (I k) := by
        intro h'; injection h' with _ h2; exact hd k (by omega) (by omega) h2.symm
      have ih := MSeen.hit I B z k j (by omega) fun q hq hne => hd q (by omega) hne
      rw [MSeen, atKey_put_other hne, Maps.has_put_other hne]
      exact ih
theorem MSeen.miss (I B : Nat → Int) (z : DataW Unit) (x : Int) : ∀ k, (∀ j, j < k → I j ≠ x) → (MSeen I B k).atKey (.int .i64 x) z = z ∧ Maps.has (MSeen I B k) (.int .i64 x) = false
  | 0, _ => ⟨rfl, rfl⟩
  | k + 1, h => by
    have hne : (Lit.int .i64 x) ≠ .int .i64 (I k) := by
      intro h'; injection h' with _ h2; exact h k (by omega) h2.symm
    have ih := MSeen.miss I B z x k fun j hj => h j (by omega)
    rw [MSeen, atKey_put_other hne, Maps.has_put_other hne]
    exact ih
def OwnM (w : World) (g : Nat) (I B : Nat → Int) (k : Nat) : Prop := w.ownsMap Tryd.prog 3 (plainElem Tryd.prog 3) g k (MSeen I B k)
theorem zeroInt (w : World) : (zeroValue 3).run Tryd.prog w = .ok (.int .i64 0) w := by kernel_rfl
theorem OwnM.look {w : World} {g k : Nat} {I B : Nat → Int} (h : OwnM w g I B k) {y : Int} (y0 : -9223372036854775808 ≤ y) (y1 : y ≤ 9223372036854775807) {v : Int} {t : Bool}
    (hv : (MSeen I B k).atKey (.int .i64 y) (.lit (.int .i64 0)) = .lit (.int .i64 v)) (ht : Maps.has (MSeen I B k) (.int .i64 y) = t) :
    (Instr.lookup 107 (.map (some g)) (.int .i64 y) true).run Tryd.prog w = .ok (.tuple #[.int .i64 v, .bool t]) w := by
  obtain ⟨u, ps, hrun, hu⟩ := World.ownsMap.look_ok h lawInt Tryd.underlying107 (zeroInt w) (plainElem_int Tryd.underlying3 (a := 0) (by decide)) (keyOf_int_mk Tryd.underlying3 (WalkArith.wf_i64 ⟨y0, y1⟩))
  obtain ⟨a, rfl, hz, _⟩ := plainElem_int_inv Tryd.underlying3 hu
  rw [hv] at hz
  simp only [Prod.mk.injEq] at hz
  have h1 := hz.1
  have h2 : v = a := congrArg (fun d : DataW Unit => match d with | .lit (.int _ q) => q | _ => 0) h1
  rw [ht, ← h2] at hrun
  exact hrun

/-- The bin of a letter: that of its missort, or of its code. -/
def fkey (b : Int) (n : Nat) (S C : Nat → ByteArray) (x : Nat) (I' : Nat → Int) (m2 : Nat) (I B : Nat → Int) (k : Nat) : Option Nat :=
  if M.find I m2 (I' k) < 0 then M.planKey b n S C x k else some (B (M.find I m2 (I' k)).toNat).toNat
theorem find_cases (I : Nat → Int) (m : Nat) (x : Int) : (M.find I m x = -1 ∧ ∀ j, j < m → I j ≠ x) ∨ ∃ j, j < m ∧ I j = x ∧ M.find I m x = j := by
  unfold M.find
  cases e : (List.range m).find? (fun i => decide (I i = x)) with
  | none =>
    refine Or.inl ⟨rfl, fun j hj ej => ?_⟩
    rw [List.find?_range_eq_none] at e
    have := e j hj
    simp [ej] at this
  | some i =>
    have h1 := List.find?_some e
    have h2 := List.mem_of_find?_eq_some e
    exact Or.inr ⟨i, List.mem_range.1 h2, of_decide_eq_true h1, rfl⟩

set_option maxHeartbeats 1000000 in
set_option maxRecDepth 100000 in
theorem impl_sort1 (w : World) (b p : Int) (a : Option Addr) (n c : Nat) (S : Nat → ByteArray) (h : Strs w a n S) (hn : n ≤ 1048576) (b0 : 2 ≤ b) (b1 : b ≤ 16) (x : Nat) (hx : x ≤ 3) (Q X g : Nat) (hQ : w.cell? ⟨Q, 0, none⟩ = some (.map (some g))) (hX : Mac w X b p (.slice a n c) x)
    (m : Nat) (I B : Nat → Int) (hg : OwnM w g I B m) (hB : M.misTo (b - 1) I B m) (I' : Nat → Int) (C : Nat → ByteArray) (k : Nat) (i0 : -9223372036854775808 ≤ I' k) (i1 : I' k ≤ 9223372036854775807) :
    Calls Tryd.prog 96 #[.agg #[.int .i64 (I' k), .string (C k)], .pointer (some ⟨Q, 0, none⟩), .pointer (some ⟨X, 0, none⟩)] w fun e w' => e = .returned (.int .i64 (binNo (fkey b n S C x I' m I B k))) ∧ Below w.heap.size w w' := by
  have lq := World.block_lt_of_cell? _ _ hQ
  have lx := hX.lt
  have HG := Lib.hid (World.ownsMap.alloc hg (.cells #[.int .i64 (I' k), .string (C k)] 37))
  have bb := below_alloc0 w (.cells #[.int .i64 (I' k), .string (C k)] 37)
  obtain ⟨⟨x0, x1, x2, x3⟩, _⟩ := hX
  rcases find_cases I m (I' k) with ⟨hf, hno⟩ | ⟨j, hj, ej, hf⟩
  · have hv : Hid (fkey b n S C x I' m I B k = M.planKey b n S C x k) := by unfold Hid fkey; rw [hf, if_pos (by decide)]
    rw [hv.out]
    obtain ⟨e1, e2⟩ := MSeen.miss I B (.lit (.int .i64 0)) (I' k) m hno
    have hlook := OwnM.look HG.out i0 i1 e1 e2
    have HB := Lib.hid (impl_binOf (w.alloc (.cells #[.int .i64 (I' k), .string (C k)] 37)) b p a n c S (h.on bb) hn b0 b1 x hx (I' k) (C k))
    rw [binNo_key b n S C x k b0] at HB
    unfold mac at HB
    obtain ⟨R, hR⟩ : ∃ R, binNo (M.planKey b n S C x k) = R := ⟨_, rfl⟩
    rw [hR] at HB ⊢
    clear h hB hg hf hno hv e1 e2 hR HG
    go_enter Tryd.func96, Tryd.ntmps96
    go_wp2_with fail
    refine HB.out.mono ?_
    rintro e w1 ⟨rfl, k1⟩
    go_wp2
    go_ret
    exact ⟨rfl, sstep bb k1⟩
  · have hBj := (hB j hj).2.1
    have hv : Hid (binNo (fkey b n S C x I' m I B k) = B j) := by
      unfold Hid fkey
      rw [hf, if_neg (by omega), Int.toNat_natCast]
      show (((B j).toNat : Nat) : Int) = B j
      omega
    rw [hv.out]
    have hd : ∀ q, q < m → q ≠ j → I q ≠ I j := fun q hq hne e => by
      rcases Nat.lt_or_ge q j with h1 | h1
      · exact (hB j hj).2.2 q h1 e
      · exact (hB q hq).2.2 j (by omega) e.symm
    obtain ⟨e1, e2⟩ := MSeen.hit I B (.lit (.int .i64 0)) m j hj hd
    rw [ej] at e1 e2
    have hlook := OwnM.look HG.out i0 i1 e1 e2
    obtain ⟨R, hR⟩ : ∃ R, B j = R := ⟨_, rfl⟩
    rw [hR] at hlook ⊢
    clear h hB hg hf hv e1 e2 hR hd ej hBj HG
    go_enter Tryd.func96, Tryd.ntmps96
    go_wp2
    go_ret
    exact ⟨rfl, by go_grown⟩

/-- Bins and the letters that have none, both of the call's own. -/
def SortRes (w : World) (N : Nat) (MM : Nat → List (Int × ByteArray)) (LL : List (Int × ByteArray)) (e : Ending) (w' : World) : Prop :=
  ∃ (v : Value) (V : Nat → Value) (u : Value), e = .returned (.tuple #[v, u]) ∧ Mat w' w.heap.size v N V MM ∧ Row w' w.heap.size u LL ∧ (∀ k, u.ownBlock = some k → ¬ inM v N V k) ∧ Below w.heap.size w w'

set_option maxHeartbeats 4000000 in
set_option maxRecDepth 100000 in
theorem impl_sort_yes (w : World) (b p : Int) (a : Option Addr) (n c : Nat) (S : Nat → ByteArray) (h : Strs w a n S) (hf : SFits n S) (hn : n ≤ 1048576) (x : Nat) (hx : x ≤ 3) (a2 : Option Addr) (m c2 : Nat) (I' : Nat → Int) (C : Nat → ByteArray) (h2 : Lts w a2 m I' C) (hf2 : Fits m I' C)
    (a3 : Option Addr) (m3 c3 : Nat) (I B : Nat → Int) (h3 : Mss w a3 m3 I B) (hf3 : MFits m3 I B) (hb : M.batch m I' C = true) (hmi : M.mis b p n S m3 I B = true) :
    Calls Tryd.prog 48 #[mac b p (.slice a n c) x, .slice a2 m c2, .slice a3 m3 c3] w (SortRes w b.toNat (M.binTo (fkey b n S C x I' m3 I B) I' C m) (M.restTo (fkey b n S C x I' m3 I B) I' C m)) := by
  obtain ⟨hp, hm3, hmt⟩ := M.mis_true hmi
  obtain ⟨s1, s2, s3, s4⟩ := M.plan_shape hp
  have hm60 := (M.batch_yes hb).1
  have hkey : Hid (∀ k, k < m → ∀ d, fkey b n S C x I' m3 I B k = some d → d < b.toNat) := fun k hk d hd => by
    unfold fkey at hd
    rcases find_cases I m3 (I' k) with ⟨e, _⟩ | ⟨j, hj, _, e⟩
    · rw [e, if_pos (by decide)] at hd
      exact planKey_bd s1 hd
    · rw [e, if_neg (by omega), Int.toNat_natCast] at hd
      have := Option.some.inj hd
      have := (hmt j hj).2.1
      omega
  obtain ⟨N, rfl⟩ := Int.eq_ofNat_of_zero_le (show 0 ≤ b by omega)
  rw [Int.toNat_natCast] at hkey ⊢
  have HS1 : Hid (∀ (W : World), Strs W a n S → ∀ (Q X g : Nat), W.cell? ⟨Q, 0, none⟩ = some (.map (some g)) → Mac W X (N : Int) p (.slice a n c) x → OwnM W g I B m3 → ∀ k, k < m → Calls Tryd.prog 96 #[.agg #[.int .i64 (I' k), .string (C k)], .pointer (some ⟨Q, 0, none⟩), .pointer (some ⟨X, 0, none⟩)] W fun e w' => e = .returned (.int .i64 (binNo (fkey (N : Int) n S C x I' m3 I B k))) ∧ Below W.heap.size W w') := fun W hs Q X g hQ hX hg k hk =>
    impl_sort1 W (N : Int) p a n c S hs hn s1 s2 x hx Q X g hQ hX m3 I B hg hmt I' C k (hf2 k hk).1.1 (hf2 k hk).1.2
  obtain ⟨CC, hCC⟩ : ∃ CC, madeCells #[Value.slice none 0 0] N = CC := ⟨_, rfl⟩
  have hmm0 := fun W => mat_made W N (by omega) 74 Tryd.underlying74 .i64 .i64
  rw [hCC] at hmm0
  have hmk : ∀ W : World, (Instr.makeSlice 74 (.int .i64 (N : Int)) (.int .i64 (N : Int))).run Tryd.prog W = .ok (.slice (some ⟨W.heap.size, 0, none⟩) N N) (W.alloc (.cells CC 26)) := fun W => (hmm0 W).1
  have hmat := Lib.hid (fun W => (hmm0 W).2)
  clear hmm0 hCC
  obtain ⟨KEY, hKEY⟩ : ∃ KEY, fkey (N : Int) n S C x I' m3 I B = KEY := ⟨_, rfl⟩
  rw [hKEY] at hkey HS1 ⊢
  clear hKEY
  have hmf : ∀ (fn : Fn) (first cap : Array Value) (w : World), (Instr.makeFunc fn first cap).run Tryd.prog w = .ok (.func fn first cap) w := fun _ _ _ _ => rfl
  have b0 := below_alloc0 w (.cells #[.int .i64 (N : Int), .int .i64 p, .slice a n c, .int .i64 x] 67)
  have HL := Lib.hid (h.on b0)
  have HL2 := Lib.hid (h2.on b0)
  have HL3 := Lib.hid (h3.on b0)
  have mx := Lib.hid (mac_made w (N : Int) p (.slice a n c) x 67)
  have B0 := Lib.hid b0
  have HF := Lib.hid hf
  have HF2 := Lib.hid hf2
  have HF3 := Lib.hid hf3
  have HB := Lib.hid hb
  have HMI := Lib.hid hmi
  have HMT := Lib.hid hmt
  have hmm := @run_makeMap Tryd.prog
  clear h hf h2 hf2 h3 hf3 hb hmi hmt hp b0
  unfold mac
  obtain ⟨⟨t0, t1, t2, t3⟩, _⟩ := mx.out
  go_enter Tryd.func48, Tryd.ntmps48
  go_wp2_with fail
  refine (impl_BatchValid _ a2 m c2 I' C HL2.out HF2.out).mono ?_
  rw [HB.out]
  rintro e w1 ⟨rfl, hb1⟩
  have mx1 := Lib.hid (mx.out.on hb1)
  have HL1 := Lib.hid (HL.out.on hb1)
  have HL21 := Lib.hid (HL2.out.on hb1)
  have HL31 := Lib.hid (HL3.out.on hb1)
  have B1 := Lib.hid (sstep B0.out hb1)
  clear t0 t1 t2 t3 mx B0 hb1 HL HL2 HL3
  obtain ⟨⟨t0, t1, t2, t3⟩, _⟩ := mx1.out
  go_wp2_with fail
  refine (impl_MissortsValid _ (N : Int) p a n c S HL1.out HF.out hn a3 m3 c3 I B HL31.out HF3.out).mono ?_
  rw [HMI.out]
  rintro e w2 ⟨rfl, hb2⟩
  have mx2 := Lib.hid (mx1.out.on hb2)
  have HLa := Lib.hid (HL1.out.on hb2)
  have HLb := Lib.hid (HL21.out.on hb2)
  have HLc := Lib.hid (HL31.out.on hb2)
  have B2 := Lib.hid (sstep B1.out hb2)
  have hzw : w.heap.size < w2.heap.size := mx2.out.lt
  clear t0 t1 t2 t3 mx1 B1 hb2 HL1 HL21 HL31
  go_wp2_with fail
  refine (insist_yes _).mono ?_
  rintro e w3 ⟨rfl, rfl⟩
  go_wp2
  go_loopw [25] (fun i wr => ∃ k : Nat, k ≤ m3 ∧ i = .int .i64 k ∧ Hid (OwnM wr w2.heap.size I B k) ∧ Hid (wr.cell? ⟨w2.heap.size + 1, 0, none⟩ = some (.map (some w2.heap.size))) ∧ Hid (Below w2.heap.size w2 wr)) (fun i _ => m3 - (intOf i).toNat)
  case atStart => exact ⟨0, Nat.zero_le _, rfl, World.ownsMap.alloc (World.ownsMap_made _ _ _ _) _, by show _ = _; simp, by show Below _ _ _; go_grown⟩
  case round =>
    obtain ⟨k, hk, rfl, hown, hq, hb⟩ := hrel
    have hz := hb.out.size
    have hq0 := hq.out
    by_cases hlt : k < m3
    · obtain ⟨b3, o3, rfl, c0, c1⟩ := (HLc.out.on hb.out) k hlt
      obtain ⟨⟨i0, i1⟩, j0, j1⟩ := HF3.out k hlt
      have hkey : keyOf Tryd.prog 3 (.int .i64 (I k)) = some (.int .i64 (I k)) := keyOf_int_mk Tryd.underlying3 (WalkArith.wf_i64 ⟨i0, i1⟩)
      have hkm : k < maxLen := by unfold maxLen; omega
      have lq := World.block_lt_of_cell? _ _ hq0
      go_wp2_with (at_mapUpdate; refine wpList_mapUpdate_own _ rfl _ _ _ 107 rfl 3 3 lawInt Tryd.underlying107 _ w2.heap.size k _ rfl (World.ownsMap.alloc hown.out _) hkm _ _ _ rfl rfl hkey _ [] (plainElem_int Tryd.underlying3 (a := B k) (WalkArith.wf_i64 ⟨j0, j1⟩)) ?_; intro w3 hown1 hgrow1)
      have q1 : Hid (w3.cell? ⟨w2.heap.size + 1, 0, none⟩ = some (.map (some w2.heap.size))) := by
        have hbk := hgrow1.block (w2.heap.size + 1) (by rw [World.size_alloc]; exact Nat.lt_succ_of_lt lq) (by intro e; have := Option.some.inj e; omega)
        exact (World.cell?_of_block hbk).trans ((World.cell?_alloc_past _ _ _ lq).trans hq.out)
      go_roundw
      case rel => exact ⟨k + 1, by omega, by go_num, hown1, q1.out, (hb.out.alloc hz _).grown hgrow1 (by simp; omega) (fun j hj => by cases hj; exact Nat.le_refl _)⟩
      case measure => simp [intOf]; omega
    · obtain rfl : k = m3 := by omega
      have HW : Hid (∀ W : World, Below wr.heap.size (wr.alloc (.cells CC 26)) W → Below wr.heap.size wr W) := fun W hW => (below_alloc0 wr _).trans hW
      have HC : Hid (∀ W, Below wr.heap.size (wr.alloc (.cells CC 26)) W → ∀ q, q < m → Calls Tryd.prog 96 #[.agg #[.int .i64 (I' q), .string (C q)], .pointer (some ⟨w2.heap.size + 1, 0, none⟩), .pointer (some ⟨w.heap.size, 0, none⟩)] W fun e w' => e = .returned (.int .i64 (binNo (KEY q))) ∧ Below W.heap.size W w') := fun W hW q hqm => by
        have hW2 := HW.out W hW
        have lq := World.block_lt_of_cell? _ _ hq.out
        exact HS1.out W ((HLa.out.on hb.out).on hW2) _ _ _ ((hW2.cell (p := ⟨w2.heap.size + 1, 0, none⟩) lq).trans hq.out) ((mx2.out.on hb.out).on hW2) (World.ownsMap.kept hown.out (grown_of_below hW2) (by simp)) q hqm
      have mxr := Lib.hid (mx2.out.on hb.out)
      have HLr := Lib.hid ((HLb.out.on hb.out).on (below_alloc0 wr (.cells CC 26)))
      have hltr : Hid (∀ g o, a2 = some ⟨g, o, none⟩ → 0 < m → g < wr.heap.size) := fun g o e h0 => (HLb.out.on hb.out).lt e h0
      have HM4 := Lib.hid (hmat.out wr)
      have HZ : Hid (addTo (fun _ => []) (M.binTo KEY I' C m) = M.binTo KEY I' C m) := by unfold Hid; funext q; exact List.nil_append _
      obtain ⟨⟨t0, t1, t2, t3⟩, _⟩ := mxr.out
      have hzr := hb.out.size
      have BW := Lib.hid (sstep B2.out hb.out)
      clear hq0 HS1 hmm
      go_wp2_with fail
      refine (putInto_sort _ _ _ wr.heap.size wr.heap.size N N _ (fun _ => []) HM4.out (by simp) (fun d _ => by simp) a2 m c2 I' C HLr.out hm60 (fun g o e h0 hbad => by have := (HM4.out.lt hbad).1; have := hltr.out g o e h0; omega) KEY hkey.out (by omega) HC.out).mono ?_
      rintro e w5 ⟨V, u, rfl, hM5, hR5, hap5, hB5, hz5⟩
      rw [HZ.out] at hM5
      have HM5 := Lib.hid hM5
      have HR5 := Lib.hid hR5
      have HA5 := Lib.hid hap5
      have HB5 := Lib.hid (HW.out w5 hB5)
      clear hM5 hR5 hap5 hB5 t0 t1 t2 t3
      go_wp2
      go_ret2
      exact ⟨_, V, u, rfl, HM5.out.lower (by omega), HR5.out.lower (by simp; omega), HA5.out, sstep BW.out HB5.out⟩

set_option maxHeartbeats 1000000 in
set_option maxRecDepth 100000 in
theorem impl_sort_no (w : World) (J : Addr) (hj : Jam w J) (b p : Int) (a : Option Addr) (n c : Nat) (S : Nat → ByteArray) (h : Strs w a n S) (hf : SFits n S) (hn : n ≤ 1048576) (x : Int) (a2 : Option Addr) (m c2 : Nat) (I' : Nat → Int) (C : Nat → ByteArray) (h2 : Lts w a2 m I' C) (hf2 : Fits m I' C)
    (a3 : Option Addr) (m3 c3 : Nat) (I B : Nat → Int) (h3 : Mss w a3 m3 I B) (hf3 : MFits m3 I B) (hbad : ¬ (M.batch m I' C = true ∧ M.mis b p n S m3 I B = true)) :
    Calls Tryd.prog 48 #[mac b p (.slice a n c) x, .slice a2 m c2, .slice a3 m3 c3] w fun e w' => e = JamEnd J ∧ Below w.heap.size w w' := by
  have b0 := below_alloc0 w (.cells #[.int .i64 b, .int .i64 p, .slice a n c, .int .i64 x] 67)
  have HL := Lib.hid (h.on b0)
  have HL2 := Lib.hid (h2.on b0)
  have HL3 := Lib.hid (h3.on b0)
  have HJ := Lib.hid (hj.on b0)
  have mx := Lib.hid (mac_made w b p (.slice a n c) x 67)
  have B0 := Lib.hid b0
  have HF := Lib.hid hf
  have HF2 := Lib.hid hf2
  have HF3 := Lib.hid hf3
  clear h hf h2 hf2 h3 hf3 hj b0
  unfold mac
  obtain ⟨⟨t0, t1, t2, t3⟩, _⟩ := mx.out
  cases hb : M.batch m I' C
  · clear hbad
    go_enter Tryd.func48, Tryd.ntmps48
    go_wp2_with fail
    refine (impl_BatchValid _ a2 m c2 I' C HL2.out HF2.out).mono ?_
    rw [hb]
    rintro e w1 ⟨rfl, hb1⟩
    go_wp2_with fail
    refine (insist_no _ J (HJ.out.on hb1)).mono ?_
    rintro e w3 ⟨rfl, rfl⟩
    unfold JamEnd
    go_wp2
    exact ⟨rfl, rfl, sstep B0.out hb1⟩
  · have hmi : M.mis b p n S m3 I B = false := by
      cases hh : M.mis b p n S m3 I B
      · rfl
      · exact absurd ⟨hb, hh⟩ hbad
    have HB := Lib.hid hb
    have HMI := Lib.hid hmi
    clear hbad hb hmi
    go_enter Tryd.func48, Tryd.ntmps48
    go_wp2_with fail
    refine (impl_BatchValid _ a2 m c2 I' C HL2.out HF2.out).mono ?_
    rw [HB.out]
    rintro e w1 ⟨rfl, hb1⟩
    have mx1 := Lib.hid (mx.out.on hb1)
    have HL1 := Lib.hid (HL.out.on hb1)
    have HL31 := Lib.hid (HL3.out.on hb1)
    have HJ1 := Lib.hid (HJ.out.on hb1)
    have B1 := Lib.hid (sstep B0.out hb1)
    clear t0 t1 t2 t3 mx B0 hb1 HL HL2 HL3
    obtain ⟨⟨t0, t1, t2, t3⟩, _⟩ := mx1.out
    go_wp2_with fail
    refine (impl_MissortsValid _ b p a n c S HL1.out HF.out hn a3 m3 c3 I B HL31.out HF3.out).mono ?_
    rw [HMI.out]
    rintro e w2 ⟨rfl, hb2⟩
    go_wp2_with fail
    refine (insist_no _ J (HJ1.out.on hb2)).mono ?_
    rintro e w3 ⟨rfl, rfl⟩
    unfold JamEnd
    go_wp2
    exact ⟨rfl, rfl, sstep B1.out hb2⟩
end Go.Proofs.YtnaghfppeejaoaaDoor

/-
  Wrong letters taken out of bins, and put where they belong: takeOut and repair of the program's machine.
-/
namespace Go.Proofs.YtnaghfppeejaoaaDoor
open Go.RowKit
open Go.PlainAid (bt get_bt bt_nonneg bt_le)
set_option linter.unusedVariables false

/-- The bin where a code belongs, or -1. -/
def dueBin (b : Int) (n : Nat) (S : Nat → ByteArray) (x : Nat) (s : ByteArray) : Int := if M.rankTo S s n < 0 then -1 else M.rankBin b (M.rankTo S s n) x
/-- A code belongs into a bin. -/
def rightB (b : Int) (n : Nat) (S : Nat → ByteArray) (x : Nat) (q : Int) (s : ByteArray) : Bool := dueBin b n S x s == q
theorem dueBin_key (b : Int) (n : Nat) (S C : Nat → ByteArray) (x k : Nat) (hb : 2 ≤ b) : dueBin b n S x (C k) = binNo (M.planKey b n S C x k) := binNo_key b n S C x k hb

set_option maxHeartbeats 1000000 in
set_option maxRecDepth 100000 in
theorem impl_take1 (w : World) (b p : Int) (a : Option Addr) (n c : Nat) (S : Nat → ByteArray) (h : Strs w a n S) (hn : n ≤ 1048576) (b0 : 2 ≤ b) (b1 : b ≤ 16) (x : Nat) (hx : x ≤ 3) (X Y : Nat) (q : Int) (hX : Mac w X b p (.slice a n c) x) (hY : w.cell? ⟨Y, 0, none⟩ = some (.int .i64 q)) (i : Int) (s : ByteArray) :
    Calls Tryd.prog 104 #[.agg #[.int .i64 i, .string s], .pointer (some ⟨X, 0, none⟩), .pointer (some ⟨Y, 0, none⟩)] w fun e w' => e = .returned (.bool (rightB b n S x q s)) ∧ Below w.heap.size w w' := by
  have lx := hX.lt
  have ly := World.block_lt_of_cell? _ _ hY
  have hB := Lib.hid (fun W (hW : Below w.heap.size w W) => impl_binOf W b p a n c S (h.on hW) hn b0 b1 x hx i s)
  have hv : Hid (∀ r, r = dueBin b n S x s → (r == q) = rightB b n S x q s) := fun r e => by rw [e]; rfl
  have HXX := Lib.hid hX
  have HYY := Lib.hid hY
  obtain ⟨⟨x0, x1, x2, x3⟩, _⟩ := hX
  unfold mac at hB
  obtain ⟨r, hr⟩ : ∃ r, (if M.rankTo S s n < 0 then -1 else M.rankBin b (M.rankTo S s n) x) = r := ⟨_, rfl⟩
  have hv2 := Lib.hid (hv.out r hr.symm)
  rw [hr] at hB
  clear h hr hv
  go_enter Tryd.func104, Tryd.ntmps104
  go_wp2
  go_region_with (go_at_call 97; refine (hB.out _ (by go_grown)).mono ?_; rintro e w1 ⟨rfl, k1⟩; have k2 : Below w.heap.size w w1 := (by first | exact sstep (by go_grown) k1 | exact sstep (by go_grown) k1.drew); have y1 : w1.cell? ⟨Y, 0, none⟩ = some (.int .i64 q) := (k2.cell (p := ⟨Y, 0, none⟩) ly).trans HYY.out; have K2 := Lib.hid k2; clear k1 k2)
  all_goals
    go_wp2
    go_ret
    exact ⟨ret_bool hv2.out, (by first | exact K2.out | exact K2.out.drew)⟩

set_option maxRecDepth 100000 in
set_option maxHeartbeats 2000000 in
theorem divide_take (w : World) (a : Option Addr) (n c : Nat) (I : Nat → Int) (C : Nat → ByteArray) (h : Lts w a n I C) (hf : Fits n I C) (hn : n ≤ 60) (B : Nat) (X x : Nat) (q b p : Int) (aa : Option Addr) (nn cc : Nat) (S : Nat → ByteArray) (hB : w.cell? ⟨B, 0, none⟩ = some (.int .i64 q)) (hX : Mac w X b p (.slice aa nn cc) x) (hS : Strs w aa nn S) (hnn : nn ≤ 1048576) (b0 : 2 ≤ b) (b1 : b ≤ 16) (hx : x ≤ 3) (f : ByteArray → Bool) (hfun : f = rightB b nn S x q) :
    Calls Tryd.prog 103 #[.slice a n c, .func (.func 104) #[] #[.pointer (some ⟨X, 0, none⟩), .pointer (some ⟨B, 0, none⟩)]] w (Two w (M.withF f (M.lst I C n)) (M.sansF f (M.lst I C n))) := by
  have HF := Lib.hid hf
  have HL := Lib.hid h
  have HFUN := Lib.hid hfun
  have hlt0 := World.block_lt_of_cell? _ _ hB
  have HC : Hid (∀ W : World, Below w.heap.size w W → ∀ (i : Int) (s : ByteArray), Calls Tryd.prog 104 #[.agg #[.int .i64 i, .string s], .pointer (some ⟨X, 0, none⟩), .pointer (some ⟨B, 0, none⟩)] W fun e w' => e = .returned (.bool (f s)) ∧ Below W.heap.size W w') := fun W hW i s => by
    rw [hfun]
    exact impl_take1 W b p aa nn cc S (hS.on hW) hnn b0 b1 x hx X B q (hX.on hW) ((hW.cell (p := ⟨B, 0, none⟩) hlt0).trans hB) i s
  clear h hf hfun hB hX hS
  go_enter Tryd.func103, Tryd.ntmps103
  go_wp2
  go_loopw [6, 7, 12] (fun u v i wr => ∃ k : Nat, k ≤ n ∧ i = .int .i64 k ∧ Hid (Row wr w.heap.size u (M.withF f (M.lst I C k))) ∧ Hid (Row wr w.heap.size v (M.sansF f (M.lst I C k))) ∧ Hid (Apart u v) ∧ Below w.heap.size w wr) (fun _ _ i _ => n - (intOf i).toNat)
  case atStart => exact ⟨0, Nat.zero_le _, rfl, Row.nil _ _, Row.nil _ _, Apart.nil _, Below.refl _ _⟩
  case round =>
    obtain ⟨k, hk, rfl, ru, rv, hap, hb⟩ := hrel
    have hz := hb.size
    by_cases hlt : k < n
    · obtain ⟨b, o, rfl, c0, c1⟩ := (HL.out.on hb) k hlt
      cases hbg : f (C k)
      · have HG := Lib.hid hbg
        obtain ⟨e1, e2⟩ := M.filt_no (I := I) hbg
        have E1 := Lib.hid e1
        have E2 := Lib.hid e2
        have hle := M.sansF_le f I C k
        clear hbg e1 e2
        go_wp2_with (first
          | (go_at_call 104; refine (HC.out _ (by go_grown) _ _).mono ?_; rw [HG.out]; rintro e w3 ⟨rfl, kk⟩; have q0 : w3.cell? ⟨wr.heap.size, 0, none⟩ = some (.int .i64 (I k)) := (by rw [kk.cell (by simp)]; simp); have q1 : w3.cell? ⟨wr.heap.size, 1, none⟩ = some (.string (C k)) := (by rw [kk.cell (by simp)]; simp); have k3 : Below wr.heap.size wr w3 := Below.trans (by go_grown) (kk.mono (by simp)); have K3 := Lib.hid k3; have hb3 : Below w.heap.size w w3 := step hb k3; have hz3 := hb3.size; clear kk k3)
          | (at_builtin; refine wpList_append_letter _ rfl _ _ rfl w.heap.size _ _ rfl ((rv.out.on K3.out).alloc _) _ (I k) (C k) rfl ?_ (by omega) (by simp; omega) ?_))
        · simp [go_sem]
        · intro v' w4 hr3 hg3 ho3
          obtain ⟨q1, q2⟩ := two_kept ((ru.out.on K3.out).alloc _) hap.out.symm hg3 ho3 (by simp)
          have q3 := below_grown (W := w) (hb3.alloc hz3 _) ((rv.out.on K3.out).alloc _) (Nat.le_refl _) hg3
          have Q1 := Lib.hid q1
          have Q2 := Lib.hid q2
          have R3 := Lib.hid hr3
          clear hr3 hg3 ho3 q1 q2
          go_wp2
          go_roundw
          case rel => exact ⟨k + 1, by omega, by go_num, by rw [E1.out]; exact Q1, by rw [E2.out]; exact R3, Q2.out.symm, q3⟩
          case measure => simp [intOf]; omega
      · have HG := Lib.hid hbg
        obtain ⟨e1, e2⟩ := M.filt_yes (I := I) hbg
        have E1 := Lib.hid e1
        have E2 := Lib.hid e2
        have hle := M.withF_le f I C k
        clear hbg e1 e2
        go_wp2_with (first
          | (go_at_call 104; refine (HC.out _ (by go_grown) _ _).mono ?_; rw [HG.out]; rintro e w3 ⟨rfl, kk⟩; have q0 : w3.cell? ⟨wr.heap.size, 0, none⟩ = some (.int .i64 (I k)) := (by rw [kk.cell (by simp)]; simp); have q1 : w3.cell? ⟨wr.heap.size, 1, none⟩ = some (.string (C k)) := (by rw [kk.cell (by simp)]; simp); have k3 : Below wr.heap.size wr w3 := Below.trans (by go_grown) (kk.mono (by simp)); have K3 := Lib.hid k3; have hb3 : Below w.heap.size w w3 := step hb k3; have hz3 := hb3.size; clear kk k3)
          | (at_builtin; refine wpList_append_letter _ rfl _ _ rfl w.heap.size _ _ rfl ((ru.out.on K3.out).alloc _) _ (I k) (C k) rfl ?_ (by omega) (by simp; omega) ?_))
        · simp [go_sem]
        · intro v' w4 hr3 hg3 ho3
          obtain ⟨q1, q2⟩ := two_kept ((rv.out.on K3.out).alloc _) hap.out hg3 ho3 (by simp)
          have q3 := below_grown (W := w) (hb3.alloc hz3 _) ((ru.out.on K3.out).alloc _) (Nat.le_refl _) hg3
          have Q1 := Lib.hid q1
          have Q2 := Lib.hid q2
          have R3 := Lib.hid hr3
          clear hr3 hg3 ho3 q1 q2
          go_wp2
          go_roundw
          case rel => exact ⟨k + 1, by omega, by go_num, by rw [E1.out]; exact R3, by rw [E2.out]; exact Q1, Q2.out, q3⟩
          case measure => simp [intOf]; omega
    · obtain rfl : k = n := by omega
      go_wp2
      go_ret2
      exact ⟨_, _, rfl, ru.out, rv.out, hap.out, hb⟩
/-- A row that lies apart from bins lies apart from them when one more has been appended. -/
theorem take_apart {wr w3 : World} {o : Obj} {base k : Nat} {q r v5 sl : Value} {V' : Nat → Value} {RL : Nat → List (Int × ByteArray)} {L : List (Int × ByteArray)} (hap : ∀ g, r.ownBlock = some g → ¬ inM q k V' g) (hq : Mat wr base q k V' RL) (hr : Row wr base r L)
    (ho : v5.ownBlock = q.ownBlock ∨ v5.ownBlock = some (w3.alloc o).heap.size) (hsl : ∀ g, sl.ownBlock = some g → wr.heap.size ≤ g) (hz : wr.heap.size ≤ w3.heap.size) : ∀ g, r.ownBlock = some g → ¬ inM v5 (k + 1) (upd V' k sl) g := by
  intro g eg hg
  have hlt := (hr.lt g eg).2
  rcases hg with hg | ⟨i, hi, hg⟩
  · rcases ho with e | e
    · rw [e] at hg
      exact hap g eg (Or.inl hg)
    · rw [e] at hg
      have := Option.some.inj hg
      simp at this
      omega
  · by_cases e : i = k
    · subst e
      rw [upd_same] at hg
      have := hsl g hg
      omega
    · rw [upd_other _ _ e] at hg
      exact hap g eg (Or.inr ⟨i, by omega, hg⟩)
theorem flat_le (MM : Nat → List (Int × ByteArray)) : ∀ {N i : Nat}, i < N → (MM i).length ≤ (M.flat MM N).length
  | 0, _, h => absurd h (by omega)
  | N + 1, i, h => by
    show _ ≤ (M.flat MM N ++ MM N).length
    rw [List.length_append]
    by_cases e : i = N
    · subst e; omega
    · have := flat_le MM (N := N) (i := i) (by omega); omega
theorem flat_mono (MM : Nat → List (Int × ByteArray)) : ∀ {N i : Nat}, i ≤ N → (M.flat MM i).length ≤ (M.flat MM N).length
  | 0, i, h => by obtain rfl : i = 0 := by omega
                  exact Nat.le_refl _
  | N + 1, i, h => by
    by_cases e : i = N + 1
    · subst e; exact Nat.le_refl _
    · have := flat_mono MM (N := N) (i := i) (by omega)
      show _ ≤ (M.flat MM N ++ MM N).length
      rw [List.length_append]; omega
theorem flat_sub {F MM : Nat → List (Int × ByteArray)} (h : ∀ k, (F k).length ≤ (MM k).length) : ∀ N, (M.flat F N).length ≤ (M.flat MM N).length
  | 0 => Nat.le_refl _
  | N + 1 => by
    show (M.flat F N ++ F N).length ≤ (M.flat MM N ++ MM N).length
    rw [List.length_append, List.length_append]
    have := flat_sub h N
    have := h N
    omega
theorem flat_mem {MM : Nat → List (Int × ByteArray)} {y : Int × ByteArray} : ∀ {N i : Nat}, i < N → y ∈ MM i → y ∈ M.flat MM N
  | 0, _, h, _ => absurd h (by omega)
  | N + 1, i, h, hy => by
    show y ∈ M.flat MM N ++ MM N
    rw [List.mem_append]
    by_cases e : i = N
    · subst e; exact Or.inr hy
    · exact Or.inl (flat_mem (N := N) (i := i) (by omega) hy)
theorem flat_fits {MM : Nat → List (Int × ByteArray)} {N : Nat} (h : BatchL (M.flat MM N)) {i : Nat} (hi : i < N) : Fits (MM i).length (nI (MM i)) (nC (MM i)) := fun j hj => by
  have hy := flat_mem hi (List.getElem_mem (l := MM i) hj)
  obtain ⟨q, hq, e⟩ := List.getElem_of_mem hy
  have := h.fits q hq
  rw [nI_at hq, nC_at hq, e] at this
  rw [nI_at hj, nC_at hj]
  exact this


/-- The right letters of a bin, and the wrong ones of the first bins. -/
def rightL (b : Int) (n : Nat) (S : Nat → ByteArray) (x : Nat) (MM : Nat → List (Int × ByteArray)) (i : Nat) : List (Int × ByteArray) := M.withF (rightB b n S x i) (MM i)
def wrongL (b : Int) (n : Nat) (S : Nat → ByteArray) (x : Nat) (MM : Nat → List (Int × ByteArray)) (i : Nat) : List (Int × ByteArray) := M.sansF (rightB b n S x i) (MM i)

set_option maxHeartbeats 4000000 in
set_option maxRecDepth 100000 in
theorem impl_takeOut_yes (w : World) (b p : Int) (a : Option Addr) (n c : Nat) (S : Nat → ByteArray) (h : Strs w a n S) (hn : n ≤ 1048576) (b0 : 2 ≤ b) (b1 : b ≤ 16) (x : Nat) (hx : x ≤ 3) (J : Addr) (hj : Jam w J) (base : Nat) (v : Value) (N : Nat) (V : Nat → Value) (MM : Nat → List (Int × ByteArray)) (hm : Mat w base v N V MM) (hN : N ≤ 1048576) (hok : binsOk b N MM = true) :
    Calls Tryd.prog 58 #[mac b p (.slice a n c) x, v] w (SortRes w N (rightL b n S x MM) (M.flat (wrongL b n S x MM) N)) := by
  have hok2 := hok
  unfold binsOk at hok2
  rw [Bool.and_eq_true] at hok2
  have hNb : (N : Int) = b := of_decide_eq_true hok2.1
  have hbl := (batchL_list _).1 hok2.2
  have hlen : Hid (∀ i, i < N → (MM i).length ≤ 60) := fun i hi => Nat.le_trans (flat_le MM hi) hbl.2.2
  have hfit : Hid (∀ i, i < N → Fits (MM i).length (nI (MM i)) (nC (MM i))) := fun i hi => flat_fits hbl hi
  have hwl : Hid (∀ i, i ≤ N → (M.flat (wrongL b n S x MM) i).length ≤ 60) := fun i hi => Nat.le_trans (flat_sub (fun k => List.length_filter_le _ _) i) (Nat.le_trans (flat_mono MM hi) hbl.2.2)
  have hwl1 : Hid (∀ i, (wrongL b n S x MM i).length ≤ (MM i).length) := fun i => List.length_filter_le _ _
  have bb := below_alloc0 w (.cells #[.int .i64 b, .int .i64 p, .slice a n c, .int .i64 x] 67)
  have HS := Lib.hid (h.on bb)
  have HM := Lib.hid (hm.on bb)
  have mx := Lib.hid (mac_made w b p (.slice a n c) x 67)
  have B0 := Lib.hid bb
  have hvl := Lib.hid (fun k (hk : inM v N V k) => hm.lt hk)
  have HCK := Lib.hid (impl_check (w.alloc (.cells #[.int .i64 b, .int .i64 p, .slice a n c, .int .i64 x] 67)) J (hj.on bb) b p x (.slice a n c) base v N V MM (hm.on bb) hN (by have := hbl.2.2; omega) hbl.fits (by omega) b1)
  rw [hok, if_pos rfl] at HCK
  obtain ⟨u, c', hv⟩ : ∃ u c, v = .slice u N c := by
    rcases hm.form with ⟨rfl, rfl⟩ | ⟨g, c, rfl, _⟩
    · exact ⟨_, _, rfl⟩
    · exact ⟨_, _, rfl⟩
  subst hv
  have HDV := Lib.hid (fun (W : World) (a2 : Option Addr) (c2 : Nat) (k : Nat) (hk : k < N) (hl : Lts W a2 (MM k).length (nI (MM k)) (nC (MM k))) (Y X : Nat) (hY : W.cell? ⟨Y, 0, none⟩ = some (.int .i64 (k : Int))) (hX : Mac W X b p (.slice a n c) x) (hs : Strs W a n S) =>
    divide_take W a2 (MM k).length c2 (nI (MM k)) (nC (MM k)) hl (hfit.out k hk) (hlen.out k hk) Y X x (k : Int) b p a n c S hY hX hs hn b0 b1 hx _ rfl)
  have hmf : ∀ (fn : Fn) (first cap : Array Value) (w : World), (Instr.makeFunc fn first cap).run Tryd.prog w = .ok (.func fn first cap) w := fun _ _ _ _ => rfl
  clear h hm hj hok hok2 hNb hbl bb hfit
  have HRL : Hid (∀ k : Nat, M.withF (rightB b n S x (k : Int)) (M.lst (nI (MM k)) (nC (MM k)) (MM k).length) = rightL b n S x MM k ∧ M.sansF (rightB b n S x (k : Int)) (M.lst (nI (MM k)) (nC (MM k)) (MM k).length) = wrongL b n S x MM k) := fun k => by rw [lst_nI]; exact ⟨rfl, rfl⟩
  obtain ⟨RL, hRL⟩ : ∃ RL, rightL b n S x MM = RL := ⟨_, rfl⟩
  obtain ⟨WL, hWL⟩ : ∃ WL, wrongL b n S x MM = WL := ⟨_, rfl⟩
  rw [hRL, hWL] at HRL
  rw [hWL] at hwl hwl1 ⊢
  rw [hRL]
  clear hRL hWL
  have HFS : Hid (∀ k, M.flat WL (k + 1) = M.flat WL k ++ WL k) := fun k => rfl
  have HF0 : Hid (M.flat WL 0 = []) := rfl
  unfold mac
  obtain ⟨⟨t0, t1, t2, t3⟩, _⟩ := mx.out
  go_enter Tryd.func58, Tryd.ntmps58
  go_wp2_with fail
  refine HCK.out.mono ?_
  rintro e w1 ⟨rfl, hb1⟩
  have mx1 := Lib.hid (mx.out.on hb1)
  have HS1 := Lib.hid (HS.out.on hb1)
  have HM1 := Lib.hid (HM.out.on hb1)
  have B1 := Lib.hid (sstep B0.out hb1)
  have hzw : w.heap.size < w1.heap.size := mx1.out.lt
  clear t0 t1 t2 t3 mx B0 hb1 HS HM HCK
  go_wp2
  go_loopw [6, 7, 17] (fun q r i wr => ∃ (k : Nat) (V' : Nat → Value), k ≤ N ∧ i = .int .i64 k ∧ Hid (Mat wr w1.heap.size q k V' RL) ∧ Hid (Row wr w1.heap.size r (M.flat WL k)) ∧ Hid (∀ g, r.ownBlock = some g → ¬ inM q k V' g) ∧ Hid (Below w1.heap.size w1 wr)) (fun _ _ i _ => N - (intOf i).toNat)
  case atStart => exact ⟨0, fun _ => .slice none 0 0, Nat.zero_le _, rfl, Mat.nil _ _ _ _, by rw [HF0.out]; exact Row.nil _ _, (fun g e => by cases e), Below.refl _ _⟩
  case round =>
    obtain ⟨k, V', hk, rfl, hq, hr, hap, hb⟩ := hrel
    by_cases hlt : k < N
    · have hma := Lib.hid (HM1.out.on hb.out)
      obtain ⟨G, c9, e1, g0, g1⟩ := hma.out.cell hlt
      cases e1
      obtain ⟨a2, c2, hv, _, hlts⟩ := (hma.out.2.1 k hlt).form
      rw [hv] at g0
      have HLT := Lib.hid hlts
      have hll := hlen.out k hlt
      have hzr := hb.out.size
      have ba := below_alloc0 wr (.cells #[.int .i64 (k : Int)] 3)
      have HA := Lib.hid ba
      have mxr := Lib.hid ((mx1.out.on hb.out).on ba)
      have hsr := Lib.hid ((HS1.out.on hb.out).on ba)
      have hw1 := hwl1.out k
      have hw2 := hwl.out k (by omega)
      obtain ⟨hrl, hwrl⟩ := HRL.out k
      have HD := Lib.hid (HDV.out (wr.alloc (.cells #[.int .i64 (k : Int)] 3)) a2 c2 k hlt (HLT.out.on ba) wr.heap.size w.heap.size (by simp) mxr.out hsr.out)
      rw [hrl, hwrl] at HD
      clear hlts hv ba hrl hwrl
      go_wp2_with fail
      refine HD.out.mono ?_
      rintro e w3 ⟨v1, v2, rfl, r1, r2, ap12, kb⟩
      have k3 : Below wr.heap.size wr w3 := HA.out.trans (kb.mono (by simp))
      obtain ⟨a1, c1, rfl, _, _⟩ := r1.form
      obtain ⟨a4, c4, rfl, _, l4⟩ := r2.form
      have K3 := Lib.hid k3
      have R1 := Lib.hid r1
      have R2 := Lib.hid r2
      have AP := Lib.hid ap12
      have L4 := Lib.hid l4
      have z3 := k3.size
      have Q3 := Lib.hid (hq.out.on k3)
      have S3 := Lib.hid (hr.out.on k3)
      clear r1 r2 ap12 kb k3 l4 HD g0 g1
      obtain ⟨i0, hi, hz0, hz1, hz3⟩ := info_parts info_row
      go_wp2_with (first
        | (at_builtin; refine wpList_append_own_at _ rfl _ _ 30 rfl w1.heap.size 26 i0 _ 1 24 Tryd.underlying30 hi hz0 hz1 hz3 rfl (by decide) u6 k (vcells V' k) rfl (World.ownsRow.alloc Q3.out.1 _) ⟨w3.heap.size, 0, none⟩ 1 1 [.slice a1 (RL k).length c1] rfl rfl (by intro j u hu; match j, hu with | 0, hu => (simp at hu; subst hu; simp [Addr.add])) (by intro u hu; simp at hu; subst hu; rfl) (by unfold maxLen; omega) (by omega) (by simp; omega) ?_; intro v5 w5 r5 gr5 hnn5 ho5; have o35 : Only w3 w5 (fun q => u6.ownBlock = some q) := (Only.new (S := fun q => u6.ownBlock = some q) (below_alloc0 w3 _)).trans ((Only.of_grown gr5).mono (T := fun q => u6.ownBlock = some q) (fun x _ e => e.symm)) (fun _ _ h => h); have P5 := Lib.hid (hq.out.push (R1.out.lower (base' := w1.heap.size) (by simp; omega)) (Only.new (S := fun _ => False) K3.out) (fun q hq' => by have := (R1.out.lt q hq').1; simp at this; omega) r5 o35); have S5 := Lib.hid (S3.out.only o35 (fun g hg e => hap.out g hg (Or.inl e))); have hu6 : Hid (∀ q, u6.ownBlock = some q → w1.heap.size ≤ q ∧ q < wr.heap.size) := (fun q e => hq.out.lt (Or.inl e)); have L5 := Lib.hid (L4.out.only o35 (fun b' o' e h0 e2 => by have h1 := (hu6.out _ e2).2; have h2 := (R2.out.lt b' (by rw [e]; rfl)).1; simp at h2; omega)); have A5 : Hid (∀ g, u7.ownBlock = some g → ¬ inM v5 (k + 1) (upd V' k (.slice a1 (RL k).length c1)) g) := (fun g eg hg => take_apart hap.out hq.out hr.out ho5 (fun q e => by have := (R1.out.lt q e).1; simp at this; omega) z3 g eg hg); have O5 := Lib.hid o35; have z5 := o35.size; clear r5 gr5 hnn5 ho5 o35)
        | (at_builtin; refine wpList_append_lts _ rfl _ _ rfl w1.heap.size u7 (M.flat WL k) rfl S5.out a4 _ c4 (nI (WL k)) (nC (WL k)) rfl L5.out (by omega) (by omega) ?_; intro v6 w6 r6 gr6 ho6; have o56 : Only w5 w6 (fun g => some g = u7.ownBlock) := Only.of_grown gr6; have P6 := Lib.hid (P5.out.only o56 (fun g hg e => A5.out g e.symm hg)); have A6 : Hid (∀ g, v6.ownBlock = some g → ¬ inM v5 (k + 1) (upd V' k (.slice a1 (RL k).length c1)) g) := (fun g eg hg => by rcases ho6 with e | e; exact A5.out g (e ▸ eg) hg; (rw [e] at eg; have e2 := Option.some.inj eg; have := (P5.out.lt hg).2; omega)); have R6 : Hid (Row w6 w1.heap.size v6 (M.flat WL (k + 1))) := (by unfold Hid; rw [HFS.out]; rw [lst_nI] at r6; exact r6); have B6 : Hid (Below w1.heap.size w1 w6) := ((hb.out.trans (K3.out.mono hzr)).trans (O5.out.below (B := w1.heap.size) (fun q hq' _ e => by have := (hu6.out q e).1; omega) (by omega))).trans (o56.below (B := w1.heap.size) (fun q hq' _ e => by have := (hr.out.lt q e.symm).1; omega) (by omega)); clear r6 gr6 ho6 o56))
      go_roundw
      case rel => exact ⟨k + 1, _, by omega, by go_num, P6.out.congr (fun i _ => by unfold upd; split; (rename_i e; rw [e]); rfl), R6.out, A6.out, B6.out⟩
      case measure => simp [intOf]; omega
    · obtain rfl : k = N := by omega
      go_wp2
      go_ret2
      exact ⟨_, V', _, rfl, hq.out.lower (by omega), hr.out.lower (by omega), hap.out, sstep B1.out hb.out⟩

set_option maxHeartbeats 1000000 in
set_option maxRecDepth 100000 in
theorem impl_takeOut_no (w : World) (b p x : Int) (s : Value) (b1 : 0 ≤ b) (b2 : b ≤ 16) (J : Addr) (hj : Jam w J) (base : Nat) (v : Value) (N : Nat) (V : Nat → Value) (MM : Nat → List (Int × ByteArray)) (hm : Mat w base v N V MM) (hN : N ≤ 1048576) (hl : (M.flat MM N).length ≤ 1048576) (hf : Fits (M.flat MM N).length (nI (M.flat MM N)) (nC (M.flat MM N))) (hok : binsOk b N MM = false) :
    Calls Tryd.prog 58 #[mac b p s x, v] w fun e w' => e = JamEnd J ∧ Below w.heap.size w w' := by
  have bb := below_alloc0 w (.cells #[.int .i64 b, .int .i64 p, s, .int .i64 x] 67)
  have B0 := Lib.hid bb
  have mx := Lib.hid (mac_made w b p s x 67)
  have HCK := Lib.hid (impl_check (w.alloc (.cells #[.int .i64 b, .int .i64 p, s, .int .i64 x] 67)) J (hj.on bb) b p x s base v N V MM (hm.on bb) hN hl hf b1 b2)
  rw [hok, if_neg (by decide)] at HCK
  clear hm hj hok bb hf
  unfold mac at HCK ⊢
  obtain ⟨⟨t0, t1, t2, t3⟩, _⟩ := mx.out
  go_enter Tryd.func58, Tryd.ntmps58
  go_wp2_with fail
  refine HCK.out.mono ?_
  rintro e w1 ⟨rfl, hb1⟩
  unfold JamEnd
  go_wp2
  exact ⟨rfl, rfl, sstep B0.out hb1⟩

/-- What repair leaves in the bins, and the letters without a rank. -/
def repM (b : Int) (n : Nat) (S : Nat → ByteArray) (x : Nat) (MM : Nat → List (Int × ByteArray)) (N : Nat) : Nat → List (Int × ByteArray) :=
  addTo (rightL b n S x MM) (M.binTo (M.planKey b n S (nC (M.flat (wrongL b n S x MM) N)) x) (nI (M.flat (wrongL b n S x MM) N)) (nC (M.flat (wrongL b n S x MM) N)) (M.flat (wrongL b n S x MM) N).length)
def repL (b : Int) (n : Nat) (S : Nat → ByteArray) (x : Nat) (MM : Nat → List (Int × ByteArray)) (N : Nat) : List (Int × ByteArray) :=
  M.restTo (M.planKey b n S (nC (M.flat (wrongL b n S x MM) N)) x) (nI (M.flat (wrongL b n S x MM) N)) (nC (M.flat (wrongL b n S x MM) N)) (M.flat (wrongL b n S x MM) N).length

set_option maxHeartbeats 4000000 in
set_option maxRecDepth 100000 in
theorem impl_repair_yes (w : World) (b p : Int) (a : Option Addr) (n c : Nat) (S : Nat → ByteArray) (h : Strs w a n S) (hn : n ≤ 1048576) (b0 : 2 ≤ b) (b1 : b ≤ 16) (x : Nat) (hx : x ≤ 3) (J : Addr) (hj : Jam w J) (base : Nat) (v : Value) (N : Nat) (V : Nat → Value) (MM : Nat → List (Int × ByteArray)) (hm : Mat w base v N V MM) (hok : binsOk b N MM = true) :
    Calls Tryd.prog 64 #[mac b p (.slice a n c) x, v] w (SortRes w N (repM b n S x MM N) (repL b n S x MM N)) := by
  have hok2 := hok
  unfold binsOk at hok2
  rw [Bool.and_eq_true] at hok2
  have hNb : (N : Int) = b := of_decide_eq_true hok2.1
  have hbl := (batchL_list _).1 hok2.2
  have hwl : (M.flat (wrongL b n S x MM) N).length ≤ 60 := Nat.le_trans (flat_sub (fun k => List.length_filter_le _ _) N) hbl.2.2
  have hM0 : Hid (∀ d, d < N → (rightL b n S x MM d).length ≤ 1000) := fun d hd => by
    have h1 : (rightL b n S x MM d).length ≤ (MM d).length := List.length_filter_le _ _
    have h2 := flat_le MM hd
    have h3 := hbl.2.2
    omega
  have bb := below_alloc0 w (.cells #[.int .i64 b, .int .i64 p, .slice a n c, .int .i64 x] 67)
  have B0 := Lib.hid bb
  have mx := Lib.hid (mac_made w b p (.slice a n c) x 67)
  have HS := Lib.hid (h.on bb)
  have HT := Lib.hid (impl_takeOut_yes (w.alloc (.cells #[.int .i64 b, .int .i64 p, .slice a n c, .int .i64 x] 67)) b p a n c S (h.on bb) hn b0 b1 x hx J (hj.on bb) base v N V MM (hm.on bb) (by omega) hok)
  have hmf : ∀ (fn : Fn) (first cap : Array Value) (w : World), (Instr.makeFunc fn first cap).run Tryd.prog w = .ok (.func fn first cap) w := fun _ _ _ _ => rfl
  unfold repM repL
  obtain ⟨WL, hWL⟩ : ∃ WL, M.flat (wrongL b n S x MM) N = WL := ⟨_, rfl⟩
  obtain ⟨RL, hRL⟩ : ∃ RL, rightL b n S x MM = RL := ⟨_, rfl⟩
  rw [hWL, hRL] at HT
  rw [hWL, hRL]
  rw [hWL] at hwl
  rw [hRL] at hM0
  have HBO := Lib.hid (fun (W : World) (hs : Strs W a n S) (q : Nat) => binNo_key b n S (nC WL) x q b0 ▸ impl_binOf W b p a n c S hs hn b0 b1 x hx (nI WL q) (nC WL q))
  have hkey : Hid (∀ k, k < WL.length → ∀ d, M.planKey b n S (nC WL) x k = some d → d < N) := fun k hk d hd => by have := planKey_bd b0 hd; omega
  obtain ⟨KEY, hKEY⟩ : ∃ KEY, M.planKey b n S (nC WL) x = KEY := ⟨_, rfl⟩
  rw [hKEY] at HBO hkey ⊢
  have hN2 : 2 ≤ N ∧ N ≤ 16 := by omega
  have HS0 : Hid (∀ g o, a = some ⟨g, o, none⟩ → 0 < n → g < w.heap.size) := fun g o e h0 => h.lt e h0
  clear h hm hj hok hok2 hNb hbl bb hWL hRL hKEY
  unfold mac at HT ⊢
  obtain ⟨⟨t0, t1, t2, t3⟩, _⟩ := mx.out
  go_enter Tryd.func64, Tryd.ntmps64
  go_wp2_with fail
  refine HT.out.mono ?_
  rintro e w1 ⟨v1, V1, u1, rfl, hM1, hR1, hA1, hb1⟩
  have mx1 := Lib.hid (mx.out.on hb1)
  have HS1 := Lib.hid (HS.out.on hb1)
  have B1 := Lib.hid (sstep B0.out hb1)
  have hzw : w.heap.size < w1.heap.size := mx1.out.lt
  have hz1 := hb1.size
  rcases hM1.form with ⟨_, e0⟩ | ⟨G, c1, rfl, _, _, _⟩
  · exact absurd e0 (by omega)
  obtain ⟨a4, c4, rfl, _, l4⟩ := hR1.form
  have HM1 := Lib.hid hM1
  have HA1 := Lib.hid hA1
  have L4 := Lib.hid l4
  clear t0 t1 t2 t3 mx B0 hb1 HS HT hM1 hR1 hA1 l4
  obtain ⟨⟨t0, t1, t2, t3⟩, _⟩ := mx1.out
  obtain ⟨BS, hBS⟩ : ∃ BS, (w.alloc (.cells #[.int .i64 b, .int .i64 p, .slice a n c, .int .i64 x] 67)).heap.size = BS := ⟨_, rfl⟩
  rw [hBS] at hz1 HM1
  have hBW : w.heap.size < BS := by rw [← hBS]; simp
  have hSW : Hid (∀ W, Below BS w1 W → Strs W a n S) := fun W hW => (HS1.out.below hW (fun g o e h0 => by have := HS0.out g o e h0; omega))
  clear hBS
  go_wp2_with fail
  refine (putInto_bin _ b p x (.slice a n c) BS G c1 N V1 RL HM1.out hz1 hM0.out a4 WL.length c4 (nI WL) (nC WL) L4.out hwl (fun g o e h0 hbad => HA1.out g (by rw [e]; rfl) hbad) KEY hkey.out (by omega) (fun W hW q hq => HBO.out W (hSW.out W hW) q)).mono ?_
  rintro e w5 ⟨V5, u5, rfl, hM5, hR5, hap5, hB5, hz5⟩
  have HM5 := Lib.hid hM5
  have HR5 := Lib.hid hR5
  have HA5 := Lib.hid hap5
  have HB5 : Hid (Below w.heap.size w w5) := B1.out.trans (hB5.mono (by omega))
  clear hM5 hR5 hap5 hB5 t0 t1 t2 t3
  go_wp2
  go_ret2
  exact ⟨_, V5, u5, rfl, HM5.out.lower (by omega), HR5.out.lower (by omega), HA5.out, HB5.out⟩
/-- A way out by panic does not hang on what an operation has left in a slot. -/
theorem panic_put {P : Program} {fn : Func} {R : Ending → World → Prop} {c : List PanicEntry} {a : Act} {d : Option Tmp} {v : Value} {w : World} (h : bodyPost P fn R (.panic c) (a.put d v) w) : bodyPost P fn R (.panic c) a w :=
  ⟨by have := h.1; cases d <;> exact this, h.2⟩
theorem run_enter {P : Program} {f : FuncId} {fn : Func} (hf : P.funcs[f]? = some fn) (hn : (fn.name == "runtime.NumGoroutine") = false) (hb : fn.body.isSome = true) (cap : Array Value) (W : World) : (callFunc f cap).run P W = .ok (.enter f cap) W := by
  have h1 : fn.name ≠ "runtime.NumGoroutine" := by simpa using hn
  obtain ⟨c, hc⟩ := Option.isSome_iff_exists.1 hb
  simp [callFunc, hf, h1, hc]
end Go.Proofs.YtnaghfppeejaoaaDoor
