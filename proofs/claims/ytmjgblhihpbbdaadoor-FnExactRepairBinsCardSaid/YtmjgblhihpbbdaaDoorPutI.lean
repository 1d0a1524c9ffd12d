/-
  What putInto leaves: each letter behind those in its bin, and the letters that have none.
-/
import Derived.Test.YtmjgblhihpbbdaaDoorMach
import Derived.Test.YtmjgblhihpbbdaaDoorMisV
namespace Go.Proofs.YtmjgblhihpbbdaaDoor
open Go.RowKit
open Go.PlainAid (bt get_bt bt_nonneg bt_le)
set_option linter.unusedVariables false

/-- Bins with more letters behind. -/
def addTo (M0 B : Nat → List (Int × ByteArray)) : Nat → List (Int × ByteArray) := fun d => M0 d ++ B d
theorem addTo_upd (M0 B : Nat → List (Int × ByteArray)) (d : Nat) (x : Int × ByteArray) : upd (addTo M0 B) d (addTo M0 B d ++ [x]) = addTo M0 (upd B d (B d ++ [x])) := by
  funext q
  show (if q = d then addTo M0 B d ++ [x] else addTo M0 B q) = M0 q ++ (if q = d then B d ++ [x] else B q)
  by_cases e : q = d
  · subst e
    rw [if_pos rfl, if_pos rfl]
    exact List.append_assoc _ _ _
  · rw [if_neg e, if_neg e]; rfl
theorem addTo_nil (M0 : Nat → List (Int × ByteArray)) : addTo M0 (fun _ => []) = M0 := by
  funext q
  exact List.append_nil _
/-- What putInto leaves of the bins, and the rest. -/
def PutInto (w : World) (base G c N : Nat) (MM : Nat → List (Int × ByteArray)) (LL : List (Int × ByteArray)) (e : Ending) (w' : World) : Prop :=
  ∃ (V : Nat → Value) (u : Value), e = .returned u ∧ Mat w' base (.slice (some ⟨G, 0, none⟩) N c) N V MM ∧ Row w' w.heap.size u LL ∧ (∀ k, u.ownBlock = some k → ¬ inM (.slice (some ⟨G, 0, none⟩) N c) N V k) ∧ Below base w w' ∧ w.heap.size ≤ w'.heap.size

set_option maxHeartbeats 4000000 in
set_option maxRecDepth 100000 in
theorem putInto_sort (w : World) (Q B : Nat) (base G c N : Nat) (V0 : Nat → Value) (M0 : Nat → List (Int × ByteArray)) (h : Mat w base (.slice (some ⟨G, 0, none⟩) N c) N V0 M0) (hb0 : base ≤ w.heap.size) (hM0 : ∀ d, d < N → (M0 d).length ≤ 1000)
    (a2 : Option Addr) (m c2 : Nat) (I : Nat → Int) (C : Nat → ByteArray) (h2 : Lts w a2 m I C) (hm : m ≤ 60) (hap2 : ∀ g o, a2 = some ⟨g, o, none⟩ → 0 < m → ¬ inM (.slice (some ⟨G, 0, none⟩) N c) N V0 g)
    (key : Nat → Option Nat) (hkey : ∀ k, k < m → ∀ d, key k = some d → d < N) (hN : N ≤ 60)
    (HC0 : ∀ W, Below base w W → ∀ k, k < m → Calls Tryd.prog 84 #[.agg #[.int .i64 (I k), .string (C k)], .pointer (some ⟨Q, 0, none⟩), .pointer (some ⟨B, 0, none⟩)] W fun e w' => e = .returned (.int .i64 (binNo (key k))) ∧ Below W.heap.size W w') :
    Calls Tryd.prog 70 #[.slice (some ⟨G, 0, none⟩) N c, .slice a2 m c2, .func (.func 84) #[] #[.pointer (some ⟨Q, 0, none⟩), .pointer (some ⟨B, 0, none⟩)]] w (PutInto w base G c N (addTo M0 (M.binTo key I C m)) (M.restTo key I C m)) := by
  have HM := Lib.hid h
  have HL := Lib.hid h2
  have HC := Lib.hid HC0
  have HK := Lib.hid hkey
  have HM0 := Lib.hid hM0
  have HAP := Lib.hid (show ∀ g o, a2 = some ⟨g, o, none⟩ → 0 < m → g < w.heap.size ∧ ¬ inM (.slice (some ⟨G, 0, none⟩) N c) N V0 g from fun g o e h0 => ⟨h2.lt e h0, hap2 g o e h0⟩)
  have HZ : Hid (addTo M0 (M.binTo key I C 0) = M0) := addTo_nil M0
  clear h h2 hap2 HC0 hkey hM0
  go_enter Tryd.func70, Tryd.ntmps70
  go_wp2
  go_loopw [7, 13] (fun q i wr => ∃ (k : Nat) (V : Nat → Value), k ≤ m ∧ i = .int .i64 k ∧ Hid (Mat wr base (.slice (some ⟨G, 0, none⟩) N c) N V (addTo M0 (M.binTo key I C k))) ∧ Hid (Row wr w.heap.size q (M.restTo key I C k)) ∧ Hid (∀ g, q.ownBlock = some g → ¬ inM (.slice (some ⟨G, 0, none⟩) N c) N V g) ∧ Hid (∀ g o, a2 = some ⟨g, o, none⟩ → 0 < m → g < w.heap.size ∧ ¬ inM (.slice (some ⟨G, 0, none⟩) N c) N V g) ∧ Hid (Lts wr a2 m I C) ∧ Hid (Below base w wr) ∧ w.heap.size ≤ wr.heap.size) (fun _ i _ => m - (intOf i).toNat)
  case atStart => exact ⟨0, V0, Nat.zero_le _, rfl, by rw [HZ.out]; exact HM.out, Row.nil _ _, (fun g e => by cases e), HAP.out, HL.out, Below.refl _ _, Nat.le_refl _⟩
  case round =>
    obtain ⟨k, V, hk, rfl, hmt, hr, hap, hap2, hl, hbw, hzw⟩ := hrel
    by_cases hlt : k < m
    · obtain ⟨b1, o1, rfl, c0, c1⟩ := hl.out k hlt
      have hCk := Lib.hid (fun W hW => HC.out W hW k hlt)
      have hKd := Lib.hid (HK.out k hlt)
      have hbA : Hid (Below base w (wr.alloc (.cells #[.int .i64 (I k), .string (C k)] 66))) := hbw.out.alloc (by omega) _
      cases hkk : key k with
      | none =>
        have hB := Lib.hid (M.binTo_none hkk I C)
        have hR := Lib.hid (M.restTo_none hkk I C)
        have hLN := M.restTo_len key I C k
        have hcc : Hid (∀ W, Below base w W → Calls Tryd.prog 84 #[.agg #[.int .i64 (I k), .string (C k)], .pointer (some ⟨Q, 0, none⟩), .pointer (some ⟨B, 0, none⟩)] W fun e w' => e = .returned (.int .i64 (-1)) ∧ Below W.heap.size W w') := fun W hW => by
          have := hCk.out W hW
          rw [hkk] at this
          exact this
        clear hkk hCk hKd
        go_wp2_with fail
        refine (hcc.out _ hbA.out).mono ?_
        rintro e wb ⟨rfl, hbb⟩
        have q0 : wb.cell? ⟨wr.heap.size, 0, none⟩ = some (.int .i64 (I k)) := by rw [hbb.cell (by simp)]; simp
        have q1 : wb.cell? ⟨wr.heap.size, 1, none⟩ = some (.string (C k)) := by rw [hbb.cell (by simp)]; simp
        have k5 : Below wr.heap.size wr wb := Below.trans (by go_grown) (hbb.mono (by simp))
        have K5 := Lib.hid k5
        have HZ5 := k5.size
        have hr5 := Lib.hid (hr.out.on k5)
        clear hbb k5 c0 c1
        go_wp2_with (at_builtin; refine wpList_append_letter _ rfl _ _ rfl w.heap.size u7 _ rfl (hr5.out.alloc _) _ (I k) (C k) rfl ?_ (by omega) (by simp; omega) ?_)
        · simp [go_sem]
        · intro v' w5 hrw hg5 ho5
          have op : Only wr w5 (fun g => some g = u7.ownBlock) := (Only.new (sstep K5.out (below_alloc0 _ _))).trans (Only.of_grown hg5) (fun _ _ h => h)
          have lr := hr.out.lt
          have Q1 := Lib.hid (hmt.out.only op (fun g hg e => hap.out g e.symm hg))
          have Q2 : Hid (∀ g, v'.ownBlock = some g → ¬ inM (.slice (some ⟨G, 0, none⟩) N c) N V g) := by
            intro g eg hg
            rcases ho5 with e | e
            · exact hap.out g (e ▸ eg) hg
            · rw [e] at eg
              have e2 := Option.some.inj eg
              try simp only [World.size_alloc] at e2
              have := (hmt.out.lt hg).2
              omega
          have Q3 := Lib.hid (hl.out.only op (fun b' o' e h0 hbad => by have := (lr _ hbad.symm).1; have := (hap2.out _ _ e h0).1; omega))
          have Q6 : Hid (Below base w w5) := hbw.out.trans (op.below (B := base) (fun g hg _ hbad => by have := (lr _ hbad.symm).1; omega) (by omega))
          have Q7 := op.size
          have R5 : Hid (Row w5 w.heap.size v' (M.restTo key I C (k + 1))) := by unfold Hid; rw [hR.out]; exact hrw
          have M5 : Hid (Mat w5 base (.slice (some ⟨G, 0, none⟩) N c) N V (addTo M0 (M.binTo key I C (k + 1)))) := by unfold Hid; rw [hB.out]; exact Q1.out
          clear hrw hg5 ho5 op lr
          go_wp2
          go_roundw
          case rel => exact ⟨k + 1, V, by omega, by go_num, M5.out, R5.out, Q2.out, hap2.out, Q3.out, Q6.out, by omega⟩
          case measure => simp [intOf]; omega
      | some d =>
        have hB : Hid (M.binTo key I C (k + 1) = upd (M.binTo key I C k) d (M.binTo key I C k d ++ [(I k, C k)])) := M.binTo_some hkk I C
        have hR := Lib.hid (M.restTo_some hkk I C)
        have hLN := M.binTo_len key I C k d
        have hdN := hKd.out d hkk
        have hLd : (addTo M0 (M.binTo key I C k) d).length ≤ 1048576 := by
          have := HM0.out d hdN
          unfold addTo
          rw [List.length_append]
          omega
        have HU := Lib.hid (addTo_upd M0 (M.binTo key I C k) d (I k, C k))
        have hcc : Hid (∀ W, Below base w W → Calls Tryd.prog 84 #[.agg #[.int .i64 (I k), .string (C k)], .pointer (some ⟨Q, 0, none⟩), .pointer (some ⟨B, 0, none⟩)] W fun e w' => e = .returned (.int .i64 (d : Int)) ∧ Below W.heap.size W w') := fun W hW => by
          have := hCk.out W hW
          rw [hkk] at this
          exact this
        clear hkk hCk hKd
        go_wp2_with fail
        refine (hcc.out _ hbA.out).mono ?_
        rintro e wb ⟨rfl, hbb⟩
        have q0 : wb.cell? ⟨wr.heap.size, 0, none⟩ = some (.int .i64 (I k)) := by rw [hbb.cell (by simp)]; simp
        have q1 : wb.cell? ⟨wr.heap.size, 1, none⟩ = some (.string (C k)) := by rw [hbb.cell (by simp)]; simp
        have k5 : Below wr.heap.size wr wb := Below.trans (by go_grown) (hbb.mono (by simp))
        have K5 := Lib.hid k5
        have HZ5 := k5.size
        clear hbb k5 c0 c1
        go_wp2_with fail
        refine (put_any _ base G c N V (addTo M0 (M.binTo key I C k)) (hmt.out.on K5.out) (by omega) d hdN (I k) (C k) hLd).mono ?_
        rintro e wp ⟨X, rfl, hp1, hp2, hp3⟩
        have op : Only wr wp (inM (.slice (some ⟨G, 0, none⟩) N c) N V) := (Only.new K5.out).trans hp2 (fun _ _ h => h)
        rw [HU.out, ← hB.out] at hp1
        have HM2 := Lib.hid hp1
        have HX := Lib.hid hp3
        have OP := Lib.hid op
        have HZ2 := op.size
        clear hp1 hp2 hp3 op
        have Q2 : Hid (∀ g, u7.ownBlock = some g → ¬ inM (.slice (some ⟨G, 0, none⟩) N c) N (upd V d X) g) := by
          intro g eg hg
          rcases inM_put hdN HX.out hg with h1 | h1
          · exact hap.out g eg h1
          · have := (hr.out.lt g eg).2
            omega
        have Q1 : Hid (Row wp w.heap.size u7 (M.restTo key I C (k + 1))) := by unfold Hid; rw [hR.out]; exact hr.out.only OP.out (fun g e h => hap.out g e h)
        have Q3 := Lib.hid (hl.out.only OP.out (fun b' o' e h0 hbad => (hap2.out _ _ e h0).2 hbad))
        have Q4 : Hid (∀ g o, (some ⟨b1, o1, none⟩ : Option Addr) = some ⟨g, o, none⟩ → 0 < m → g < w.heap.size ∧ ¬ inM (.slice (some ⟨G, 0, none⟩) N c) N (upd V d X) g) := fun g o e h0 => by
          obtain ⟨h1, h2⟩ := hap2.out g o e h0
          refine ⟨h1, fun hg => ?_⟩
          rcases inM_put hdN HX.out hg with h3 | h3
          · exact h2 h3
          · omega
        have Q6 : Hid (Below base w wp) := hbw.out.trans (OP.out.below (B := base) (fun g hg _ hbad => by have := (hmt.out.lt hbad).1; omega) (by omega))
        go_wp2
        go_roundw
        case rel => exact ⟨k + 1, upd V d X, by omega, by go_num, HM2.out, Q1.out, Q2.out, Q4.out, Q3.out, Q6.out, by omega⟩
        case measure => simp [intOf]; omega
    · obtain rfl : k = m := by omega
      go_wp2
      go_ret
      exact ⟨V, _, rfl, hmt.out, hr.out, hap.out, hbw.out, hzw⟩

set_option maxHeartbeats 4000000 in
set_option maxRecDepth 100000 in
theorem putInto_bin (w : World) (b p x : Int) (s : Value) (base G c N : Nat) (V0 : Nat → Value) (M0 : Nat → List (Int × ByteArray)) (h : Mat w base (.slice (some ⟨G, 0, none⟩) N c) N V0 M0) (hb0 : base ≤ w.heap.size) (hM0 : ∀ d, d < N → (M0 d).length ≤ 1000)
    (a2 : Option Addr) (m c2 : Nat) (I : Nat → Int) (C : Nat → ByteArray) (h2 : Lts w a2 m I C) (hm : m ≤ 60) (hap2 : ∀ g o, a2 = some ⟨g, o, none⟩ → 0 < m → ¬ inM (.slice (some ⟨G, 0, none⟩) N c) N V0 g)
    (key : Nat → Option Nat) (hkey : ∀ k, k < m → ∀ d, key k = some d → d < N) (hN : N ≤ 60)
    (HC0 : ∀ W, Below base w W → ∀ k, k < m → Calls Tryd.prog 71 #[mac b p s x, .agg #[.int .i64 (I k), .string (C k)]] W fun e w' => e = .returned (.int .i64 (binNo (key k))) ∧ Below W.heap.size W w') :
    Calls Tryd.prog 70 #[.slice (some ⟨G, 0, none⟩) N c, .slice a2 m c2, .func (.func 71) #[mac b p s x] #[]] w (PutInto w base G c N (addTo M0 (M.binTo key I C m)) (M.restTo key I C m)) := by
  have HM := Lib.hid h
  have HL := Lib.hid h2
  have HC := Lib.hid HC0
  have HK := Lib.hid hkey
  have HM0 := Lib.hid hM0
  have HAP := Lib.hid (show ∀ g o, a2 = some ⟨g, o, none⟩ → 0 < m → g < w.heap.size ∧ ¬ inM (.slice (some ⟨G, 0, none⟩) N c) N V0 g from fun g o e h0 => ⟨h2.lt e h0, hap2 g o e h0⟩)
  have HZ : Hid (addTo M0 (M.binTo key I C 0) = M0) := addTo_nil M0
  clear h h2 hap2 HC0 hkey hM0
  go_enter Tryd.func70, Tryd.ntmps70
  go_wp2
  go_loopw [7, 13] (fun q i wr => ∃ (k : Nat) (V : Nat → Value), k ≤ m ∧ i = .int .i64 k ∧ Hid (Mat wr base (.slice (some ⟨G, 0, none⟩) N c) N V (addTo M0 (M.binTo key I C k))) ∧ Hid (Row wr w.heap.size q (M.restTo key I C k)) ∧ Hid (∀ g, q.ownBlock = some g → ¬ inM (.slice (some ⟨G, 0, none⟩) N c) N V g) ∧ Hid (∀ g o, a2 = some ⟨g, o, none⟩ → 0 < m → g < w.heap.size ∧ ¬ inM (.slice (some ⟨G, 0, none⟩) N c) N V g) ∧ Hid (Lts wr a2 m I C) ∧ Hid (Below base w wr) ∧ w.heap.size ≤ wr.heap.size) (fun _ i _ => m - (intOf i).toNat)
  case atStart => exact ⟨0, V0, Nat.zero_le _, rfl, by rw [HZ.out]; exact HM.out, Row.nil _ _, (fun g e => by cases e), HAP.out, HL.out, Below.refl _ _, Nat.le_refl _⟩
  case round =>
    obtain ⟨k, V, hk, rfl, hmt, hr, hap, hap2, hl, hbw, hzw⟩ := hrel
    by_cases hlt : k < m
    · obtain ⟨b1, o1, rfl, c0, c1⟩ := hl.out k hlt
      have hCk := Lib.hid (fun W hW => HC.out W hW k hlt)
      have hKd := Lib.hid (HK.out k hlt)
      have hbA : Hid (Below base w (wr.alloc (.cells #[.int .i64 (I k), .string (C k)] 66))) := hbw.out.alloc (by omega) _
      cases hkk : key k with
      | none =>
        have hB := Lib.hid (M.binTo_none hkk I C)
        have hR := Lib.hid (M.restTo_none hkk I C)
        have hLN := M.restTo_len key I C k
        have hcc : Hid (∀ W, Below base w W → Calls Tryd.prog 71 #[mac b p s x, .agg #[.int .i64 (I k), .string (C k)]] W fun e w' => e = .returned (.int .i64 (-1)) ∧ Below W.heap.size W w') := fun W hW => by
          have := hCk.out W hW
          rw [hkk] at this
          exact this
        clear hkk hCk hKd
        go_wp2_with fail
        refine (hcc.out _ hbA.out).mono ?_
        rintro e wb ⟨rfl, hbb⟩
        have q0 : wb.cell? ⟨wr.heap.size, 0, none⟩ = some (.int .i64 (I k)) := by rw [hbb.cell (by simp)]; simp
        have q1 : wb.cell? ⟨wr.heap.size, 1, none⟩ = some (.string (C k)) := by rw [hbb.cell (by simp)]; simp
        have k5 : Below wr.heap.size wr wb := Below.trans (by go_grown) (hbb.mono (by simp))
        have K5 := Lib.hid k5
        have HZ5 := k5.size
        have hr5 := Lib.hid (hr.out.on k5)
        clear hbb k5 c0 c1
        go_wp2_with (at_builtin; refine wpList_append_letter _ rfl _ _ rfl w.heap.size u7 _ rfl (hr5.out.alloc _) _ (I k) (C k) rfl ?_ (by omega) (by simp; omega) ?_)
        · simp [go_sem]
        · intro v' w5 hrw hg5 ho5
          have op : Only wr w5 (fun g => some g = u7.ownBlock) := (Only.new (sstep K5.out (below_alloc0 _ _))).trans (Only.of_grown hg5) (fun _ _ h => h)
          have lr := hr.out.lt
          have Q1 := Lib.hid (hmt.out.only op (fun g hg e => hap.out g e.symm hg))
          have Q2 : Hid (∀ g, v'.ownBlock = some g → ¬ inM (.slice (some ⟨G, 0, none⟩) N c) N V g) := by
            intro g eg hg
            rcases ho5 with e | e
            · exact hap.out g (e ▸ eg) hg
            · rw [e] at eg
              have e2 := Option.some.inj eg
              try simp only [World.size_alloc] at e2
              have := (hmt.out.lt hg).2
              omega
          have Q3 := Lib.hid (hl.out.only op (fun b' o' e h0 hbad => by have := (lr _ hbad.symm).1; have := (hap2.out _ _ e h0).1; omega))
          have Q6 : Hid (Below base w w5) := hbw.out.trans (op.below (B := base) (fun g hg _ hbad => by have := (lr _ hbad.symm).1; omega) (by omega))
          have Q7 := op.size
          have R5 : Hid (Row w5 w.heap.size v' (M.restTo key I C (k + 1))) := by unfold Hid; rw [hR.out]; exact hrw
          have M5 : Hid (Mat w5 base (.slice (some ⟨G, 0, none⟩) N c) N V (addTo M0 (M.binTo key I C (k + 1)))) := by unfold Hid; rw [hB.out]; exact Q1.out
          clear hrw hg5 ho5 op lr
          go_wp2
          go_roundw
          case rel => exact ⟨k + 1, V, by omega, by go_num, M5.out, R5.out, Q2.out, hap2.out, Q3.out, Q6.out, by omega⟩
          case measure => simp [intOf]; omega
      | some d =>
        have hB : Hid (M.binTo key I C (k + 1) = upd (M.binTo key I C k) d (M.binTo key I C k d ++ [(I k, C k)])) := M.binTo_some hkk I C
        have hR := Lib.hid (M.restTo_some hkk I C)
        have hLN := M.binTo_len key I C k d
        have hdN := hKd.out d hkk
        have hLd : (addTo M0 (M.binTo key I C k) d).length ≤ 1048576 := by
          have := HM0.out d hdN
          unfold addTo
          rw [List.length_append]
          omega
        have HU := Lib.hid (addTo_upd M0 (M.binTo key I C k) d (I k, C k))
        have hcc : Hid (∀ W, Below base w W → Calls Tryd.prog 71 #[mac b p s x, .agg #[.int .i64 (I k), .string (C k)]] W fun e w' => e = .returned (.int .i64 (d : Int)) ∧ Below W.heap.size W w') := fun W hW => by
          have := hCk.out W hW
          rw [hkk] at this
          exact this
        clear hkk hCk hKd
        go_wp2_with fail
        refine (hcc.out _ hbA.out).mono ?_
        rintro e wb ⟨rfl, hbb⟩
        have q0 : wb.cell? ⟨wr.heap.size, 0, none⟩ = some (.int .i64 (I k)) := by rw [hbb.cell (by simp)]; simp
        have q1 : wb.cell? ⟨wr.heap.size, 1, none⟩ = some (.string (C k)) := by rw [hbb.cell (by simp)]; simp
        have k5 : Below wr.heap.size wr wb := Below.trans (by go_grown) (hbb.mono (by simp))
        have K5 := Lib.hid k5
        have HZ5 := k5.size
        clear hbb k5 c0 c1
        go_wp2_with fail
        refine (put_any _ base G c N V (addTo M0 (M.binTo key I C k)) (hmt.out.on K5.out) (by omega) d hdN (I k) (C k) hLd).mono ?_
        rintro e wp ⟨X, rfl, hp1, hp2, hp3⟩
        have op : Only wr wp (inM (.slice (some ⟨G, 0, none⟩) N c) N V) := (Only.new K5.out).trans hp2 (fun _ _ h => h)
        rw [HU.out, ← hB.out] at hp1
        have HM2 := Lib.hid hp1
        have HX := Lib.hid hp3
        have OP := Lib.hid op
        have HZ2 := op.size
        clear hp1 hp2 hp3 op
        have Q2 : Hid (∀ g, u7.ownBlock = some g → ¬ inM (.slice (some ⟨G, 0, none⟩) N c) N (upd V d X) g) := by
          intro g eg hg
          rcases inM_put hdN HX.out hg with h1 | h1
          · exact hap.out g eg h1
          · have := (hr.out.lt g eg).2
            omega
        have Q1 : Hid (Row wp w.heap.size u7 (M.restTo key I C (k + 1))) := by unfold Hid; rw [hR.out]; exact hr.out.only OP.out (fun g e h => hap.out g e h)
        have Q3 := Lib.hid (hl.out.only OP.out (fun b' o' e h0 hbad => (hap2.out _ _ e h0).2 hbad))
        have Q4 : Hid (∀ g o, (some ⟨b1, o1, none⟩ : Option Addr) = some ⟨g, o, none⟩ → 0 < m → g < w.heap.size ∧ ¬ inM (.slice (some ⟨G, 0, none⟩) N c) N (upd V d X) g) := fun g o e h0 => by
          obtain ⟨h1, h2⟩ := hap2.out g o e h0
          refine ⟨h1, fun hg => ?_⟩
          rcases inM_put hdN HX.out hg with h3 | h3
          · exact h2 h3
          · omega
        have Q6 : Hid (Below base w wp) := hbw.out.trans (OP.out.below (B := base) (fun g hg _ hbad => by have := (hmt.out.lt hbad).1; omega) (by omega))
        go_wp2
        go_roundw
        case rel => exact ⟨k + 1, upd V d X, by omega, by go_num, HM2.out, Q1.out, Q2.out, Q4.out, Q3.out, Q6.out, by omega⟩
        case measure => simp [intOf]; omega
    · obtain rfl : k = m := by omega
      go_wp2
      go_ret
      exact ⟨V, _, rfl, hmt.out, hr.out, hap.out, hbw.out, hzw⟩
end Go.Proofs.YtmjgblhihpbbdaaDoor
