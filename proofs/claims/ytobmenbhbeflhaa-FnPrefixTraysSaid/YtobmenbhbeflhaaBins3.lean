/-
  What the model's BinPass leaves.
-/
import Derived.Test.YtobmenbhbeflhaaBins2
import Derived.Test.YtobmenbhbeflhaaCat
namespace Go.Proofs.Ytobmenbhbeflhaa
open Go.RowKit
open Go.PlainAid (bt get_bt bt_nonneg bt_le)

set_option maxHeartbeats 2000000 in
set_option maxRecDepth 100000 in
theorem l9Own_any (w : World) (base : Nat) (v : Value) (n : Nat) (V : Nat → Value) (M : Nat → List (Int × ByteArray)) (h : Mat w base v n V M) (hn : n ≤ 1000) (hl : ∀ i, i < n → (M i).length ≤ 1048576) :
    Calls Try.prog 27 #[v] w (BinsOut w n M) := by
  obtain ⟨u, c, hv⟩ : ∃ u c, v = .slice u n c := by
    rcases h.form with ⟨rfl, rfl⟩ | ⟨g, c, rfl, _⟩
    · exact ⟨_, _, rfl⟩
    · exact ⟨_, _, rfl⟩
  subst hv
  have HM := Lib.hid h
  have HLn := Lib.hid hl
  obtain ⟨W1, hW1⟩ : ∃ W1, w.alloc (.cells #[] 23) = W1 := ⟨_, rfl⟩
  have k1 : Below w.heap.size w W1 := by rw [← hW1]; exact below_alloc0 w _
  have E0 : Hid (Mat W1 w.heap.size (.slice (some ⟨w.heap.size, 0, none⟩) 0 0) 0 (fun _ => .slice none 0 0) (fun _ => [])) := by
    refine ⟨?_, fun i hi => absurd hi (by omega), fun i j hi => absurd hi (by omega)⟩
    rw [← hW1]
    exact World.ownsRow_lit (base := w.heap.size) (e := 23) (size := 1) w #[] 0 (Nat.le_refl _) (by unfold maxLen; omega) rfl
  have K1 := Lib.hid k1
  have HM1 := Lib.hid (h.on k1)
  have HW1 := Lib.hid hW1
  clear h hl hW1 k1
  go_enter Try.func27, Try.ntmps27
  go_wp2
  rw [HW1.out]
  go_loopw [3, 9] (fun q i wr => ∃ (k : Nat) (V' : Nat → Value), k ≤ n ∧ i = .int .i64 k ∧ Hid (Mat wr w.heap.size q k V' M) ∧ Hid (Mat wr base (.slice u n c) n V M) ∧ Hid (Below w.heap.size w wr) ∧ Hid (q ≠ .slice none 0 0)) (fun _ i _ => n - (intOf i).toNat)
  case atStart => exact ⟨0, _, Nat.zero_le _, rfl, E0.out.congr (fun i hi => absurd hi (by omega)), HM1, K1, (fun e => by cases e)⟩
  case round =>
    obtain ⟨k, V', hk, rfl, hq, hm, hb, hnil⟩ := hrel
    by_cases hlt : k < n
    · obtain ⟨G, c', e1, g0, g1⟩ := hm.out.cell hlt
      cases e1
      obtain ⟨a2, cc, hv, hlc, hlts⟩ := (hm.out.2.1 k hlt).form
      rw [hv] at g0
      have HLT := Lib.hid hlts
      have hll := HLn.out k hlt
      have hz := hb.out.size
      clear hlts
      obtain ⟨i0, hi, hz0, hz1, hz3⟩ := info_parts info_row
      have hkm : k + 1 ≤ 1000 := by omega
      go_wp2_with (first
        | (at_builtin; (refine wpList_append_lts _ rfl _ _ rfl wr.heap.size (.slice (some ⟨wr.heap.size, 0, none⟩) 0 0) [] rfl (one_row wr) a2 _ cc (nI (M k)) (nC (M k)) rfl (HLT.out.on (by go_grown)) (by simp; omega) (by simp) ?_); intro v1 w3 r1 gr1 ho1; have r1' : Row w3 wr.heap.size v1 (M k) := (by rw [List.nil_append, lst_nI] at r1; exact r1); have o13 : Only wr w3 (fun _ => False) := (Only.new (S := fun _ => False) (below_alloc0 wr _)).trans (Only.of_grown gr1) (fun x hx e => by have e2 : x = wr.heap.size := (by simpa [Value.ownBlock] using e); omega); obtain ⟨a1, c1, hv1, _, _⟩ := r1'.form; subst hv1; have R1 := Lib.hid r1'; have O13 := Lib.hid o13; have Q3 := Lib.hid (hq.out.only o13 (fun _ _ h => h)); have z3 := o13.size; clear r1 gr1 ho1 r1' o13)
        | (at_builtin; refine wpList_append_own_at _ rfl _ _ 26 rfl w.heap.size 23 i0 _ 1 24 Try.underlying26 hi hz0 hz1 hz3 rfl (by decide) u3 k (vcells V' k) rfl (World.ownsRow.alloc Q3.out.1 _) ⟨w3.heap.size, 0, none⟩ 1 1 [.slice a1 (M k).length c1] rfl rfl (by intro j u hu; match j, hu with | 0, hu => (simp at hu; subst hu; simp [Addr.add])) (by intro u hu; simp at hu; subst hu; rfl) (by unfold maxLen; omega) (by omega) (by simp; omega) ?_; intro v2 w4 r2 gr2 hnn ho2; have hnil2 : Hid (v2 ≠ .slice none 0 0) := (fun e => by have := (hnn.1 e).2; omega); have o34 : Only w3 w4 (fun q => u3.ownBlock = some q) := (Only.new (S := fun q => u3.ownBlock = some q) (below_alloc0 w3 _)).trans ((Only.of_grown gr2).mono (T := fun q => u3.ownBlock = some q) (fun x _ e => e.symm)) (fun _ _ h => h); have P4 := Lib.hid (hq.out.push (R1.out.lower hz) O13.out (fun q hq' => (R1.out.lt q hq').1) r2 o34); have O14 : Hid (Only wr w4 (fun q => u3.ownBlock = some q)) := (O13.out.mono (T := fun q => u3.ownBlock = some q) (fun _ _ h => h.elim)).trans o34 (fun _ _ h => h); clear r2 gr2 ho2 o34 hnn))
      have hq3 : ∀ q, u3.ownBlock = some q → w.heap.size ≤ q := fun q e => (World.ownsRow.lt hq.out.1 q e).1
      have hm4 := Lib.hid (hm.out.only O14.out (fun q hq' e => by have := (HM.out.lt hq').2; have := hq3 q e; omega))
      have hb4 := Lib.hid (hb.out.trans (O14.out.below (B := w.heap.size) (fun q hq' _ e => by have := hq3 q e; omega) hz))
      go_roundw
      case rel => exact ⟨k + 1, _, by omega, by go_num, P4.out.congr (fun i _ => by unfold upd; split; (rename_i e; rw [e]); rfl), hm4, hb4, hnil2⟩
      case measure => simp [intOf]; omega
    · obtain rfl : k = n := by omega
      rcases hq.out.form with ⟨e, _⟩ | ⟨g, c', e, _⟩
      · exact absurd e hnil.out
      · subst e
        go_wp2
        go_ret
        exact ⟨g, c', V', rfl, hq.out, hb.out⟩

/-- Bins, and whether there are any. -/
def BinsRes (w : World) (ok : Bool) (n : Nat) (M : Nat → List (Int × ByteArray)) (e : Ending) (w' : World) : Prop :=
  ∃ (v : Value) (V : Nat → Value), e = .returned (.tuple #[v, .bool ok]) ∧ Mat w' w.heap.size v n V M ∧ Below w.heap.size w w'
def M.binOk (n : Nat) (I : Nat → Int) (C : Nat → ByteArray) (x : Int) : Bool := M.batch n I C && decide (0 ≤ x ∧ x ≤ 6)
theorem M.binOk_yes {n : Nat} {I : Nat → Int} {C : Nat → ByteArray} {x : Int} (h : M.binOk n I C x = true) : M.batch n I C = true ∧ 0 ≤ x ∧ x ≤ 6 := by
  unfold M.binOk at h
  rw [Bool.and_eq_true] at h
  exact ⟨h.1, of_decide_eq_true h.2⟩

end Go.Proofs.Ytobmenbhbeflhaa
