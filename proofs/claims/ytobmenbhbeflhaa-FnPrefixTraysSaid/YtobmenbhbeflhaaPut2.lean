/-
  What put leaves: one letter more in one of the pockets.
-/
import Derived.Test.YtobmenbhbeflhaaMat
import Derived.Deep.AppendLies
import Derived.Deep.RegionLaw
namespace Go.Proofs.Ytobmenbhbeflhaa
open Go.RowKit

/-- What put leaves of the world. -/
def Put (w : World) (base G c n : Nat) (V : Nat → Value) (M : Nat → List (Int × ByteArray)) (d : Nat) (i : Int) (s : ByteArray) (e : Ending) (w' : World) : Prop :=
  ∃ x : Value, e = .returned (.tuple #[]) ∧ Mat w' base (.slice (some ⟨G, 0, none⟩) n c) n (upd V d x) (upd M d (M d ++ [(i, s)])) ∧ Only w w' (inM (.slice (some ⟨G, 0, none⟩) n c) n V) ∧ (∀ k, x.ownBlock = some k → (V d).ownBlock = some k ∨ w.heap.size ≤ k)
set_option maxHeartbeats 2000000 in
theorem put_any (w : World) (base G c n : Nat) (V : Nat → Value) (M : Nat → List (Int × ByteArray)) (h : Mat w base (.slice (some ⟨G, 0, none⟩) n c) n V M) (hbase : base ≤ w.heap.size) (d : Nat) (hd : d < n) (i : Int) (s : ByteArray) (hl : (M d).length ≤ 1048576) :
    Calls Try.prog 38 #[.slice (some ⟨G, 0, none⟩) n c, .int .i64 d, .agg #[.int .i64 i, .string s]] w (Put w base G c n V M d i s) := by
  obtain ⟨W0, hW0⟩ : ∃ W0, w.alloc (.cells #[.int .i64 i, .string s] 31) = W0 := ⟨_, rfl⟩
  have k0 : Below w.heap.size w W0 := by rw [← hW0]; go_grown
  have zW : W0.heap.size = w.heap.size + 1 := by rw [← hW0]; simp
  have H0 := Lib.hid (h.on k0)
  have hG := h.lt (k := G) (Or.inl rfl)
  have b0 : W0.cell? ⟨w.heap.size, 0, none⟩ = some (.int .i64 i) := by rw [← hW0]; simp
  have b1 : W0.cell? ⟨w.heap.size, 1, none⟩ = some (.string s) := by rw [← hW0]; simp
  obtain ⟨a, cc, hv, hlc, _⟩ := (H0.out.2.1 d hd).form
  obtain ⟨G', c', e1, c0, c1⟩ := H0.out.cell hd
  cases e1
  have HR := Lib.hid (H0.out.2.1 d hd)
  have HVV := Lib.hid hv
  rw [hv] at c0 HR
  obtain ⟨i0, hi, hz0, hz1, hz2⟩ := info_parts info_letter
  have hdi : (d : Int) < (n : Int) := by omega
  have hd0 : (0 : Int) ≤ (d : Int) := by omega
  have hne1 : G ≠ w.heap.size := by omega
  have hne2 : w.heap.size ≠ G := by omega
  have hrow : ∀ k, (V d).ownBlock = some k → k ≠ G ∧ k < w.heap.size := fun k hk => ⟨fun e => by subst e; exact h.outer hd rfl hk, (h.lt (Or.inr ⟨d, hd, hk⟩)).2⟩
  rw [hv] at hrow
  have HRow := Lib.hid hrow
  have HW0 := Lib.hid hW0
  have K0 := Lib.hid k0
  have HH := Lib.hid h
  have zW1 : W0.heap.size ≤ w.heap.size + 1 := by omega
  have zW2 : w.heap.size + 1 ≤ W0.heap.size := by omega
  have hne3 : G ≠ W0.heap.size := by omega
  have hne4 : w.heap.size ≠ W0.heap.size := by omega
  have hG3 : G < W0.heap.size := by omega
  have hH3 : w.heap.size < W0.heap.size := by omega
  clear hW0 k0 h hrow hv hlc zW
  go_enter Try.func38, Try.ntmps38
  go_wp2
  rw [HW0.out]
  go_region_law (refine step_append_lies _ (by rfl) _ _ 23 (by rfl) base 31 i0 _ 2 24 Try.underlying23 hi hz0 hz1 hz2 rfl (by decide) _ (M d).length (lcells (M d)) (by rfl) (World.ownsRow.alloc (show _ from HR.out) _) ⟨W0.heap.size, 0, none⟩ 1 1 [.int .i64 i, .string s] (by rfl) rfl (by intro j u hu; match j, hu with | 0, hu => (simp at hu; subst hu; simp [Addr.add]) | 1, hu => (simp at hu; subst hu; simp [Addr.add])) (by intro u hu; simp at hu; rcases hu with rfl | rfl <;> rfl) (by decide) (by unfold maxLen; omega) (by omega) (by simp; omega) (W0.heap.size + 1) (by simp) ?_; intro g' cap w3 hown hgrow hat hlt; have o3 : Only W0 w3 (fun k => (Value.slice a (M d).length cc).ownBlock = some k) := Only.trans (Only.new (S := fun k => (Value.slice a (M d).length cc).ownBlock = some k) (by go_grown)) ((Only.of_grown hgrow).mono (T := fun k => (Value.slice a (M d).length cc).ownBlock = some k) (fun x _ e => e.symm)) (fun _ _ h => h); have hbG : w3.heap[G]? = W0.heap[G]? := o3.block G (by omega) (fun e => (HRow.out G e).1 rfl); have hbH : w3.heap[w.heap.size]? = W0.heap[w.heap.size]? := o3.block w.heap.size (by omega) (fun e => by have := (HRow.out _ e).2; omega); have s0 : w3.cell? ⟨G, d, none⟩ = some (.slice a (M d).length cc) := (World.cell?_of_block (a := ⟨G, d, none⟩) hbG).trans c0; have s1 : w3.frozen? ⟨G, d, none⟩ = false := (World.frozen?_of_block (a := ⟨G, d, none⟩) hbG).trans c1; have s2 : w3.cell? ⟨w.heap.size, 0, none⟩ = some (.int .i64 i) := (World.cell?_of_block (a := ⟨w.heap.size, 0, none⟩) hbH).trans b0; have s3 : w3.cell? ⟨w.heap.size, 1, none⟩ = some (.string s) := (World.cell?_of_block (a := ⟨w.heap.size, 1, none⟩) hbH).trans b1; have HO := Lib.hid hown; have O3 := Lib.hid o3; have HA : Hid ((Value.slice a (M d).length cc).ownBlock = some g' ∨ g' = W0.heap.size + 1) := hat; clear hown hgrow o3 hat hbG hbH)
  all_goals
    have HX : Hid (∀ k, (Value.slice (some ⟨g', 0, none⟩) ((M d).length + 1) cap).ownBlock = some k → (V d).ownBlock = some k ∨ W0.heap.size ≤ k) := fun k hk => by
      have e : g' = k := by simpa [Value.ownBlock] using hk
      subst e
      rcases HA.out with h | h
      · exact Or.inl (by rw [HVV.out]; exact h)
      · exact Or.inr (by omega)
    have HRW : Row w3 base (.slice (some ⟨g', 0, none⟩) ((M d).length + 1) cap) (M d ++ [(i, s)]) := by
      unfold Row
      rw [lcells_append, List.length_append]
      exact HO.out
    have HM := Lib.hid (H0.out.put hd HRW (by rw [HVV.out]; exact O3.out) HX.out)
    have HOn : Hid (Only w (w3.setCell ⟨G, d, none⟩ (.slice (some ⟨g', 0, none⟩) ((M d).length + 1) cap)) (inM (.slice (some ⟨G, 0, none⟩) n c) n V)) :=
      ((Only.new K0.out).trans (O3.out.mono (T := inM (.slice (some ⟨G, 0, none⟩) n c) n V) (fun x _ e => Or.inr ⟨d, hd, by rw [HVV.out]; exact e⟩)) (fun _ _ h => h)).trans (Only.set w3 ⟨G, d, none⟩ _ (S := inM (.slice (some ⟨G, 0, none⟩) n c) n V) (Or.inl rfl)) (fun _ _ h => h)
    refine bodyPost_end (results_none rfl _ _ _) rfl ?_
    exact ⟨_, rfl, HM.out, HOn.out, fun k hk => (HX.out k hk).imp id (fun h => by omega)⟩
end Go.Proofs.Ytobmenbhbeflhaa
