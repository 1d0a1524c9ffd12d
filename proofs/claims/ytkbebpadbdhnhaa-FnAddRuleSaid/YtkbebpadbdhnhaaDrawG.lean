/-
  Drawn codes once more: what they leave is all but the reader's own block. And drawn batches.
-/
import Derived.Test.YtkbebpadbdhnhaaDrawCode
import Derived.Test.YtkbebpadbdhnhaaRow
import Derived.Maps.RangeWalk
import Derived.Deep.RegionWith
import Derived.IntWalk
namespace Go.Proofs.Ytkbebpadbdhnhaa
open Go.RowKit

/-- The reader, and all blocks of W but its own as they were. -/
def Sg (W w : World) (r N : Nat) : Prop := Rd w r N ∧ W.grownBy w (some r)
theorem Sg.below {W w w' : World} {r N : Nat} (h : Sg W w r N) (hb : Below w.heap.size w w') : Sg W w' r N :=
  ⟨h.1.below hb, h.2.trans ((grown_of_below hb).but _)⟩
theorem Sg.alloc {W w : World} {r N : Nat} (h : Sg W w r N) (o : Obj) : Sg W (w.alloc o) r N := h.below ((Below.refl _ _).alloc (Nat.le_refl _) _)
theorem Sg.drew {W w : World} {r N : Nat} (h : Sg W w r N) : Sg W w.drew r N := h.below ((Below.refl _ _).drew)
theorem Sg.picked {W w w' : World} {r N : Nat} (h : Sg W w r N) (hr : Rd w' r (N + 1)) (hg : w.grownBy w' (some r)) : Sg W w' r (N + 1) := ⟨hr, h.2.trans hg⟩
theorem Sg.mono {W w : World} {r N M : Nat} (h : Sg W w r N) (hM : N ≤ M) (hM' : M ≤ 100000) : Sg W w r M := by
  obtain ⟨⟨p, a, l, k, hp, hN, rest⟩, h2⟩ := h
  exact ⟨⟨p, a, l, k, by omega, hM', rest⟩, h2⟩
theorem Sg.start {w : World} {r N : Nat} (h : Rd w r N) : Sg w w r N := ⟨h, World.grownBy.refl _ _⟩
theorem St.grow {W w w' : World} {r N M : Nat} (h : St W w r N) (hs : Sg w w' r M) : St W w' r M :=
  ⟨hs.1, h.2.1.grown hs.2 h.2.1.size (fun k hk => by injection hk with e; rw [← e]; exact h.2.2), h.2.2⟩
def StrSg (W : World) (lo hi r N : Nat) (e : Ending) (w' : World) : Prop := ∃ s : ByteArray, e = .returned (.string s) ∧ lo ≤ s.size ∧ s.size ≤ hi ∧ Sg W w' r N
def PickedSg (W : World) (n : Int) (r N : Nat) (e : Ending) (w' : World) : Prop := ∃ v : Int, e = .returned (.int .i64 v) ∧ 0 ≤ v ∧ v < n ∧ Sg W w' r (N + 1)
theorem pick_sg (W : World) (n : Int) (w : World) (r N : Nat) (h : Sg W w r N) (hN : N < 100000) (n1 : 1 ≤ n) (n2 : n ≤ 1000000) :
    Calls Try.prog 27 #[.pointer (some ⟨r, 0, none⟩), .int .i64 n] w (PickedSg W n r N) :=
  (pick_any n w r N h.1 hN n1 n2).mono fun e w' hp => by
    obtain ⟨v, he, v0, v1, hr, hg⟩ := hp
    exact ⟨v, he, v0, v1, h.picked hr hg⟩
def NumSg (W : World) (zs : List Int) (r N : Nat) (e : Ending) (w' : World) : Prop := ∃ v : Int, e = .returned (.int .i64 v) ∧ v ∈ zs ∧ Sg W w' r (N + 1)
set_option maxHeartbeats 400000 in
theorem num_sg (W : World) (zs : List Int) (b : Nat) (w : World) (r N : Nat) (h : Sg W w r N) (hN : N < 100000) (z1 : 1 ≤ zs.length) (z2 : zs.length ≤ 1000) (hb : b ≠ r) (hc : ∀ i, i < zs.length → w.cell? ⟨b, i, none⟩ = some (.int .i64 (zs.getD i 0))) :
    Calls Try.prog 14 #[.pointer (some ⟨r, 0, none⟩), .slice (some ⟨b, 0, none⟩) zs.length zs.length] w (NumSg W zs r N) := by
  have HC := Lib.hid hc
  clear hc
  go_enter Try.func14, Try.ntmps14
  go_wp2_with fail
  refine (pick_any _ _ r N h.1 hN (by omega) (by omega)).mono ?_
  rintro e w1 ⟨v, rfl, v0, v1, hr, hg⟩
  have hst := h.picked hr hg
  obtain ⟨j, rfl⟩ := Int.eq_ofNat_of_zero_le v0
  have hj : j < zs.length := by omega
  have hcell := hg.cell (HC.out j hj) (by intro e; injection e with e; exact hb e)
  go_wp2
  go_ret
  exact ⟨_, rfl, List.getElem_mem hj, hst⟩

set_option maxHeartbeats 1000000 in
theorem l1Bad_sg (W w : World) (r N : Nat) (c : ByteArray) (h : Sg W w r N) (hN : N ≤ 90000) (c0 : 1 ≤ c.size) (c1 : c.size ≤ 20) :
    Calls Try.prog 25 #[.pointer (some ⟨r, 0, none⟩), .string c] w (StrSg W 0 21 r (N + 10)) := by
  go_enter Try.func25, Try.ntmps25
  go_wp2_with fail
  refine (pick_sg W _ _ r _ h (by omega) (by omega) (by omega)).mono ?_
  rintro e w1 ⟨v, rfl, v0, v1, st1⟩
  clear h
  have d1 : c.size - 1 ≤ c.size := by omega
  cases h0 : (v == 0)
  · cases h1 : (v == 1)
    · cases h2 : (v == 2)
      · go_wp2
        go_ret
        exact ⟨_, rfl, by omega, by omega, st1.mono (by omega) (by omega)⟩
      · go_wp2
        go_ret
        exact ⟨_, rfl, by omega, by decide, st1.mono (by omega) (by omega)⟩
    · go_wp2
      go_ret
      refine ⟨_, rfl, by omega, ?_, st1.mono (by omega) (by omega)⟩
      rw [ByteArray.size_append, ByteArray.size_extract, show (⟨#[120]⟩ : ByteArray).size = 1 from rfl]
      omega
  · go_wp2
    go_ret
    refine ⟨_, rfl, by omega, ?_, st1.mono (by omega) (by omega)⟩
    rw [ByteArray.size_append, show (⟨#[48]⟩ : ByteArray).size = 1 from rfl]
    omega
/-- Letters in a slice of their own. -/
def Small (z : Nat) (L : List (Int × ByteArray)) : Prop := ∀ x ∈ L, (-1 ≤ x.1 ∧ x.1 ≤ 100000) ∧ x.2.size ≤ z
theorem Sg.trans {W w w' : World} {r N M : Nat} (h : Sg W w r N) (k : Sg w w' r M) : Sg W w' r M := ⟨k.1, h.2.trans k.2⟩
end Go.Proofs.Ytkbebpadbdhnhaa
