/-
  The reader of drawn inputs: what its methods return, and what they leave of the world. For every input.
-/
import Derived.Test.YtekkajgifgnklaaChecked
import Derived.Test.YtekkajgifgnklaaDig
import Derived.Laws.BitsAllLaws
import Derived.Laws.AppendOwn
import Derived.WalkKit
import Derived.Below
import Derived.Handy
import Derived.Lib.Hide
import Derived.BigQuiet
import Derived.Deep.QuietTactic
namespace Go.Proofs.Ytekkajgifgnklaa
open Go.RowKit
open Go.PlainAid (bt get_bt bt_nonneg bt_le)

theorem xor_i64 (a b : Nat) (ha : a < 4611686018427387904) (hb : b < 4611686018427387904) : ∃ c : Nat, bits .xor .i64 (a : Int) (b : Int) = (c : Int) ∧ c < 4611686018427387904 := by
  refine ⟨a ^^^ b, ?_, Nat.xor_lt_two_pow (n := 62) (by omega) (by omega)⟩
  have hx : a ^^^ b < 2 ^ 62 := Nat.xor_lt_two_pow (by omega) (by omega)
  have h1 : (BitVec.ofInt 64 (a : Int)).toNat = a := by
    rw [BitVec.ofInt_natCast, BitVec.toNat_ofNat]; exact Nat.mod_eq_of_lt (by omega)
  have h2 : (BitVec.ofInt 64 (b : Int)).toNat = b := by
    rw [BitVec.ofInt_natCast, BitVec.toNat_ofNat]; exact Nat.mod_eq_of_lt (by omega)
  show IntKind.i64.wrap ((BitVec.ofInt 64 (a : Int) ^^^ BitVec.ofInt 64 (b : Int)).toNat : Int) = _
  rw [BitVec.toNat_xor, h1, h2, IntKind.wrap_i64]
  omega

theorem mix_bd (X n : Int) (h0 : 0 ≤ X) (h1 : X ≤ 1000000000) (hn : 1 ≤ n) : 0 ≤ (bits .xor .i64 X (X / 64)).tmod n ∧ (bits .xor .i64 X (X / 64)).tmod n < n := by
  obtain ⟨x, rfl⟩ := Int.eq_ofNat_of_zero_le h0
  obtain ⟨c, hc, _⟩ := xor_i64 x (x / 64) (by omega) (by omega)
  have e : (x : Int) / 64 = ((x / 64 : Nat) : Int) := rfl
  rw [e, hc]
  exact ⟨Int.tmod_nonneg n (by omega), Int.tmod_lt_of_pos _ (by omega)⟩
/-- The bytes that a reader holds: each cell a byte. -/
def Bytes (w : World) (r : Nat) (a : Option Addr) (l : Nat) : Prop :=
  l ≤ 2000 ∧ (l = 0 ∨ ∃ b off, a = some ⟨b, off, none⟩ ∧ b < r ∧ ∀ i, i < l → ∃ x : Int, w.cell? ⟨b, off + i, none⟩ = some (.int .u8 x) ∧ 0 ≤ x ∧ x ≤ 255)
/-- A reader in block r, from which at most N numbers have been taken. -/
def Rd (w : World) (r N : Nat) : Prop :=
  ∃ (p : Nat) (a : Option Addr) (l k : Nat), p ≤ N ∧ N ≤ 100000 ∧ w.cell? ⟨r, 0, none⟩ = some (.slice a l k) ∧ w.cell? ⟨r, 1, none⟩ = some (.int .i64 p) ∧ w.frozen? ⟨r, 1, none⟩ = false ∧ l ≤ k ∧ k ≤ maxLen ∧ Bytes w r a l
/-- The reader was made since W; all that was there then stands. -/
def St (W w : World) (r N : Nat) : Prop := Rd w r N ∧ Below W.heap.size W w ∧ W.heap.size ≤ r

theorem cell_lt' {w : World} {g i : Nat} {v : Value} (h : w.cell? ⟨g, i, none⟩ = some v) : g < w.heap.size := by
  apply Classical.byContradiction
  intro hn
  have e : w.heap[g]? = none := Array.getElem?_eq_none (by omega)
  simp [World.cell?, e] at h

theorem Rd.lt {w : World} {r N : Nat} (h : Rd w r N) : r < w.heap.size := by
  obtain ⟨p, a, l, k, _, _, h0, _⟩ := h
  exact cell_lt' h0
theorem Rd.below {w w' : World} {r N : Nat} (h : Rd w r N) (hb : Below w.heap.size w w') : Rd w' r N := by
  have hr := h.lt
  obtain ⟨p, a, l, k, hp, hN, h0, h1, hf, hlk, hk, hl, hB⟩ := h
  refine ⟨p, a, l, k, hp, hN, (hb.cell (p := ⟨r, 0, none⟩) hr).trans h0, (hb.cell (p := ⟨r, 1, none⟩) hr).trans h1, (hb.frozen (p := ⟨r, 1, none⟩) hr).trans hf, hlk, hk, hl, ?_⟩
  rcases hB with hB | ⟨b, off, rfl, hbr, hB⟩
  · exact Or.inl hB
  · refine Or.inr ⟨b, off, rfl, hbr, fun i hi => ?_⟩
    obtain ⟨x, hx, x0, x1⟩ := hB i hi
    exact ⟨x, (hb.cell (p := ⟨b, off + i, none⟩) (cell_lt' hx)).trans hx, x0, x1⟩
theorem Rd.mono {w : World} {r N M : Nat} (h : Rd w r N) (hM : N ≤ M) (hM' : M ≤ 100000) : Rd w r M := by
  obtain ⟨p, a, l, k, hp, hN, rest⟩ := h
  exact ⟨p, a, l, k, by omega, hM', rest⟩
theorem St.below {W w w' : World} {r N : Nat} (h : St W w r N) (hb : Below w.heap.size w w') : St W w' r N :=
  ⟨h.1.below hb, h.2.1.trans (hb.mono h.2.1.size), h.2.2⟩
theorem St.alloc {W w : World} {r N : Nat} (h : St W w r N) (o : Obj) : St W (w.alloc o) r N := h.below ((Below.refl _ _).alloc (Nat.le_refl _) _)
theorem St.drew {W w : World} {r N : Nat} (h : St W w r N) : St W w.drew r N := h.below ((Below.refl _ _).drew)

/-- What a number that is taken from a reader is, and what it leaves. -/
def Picked (n : Int) (w : World) (r N : Nat) (e : Ending) (w' : World) : Prop :=
  ∃ v : Int, e = .returned (.int .i64 v) ∧ 0 ≤ v ∧ v < n ∧ Rd w' r (N + 1) ∧ w.grownBy w' (some r)

/-- Behind the store of the next place: the reader, and what else was there. -/
theorem rd_set {w : World} {r N p l k : Nat} {a : Option Addr} (hp : p ≤ N) (hN : N < 100000) (h0 : w.cell? ⟨r, 0, none⟩ = some (.slice a l k)) (h1 : w.cell? ⟨r, 1, none⟩ = some (.int .i64 p)) (hf : w.frozen? ⟨r, 1, none⟩ = false) (hlk : l ≤ k) (hk : k ≤ maxLen) (hB : Bytes w r a l) (m : Nat) :
    Rd ((w.setCell ⟨r, 1, none⟩ (.int .i64 ((p : Int) + 1))).drewN m) r (N + 1) ∧ w.grownBy ((w.setCell ⟨r, 1, none⟩ (.int .i64 ((p : Int) + 1))).drewN m) (some r) := by
  have e0 : ((w.setCell ⟨r, 1, none⟩ (.int .i64 ((p : Int) + 1))).drewN m).cell? ⟨r, 0, none⟩ = some (.slice a l k) := by
    rw [World.cell?_drewN, World.cell?_setCell_other (h := by simp)]; exact h0
  have e1 : ((w.setCell ⟨r, 1, none⟩ (.int .i64 ((p : Int) + 1))).drewN m).cell? ⟨r, 1, none⟩ = some (.int .i64 ((p + 1 : Nat) : Int)) := by
    rw [World.cell?_drewN, World.cell?_setCell_same (h := h1)]; rfl
  have ef : ((w.setCell ⟨r, 1, none⟩ (.int .i64 ((p : Int) + 1))).drewN m).frozen? ⟨r, 1, none⟩ = false := by
    show (w.setCell ⟨r, 1, none⟩ (.int .i64 ((p : Int) + 1))).frozen? ⟨r, 1, none⟩ = false
    rw [World.frozen?_setCell]; exact hf
  refine ⟨⟨p + 1, a, l, k, by omega, by omega, e0, e1, ef, hlk, hk, hB.1, ?_⟩, ⟨rfl, rfl, rfl, ?_, ?_⟩⟩
  · rcases hB.2 with h | ⟨b, off, e, hb, hx⟩
    · exact Or.inl h
    · refine Or.inr ⟨b, off, e, hb, fun i hi => ?_⟩
      obtain ⟨x, hc, x0, x1⟩ := hx i hi
      refine ⟨x, ?_, x0, x1⟩
      rw [World.cell?_drewN, World.cell?_setCell_other (h := by intro e; injection e with e1; omega)]
      exact hc
  · show w.heap.size ≤ (w.setCell ⟨r, 1, none⟩ (.int .i64 ((p : Int) + 1))).heap.size
    rw [World.size_setCell]
    exact Nat.le_refl _
  · intro j _ hne
    exact Below.heap_setCell _ _ _ _ (by intro e; exact hne (by rw [e]))

set_option maxHeartbeats 2000000 in
set_option maxRecDepth 100000 in
theorem pick_any (n : Int) (w : World) (r N : Nat) (h : Rd w r N) (hN : N < 100000) (n1 : 1 ≤ n) (n2 : n ≤ 1000000) :
    Calls Try.prog 35 #[.pointer (some ⟨r, 0, none⟩), .int .i64 n] w (Picked n w r N) := by
  have hr := h.lt
  obtain ⟨p, a, l, k, hp, hN', h0, h1, hf, hlk, hk, hB⟩ := h
  have HS := Lib.hid (rd_set hp hN h0 h1 hf hlk hk hB)
  obtain ⟨hl, hB⟩ := hB
  unfold maxLen at hk
  rcases hB with rfl | ⟨b, off, rfl, hlr, hB⟩
  · go_enter Try.func35, Try.ntmps35
    go_wp2
    go_ret
    exact ⟨0, rfl, by omega, by omega, HS.out 0⟩
  · have HB := Lib.hid hB
    have hbr : b ≠ r := Nat.ne_of_lt hlr
    clear hB hlr
    by_cases hz : l = 0
    · subst hz
      go_enter Try.func35, Try.ntmps35
      go_wp2
      go_ret
      exact ⟨0, rfl, by omega, by omega, HS.out 0⟩
    have hl0 : (0 : Int) < (l : Int) := by omega
    have hlz : ((l : Int) == 0) = false := by simp; omega
    by_cases hpl : p < l
    · obtain ⟨x, hx, x0, x1⟩ := HB.out p hpl
      go_enter Try.func35, Try.ntmps35
      go_wp2
      go_ret
      exact ⟨x % n, rfl, Int.emod_nonneg x (by omega), Int.emod_lt_of_pos x (by omega), HS.out 0⟩
    · obtain ⟨k1, k1l, m1, m1'⟩ : ∃ k1 : Nat, k1 < l ∧ (p : Int).tmod (l : Int) = (k1 : Int) ∧ (p : Int) % (l : Int) = (k1 : Int) := ⟨p % l, Nat.mod_lt _ (by omega), rfl, rfl⟩
      obtain ⟨k2, k2l, m2, m2'⟩ : ∃ k2 : Nat, k2 < l ∧ ((p : Int) * 7 + 3).tmod (l : Int) = (k2 : Int) ∧ ((p : Int) * 7 + 3) % (l : Int) = (k2 : Int) := ⟨(p * 7 + 3) % l, Nat.mod_lt _ (by omega), rfl, rfl⟩
      obtain ⟨q, ql, m3, m3'⟩ : ∃ q : Nat, q ≤ 100000 ∧ (p : Int).tdiv (l : Int) = (q : Int) ∧ (p : Int) / (l : Int) = (q : Int) := ⟨p / l, by have := Nat.div_le_self p l; omega, rfl, rfl⟩
      obtain ⟨x1, hx1, x10, x11⟩ := HB.out k1 k1l
      obtain ⟨x2, hx2, x20, x21⟩ := HB.out k2 k2l
      have k1i : (k1 : Int) < (l : Int) := by omega
      have k2i : (k2 : Int) < (l : Int) := by omega
      have s1 : IntKind.i64.wrap ((p : Int) * 7) = (p : Int) * 7 := IntWalk.i64_in _ (by omega)
      have s2 : IntKind.i64.wrap ((p : Int) * 7 + 3) = (p : Int) * 7 + 3 := IntWalk.i64_in _ (by omega)
      have s3 : IntKind.i64.wrap (x1 * 131) = x1 * 131 := IntWalk.i64_in _ (by omega)
      have s4 : IntKind.i64.wrap (x2 * 1117) = x2 * 1117 := IntWalk.i64_in _ (by omega)
      have s5 : IntKind.i64.wrap (x1 * 131 + x2 * 1117) = x1 * 131 + x2 * 1117 := IntWalk.i64_in _ (by omega)
      have s6 : IntKind.i64.wrap ((p : Int) * 29) = (p : Int) * 29 := IntWalk.i64_in _ (by omega)
      have s7 : IntKind.i64.wrap (x1 * 131 + x2 * 1117 + (p : Int) * 29) = x1 * 131 + x2 * 1117 + (p : Int) * 29 := IntWalk.i64_in _ (by omega)
      have s8 : IntKind.i64.wrap (q : Int) = (q : Int) := IntWalk.i64_in _ (by omega)
      have s9 : IntKind.i64.wrap ((q : Int) * 53) = (q : Int) * 53 := IntWalk.i64_in _ (by omega)
      have s10 : IntKind.i64.wrap (x1 * 131 + x2 * 1117 + (p : Int) * 29 + (q : Int) * 53) = x1 * 131 + x2 * 1117 + (p : Int) * 29 + (q : Int) * 53 := IntWalk.i64_in _ (by omega)
      have s11 : IntKind.i64.wrap x1 = x1 := IntWalk.i64_in _ (by omega)
      have s12 : IntKind.i64.wrap x2 = x2 := IntWalk.i64_in _ (by omega)
      go_enter Try.func35, Try.ntmps35
      go_wp2
      go_quiet (fail)
      go_wp2
      go_ret
      have hm := mix_bd (x1 * 131 + x2 * 1117 + (p : Int) * 29 + (q : Int) * 53) n (by omega) (by omega) n1
      exact ⟨_, rfl, hm.1, hm.2, HS.out _⟩

theorem St.picked {W w w' : World} {r N : Nat} (h : St W w r N) (hr : Rd w' r (N + 1)) (hg : w.grownBy w' (some r)) : St W w' r (N + 1) :=
  ⟨hr, h.2.1.grown hg h.2.1.size (fun k hk => by injection hk with e; rw [← e]; exact h.2.2), h.2.2⟩
theorem St.mono {W w : World} {r N M : Nat} (h : St W w r N) (hM : N ≤ M) (hM' : M ≤ 100000) : St W w r M := by
  obtain ⟨⟨p, a, l, k, hp, hN, rest⟩, h2⟩ := h
  exact ⟨⟨p, a, l, k, by omega, hM', rest⟩, h2⟩

/-- What is taken from a reader since W. -/
def PickedSt (W : World) (n : Int) (r N : Nat) (e : Ending) (w' : World) : Prop := ∃ v : Int, e = .returned (.int .i64 v) ∧ 0 ≤ v ∧ v < n ∧ St W w' r (N + 1)
theorem pick_st (W : World) (n : Int) (w : World) (r N : Nat) (h : St W w r N) (hN : N < 100000) (n1 : 1 ≤ n) (n2 : n ≤ 1000000) :
    Calls Try.prog 35 #[.pointer (some ⟨r, 0, none⟩), .int .i64 n] w (PickedSt W n r N) :=
  (pick_any n w r N h.1 hN n1 n2).mono fun e w' hp => by
    obtain ⟨v, he, v0, v1, hr, hg⟩ := hp
    exact ⟨v, he, v0, v1, h.picked hr hg⟩

/-- A list of numbers, or of strings, in a block of its own. -/
def NumSt (W : World) (zs : List Int) (r N : Nat) (e : Ending) (w' : World) : Prop := ∃ v : Int, e = .returned (.int .i64 v) ∧ v ∈ zs ∧ St W w' r (N + 1)
def OfSt (W : World) (S : List ByteArray) (r N : Nat) (e : Ending) (w' : World) : Prop := ∃ v : ByteArray, e = .returned (.string v) ∧ v ∈ S ∧ St W w' r (N + 1)

set_option maxHeartbeats 400000 in
theorem num_st (W : World) (zs : List Int) (b : Nat) (w : World) (r N : Nat) (h : St W w r N) (hN : N < 100000) (z1 : 1 ≤ zs.length) (z2 : zs.length ≤ 1000) (hb : b ≠ r) (hc : ∀ i, i < zs.length → w.cell? ⟨b, i, none⟩ = some (.int .i64 (zs.getD i 0))) :
    Calls Try.prog 42 #[.pointer (some ⟨r, 0, none⟩), .slice (some ⟨b, 0, none⟩) zs.length zs.length] w (NumSt W zs r N) := by
  have HC := Lib.hid hc
  clear hc
  go_enter Try.func42, Try.ntmps42
  go_wp2_with fail
  refine (pick_any _ _ r N h.1 hN (by omega) (by omega)).mono ?_
  rintro e w1 ⟨v, rfl, v0, v1, hr, hg⟩
  have hst := h.picked hr hg
  obtain ⟨j, rfl⟩ := Int.eq_ofNat_of_zero_le v0
  have hj : j < zs.length := by omega
  have hcell := hg.cell (HC.out j hj) (by intro e; injection e with e; exact hb e)
  go_wp2
  go_ret
  exact ⟨_, rfl, List.getElem_mem hj, hst⟩

theorem cells_str (L : List ByteArray) (T : TypeId) (w : World) (i : Nat) (hi : i < L.length) : (w.alloc (.cells (L.map Value.string).toArray T)).cell? ⟨w.heap.size, i, none⟩ = some (.string (L.getD i ByteArray.empty)) := by
  simp [hi]
theorem cells_int (L : List Int) (T : TypeId) (w : World) (i : Nat) (hi : i < L.length) : (w.alloc (.cells (L.map (Value.int .i64)).toArray T)).cell? ⟨w.heap.size, i, none⟩ = some (.int .i64 (L.getD i 0)) := by
  simp [hi]

/-- WHAT THE WALK IS TOLD OF A SLICE OF BYTES THAT CAME IN: it is nil; or it leads to a row of cells, each a byte. -/
def IsRow (k : IntKind) (w : World) (a : Option Addr) (len cap : Nat) (zs : List Int) : Prop :=
  (a = none ∧ len = 0 ∧ cap = 0 ∧ zs = []) ∨
  ∃ x, a = some x ∧ len ≤ cap ∧ cap ≤ maxLen ∧ zs.length = cap ∧ (∀ i, i < zs.length → w.cell? (x.add i) = some (.int k (zs.getD i 0))) ∧ ∀ n ∈ zs, (Lit.int k n).wf = true

/-- A new reader. -/
def Opened (w : World) (e : Ending) (w' : World) : Prop := ∃ r : Nat, e = .returned (.pointer (some ⟨r, 0, none⟩)) ∧ St w w' r 0

theorem byte_wf {n : Int} (h : (Lit.int .u8 n).wf = true) : 0 ≤ n ∧ n ≤ 255 := by
  simp [Lit.wf, IntKind.min, IntKind.max, IntKind.signed, IntKind.bits] at h
  omega

theorem open_st (x : Addr) (l l' k : Nat) (z : List Int) (w : World) (T : TypeId) (hl' : l' ≤ l) (h2 : l' ≤ 2000) (hl : l ≤ k) (hm : k ≤ maxLen) (hz : z.length = k) (hcell : ∀ i, i < z.length → w.cell? (x.add i) = some (.int .u8 (z.getD i 0))) (hwz : ∀ n ∈ z, (Lit.int .u8 n).wf = true) :
    St w (w.alloc (.cells #[.slice (some x) l' k, .int .i64 0] T)) w.heap.size 0 := by
  refine ⟨⟨0, some x, l', k, by omega, by omega, by simp, by simp, by simp, by omega, hm, h2, ?_⟩, (Below.refl _ _).alloc (Nat.le_refl _) _, Nat.le_refl _⟩
  by_cases h0 : l' = 0
  · exact Or.inl h0
  · obtain ⟨b, off, spot⟩ := x
    have hc := hcell 0 (by omega)
    have hspot : spot = none := by simpa [Addr.add] using World.cell?_spot hc
    subst hspot
    have hb : b < w.heap.size := cell_lt' (i := off) (by simpa [Addr.add] using hc)
    refine Or.inr ⟨b, off, rfl, by omega, fun i hi => ?_⟩
    have hi' : i < z.length := by omega
    have hx : w.cell? ⟨b, off + i, none⟩ = some (.int .u8 (z.getD i 0)) := by
      have h9 := hcell i hi'
      by_cases e : i = 0
      · subst e; simpa [Addr.add] using h9
      · simpa [Addr.add, e] using h9
    have hw := byte_wf (hwz (z.getD i 0) (by rw [List.getD_eq_getElem?_getD, List.getElem?_eq_getElem hi']; exact List.getElem_mem hi'))
    refine ⟨z.getD i 0, ?_, hw.1, hw.2⟩
    rw [← hx]
    exact World.cell?_alloc_lt _ _ _ hb

set_option maxHeartbeats 400000 in
theorem open_any (a : Option Addr) (l k : Nat) (z : List Int) (w : World) (h : IsRow .u8 w a l k z) :
    Calls Try.prog 18 #[.slice a l k] w (Opened w) := by
  rcases h with ⟨rfl, rfl, rfl, rfl⟩ | ⟨x, rfl, hl, hm, hz, hcell, hwz⟩
  · go_enter Try.func18, Try.ntmps18
    go_wp2
    go_ret
    refine ⟨w.heap.size, rfl, ?_, (Below.refl _ _).alloc (Nat.le_refl _) _, Nat.le_refl _⟩
    exact ⟨0, none, 0, 0, by omega, by omega, by simp, by simp, by simp, by omega, by omega, by omega, Or.inl rfl⟩
  · have hS := Lib.hid (fun T l' h1 h2 => open_st x l l' k z w T h1 h2 hl hm hz hcell hwz)
    unfold maxLen at hm
    clear hcell hwz hz
    by_cases h2 : 2000 < l
    · go_enter Try.func18, Try.ntmps18
      go_wp2
      go_ret
      exact ⟨w.heap.size, rfl, hS.out _ 2000 (by omega) (by omega)⟩
    · go_enter Try.func18, Try.ntmps18
      go_wp2
      go_ret
      exact ⟨w.heap.size, rfl, hS.out _ l (by omega) (by omega)⟩
end Go.Proofs.Ytekkajgifgnklaa
