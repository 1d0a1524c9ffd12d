/-
  The reader of drawn inputs: what its methods return, and what they leave of the world. For every input.
-/
import Derived.Test.YtihbpalhbbingaaChecked
import Derived.Test.YtihbpalhbbingaaDig
import Derived.Laws.BitsAllLaws
import Derived.Laws.AppendOwn
import Derived.WalkKit
import Derived.Below
import Derived.Handy
import Derived.Lib.Hide
import Derived.BigQuiet
import Derived.Deep.QuietTactic
import Derived.Laws.IdiomStrings
namespace Go.Proofs.Ytihbpalhbbingaa
open Go.RowKit
open Go.PlainAid (bt get_bt bt_nonneg bt_le)

theorem xor_i64 (a b : Nat) (ha : a < 4611686018427387904) (hb : b < 4611686018427387904) : ∃ c : Nat, bits .xor .i64 (a : Int) (b : Int) = (c : Int) ∧ c < 4611686018427387904 := by
  refine ⟨a ^^^ b, ?_, Nat.xor_lt_two_pow (n := 62) (by omega) (by omega)⟩
  have hx : a ^^^ b < 2 ^ 62 := Nat.xor_lt_two_pow (by omega) (by omega)
  have h1 : (BitVec.ofInt 64 (a : Int)).toNat = a := by
    rw [BitVec.ofInt_natCast, BitVec.toNat_ofNat]; exact Nat.mod_eq_of_lt (by omega)
  have h2 : (BitVec.ofInt 64 (b : Int)).toNat = b := by
    rw [BitVec.ofInt_natCast, BitVec.toNat_ofNat]; exact Nat.mod_eq_of_lt (by omega)
  show IntKind.i64.wrap ((BitVec.ofInt 64 (a : Int) ^^^ BitVec.ofInt 64 (b : Int)).toNat : Int) = _
  rw [BitVec.toNat_xor, h1, h2, IntKind.wrap_i64]
  omega

theorem mix_bd (X n : Int) (h0 : 0 ≤ X) (h1 : X ≤ 1000000000) (hn : 1 ≤ n) : 0 ≤ (bits .xor .i64 X (X / 64)).tmod n ∧ (bits .xor .i64 X (X / 64)).tmod n < n := by
  obtain ⟨x, rfl⟩ := Int.eq_ofNat_of_zero_le h0
  obtain ⟨c, hc, _⟩ := xor_i64 x (x / 64) (by omega) (by omega)
  have e : (x : Int) / 64 = ((x / 64 : Nat) : Int) := rfl
  rw [e, hc]
  exact ⟨Int.tmod_nonneg n (by omega), Int.tmod_lt_of_pos _ (by omega)⟩
/-- The bytes that a reader holds: each cell a byte. -/
def Bytes (w : World) (r : Nat) (a : Option Addr) (l : Nat) : Prop :=
  l ≤ 2000 ∧ (l = 0 ∨ ∃ b off, a = some ⟨b, off, none⟩ ∧ b < r ∧ ∀ i, i < l → ∃ x : Int, w.cell? ⟨b, off + i, none⟩ = some (.int .u8 x) ∧ 0 ≤ x ∧ x ≤ 255)
/-- A reader in block r, from which at most N numbers have been taken. -/
def Rd (w : World) (r N : Nat) : Prop :=
  ∃ (p : Nat) (a : Option Addr) (l k : Nat), p ≤ N ∧ N ≤ 100000 ∧ w.cell? ⟨r, 0, none⟩ = some (.slice a l k) ∧ w.cell? ⟨r, 1, none⟩ = some (.int .i64 p) ∧ w.frozen? ⟨r, 1, none⟩ = false ∧ l ≤ k ∧ k ≤ maxLen ∧ Bytes w r a l
/-- The reader was made since W; all that was there then stands. -/
def St (W w : World) (r N : Nat) : Prop := Rd w r N ∧ Below W.heap.size W w ∧ W.heap.size ≤ r

theorem cell_lt' {w : World} {g i : Nat} {v : Value} (h : w.cell? ⟨g, i, none⟩ = some v) : g < w.heap.size := by
  apply Classical.byContradiction
  intro hn
  have e : w.heap[g]? = none := Array.getElem?_eq_none (by omega)
  simp [World.cell?, e] at h

theorem Rd.lt {w : World} {r N : Nat} (h : Rd w r N) : r < w.heap.size := by
  obtain ⟨p, a, l, k, _, _, h0, _⟩ := h
  exact cell_lt' h0
theorem Rd.below {w w' : World} {r N : Nat} (h : Rd w r N) (hb : Below w.heap.size w w') : Rd w' r N := by
  have hr := h.lt
  obtain ⟨p, a, l, k, hp, hN, h0, h1, hf, hlk, hk, hl, hB⟩ := h
  refine ⟨p, a, l, k, hp, hN, (hb.cell (p := ⟨r, 0, none⟩) hr).trans h0, (hb.cell (p := ⟨r, 1, none⟩) hr).trans h1, (hb.frozen (p := ⟨r, 1, none⟩) hr).trans hf, hlk, hk, hl, ?_⟩
  rcases hB with hB | ⟨b, off, rfl, hbr, hB⟩
  · exact Or.inl hB
  · refine Or.inr ⟨b, off, rfl, hbr, fun i hi => ?_⟩
    obtain ⟨x, hx, x0, x1⟩ := hB i hi
    exact ⟨x, (hb.cell (p := ⟨b, off + i, none⟩) (cell_lt' hx)).trans hx, x0, x1⟩
theorem Rd.mono {w : World} {r N M : Nat} (h : Rd w r N) (hM : N ≤ M) (hM' : M ≤ 100000) : Rd w r M := by
  obtain ⟨p, a, l, k, hp, hN, rest⟩ := h
  exact ⟨p, a, l, k, by omega, hM', rest⟩
theorem St.below {W w w' : World} {r N : Nat} (h : St W w r N) (hb : Below w.heap.size w w') : St W w' r N :=
  ⟨h.1.below hb, h.2.1.trans (hb.mono h.2.1.size), h.2.2⟩
theorem St.alloc {W w : World} {r N : Nat} (h : St W w r N) (o : Obj) : St W (w.alloc o) r N := h.below ((Below.refl _ _).alloc (Nat.le_refl _) _)
theorem St.drew {W w : World} {r N : Nat} (h : St W w r N) : St W w.drew r N := h.below ((Below.refl _ _).drew)

/-- What a number that is taken from a reader is, and what it leaves. -/
def Picked (n : Int) (w : World) (r N : Nat) (e : Ending) (w' : World) : Prop :=
  ∃ v : Int, e = .returned (.int .i64 v) ∧ 0 ≤ v ∧ v < n ∧ Rd w' r (N + 1) ∧ w.grownBy w' (some r)

/-- Behind the store of the next place: the reader, and what else was there. -/
theorem rd_set {w : World} {r N p l k : Nat} {a : Option Addr} (hp : p ≤ N) (hN : N < 100000) (h0 : w.cell? ⟨r, 0, none⟩ = some (.slice a l k)) (h1 : w.cell? ⟨r, 1, none⟩ = some (.int .i64 p)) (hf : w.frozen? ⟨r, 1, none⟩ = false) (hlk : l ≤ k) (hk : k ≤ maxLen) (hB : Bytes w r a l) (m : Nat) :
    Rd ((w.setCell ⟨r, 1, none⟩ (.int .i64 ((p : Int) + 1))).drewN m) r (N + 1) ∧ w.grownBy ((w.setCell ⟨r, 1, none⟩ (.int .i64 ((p : Int) + 1))).drewN m) (some r) := by
  have e0 : ((w.setCell ⟨r, 1, none⟩ (.int .i64 ((p : Int) + 1))).drewN m).cell? ⟨r, 0, none⟩ = some (.slice a l k) := by
    rw [World.cell?_drewN, World.cell?_setCell_other (h := by simp)]; exact h0
  have e1 : ((w.setCell ⟨r, 1, none⟩ (.int .i64 ((p : Int) + 1))).drewN m).cell? ⟨r, 1, none⟩ = some (.int .i64 ((p + 1 : Nat) : Int)) := by
    rw [World.cell?_drewN, World.cell?_setCell_same (h := h1)]; rfl
  have ef : ((w.setCell ⟨r, 1, none⟩ (.int .i64 ((p : Int) + 1))).drewN m).frozen? ⟨r, 1, none⟩ = false := by
    show (w.setCell ⟨r, 1, none⟩ (.int .i64 ((p : Int) + 1))).frozen? ⟨r, 1, none⟩ = false
    rw [World.frozen?_setCell]; exact hf
  refine ⟨⟨p + 1, a, l, k, by omega, by omega, e0, e1, ef, hlk, hk, hB.1, ?_⟩, ⟨rfl, rfl, rfl, ?_, ?_⟩⟩
  · rcases hB.2 with h | ⟨b, off, e, hb, hx⟩
    · exact Or.inl h
    · refine Or.inr ⟨b, off, e, hb, fun i hi => ?_⟩
      obtain ⟨x, hc, x0, x1⟩ := hx i hi
      refine ⟨x, ?_, x0, x1⟩
      rw [World.cell?_drewN, World.cell?_setCell_other (h := by intro e; injection e with e1; omega)]
      exact hc
  · show w.heap.size ≤ (w.setCell ⟨r, 1, none⟩ (.int .i64 ((p : Int) + 1))).heap.size
    rw [World.size_setCell]
    exact Nat.le_refl _
  · intro j _ hne
    exact Below.heap_setCell _ _ _ _ (by intro e; exact hne (by rw [e]))

set_option maxHeartbeats 2000000 in
set_option maxRecDepth 100000 in
theorem pick_any (n : Int) (w : World) (r N : Nat) (h : Rd w r N) (hN : N < 100000) (n1 : 1 ≤ n) (n2 : n ≤ 1000000) :
    Calls Try.prog 29 #[.pointer (some ⟨r, 0, none⟩), .int .i64 n] w (Picked n w r N) := by
  have hr := h.lt
  obtain ⟨p, a, l, k, hp, hN', h0, h1, hf, hlk, hk, hB⟩ := h
  have HS := Lib.hid (rd_set hp hN h0 h1 hf hlk hk hB)
  obtain ⟨hl, hB⟩ := hB
  unfold maxLen at hk
  rcases hB with rfl | ⟨b, off, rfl, hlr, hB⟩
  · go_enter Try.func29, Try.ntmps29
    go_wp2
    go_ret
    exact ⟨0, rfl, by omega, by omega, HS.out 0⟩
  · have HB := Lib.hid hB
    have hbr : b ≠ r := Nat.ne_of_lt hlr
    clear hB hlr
    by_cases hz : l = 0
    · subst hz
      go_enter Try.func29, Try.ntmps29
      go_wp2
      go_ret
      exact ⟨0, rfl, by omega, by omega, HS.out 0⟩
    have hl0 : (0 : Int) < (l : Int) := by omega
    have hlz : ((l : Int) == 0) = false := by simp; omega
    by_cases hpl : p < l
    · obtain ⟨x, hx, x0, x1⟩ := HB.out p hpl
      go_enter Try.func29, Try.ntmps29
      go_wp2
      go_ret
      exact ⟨x % n, rfl, Int.emod_nonneg x (by omega), Int.emod_lt_of_pos x (by omega), HS.out 0⟩
    · obtain ⟨k1, k1l, m1, m1'⟩ : ∃ k1 : Nat, k1 < l ∧ (p : Int).tmod (l : Int) = (k1 : Int) ∧ (p : Int) % (l : Int) = (k1 : Int) := ⟨p % l, Nat.mod_lt _ (by omega), rfl, rfl⟩
      obtain ⟨k2, k2l, m2, m2'⟩ : ∃ k2 : Nat, k2 < l ∧ ((p : Int) * 7 + 3).tmod (l : Int) = (k2 : Int) ∧ ((p : Int) * 7 + 3) % (l : Int) = (k2 : Int) := ⟨(p * 7 + 3) % l, Nat.mod_lt _ (by omega), rfl, rfl⟩
      obtain ⟨q, ql, m3, m3'⟩ : ∃ q : Nat, q ≤ 100000 ∧ (p : Int).tdiv (l : Int) = (q : Int) ∧ (p : Int) / (l : Int) = (q : Int) := ⟨p / l, by have := Nat.div_le_self p l; omega, rfl, rfl⟩
      obtain ⟨x1, hx1, x10, x11⟩ := HB.out k1 k1l
      obtain ⟨x2, hx2, x20, x21⟩ := HB.out k2 k2l
      have k1i : (k1 : Int) < (l : Int) := by omega
      have k2i : (k2 : Int) < (l : Int) := by omega
      have s1 : IntKind.i64.wrap ((p : Int) * 7) = (p : Int) * 7 := IntWalk.i64_in _ (by omega)
      have s2 : IntKind.i64.wrap ((p : Int) * 7 + 3) = (p : Int) * 7 + 3 := IntWalk.i64_in _ (by omega)
      have s3 : IntKind.i64.wrap (x1 * 131) = x1 * 131 := IntWalk.i64_in _ (by omega)
      have s4 : IntKind.i64.wrap (x2 * 1117) = x2 * 1117 := IntWalk.i64_in _ (by omega)
      have s5 : IntKind.i64.wrap (x1 * 131 + x2 * 1117) = x1 * 131 + x2 * 1117 := IntWalk.i64_in _ (by omega)
      have s6 : IntKind.i64.wrap ((p : Int) * 29) = (p : Int) * 29 := IntWalk.i64_in _ (by omega)
      have s7 : IntKind.i64.wrap (x1 * 131 + x2 * 1117 + (p : Int) * 29) = x1 * 131 + x2 * 1117 + (p : Int) * 29 := IntWalk.i64_in _ (by omega)
      have s8 : IntKind.i64.wrap (q : Int) = (q : Int) := IntWalk.i64_in _ (by omega)
      have s9 : IntKind.i64.wrap ((q : Int) * 53) = (q : Int) * 53 := IntWalk.i64_in _ (by omega)
      have s10 : IntKind.i64.wrap (x1 * 131 + x2 * 1117 + (p : Int) * 29 + (q : Int) * 53) = x1 * 131 + x2 * 1117 + (p : Int) * 29 + (q : Int) * 53 := IntWalk.i64_in _ (by omega)
      have s11 : IntKind.i64.wrap x1 = x1 := IntWalk.i64_in _ (by omega)
      have s12 : IntKind.i64.wrap x2 = x2 := IntWalk.i64_in _ (by omega)
      go_enter Try.func29, Try.ntmps29
      go_wp2
      go_quiet (fail)
      go_wp2
      go_ret
      have hm := mix_bd (x1 * 131 + x2 * 1117 + (p : Int) * 29 + (q : Int) * 53) n (by omega) (by omega) n1
      exact ⟨_, rfl, hm.1, hm.2, HS.out _⟩

theorem St.picked {W w w' : World} {r N : Nat} (h : St W w r N) (hr : Rd w' r (N + 1)) (hg : w.grownBy w' (some r)) : St W w' r (N + 1) :=
  ⟨hr, h.2.1.grown hg h.2.1.size (fun k hk => by injection hk with e; rw [← e]; exact h.2.2), h.2.2⟩
theorem St.mono {W w : World} {r N M : Nat} (h : St W w r N) (hM : N ≤ M) (hM' : M ≤ 100000) : St W w r M := by
  obtain ⟨⟨p, a, l, k, hp, hN, rest⟩, h2⟩ := h
  exact ⟨⟨p, a, l, k, by omega, hM', rest⟩, h2⟩

/-- What is taken from a reader since W. -/
def PickedSt (W : World) (n : Int) (r N : Nat) (e : Ending) (w' : World) : Prop := ∃ v : Int, e = .returned (.int .i64 v) ∧ 0 ≤ v ∧ v < n ∧ St W w' r (N + 1)
theorem pick_st (W : World) (n : Int) (w : World) (r N : Nat) (h : St W w r N) (hN : N < 100000) (n1 : 1 ≤ n) (n2 : n ≤ 1000000) :
    Calls Try.prog 29 #[.pointer (some ⟨r, 0, none⟩), .int .i64 n] w (PickedSt W n r N) :=
  (pick_any n w r N h.1 hN n1 n2).mono fun e w' hp => by
    obtain ⟨v, he, v0, v1, hr, hg⟩ := hp
    exact ⟨v, he, v0, v1, h.picked hr hg⟩

/-- A list of numbers, or of strings, in a block of its own. -/
def NumSt (W : World) (zs : List Int) (r N : Nat) (e : Ending) (w' : World) : Prop := ∃ v : Int, e = .returned (.int .i64 v) ∧ v ∈ zs ∧ St W w' r (N + 1)
def OfSt (W : World) (S : List ByteArray) (r N : Nat) (e : Ending) (w' : World) : Prop := ∃ v : ByteArray, e = .returned (.string v) ∧ v ∈ S ∧ St W w' r (N + 1)

set_option maxHeartbeats 400000 in
theorem num_st (W : World) (zs : List Int) (b : Nat) (w : World) (r N : Nat) (h : St W w r N) (hN : N < 100000) (z1 : 1 ≤ zs.length) (z2 : zs.length ≤ 1000) (hb : b ≠ r) (hc : ∀ i, i < zs.length → w.cell? ⟨b, i, none⟩ = some (.int .i64 (zs.getD i 0))) :
    Calls Try.prog 30 #[.pointer (some ⟨r, 0, none⟩), .slice (some ⟨b, 0, none⟩) zs.length zs.length] w (NumSt W zs r N) := by
  have HC := Lib.hid hc
  clear hc
  go_enter Try.func30, Try.ntmps30
  go_wp2_with fail
  refine (pick_any _ _ r N h.1 hN (by omega) (by omega)).mono ?_
  rintro e w1 ⟨v, rfl, v0, v1, hr, hg⟩
  have hst := h.picked hr hg
  obtain ⟨j, rfl⟩ := Int.eq_ofNat_of_zero_le v0
  have hj : j < zs.length := by omega
  have hcell := hg.cell (HC.out j hj) (by intro e; injection e with e; exact hb e)
  go_wp2
  go_ret
  exact ⟨_, rfl, List.getElem_mem hj, hst⟩

theorem cells_str (L : List ByteArray) (T : TypeId) (w : World) (i : Nat) (hi : i < L.length) : (w.alloc (.cells (L.map Value.string).toArray T)).cell? ⟨w.heap.size, i, none⟩ = some (.string (L.getD i ByteArray.empty)) := by
  simp [hi]
theorem cells_int (L : List Int) (T : TypeId) (w : World) (i : Nat) (hi : i < L.length) : (w.alloc (.cells (L.map (Value.int .i64)).toArray T)).cell? ⟨w.heap.size, i, none⟩ = some (.int .i64 (L.getD i 0)) := by
  simp [hi]

/-- WHAT THE WALK IS TOLD OF A SLICE OF BYTES THAT CAME IN: it is nil; or it leads to a row of cells, each a byte. -/
def IsRow (k : IntKind) (w : World) (a : Option Addr) (len cap : Nat) (zs : List Int) : Prop :=
  (a = none ∧ len = 0 ∧ cap = 0 ∧ zs = []) ∨
  ∃ x, a = some x ∧ len ≤ cap ∧ cap ≤ maxLen ∧ zs.length = cap ∧ (∀ i, i < zs.length → w.cell? (x.add i) = some (.int k (zs.getD i 0))) ∧ ∀ n ∈ zs, (Lit.int k n).wf = true

/-- A new reader. -/
def Opened (w : World) (e : Ending) (w' : World) : Prop := ∃ r : Nat, e = .returned (.pointer (some ⟨r, 0, none⟩)) ∧ St w w' r 0

theorem byte_wf {n : Int} (h : (Lit.int .u8 n).wf = true) : 0 ≤ n ∧ n ≤ 255 := by
  simp [Lit.wf, IntKind.min, IntKind.max, IntKind.signed, IntKind.bits] at h
  omega

theorem open_st (x : Addr) (l l' k : Nat) (z : List Int) (w : World) (T : TypeId) (hl' : l' ≤ l) (h2 : l' ≤ 2000) (hl : l ≤ k) (hm : k ≤ maxLen) (hz : z.length = k) (hcell : ∀ i, i < z.length → w.cell? (x.add i) = some (.int .u8 (z.getD i 0))) (hwz : ∀ n ∈ z, (Lit.int .u8 n).wf = true) :
    St w (w.alloc (.cells #[.slice (some x) l' k, .int .i64 0] T)) w.heap.size 0 := by
  refine ⟨⟨0, some x, l', k, by omega, by omega, by simp, by simp, by simp, by omega, hm, h2, ?_⟩, (Below.refl _ _).alloc (Nat.le_refl _) _, Nat.le_refl _⟩
  by_cases h0 : l' = 0
  · exact Or.inl h0
  · obtain ⟨b, off, spot⟩ := x
    have hc := hcell 0 (by omega)
    have hspot : spot = none := by simpa [Addr.add] using World.cell?_spot hc
    subst hspot
    have hb : b < w.heap.size := cell_lt' (i := off) (by simpa [Addr.add] using hc)
    refine Or.inr ⟨b, off, rfl, by omega, fun i hi => ?_⟩
    have hi' : i < z.length := by omega
    have hx : w.cell? ⟨b, off + i, none⟩ = some (.int .u8 (z.getD i 0)) := by
      have h9 := hcell i hi'
      by_cases e : i = 0
      · subst e; simpa [Addr.add] using h9
      · simpa [Addr.add, e] using h9
    have hw := byte_wf (hwz (z.getD i 0) (by rw [List.getD_eq_getElem?_getD, List.getElem?_eq_getElem hi']; exact List.getElem_mem hi'))
    refine ⟨z.getD i 0, ?_, hw.1, hw.2⟩
    rw [← hx]
    exact World.cell?_alloc_lt _ _ _ hb

set_option maxHeartbeats 400000 in
theorem open_any (a : Option Addr) (l k : Nat) (z : List Int) (w : World) (h : IsRow .u8 w a l k z) :
    Calls Try.prog 26 #[.slice a l k] w (Opened w) := by
  rcases h with ⟨rfl, rfl, rfl, rfl⟩ | ⟨x, rfl, hl, hm, hz, hcell, hwz⟩
  · go_enter Try.func26, Try.ntmps26
    go_wp2
    go_ret
    refine ⟨w.heap.size, rfl, ?_, (Below.refl _ _).alloc (Nat.le_refl _) _, Nat.le_refl _⟩
    exact ⟨0, none, 0, 0, by omega, by omega, by simp, by simp, by simp, by omega, by omega, by omega, Or.inl rfl⟩
  · have hS := Lib.hid (fun T l' h1 h2 => open_st x l l' k z w T h1 h2 hl hm hz hcell hwz)
    unfold maxLen at hm
    clear hcell hwz hz
    by_cases h2 : 2000 < l
    · go_enter Try.func26, Try.ntmps26
      go_wp2
      go_ret
      exact ⟨w.heap.size, rfl, hS.out _ 2000 (by omega) (by omega)⟩
    · go_enter Try.func26, Try.ntmps26
      go_wp2
      go_ret
      exact ⟨w.heap.size, rfl, hS.out _ l (by omega) (by omega)⟩
end Go.Proofs.Ytihbpalhbbingaa

/-
  Drawn codes: what the functions that draw a code return. For every input.
-/
namespace Go.Proofs.Ytihbpalhbbingaa
open Go.RowKit

/-- A string whose size lies between two numbers, and new memory alone. -/
def StrOf (lo hi : Nat) (w : World) (e : Ending) (w' : World) : Prop := ∃ s : ByteArray, e = .returned (.string s) ∧ lo ≤ s.size ∧ s.size ≤ hi ∧ Below w.heap.size w w'
/-- The same, behind which a reader goes on. -/
def StrSt (W : World) (lo hi r N : Nat) (e : Ending) (w' : World) : Prop := ∃ s : ByteArray, e = .returned (.string s) ∧ lo ≤ s.size ∧ s.size ≤ hi ∧ St W w' r N

theorem one_byte (w : World) (x : Int) (x0 : 0 ≤ x) (x1 : x ≤ 255) (T : TypeId) : (convert 22 9 (.slice (some ⟨w.heap.size, 0, none⟩) 1 1)).run Try.prog (w.alloc (.cells #[.int .u8 x] T)) = .ok (.string ⟨#[UInt8.ofNat x.toNat]⟩) (w.alloc (.cells #[.int .u8 x] T)) := by
  have hb : (UInt8.ofNat x.toNat).toNat = x.toNat := by
    rw [UInt8.toNat_ofNat']
    omega
  exact run_convert_bytes_back (P := Try.prog) (w.alloc (.cells #[.int .u8 x] T)) 22 9 5 ⟨w.heap.size, 0, none⟩ 1 [UInt8.ofNat x.toNat] Try.underlying22 Try.underlying5 Try.underlying9 (by
    intro j hj
    have hj0 : j = 0 := by simp at hj; omega
    subst hj0
    show (w.alloc (.cells #[.int .u8 x] T)).cell? ⟨w.heap.size, 0, none⟩ = _
    have hx : ((x.toNat : Nat) : Int) = x := by omega
    simp [hb, hx])

set_option maxHeartbeats 1000000 in
theorem l9Dec_digit (n : Int) (w : World) (n0 : 0 ≤ n) (n1 : n ≤ 9) :
    Calls Try.prog 70 #[.int .i64 n] w (StrOf 1 1 w) := by
  have ha := one_byte w (48 + n) (by omega) (by omega)
  go_enter Try.func70, Try.ntmps70
  have hx : ¬ (9 < n) := by omega
  go_wp2
  go_rounds 1
  go_ret
  exact ⟨_, rfl, by rw [ByteArray.size_append]; exact Nat.le_refl 1, by rw [ByteArray.size_append]; exact Nat.le_refl 1, (Below.refl _ _).alloc (Nat.le_refl _) _⟩

set_option maxHeartbeats 1000000 in
theorem l1Show_any (n : Int) (sz : Nat) (w : World) (n0 : 0 ≤ n) (n1 : n ≤ 1000000000) (hs : sz ≤ 20) :
    Calls Try.prog 69 #[.int .i64 n, .int .i64 sz] w (StrOf sz sz w) := by
  go_enter Try.func69, Try.ntmps69
  go_wp2
  go_loopw [0, 5, 6] (fun m o i wr => ∃ (k : Nat) (v : Int) (s : ByteArray), k ≤ sz ∧ i = .int .i64 k ∧ m = .int .i64 v ∧ 0 ≤ v ∧ v ≤ 1000000000 ∧ o = .string s ∧ k ≤ s.size ∧ s.size ≤ k ∧ Below w.heap.size w wr) (fun _ _ i _ => sz - (intOf i).toNat)
  case atStart => exact ⟨0, n, ⟨#[]⟩, by omega, rfl, rfl, n0, n1, rfl, by decide, by decide, Below.refl _ _⟩
  case round =>
    obtain ⟨k, v, s, hk, rfl, rfl, v0, v1, rfl, s0, s1, hb⟩ := hrel
    have hz := hb.size
    by_cases hlt : k < sz
    · have q0 : 0 ≤ v % 10 := by omega
      have q1 : v % 10 ≤ 9 := by omega
      go_wp2_with (go_at_call 70; refine (l9Dec_digit _ _ (by omega) (by omega)).mono ?_; rintro e w1 ⟨t, rfl, t0, t1, hb1⟩)
      go_roundw
      case rel => exact ⟨k + 1, v / 10, t ++ s, by omega, by go_num, by go_num, by omega, by omega, rfl, by rw [ByteArray.size_append]; omega, by rw [ByteArray.size_append]; omega, hb.trans (hb1.mono hz)⟩
      case measure => simp [intOf]; omega
    · obtain rfl : k = sz := by omega
      go_wp2
      go_ret
      exact ⟨s, rfl, s0, s1, hb⟩

set_option maxHeartbeats 2000000 in
theorem l1Some_any (W w : World) (r N : Nat) (h : St W w r N) (hN : N ≤ 90000) :
    Calls Try.prog 66 #[.pointer (some ⟨r, 0, none⟩)] w (StrSt W 7 7 r (N + 10)) := by
  go_enter Try.func66, Try.ntmps66
  go_wp2_with fail
  have hr := h.1.lt
  refine (num_st W [120, 121, 7, 999] w.heap.size _ r _ (h.alloc _) (by omega) (by decide) (by decide) (by omega) (cells_int [120, 121, 7, 999] _ w)).mono ?_
  rintro e w1 ⟨v1, rfl, hm1, st1⟩
  have hv1 := (show ∀ x ∈ [(120 : Int), 121, 7, 999], 0 ≤ x ∧ x ≤ 999 from by decide) v1 hm1
  clear hm1 h
  go_wp2_with fail
  have hr1 := st1.1.lt
  refine (num_st W [1, 2, 10, 99] w1.heap.size _ r _ (st1.alloc _) (by omega) (by decide) (by decide) (by omega) (cells_int [1, 2, 10, 99] _ w1)).mono ?_
  rintro e w2 ⟨v2, rfl, hm2, st2⟩
  have hv2 := (show ∀ x ∈ [(1 : Int), 2, 10, 99], 0 ≤ x ∧ x ≤ 999 from by decide) v2 hm2
  clear hm2 st1
  obtain ⟨a1, a2⟩ := hv1
  obtain ⟨b1, b2⟩ := hv2
  go_wp2_with fail
  refine (l1Show_any _ 3 _ a1 (by omega) (by omega)).mono ?_
  rintro e w3 ⟨s3, rfl, s30, s31, hb3⟩
  have st3 := st2.below hb3
  clear st2 hb3
  go_wp2_with fail
  refine (l1Show_any _ 2 _ b1 (by omega) (by omega)).mono ?_
  rintro e w4 ⟨s4, rfl, s40, s41, hb4⟩
  have st4 := st3.below hb4
  clear st3 hb4
  go_wp2_with fail
  refine (pick_st W _ _ r _ st4 (by omega) (by omega) (by omega)).mono ?_
  rintro e w5 ⟨v5, rfl, c1, c2, st5⟩
  clear st4
  go_wp2_with fail
  refine (l1Show_any _ 2 _ c1 (by omega) (by omega)).mono ?_
  rintro e w6 ⟨s6, rfl, s60, s61, hb6⟩
  have st6 := st5.below hb6
  clear st5 hb6
  go_wp2_with fail
  refine (pick_st W _ _ r _ st6 (by omega) (by omega) (by omega)).mono ?_
  rintro e w7 ⟨v7, rfl, d1, d2, st7⟩
  clear st6
  cases hv : (v7 == 0)
  · go_wp2
    go_ret
    exact ⟨_, rfl, by simp only [ByteArray.size_append]; omega, by simp only [ByteArray.size_append]; omega, st7.mono (by omega) (by omega)⟩
  · go_wp2_with fail
    refine (pick_st W _ _ r _ st7 (by omega) (by omega) (by omega)).mono ?_
    rintro e w8 ⟨x1, rfl, x10, x11, st8⟩
    clear st7
    go_wp2_with fail
    refine (pick_st W _ _ r _ st8 (by omega) (by omega) (by omega)).mono ?_
    rintro e w9 ⟨x2, rfl, x20, x21, st9⟩
    clear st8
    have p0 : 0 ≤ x1 * x2 := Int.mul_nonneg x10 x20
    have p1 : x1 * x2 ≤ 255 * 255 := Int.mul_le_mul (by omega) (by omega) x20 (by omega)
    go_wp2_with fail
    refine (pick_st W _ _ r _ st9 (by omega) (by omega) (by omega)).mono ?_
    rintro e w10 ⟨x3, rfl, x30, x31, st10⟩
    clear st9
    generalize x1 * x2 = P at p0 p1 ⊢
    have p2 : 0 ≤ P * x3 := Int.mul_nonneg p0 x30
    have p3 : P * x3 ≤ 255 * 255 * 149 := Int.mul_le_mul p1 (by omega) x30 (by omega)
    go_wp2_with fail
    refine (pick_st W _ _ r _ st10 (by omega) (by omega) (by omega)).mono ?_
    rintro e w11 ⟨x4, rfl, x40, x41, st11⟩
    clear st10
    generalize P * x3 = Q at p2 p3 ⊢
    go_wp2_with fail
    refine (l1Show_any _ 7 _ (by omega) (by omega) (by omega)).mono ?_
    rintro e w12 ⟨s12, rfl, z0, z1, hb12⟩
    have st12 := st11.below hb12
    clear st11 hb12
    go_wp2
    go_ret
    exact ⟨_, rfl, z0, z1, st12.mono (by omega) (by omega)⟩

set_option maxHeartbeats 1000000 in
theorem l9Dec_any (n : Int) (w : World) (n0 : -1 ≤ n) (n1 : n ≤ 9) :
    Calls Try.prog 70 #[.int .i64 n] w (StrOf 1 2 w) := by
  by_cases h : n = -1
  · subst h
    go_enter Try.func70, Try.ntmps70
    go_wp2_with fail
    refine (l9Dec_digit _ _ (by decide) (by decide)).mono ?_
    rintro e w1 ⟨s, rfl, s0, s1, hb⟩
    go_wp2
    go_ret
    refine ⟨_, rfl, ?_, ?_, hb⟩
    · rw [ByteArray.size_append]; omega
    · rw [ByteArray.size_append, show (⟨#[45]⟩ : ByteArray).size = 1 from rfl]; omega
  · exact (l9Dec_digit n w (by omega) n1).mono fun e w' hp => by
      obtain ⟨s, he, s0, s1, hb⟩ := hp
      exact ⟨s, he, s0, by omega, hb⟩

set_option maxHeartbeats 1000000 in
theorem l1Bad_any (W w : World) (r N : Nat) (c : ByteArray) (h : St W w r N) (hN : N ≤ 90000) (c0 : 1 ≤ c.size) (c1 : c.size ≤ 20) :
    Calls Try.prog 65 #[.pointer (some ⟨r, 0, none⟩), .string c] w (StrSt W 0 21 r (N + 10)) := by
  go_enter Try.func65, Try.ntmps65
  go_wp2_with fail
  refine (pick_st W _ _ r _ h (by omega) (by omega) (by omega)).mono ?_
  rintro e w1 ⟨v, rfl, v0, v1, st1⟩
  clear h
  have d1 : c.size - 1 ≤ c.size := by omega
  cases h0 : (v == 0)
  · cases h1 : (v == 1)
    · cases h2 : (v == 2)
      · go_wp2
        go_ret
        exact ⟨_, rfl, by omega, by omega, st1.mono (by omega) (by omega)⟩
      · go_wp2
        go_ret
        exact ⟨_, rfl, by omega, by decide, st1.mono (by omega) (by omega)⟩
    · go_wp2
      go_ret
      refine ⟨_, rfl, by omega, ?_, st1.mono (by omega) (by omega)⟩
      rw [ByteArray.size_append, ByteArray.size_extract, show (⟨#[120]⟩ : ByteArray).size = 1 from rfl]
      omega
  · go_wp2
    go_ret
    refine ⟨_, rfl, by omega, ?_, st1.mono (by omega) (by omega)⟩
    rw [ByteArray.size_append, show (⟨#[48]⟩ : ByteArray).size = 1 from rfl]
    omega
end Go.Proofs.Ytihbpalhbbingaa
