/-
  Numbers written in decimal, on paper. No program is named here.
-/
import Derived.Test.YtccfjeijnadjfaaDoorMgT8
import Derived.Lib.ItoaNum
import Derived.Test.YtccfjeijnadjfaaDoorIntS
import Derived.Test.YtccfjeijnadjfaaDoorTrkM
import Derived.Test.YtccfjeijnadjfaaDoorMgT1
import Derived.Test.YtccfjeijnadjfaaDoorMatL
namespace Go.Proofs.YtccfjeijnadjfaaDoor.M
set_option linter.unusedVariables false

/-- A number that is not negative, written. -/
def decT (n : Int) : ByteArray := ⟨(Lib.decDigits n.toNat).toArray⟩
theorem decT_small {u : Nat} (h : u < 10) : Lib.decDigits u = [UInt8.ofNat (48 + u)] := by rw [Lib.decDigits, dif_pos h]
theorem decT_big {u : Nat} (h : ¬ u < 10) : Lib.decDigits u = Lib.decDigits (u / 10) ++ [UInt8.ofNat (48 + u % 10)] := by
  conv => lhs; rw [Lib.decDigits, dif_neg h]
theorem decT_len : ∀ (k u : Nat), u < 10 ^ (k + 1) → 1 ≤ (Lib.decDigits u).length ∧ (Lib.decDigits u).length ≤ k + 1
  | 0, u, h => by rw [decT_small (by simpa using h)]; simp
  | k + 1, u, h => by
    by_cases h9 : u < 10
    · rw [decT_small h9]; simp
    · have := decT_len k (u / 10) (by rw [Nat.pow_succ] at h; omega)
      rw [decT_big h9, List.length_append]
      simp
      omega
theorem decT_size {n : Int} (h0 : 0 ≤ n) (h1 : n ≤ 9999) : 1 ≤ (decT n).size ∧ (decT n).size ≤ 4 := by
  have := decT_len 3 n.toNat (by omega)
  exact this
theorem decT_step {v : Int} {s : ByteArray} (h : 9 < v) : Lib.decDigits v.toNat ++ s.data.toList = Lib.decDigits (v / 10).toNat ++ ((⟨#[UInt8.ofNat (48 + v % 10).toNat]⟩ : ByteArray) ++ s).data.toList := by
  have e1 : (v / 10).toNat = v.toNat / 10 := by omega
  have e2 : (48 + v % 10).toNat = 48 + v.toNat % 10 := by omega
  rw [decT_big (by omega : ¬ v.toNat < 10), e1, e2, bapp_data, List.append_assoc]
theorem decT_last {v : Int} {s : ByteArray} {n : Int} (h0 : 0 ≤ v) (h : ¬ 9 < v) (hs : Lib.decDigits v.toNat ++ s.data.toList = Lib.decDigits n.toNat) : (⟨#[UInt8.ofNat (48 + v).toNat]⟩ : ByteArray) ++ s = decT n := by
  have e2 : (48 + v).toNat = 48 + v.toNat := by omega
  rw [decT_small (by omega : v.toNat < 10)] at hs
  unfold decT
  rw [← hs, e2]
  apply ByteArray.ext
  apply Array.toList_inj.1
  rw [bapp_data]
theorem itoa_decT {n : Int} (h : 0 ≤ n) : (⟨(Lib.itoa n).toArray⟩ : ByteArray) = decT n := by
  unfold Lib.itoa decT
  rw [if_neg (by omega)]
end Go.Proofs.YtccfjeijnadjfaaDoor.M

/-
  Slices of numbers that came in: where they lie; their copy; whether all of them lie between bounds.
-/
namespace Go.Proofs.YtccfjeijnadjfaaDoor
open Go.RowKit

/-- A slice of numbers. -/
def Nums (w : World) (a : Option Addr) (L : List Int) : Prop :=
  ∀ i, i < L.length → ∃ b o, a = some ⟨b, o, none⟩ ∧ w.cell? ⟨b, o + i, none⟩ = some (.int .i64 (MW.gz L i))
theorem Nums.lt {w : World} {a : Option Addr} {L : List Int} (h : Nums w a L) {b o : Nat} (ha : a = some ⟨b, o, none⟩) (h0 : 0 < L.length) : b < w.heap.size := by
  obtain ⟨b', o', e, hc⟩ := h 0 h0
  rw [ha] at e
  cases e
  exact World.block_lt_of_cell? _ _ hc
theorem Nums.on {w w' : World} {a : Option Addr} {L : List Int} (h : Nums w a L) (hb : Below w.heap.size w w') : Nums w' a L := by
  intro i hi
  obtain ⟨b, o, e, h1⟩ := h i hi
  have hl := World.block_lt_of_cell? _ _ h1
  exact ⟨b, o, e, (hb.cell (p := ⟨b, o + i, none⟩) hl).trans h1⟩
theorem IRow.nums {w : World} {base : Nat} {a : Option Addr} {n c : Nat} {L : List Int} (h : IRow w base (.slice a n c) L) : Nums w a L := by
  obtain ⟨a', c', e, _, hl⟩ := h.form
  injection e with e1 _ _
  subst e1
  intro i hi
  obtain ⟨b, e, c1⟩ := hl i hi
  exact ⟨b, 0, e, by rw [Nat.zero_add, MW.gz_at hi]; exact c1⟩
theorem IRow.at {w : World} {base g n c : Nat} {L : List Int} (h : IRow w base (.slice (some ⟨g, 0, none⟩) n c) L) (j : Nat) (hj : j < L.length) : w.cell? ⟨g, j, none⟩ = some (.int .i64 (MW.gz L j)) ∧ w.frozen? ⟨g, j, none⟩ = false := by
  have hn : n = L.length := by
    obtain ⟨a', c', e, _, _⟩ := h.form
    injection e
  subst hn
  exact ⟨by rw [World.ownsRow.cellAt h j (by omega), icells_at L j hj, MW.gz_at hj], World.ownsRow.frozenAt h j⟩
theorem make_ints (n : Nat) (hn : n ≤ 1048576) (w : World) :
    (Instr.makeSlice 67 (.int .i64 (n : Int)) (.int .i64 (n : Int))).run Tryd.prog w = .ok (.slice (some ⟨w.heap.size, 0, none⟩) n n) (w.alloc (.cells (madeCells #[.int .i64 0] n) 3)) := by
  obtain ⟨i, hi, hzz⟩ := Option.map_eq_some_iff.1 info_int
  simp only [Prod.mk.injEq] at hzz
  obtain ⟨hz, hs, hb⟩ := hzz
  have hr := run_make (P := Tryd.prog) w 67 3 i _ Tryd.underlying67 hi hz .i64 .i64 n n (by omega) (Int.le_refl _) (by rw [hb]; omega) (by omega)
  simp only [Int.toNat_natCast, hs, Nat.mul_one] at hr
  exact hr
theorem iown_made (w : World) (n : Nat) : (w.alloc (.cells (madeCells #[.int .i64 0] n) 3)).rowIs w.heap.size 3 n (fun _ => .int .i64 0) := World.rowIs_made w _ n _
theorem IRow.of_rowIs {w : World} {b n base : Nat} {L : List Int} {f : Nat → Value} (h : w.rowIs b 3 n f) (hL : L.length = n) (hf : ∀ i, i < n → f i = .int .i64 (MW.gz L i)) (hb : base ≤ b) (hn : n ≤ 1048576) : IRow w base (.slice (some ⟨b, 0, none⟩) n n) L := by
  obtain ⟨cur, hh, hs, hc⟩ := h
  unfold IRow
  rw [hL]
  refine ⟨by rw [icells_length, hL, Nat.mul_one], Or.inr ⟨b, n, cur, rfl, hb, hh, Nat.le_refl _, by unfold maxLen; omega, by omega, ?_⟩⟩
  rw [List.take_of_length_le (by rw [Array.length_toList]; omega)]
  apply List.ext_getElem?
  intro j
  by_cases hj : j < n
  · rw [Array.getElem?_toList, hc j hj, hf j hj, icells_at _ j (by omega), MW.gz_at (by omega)]
  · rw [List.getElem?_eq_none (by rw [Array.length_toList]; omega), List.getElem?_eq_none (by rw [icells_length]; omega)]
theorem irow_made (w : World) (n base : Nat) (hn : n ≤ 1048576) (hb : base ≤ w.heap.size) : IRow (w.alloc (.cells (madeCells #[.int .i64 0] n) 3)) base (.slice (some ⟨w.heap.size, 0, none⟩) n n) (List.replicate n 0) :=
  IRow.of_rowIs (iown_made w n) (by simp) (fun i hi => by rw [MW.gz_replicate]) hb hn

end Go.Proofs.YtccfjeijnadjfaaDoor

/-
  Slices of letters in a slice of slices, of which two may be one and the same: enough to read them.
-/
namespace Go.Proofs.YtccfjeijnadjfaaDoor
open Go.RowKit
set_option linter.unusedVariables false

/-- n slices of letters, in a slice v of slices: the values V own the lists M; two of them may share their block. -/
def MatR (w : World) (base : Nat) (v : Value) (n : Nat) (V : Nat → Value) (M : Nat → List (Int × ByteArray)) : Prop :=
  w.ownsRow base 28 1 v n (vcells V n) ∧ (∀ i, i < n → Row w base (V i) (M i)) ∧ True
section
variable {w w' : World} {base n : Nat} {v : Value} {V : Nat → Value} {M : Nat → List (Int × ByteArray)}
theorem Mat.r (h : Mat w base v n V M) : MatR w base v n V M := ⟨h.1, h.2.1, trivial⟩
theorem MatR.lt (h : MatR w base v n V M) {k : Nat} (hk : inM v n V k) : base ≤ k ∧ k < w.heap.size := by
  rcases hk with hk | ⟨i, hi, hk⟩
  · exact World.ownsRow.lt h.1 k hk
  · exact (h.2.1 i hi).lt k hk
theorem MatR.form (h : MatR w base v n V M) : (v = .slice none 0 0 ∧ n = 0) ∨ ∃ g c, v = .slice (some ⟨g, 0, none⟩) n c ∧ base ≤ g ∧ g < w.heap.size ∧ n ≤ c := by
  rcases h.1.2 with ⟨rfl, hn⟩ | ⟨g, cap, cur, rfl, hb, hg, hc, _⟩
  · exact Or.inl ⟨rfl, hn⟩
  · exact Or.inr ⟨g, cap, rfl, hb, (Array.getElem?_eq_some_iff.1 hg).1, hc⟩
theorem MatR.only {S : Nat → Prop} (h : MatR w base v n V M) (ho : Only w w' S) (hn : ∀ k, inM v n V k → ¬ S k) : MatR w' base v n V M :=
  ⟨ownsRow_block h.1 fun g hg => ho.block g (h.lt (Or.inl hg)).2 (hn g (Or.inl hg)), fun i hi => (h.2.1 i hi).only ho fun b hb => hn b (Or.inr ⟨i, hi, hb⟩), h.2.2⟩
theorem MatR.on (h : MatR w base v n V M) (hb : Below w.heap.size w w') : MatR w' base v n V M := h.only (Only.new (S := fun _ => False) hb) fun _ _ h => h
theorem MatR.cell (h : MatR w base v n V M) {i : Nat} (hi : i < n) : ∃ g c, v = .slice (some ⟨g, 0, none⟩) n c ∧ w.cell? ⟨g, i, none⟩ = some (V i) ∧ w.frozen? ⟨g, i, none⟩ = false := by
  rcases h.form with ⟨_, hn⟩ | ⟨g, c, hv, _⟩
  · omega
  · subst hv
    exact ⟨g, c, rfl, by rw [World.ownsRow.cellAt h.1 i (by omega), vcells_at _ hi], World.ownsRow.frozenAt h.1 i⟩
theorem MatR.congr {M' : Nat → List (Int × ByteArray)} (h : MatR w base v n V M) (e : ∀ i, i < n → M i = M' i) : MatR w base v n V M' := ⟨h.1, fun i hi => by rw [← e i hi]; exact h.2.1 i hi, trivial⟩
theorem mat_slice_r (h : MatR w base v n V M) : ∃ u c, v = .slice u n c := by
  rcases h.form with ⟨rfl, rfl⟩ | ⟨g, c, rfl, _⟩
  · exact ⟨_, _, rfl⟩
  · exact ⟨_, _, rfl⟩
/-- A tray in memory. -/
theorem mat_at_r {c : Nat} {u : Option Addr} (h : MatR w base (.slice u n c) n V M) {i : Nat} (hi : i < n) :
    ∃ g a d, u = some ⟨g, 0, none⟩ ∧ w.cell? ⟨g, i, none⟩ = some (.slice a (M i).length d) ∧ Lts w a (M i).length (nI (M i)) (nC (M i)) := by
  obtain ⟨g, d, e, h1, _⟩ := h.cell hi
  cases e
  obtain ⟨a, d', e, _, hl⟩ := (h.2.1 i hi).form
  exact ⟨g, a, d', rfl, by rw [h1, e], hl⟩
end
end Go.Proofs.YtccfjeijnadjfaaDoor

/-
  How many letters slices have together.
-/
namespace Go.Proofs.YtccfjeijnadjfaaDoor
open Go.RowKit

theorem tot_mul {M : Nat → List (Int × ByteArray)} : ∀ {n : Nat}, (∀ i, i < n → (M i).length ≤ 60) → tot M n ≤ 60 * n
  | 0, _ => Nat.zero_le _
  | n + 1, h => by
    have h1 := tot_mul (M := M) (n := n) (fun i hi => h i (by omega))
    have h2 := h n (by omega)
    show tot M n + (M n).length ≤ _
    omega
theorem tot_le {M : Nat → List (Int × ByteArray)} {n : Nat} (hn : n ≤ 60) (h : ∀ i, i < n → (M i).length ≤ 60) : tot M n ≤ 1048576 := by
  have := tot_mul h
  omega
end Go.Proofs.YtccfjeijnadjfaaDoor
