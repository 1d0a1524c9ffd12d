/-
  Slices of letters in a slice of slices, of which two may be one and the same: enough to read them.
-/
import Derived.Test.YtobmenbhbeflhaaMatL
import Derived.Test.YtobmenbhbeflhaaSample
namespace Go.Proofs.Ytobmenbhbeflhaa
open Go.RowKit
set_option linter.unusedVariables false

/-- n slices of letters, in a slice v of slices: the values V own the lists M; two of them may share their block. -/
def MatR (w : World) (base : Nat) (v : Value) (n : Nat) (V : Nat → Value) (M : Nat → List (Int × ByteArray)) : Prop :=
  w.ownsRow base 23 1 v n (vcells V n) ∧ (∀ i, i < n → Row w base (V i) (M i)) ∧ True
section
variable {w w' : World} {base n : Nat} {v : Value} {V : Nat → Value} {M : Nat → List (Int × ByteArray)}
theorem Mat.r (h : Mat w base v n V M) : MatR w base v n V M := ⟨h.1, h.2.1, trivial⟩
theorem MatR.lt (h : MatR w base v n V M) {k : Nat} (hk : inM v n V k) : base ≤ k ∧ k < w.heap.size := by
  rcases hk with hk | ⟨i, hi, hk⟩
  · exact World.ownsRow.lt h.1 k hk
  · exact (h.2.1 i hi).lt k hk
theorem MatR.form (h : MatR w base v n V M) : (v = .slice none 0 0 ∧ n = 0) ∨ ∃ g c, v = .slice (some ⟨g, 0, none⟩) n c ∧ base ≤ g ∧ g < w.heap.size ∧ n ≤ c := by
  rcases h.1.2 with ⟨rfl, hn⟩ | ⟨g, cap, cur, rfl, hb, hg, hc, _⟩
  · exact Or.inl ⟨rfl, hn⟩
  · exact Or.inr ⟨g, cap, rfl, hb, (Array.getElem?_eq_some_iff.1 hg).1, hc⟩
theorem MatR.only {S : Nat → Prop} (h : MatR w base v n V M) (ho : Only w w' S) (hn : ∀ k, inM v n V k → ¬ S k) : MatR w' base v n V M :=
  ⟨ownsRow_block h.1 fun g hg => ho.block g (h.lt (Or.inl hg)).2 (hn g (Or.inl hg)), fun i hi => (h.2.1 i hi).only ho fun b hb => hn b (Or.inr ⟨i, hi, hb⟩), h.2.2⟩
theorem MatR.on (h : MatR w base v n V M) (hb : Below w.heap.size w w') : MatR w' base v n V M := h.only (Only.new (S := fun _ => False) hb) fun _ _ h => h
theorem MatR.cell (h : MatR w base v n V M) {i : Nat} (hi : i < n) : ∃ g c, v = .slice (some ⟨g, 0, none⟩) n c ∧ w.cell? ⟨g, i, none⟩ = some (V i) ∧ w.frozen? ⟨g, i, none⟩ = false := by
  rcases h.form with ⟨_, hn⟩ | ⟨g, c, hv, _⟩
  · omega
  · subst hv
    exact ⟨g, c, rfl, by rw [World.ownsRow.cellAt h.1 i (by omega), vcells_at _ hi], World.ownsRow.frozenAt h.1 i⟩
theorem MatR.congr {M' : Nat → List (Int × ByteArray)} (h : MatR w base v n V M) (e : ∀ i, i < n → M i = M' i) : MatR w base v n V M' := ⟨h.1, fun i hi => by rw [← e i hi]; exact h.2.1 i hi, trivial⟩
theorem mat_slice_r (h : MatR w base v n V M) : ∃ u c, v = .slice u n c := by
  rcases h.form with ⟨rfl, rfl⟩ | ⟨g, c, rfl, _⟩
  · exact ⟨_, _, rfl⟩
  · exact ⟨_, _, rfl⟩
/-- A tray in memory. -/
theorem mat_at_r {c : Nat} {u : Option Addr} (h : MatR w base (.slice u n c) n V M) {i : Nat} (hi : i < n) :
    ∃ g a d, u = some ⟨g, 0, none⟩ ∧ w.cell? ⟨g, i, none⟩ = some (.slice a (M i).length d) ∧ Lts w a (M i).length (nI (M i)) (nC (M i)) := by
  obtain ⟨g, d, e, h1, _⟩ := h.cell hi
  cases e
  obtain ⟨a, d', e, _, hl⟩ := (h.2.1 i hi).form
  exact ⟨g, a, d', rfl, by rw [h1, e], hl⟩
end
end Go.Proofs.Ytobmenbhbeflhaa

/-
  How many letters slices have together.
-/
namespace Go.Proofs.Ytobmenbhbeflhaa
open Go.RowKit

theorem tot_mul {M : Nat → List (Int × ByteArray)} : ∀ {n : Nat}, (∀ i, i < n → (M i).length ≤ 60) → tot M n ≤ 60 * n
  | 0, _ => Nat.zero_le _
  | n + 1, h => by
    have h1 := tot_mul (M := M) (n := n) (fun i hi => h i (by omega))
    have h2 := h n (by omega)
    show tot M n + (M n).length ≤ _
    omega
theorem tot_le {M : Nat → List (Int × ByteArray)} {n : Nat} (hn : n ≤ 60) (h : ∀ i, i < n → (M i).length ≤ 60) : tot M n ≤ 1048576 := by
  have := tot_mul h
  omega
end Go.Proofs.Ytobmenbhbeflhaa

/-
  Which letters a sample has.
-/
namespace Go.Proofs.Ytobmenbhbeflhaa
open Go.RowKit

theorem below_drewS {B : Nat} {a w : World} (h : Below B a w) (n : Nat) : Below B a (w.drewN n) := ⟨h.os, h.tape, h.output, h.size, h.block⟩
theorem M.smp_get (I : Nat → Int) (C : Nat → ByteArray) (k : Nat) : ∀ {t i : Nat}, i < t → nI (M.smp I C k t) i = I (i * k) ∧ nC (M.smp I C k t) i = C (i * k)
  | 0, _, h => absurd h (by omega)
  | t + 1, i, h => by
    have hl := M.smp_len I C k t
    have hlen : i < (M.smp I C k (t + 1)).length := by rw [M.smp_len]; exact h
    rw [nI_at hlen, nC_at hlen]
    by_cases e : i < t
    · have hi : i < (M.smp I C k t).length := by omega
      have h2 := M.smp_get I C k e
      rw [nI_at hi, nC_at hi] at h2
      have : (M.smp I C k (t + 1))[i] = (M.smp I C k t)[i] := by
        show (M.smp I C k t ++ [(I (t * k), C (t * k))])[i] = _
        exact List.getElem_append_left hi
      rw [this]
      exact h2
    · obtain rfl : i = t := by omega
      have : (M.smp I C k (i + 1))[i] = (I (i * k), C (i * k)) := by
        simp [M.smp_succ, hl]
      rw [this]
      exact ⟨rfl, rfl⟩
theorem M.smp_one (I : Nat → Int) (C : Nat → ByteArray) : ∀ n, M.smp I C 1 n = M.lst I C n
  | 0 => rfl
  | n + 1 => by rw [M.smp_succ, M.smp_one I C n, M.lst_succ, Nat.mul_one]
theorem M.smp_ix {n q t i : Nat} (hq : 0 < q) (ht : (n + q - 1) / q = t) (hi : i < t) : i * q < n := by
  have h1 : (i + 1) * q ≤ n + q - 1 := by
    have : i + 1 ≤ (n + q - 1) / q := by omega
    exact (Nat.le_div_iff_mul_le hq).1 this
  rw [Nat.succ_mul] at h1
  omega
end Go.Proofs.Ytobmenbhbeflhaa
