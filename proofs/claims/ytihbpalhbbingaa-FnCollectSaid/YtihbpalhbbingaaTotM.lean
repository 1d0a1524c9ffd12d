/-
  How many letters slices have together.
-/
import Derived.Test.YtihbpalhbbingaaMatL
namespace Go.Proofs.Ytihbpalhbbingaa
open Go.RowKit

theorem tot_mul {M : Nat → List (Int × ByteArray)} : ∀ {n : Nat}, (∀ i, i < n → (M i).length ≤ 60) → tot M n ≤ 60 * n
  | 0, _ => Nat.zero_le _
  | n + 1, h => by
    have h1 := tot_mul (M := M) (n := n) (fun i hi => h i (by omega))
    have h2 := h n (by omega)
    show tot M n + (M n).length ≤ _
    omega
theorem tot_le {M : Nat → List (Int × ByteArray)} {n : Nat} (hn : n ≤ 60) (h : ∀ i, i < n → (M i).length ≤ 60) : tot M n ≤ 1048576 := by
  have := tot_mul h
  omega
end Go.Proofs.Ytihbpalhbbingaa
