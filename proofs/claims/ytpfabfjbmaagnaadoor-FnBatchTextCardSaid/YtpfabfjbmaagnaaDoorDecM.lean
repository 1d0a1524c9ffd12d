/-
  Numbers written in decimal, on paper. No program is named here.
-/
import Derived.Test.YtpfabfjbmaagnaaDoorTextM
import Derived.Lib.ItoaNum
namespace Go.Proofs.YtpfabfjbmaagnaaDoor.M
set_option linter.unusedVariables false

/-- A number that is not negative, written. -/
def decT (n : Int) : ByteArray := ⟨(Lib.decDigits n.toNat).toArray⟩
theorem decT_small {u : Nat} (h : u < 10) : Lib.decDigits u = [UInt8.ofNat (48 + u)] := by rw [Lib.decDigits, dif_pos h]
theorem decT_big {u : Nat} (h : ¬ u < 10) : Lib.decDigits u = Lib.decDigits (u / 10) ++ [UInt8.ofNat (48 + u % 10)] := by
  conv => lhs; rw [Lib.decDigits, dif_neg h]
theorem decT_len : ∀ (k u : Nat), u < 10 ^ (k + 1) → 1 ≤ (Lib.decDigits u).length ∧ (Lib.decDigits u).length ≤ k + 1
  | 0, u, h => by rw [decT_small (by simpa using h)]; simp
  | k + 1, u, h => by
    by_cases h9 : u < 10
    · rw [decT_small h9]; simp
    · have := decT_len k (u / 10) (by rw [Nat.pow_succ] at h; omega)
      rw [decT_big h9, List.length_append]
      simp
      omega
theorem decT_size {n : Int} (h0 : 0 ≤ n) (h1 : n ≤ 9999) : 1 ≤ (decT n).size ∧ (decT n).size ≤ 4 := by
  have := decT_len 3 n.toNat (by omega)
  exact this
theorem decT_step {v : Int} {s : ByteArray} (h : 9 < v) : Lib.decDigits v.toNat ++ s.data.toList = Lib.decDigits (v / 10).toNat ++ ((⟨#[UInt8.ofNat (48 + v % 10).toNat]⟩ : ByteArray) ++ s).data.toList := by
  have e1 : (v / 10).toNat = v.toNat / 10 := by omega
  have e2 : (48 + v % 10).toNat = 48 + v.toNat % 10 := by omega
  rw [decT_big (by omega : ¬ v.toNat < 10), e1, e2, bapp_data, List.append_assoc]
theorem decT_last {v : Int} {s : ByteArray} {n : Int} (h0 : 0 ≤ v) (h : ¬ 9 < v) (hs : Lib.decDigits v.toNat ++ s.data.toList = Lib.decDigits n.toNat) : (⟨#[UInt8.ofNat (48 + v).toNat]⟩ : ByteArray) ++ s = decT n := by
  have e2 : (48 + v).toNat = 48 + v.toNat := by omega
  rw [decT_small (by omega : v.toNat < 10)] at hs
  unfold decT
  rw [← hs, e2]
  apply ByteArray.ext
  apply Array.toList_inj.1
  rw [bapp_data]
theorem itoa_decT {n : Int} (h : 0 ≤ n) : (⟨(Lib.itoa n).toArray⟩ : ByteArray) = decT n := by
  unfold Lib.itoa decT
  rw [if_neg (by omega)]
end Go.Proofs.YtpfabfjbmaagnaaDoor.M
