/-
  Numbers written in decimal, on paper. No program is named here.
-/
import Derived.Test.YtjabpidmfgcamaaDoorTextM
import Derived.Lib.ItoaNum
import Derived.Test.YtjabpidmfgcamaaDoorMgP2
import Derived.Deep.RegionLaw
import Derived.Maps.AppendAt
namespace Go.Proofs.YtjabpidmfgcamaaDoor.M
set_option linter.unusedVariables false

/-- A number that is not negative, written. -/
def decT (n : Int) : ByteArray := ⟨(Lib.decDigits n.toNat).toArray⟩
theorem decT_small {u : Nat} (h : u < 10) : Lib.decDigits u = [UInt8.ofNat (48 + u)] := by rw [Lib.decDigits, dif_pos h]
theorem decT_big {u : Nat} (h : ¬ u < 10) : Lib.decDigits u = Lib.decDigits (u / 10) ++ [UInt8.ofNat (48 + u % 10)] := by
  conv => lhs; rw [Lib.decDigits, dif_neg h]
theorem decT_len : ∀ (k u : Nat), u < 10 ^ (k + 1) → 1 ≤ (Lib.decDigits u).length ∧ (Lib.decDigits u).length ≤ k + 1
  | 0, u, h => by rw [decT_small (by simpa using h)]; simp
  | k + 1, u, h => by
    by_cases h9 : u < 10
    · rw [decT_small h9]; simp
    · have := decT_len k (u / 10) (by rw [Nat.pow_succ] at h; omega)
      rw [decT_big h9, List.length_append]
      simp
      omega
theorem decT_size {n : Int} (h0 : 0 ≤ n) (h1 : n ≤ 9999) : 1 ≤ (decT n).size ∧ (decT n).size ≤ 4 := by
  have := decT_len 3 n.toNat (by omega)
  exact this
theorem decT_step {v : Int} {s : ByteArray} (h : 9 < v) : Lib.decDigits v.toNat ++ s.data.toList = Lib.decDigits (v / 10).toNat ++ ((⟨#[UInt8.ofNat (48 + v % 10).toNat]⟩ : ByteArray) ++ s).data.toList := by
  have e1 : (v / 10).toNat = v.toNat / 10 := by omega
  have e2 : (48 + v % 10).toNat = 48 + v.toNat % 10 := by omega
  rw [decT_big (by omega : ¬ v.toNat < 10), e1, e2, bapp_data, List.append_assoc]
theorem decT_last {v : Int} {s : ByteArray} {n : Int} (h0 : 0 ≤ v) (h : ¬ 9 < v) (hs : Lib.decDigits v.toNat ++ s.data.toList = Lib.decDigits n.toNat) : (⟨#[UInt8.ofNat (48 + v).toNat]⟩ : ByteArray) ++ s = decT n := by
  have e2 : (48 + v).toNat = 48 + v.toNat := by omega
  rw [decT_small (by omega : v.toNat < 10)] at hs
  unfold decT
  rw [← hs, e2]
  apply ByteArray.ext
  apply Array.toList_inj.1
  rw [bapp_data]
theorem itoa_decT {n : Int} (h : 0 ≤ n) : (⟨(Lib.itoa n).toArray⟩ : ByteArray) = decT n := by
  unfold Lib.itoa decT
  rw [if_neg (by omega)]
end Go.Proofs.YtjabpidmfgcamaaDoor.M

/-
  A string is appended to a slice of the call's own, as a step of a region that draws its order.
-/
namespace Go.Proofs.YtjabpidmfgcamaaDoor
open Go.RowKit
set_option linter.unusedVariables false

theorem step_append_str {ops : Array Oper} {o : Oper} {a : Act} {K : Act → World → Prop} {Q : Exit → Act → World → Prop} {E : Prop} (w : World) (hgd : o.guard = none) (s x : Operand)
    (ho : o.op = .call { callee := .builtin .append, args := #[s, x], argTypes := #[23, 23] })
    (base : Nat) (v : Value) (L : List ByteArray) (hs : a.eval s = v) (hrow : SRow w base v L) (b : Nat) (t : ByteArray) (hx : a.eval x = .slice (some ⟨b, 0, none⟩) 1 1)
    (hc : w.cell? ⟨b, 0, none⟩ = some (.string t)) (hl : L.length ≤ 1048576) (hbase : base ≤ w.heap.size)
    (hK : ∀ v' w', SRow w' base v' (L ++ [t]) → w.grownBy w' v.ownBlock → (v'.ownBlock = v.ownBlock ∨ v'.ownBlock = some w.heap.size) → K (a.put o.dst v') w') :
    if Region.wanted o (yielded ops a.tmps) = true then Oper.wp Tryd.prog o a w K Q else E := by
  have hw : Region.wanted o (yielded ops a.tmps) = true := by simp [Region.wanted, hgd]
  rw [if_pos hw]
  obtain ⟨i0, hi, hz0, hz1, hz2⟩ := info_parts info_string
  have hcells : ∀ j u, [Value.string t][j]? = some u → w.cell? ((⟨b, 0, none⟩ : Addr).add j) = some u := fun j u hj => by
    match j, hj with
    | 0, hj => simp at hj; subst hj; simpa [Addr.add] using hc
  have hone : ∀ u ∈ [Value.string t], u.oneCell' = true := fun u hu => by
    simp at hu
    subst hu; rfl
  obtain ⟨v', w', hr, h2, h3, _, h5⟩ := run_append_own_at (P := Tryd.prog) (w := w) base 23 o.type 9 i0 _ 1 16 Tryd.underlying23 hi hz0 hz1 hz2 rfl (by decide) v L.length (scells L) hrow ⟨b, 0, none⟩ 1 1 [.string t] rfl hcells hone (by unfold maxLen; omega) (by omega) hbase
  unfold Oper.wp execOp
  simp only [ho, resolve, invoke, builtin, Sem.run_bind, Sem.run_pure, Result.andThen_ok, List.map_toArray, List.map_cons, List.map_nil, hs, hx, hr]
  refine hK v' w' ?_ h3 h5
  unfold SRow
  rw [List.length_append, scells_append]
  exact h2

end Go.Proofs.YtjabpidmfgcamaaDoor
