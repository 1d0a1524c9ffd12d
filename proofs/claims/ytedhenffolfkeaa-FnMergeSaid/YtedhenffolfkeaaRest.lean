/-
  A batch without one letter: two reslices of it appended inside a region that draws its order.
-/
import Derived.Test.YtedhenffolfkeaaCat
import Derived.Deep.RegionLaw
import Derived.Maps.AppendAt
namespace Go.Proofs.Ytedhenffolfkeaa
open Go.RowKit
set_option linter.unusedVariables false

theorem lets_head (b o n c k : Nat) (h1 : k ≤ n) (h2 : n ≤ c) (w : World) :
    (Instr.slice 23 (.slice (some ⟨b, o, none⟩) n c) none (some (.int .i64 (k : Int))) none).run Try.prog w = .ok (.slice (some ⟨b, o, none⟩) k c) w := by
  have he : Try.prog.underlying 23 = some (.slice (Try.prog.elem 23)) := by kernel_rfl
  have hz : ∀ w, (sizeOf (Try.prog.elem 23)).run Try.prog w = .ok 2 w := fun w => by kernel_rfl
  rw [run_slice_h w _ _ _ _ he .i64 (k : Int) (by omega) (by omega), hz]
  simp [sliced, Result.andThen, Addr.add]
theorem lets_tail (b o n c k : Nat) (h1 : k + 1 ≤ n) (h2 : n ≤ c) :
    ∃ a', (∀ w, (Instr.slice 23 (.slice (some ⟨b, o, none⟩) n c) (some (.int .i64 ((k : Int) + 1))) none none).run Try.prog w = .ok (.slice a' (n - (k + 1)) (c - (k + 1))) w) ∧
      ∀ (W : World) (I : Nat → Int) (C : Nat → ByteArray), Lts W (some ⟨b, o, none⟩) n I C → Lts W a' (n - (k + 1)) (fun i => I (k + 1 + i)) (fun i => C (k + 1 + i)) := by
  have he : Try.prog.underlying 23 = some (.slice (Try.prog.elem 23)) := by kernel_rfl
  have hz : ∀ w, (sizeOf (Try.prog.elem 23)).run Try.prog w = .ok 2 w := fun w => by kernel_rfl
  have hk : ((k : Int) + 1).toNat = k + 1 := by omega
  by_cases hc : c = k + 1
  · refine ⟨some ⟨b, o, none⟩, fun w => ?_, fun W F T h i hi => absurd hi (by omega)⟩
    rw [run_slice_l w _ _ _ _ he .i64 ((k : Int) + 1) (by omega) (by omega), hz]
    simp [sliced, Result.andThen, hk, hc]
  · refine ⟨some ⟨b, o + (k + 1) * 2, none⟩, fun w => ?_, fun W F T h i hi => ?_⟩
    · rw [run_slice_l w _ _ _ _ he .i64 ((k : Int) + 1) (by omega) (by omega), hz]
      simp [sliced, Result.andThen, Addr.add, hk, hc]
    · obtain ⟨b', o', e, c0, c1⟩ := h (k + 1 + i) (by omega)
      injection e with e
      injection e with e1 e2
      subst e1 e2
      have q0 : o + (k + 1) * 2 + i * 2 = o + (k + 1 + i) * 2 := by omega
      have q1 : o + (k + 1) * 2 + i * 2 + 1 = o + (k + 1 + i) * 2 + 1 := by omega
      exact ⟨_, _, rfl, by rw [q0]; exact c0, by rw [q1]; exact c1⟩
theorem lets_addr (b o n c k : Nat) (h1 : k + 1 ≤ n) (h2 : n ≤ c) (a' : Option Addr) (h : ∀ w, (Instr.slice 23 (.slice (some ⟨b, o, none⟩) n c) (some (.int .i64 ((k : Int) + 1))) none none).run Try.prog w = .ok (.slice a' (n - (k + 1)) (c - (k + 1))) w) : ∃ ad, a' = some ad := by
  have he : Try.prog.underlying 23 = some (.slice (Try.prog.elem 23)) := by kernel_rfl
  have hz : ∀ w, (sizeOf (Try.prog.elem 23)).run Try.prog w = .ok 2 w := fun w => by kernel_rfl
  have hk : ((k : Int) + 1).toNat = k + 1 := by omega
  have e := h default
  rw [run_slice_l default _ _ _ _ he .i64 ((k : Int) + 1) (by omega) (by omega), hz] at e
  by_cases hc : c = k + 1
  · simp [sliced, Result.andThen, hk, hc] at e
    exact ⟨_, e.symm⟩
  · simp [sliced, Result.andThen, Addr.add, hk, hc] at e
    exact ⟨_, e.symm⟩
/-- append of a run of letters to a row of the call's own, as a step of a region that draws its order. -/
theorem step_append_lts {ops : Array Oper} {o : Oper} {a : Act} {K : Act → World → Prop} {Q : Exit → Act → World → Prop} {E : Prop} (w : World) (hgd : o.guard = none) (s x : Operand)
    (ho : o.op = .call { callee := .builtin .append, args := #[s, x], argTypes := #[23, 23] })
    (base : Nat) (v : Value) (L : List (Int × ByteArray)) (hs : a.eval s = v) (hrow : Row w base v L) (a2 : Option Addr) (m c2 : Nat) (I : Nat → Int) (C : Nat → ByteArray) (hx : a.eval x = .slice a2 m c2) (hu : Lts w a2 m I C) (h0 : m = 0 → ∃ ad, a2 = some ad) (hl : L.length + m ≤ 4194304) (hbase : base ≤ w.heap.size)
    (hK : ∀ v' w', Row w' base v' (L ++ M.lst I C m) → w.grownBy w' v.ownBlock → (v'.ownBlock = v.ownBlock ∨ v'.ownBlock = some w.heap.size) → K (a.put o.dst v') w') :
    if Region.wanted o (yielded ops a.tmps) = true then Oper.wp Try.prog o a w K Q else E := by
  have hw : Region.wanted o (yielded ops a.tmps) = true := by simp [Region.wanted, hgd]
  rw [if_pos hw]
  obtain ⟨i0, hi, hz0, hz1, hz2⟩ := info_parts info_letter
  obtain ⟨ad, had⟩ : ∃ ad, a2 = some ad := by
    by_cases hm : m = 0
    · exact h0 hm
    · obtain ⟨b, o', e, _⟩ := hu 0 (by omega)
      exact ⟨_, e⟩
  subst had
  have hcells : ∀ j u, (lcells (M.lst I C m))[j]? = some u → w.cell? (ad.add j) = some u := fun j u hj => by
    have hjl : j < m * 2 := by
      have := (List.getElem?_eq_some_iff.1 hj).1
      rw [lcells_length, lst_len] at this
      exact this
    obtain ⟨b, o', e, _⟩ := hu 0 (by omega)
    obtain rfl := Option.some.inj e
    have hadd : (⟨b, o', none⟩ : Addr).add j = ⟨b, o' + j, none⟩ := by unfold Addr.add; split <;> simp_all
    rw [hadd]
    obtain ⟨q, hq⟩ : ∃ q, j = q * 2 ∨ j = q * 2 + 1 := ⟨j / 2, by omega⟩
    rcases hq with hq | hq
    · rw [show (⟨b, o' + j, none⟩ : Addr) = ⟨b, o' + q * 2, none⟩ by rw [hq]]
      obtain ⟨b', o2, e2, c0, c1⟩ := hu q (by omega)
      obtain ⟨rfl, rfl, _⟩ := Addr.mk.inj (Option.some.inj e2)
      have hat := lcells_lst' I C m q (by omega)
      rw [hq] at hj
      rw [← Option.some.inj (hat.1.symm.trans hj)]
      exact c0
    · rw [show (⟨b, o' + j, none⟩ : Addr) = ⟨b, o' + q * 2 + 1, none⟩ by rw [hq]; rfl]
      obtain ⟨b', o2, e2, c0, c1⟩ := hu q (by omega)
      obtain ⟨rfl, rfl, _⟩ := Addr.mk.inj (Option.some.inj e2)
      have hat := lcells_lst' I C m q (by omega)
      rw [hq] at hj
      rw [← Option.some.inj (hat.2.symm.trans hj)]
      exact c1
  obtain ⟨v', w', hr, h2, h3, _, h5⟩ := run_append_own_at (P := Try.prog) (w := w) base 23 o.type 29 i0 _ 2 24 Try.underlying23 hi hz0 hz1 hz2 rfl (by decide) v L.length (lcells L) hrow ad m c2 (lcells (M.lst I C m)) (by rw [lcells_length, lst_len]) hcells (lcells_one _) (by unfold maxLen; omega) (by omega) hbase
  unfold Oper.wp execOp
  simp only [ho, resolve, invoke, builtin, Sem.run_bind, Sem.run_pure, Result.andThen_ok, List.map_toArray, List.map_cons, List.map_nil, hs, hx, hr]
  refine hK v' w' ?_ h3 h5
  unfold Row
  rw [List.length_append, lst_len, lcells_append]
  exact h2
theorem rest_list (I : Nat → Int) (C : Nat → ByteArray) (m k : Nat) (hk : k + 1 ≤ m) : M.lst I C k ++ M.lst (fun i => I (k + 1 + i)) (fun i => C (k + 1 + i)) (m - (k + 1)) = (M.lst I C m).take k ++ (M.lst I C m).drop (k + 1) := by
  apply List.ext_getElem
  · simp [lst_len]; omega
  · intro i h1 h2
    have hl : i < m - 1 := by
      rw [List.length_append, lst_len, lst_len] at h1; omega
    by_cases hi : i < k
    · rw [List.getElem_append_left (by rw [lst_len]; omega), List.getElem_append_left (by simp [lst_len]; omega), lst_get, List.getElem_take, lst_get]
    · rw [List.getElem_append_right (by rw [lst_len]; omega), List.getElem_append_right (by simp [lst_len]; omega), lst_get, List.getElem_drop, lst_get]
      simp [lst_len]
      have : min k m = k := by omega
      rw [this]
      have : k + 1 + (i - k) = i + 1 := by omega
      simp [this]
end Go.Proofs.Ytedhenffolfkeaa
