/-
  The text of a plan read back, on paper.
-/
import Derived.Test.YtjabpidmfgcamaaDoorBatPM
import Derived.Test.YtjabpidmfgcamaaDoorPlnText
namespace Go.Proofs.YtjabpidmfgcamaaDoor
open Go.RowKit
open Go.PlainAid (bt get_bt bt_nonneg bt_le)
set_option linter.unusedVariables false

theorem code_gap {c : ByteArray} (h : M.code c = true) : (32 : UInt8) ∉ c.data.toList := fun hc => by
  have e : (32 : UInt8).toNat = 32 := rfl
  obtain ⟨hd, hs⟩ := M.code_yes h
  have h2 := M.take_clean (s := c) (c := 32) (a := 0) (b := c.size) (Nat.le_refl _) fun j _ hj e2 => by
    have := M.digs_bt hd j hj
    have e3 : ((32 : UInt8).toNat : Int) = 32 := rfl
    omega
  rw [List.drop_zero, Nat.sub_zero, List.take_of_length_le (by rw [Array.length_toList]; exact Nat.le_refl _)] at h2
  exact h2 hc
theorem dec_gap (u : Int) : (32 : UInt8) ∉ (M.decT u).data.toList := fun h => by
  have := M.decT_digs u.toNat 32 h
  have e : (32 : UInt8).toNat = 32 := rfl
  omega
/-- A plan whose text is t. -/
def PlanOf (t : ByteArray) (b p : Int) (L : List ByteArray) : Prop := M.plan b p L.length (sC L) = true ∧ M.planText b p L.length (sC L) = t
theorem sst_sC (L : List ByteArray) : sst (sC L) L.length = L := by
  apply List.ext_getElem
  · simp [sst]
  · intro i h1 h2
    simp [sst, sC_at h2]
theorem PlanOf.parts {t : ByteArray} {b p : Int} {L : List ByteArray} (h : PlanOf t b p L) : M.bparts 32 t = [M.decT b, M.decT p] ++ L := by
  obtain ⟨hp, ht⟩ := h
  unfold M.planText at ht
  rw [hp, if_pos rfl, M.itemsOf, if_neg (by omega)] at ht
  have hd := (M.diffTo_iff (sC L) L.length).1 (M.plan_yes hp).2
  have := gaps_parts (S := M.plT b p (sC L)) (n := L.length + 2) (by omega) fun i hi => by
    unfold M.plT
    by_cases e0 : i = 0
    · rw [if_pos e0]; exact dec_gap b
    · rw [if_neg e0]
      by_cases e1 : i = 1
      · rw [if_pos e1]; exact dec_gap p
      · rw [if_neg e1]
        exact code_gap (hd (i - 2) (by omega)).1
  rw [ht] at this
  rw [this]
  have h2 := plT_list b p (sC L) L.length
  rw [sst_sC] at h2
  exact h2.symm
/-- What a number's text says of the number. -/
def NFit (s : ByteArray) (x : Int) : Prop := ∀ i : Int, 1 ≤ i → i ≤ 9999 → s = M.decT i → x = i
theorem dec_same {i j : Int} (i0 : 1 ≤ i) (i1 : i ≤ 9999) (j0 : 1 ≤ j) (j1 : j ≤ 9999) (h : M.decT i = M.decT j) : i = j := by
  have h1 := atoi_dec i0 i1
  rw [h, atoi_dec j0 j1] at h1
  injection h1 with h1
  exact h1.symm
theorem PlanOf.small {t : ByteArray} {b p : Int} {L : List ByteArray} (h : PlanOf t b p L) : (1 ≤ b ∧ b ≤ 9999) ∧ (1 ≤ p ∧ p ≤ 9999) ∧ 1 ≤ L.length ∧ L.length ≤ 60 := by
  obtain ⟨h1, ⟨h2, h3, h4, h5⟩, _⟩ := plan_sizes h.1
  have h6 := M.fits_yes (M.plan_yes h.1).1
  omega
theorem PlanOf.at {t : ByteArray} {b p : Int} {L : List ByteArray} (h : PlanOf t b p L) : (M.bparts 32 t).length = L.length + 2 ∧ sC (M.bparts 32 t) 0 = M.decT b ∧ sC (M.bparts 32 t) 1 = M.decT p ∧ (M.bparts 32 t).drop 2 = L := by
  rw [h.parts]
  exact ⟨by simp, rfl, rfl, rfl⟩
theorem PlanOf.fit {t : ByteArray} {b p x y : Int} {L : List ByteArray} (h : PlanOf t b p L) (hx : NFit (sC (M.bparts 32 t) 0) x) (hy : NFit (sC (M.bparts 32 t) 1) y) : x = b ∧ y = p := by
  obtain ⟨⟨b0, b1⟩, ⟨p0, p1⟩, _⟩ := h.small
  obtain ⟨_, h1, h2, _⟩ := h.at
  exact ⟨hx b b0 b1 h1, hy p p0 p1 h2⟩
/-- Whether a text is that of a plan, and of which. -/
def PlanIs (t : ByteArray) (ok : Bool) (b p : Int) (L : List ByteArray) : Prop := (ok = true ∧ PlanOf t b p L) ∨ (ok = false ∧ (b = 0 ∧ p = 0 ∧ L = []) ∧ ∀ b p L, ¬ PlanOf t b p L)
theorem planIs_ex (t : ByteArray) : ∃ ok b p L, PlanIs t ok b p L := by
  rcases Classical.em (∃ b p L, PlanOf t b p L) with ⟨b, p, L, h⟩ | h
  · exact ⟨true, b, p, L, Or.inl ⟨rfl, h⟩⟩
  · exact ⟨false, 0, 0, [], Or.inr ⟨rfl, ⟨rfl, rfl, rfl⟩, fun b p L hR => h ⟨b, p, L, hR⟩⟩⟩
theorem planIs_len {t : ByteArray} {ok : Bool} {b p : Int} {L : List ByteArray} (h : PlanIs t ok b p L) : L.length ≤ 60 := by
  rcases h with ⟨_, h⟩ | ⟨_, ⟨_, _, h⟩, _⟩
  · exact h.small.2.2.2
  · rw [h]; exact Nat.zero_le _
theorem plan_no {t : ByteArray} {ok : Bool} {b p : Int} {L : List ByteArray} (h : PlanIs t ok b p L) (hn : ∀ b p L, ¬ PlanOf t b p L) : ok = false ∧ b = 0 ∧ p = 0 ∧ L = [] := by
  rcases h with ⟨_, h⟩ | ⟨h1, h2, _⟩
  · exact absurd h (hn b p L)
  · exact ⟨h1, h2⟩
theorem plan_same {t : ByteArray} {ok : Bool} {b p x y : Int} {L R : List ByteArray} (h : PlanIs t ok b p L) (hR : PlanOf t x y R) : ok = true ∧ b = x ∧ p = y ∧ L = R := by
  rcases h with ⟨h1, h2⟩ | ⟨_, _, h3⟩
  · obtain ⟨⟨b0, b1⟩, ⟨p0, p1⟩, _⟩ := h2.small
    obtain ⟨⟨x0, x1⟩, ⟨y0, y1⟩, _⟩ := hR.small
    obtain ⟨_, e1, e2, e3⟩ := h2.at
    obtain ⟨_, f1, f2, f3⟩ := hR.at
    exact ⟨h1, dec_same b0 b1 x0 x1 (e1.symm.trans f1), dec_same p0 p1 y0 y1 (e2.symm.trans f2), e3.symm.trans f3⟩
  · exact absurd hR (h3 x y R)
/-- No plan has this text: too few parts; no number; another text. -/
theorem plan_few {t : ByteArray} (h : (M.bparts 32 t).length < 3) : ∀ b p L, ¬ PlanOf t b p L := fun b p L hR => by
  have := hR.at.1
  have := hR.small.2.2.1
  omega
theorem plan_word0 {t : ByteArray} (h : ∀ x, Lib.atoiAll (sC (M.bparts 32 t) 0).data.toList ≠ .ok x) : ∀ b p L, ¬ PlanOf t b p L := fun b p L hR => by
  obtain ⟨⟨b0, b1⟩, _⟩ := hR.small
  rw [hR.at.2.1] at h
  exact h b (atoi_dec b0 b1)
theorem plan_word1 {t : ByteArray} (h : ∀ x, Lib.atoiAll (sC (M.bparts 32 t) 1).data.toList ≠ .ok x) : ∀ b p L, ¬ PlanOf t b p L := fun b p L hR => by
  obtain ⟨_, ⟨p0, p1⟩, _⟩ := hR.small
  rw [hR.at.2.2.1] at h
  exact h p (atoi_dec p0 p1)
theorem plan_other {t : ByteArray} {x y : Int} (hx : NFit (sC (M.bparts 32 t) 0) x) (hy : NFit (sC (M.bparts 32 t) 1) y) (h : ¬ PlanOf t x y ((M.bparts 32 t).drop 2)) : ∀ b p L, ¬ PlanOf t b p L := fun b p L hR => by
  obtain ⟨rfl, rfl⟩ := hR.fit hx hy
  rw [hR.at.2.2.2] at h
  exact h hR
theorem nfit_read {s : ByteArray} {v : Int} (h : Lib.atoiAll s.data.toList = .ok v) : NFit s v := fun i i0 i1 e => by
  rw [e, atoi_dec i0 i1] at h
  injection h with h
  exact h.symm
/-- Some strings in a row of the call's own, from any place of the row on. -/
def ORow (w : World) (base : Nat) (v : Value) (L : List ByteArray) : Prop := (v = .slice none 0 0 ∧ L = []) ∨ ∃ g o c, v = .slice (some ⟨g, o, none⟩) L.length c ∧ base ≤ g ∧ g < w.heap.size ∧ ∀ i (h : i < L.length), w.cell? ⟨g, o + i, none⟩ = some (.string L[i]) ∧ w.frozen? ⟨g, o + i, none⟩ = false
theorem ORow.nil (w : World) (base : Nat) : ORow w base (.slice none 0 0) [] := Or.inl ⟨rfl, rfl⟩
theorem ORow.lt {w : World} {base : Nat} {v : Value} {L : List ByteArray} (h : ORow w base v L) : ∀ b, v.ownBlock = some b → base ≤ b ∧ b < w.heap.size := fun b e => by
  rcases h with ⟨rfl, _⟩ | ⟨g, o, c, rfl, h1, h2, _⟩
  · cases e
  · have e : g = b := by simpa [Value.ownBlock] using e
    rw [← e]; exact ⟨h1, h2⟩
theorem ORow.only {w w' : World} {base : Nat} {v : Value} {L : List ByteArray} {S : Nat → Prop} (h : ORow w base v L) (ho : Only w w' S) (hn : ∀ b, v.ownBlock = some b → ¬ S b) : ORow w' base v L := by
  rcases h with h | ⟨g, o, c, rfl, h1, h2, h3⟩
  · exact Or.inl h
  · have hb := ho.block g h2 (hn g rfl)
    have hz := ho.size
    exact Or.inr ⟨g, o, c, rfl, h1, by omega, fun i hi => ⟨(World.cell?_of_block (a := ⟨g, o + i, none⟩) hb).trans (h3 i hi).1, (World.frozen?_of_block (a := ⟨g, o + i, none⟩) hb).trans (h3 i hi).2⟩⟩
theorem ORow.on {w w' : World} {base : Nat} {v : Value} {L : List ByteArray} (h : ORow w base v L) (hb : Below w.heap.size w w') : ORow w' base v L := by
  rcases h with h | ⟨g, o, c, rfl, h1, h2, h3⟩
  · exact Or.inl h
  · have hz := hb.size
    exact Or.inr ⟨g, o, c, rfl, h1, by omega, fun i hi => ⟨(hb.cell (p := ⟨g, o + i, none⟩) h2).trans (h3 i hi).1, (hb.frozen (p := ⟨g, o + i, none⟩) h2).trans (h3 i hi).2⟩⟩
theorem ORow.lower {w : World} {base B : Nat} {v : Value} {L : List ByteArray} (h : ORow w base v L) (hb : B ≤ base) : ORow w B v L := by
  rcases h with h | ⟨g, o, c, rfl, h1, h2, h3⟩
  · exact Or.inl h
  · exact Or.inr ⟨g, o, c, rfl, by omega, h2, h3⟩
theorem ORow.form {w : World} {base : Nat} {v : Value} {L : List ByteArray} (h : ORow w base v L) : ∃ a c, v = .slice a L.length c ∧ Strs w a L.length (sC L) := by
  rcases h with ⟨rfl, rfl⟩ | ⟨g, o, c, rfl, h1, h2, h3⟩
  · exact ⟨none, 0, rfl, fun i hi => absurd hi (by simp)⟩
  · exact ⟨_, c, rfl, fun i hi => ⟨g, o, rfl, by rw [sC_at hi]; exact (h3 i hi).1⟩⟩
theorem ORow.put {w : World} {base g o c n : Nat} {L : List ByteArray} (h : ∀ i (h : i < L.length), w.cell? ⟨g, o + i, none⟩ = some (.string L[i]) ∧ w.frozen? ⟨g, o + i, none⟩ = false) (j : Nat) (hj : j < L.length) (s : ByteArray) :
    ∀ i (h : i < (L.set j s).length), (w.setCell ⟨g, o + j, none⟩ (.string s)).cell? ⟨g, o + i, none⟩ = some (.string (L.set j s)[i]) ∧ (w.setCell ⟨g, o + j, none⟩ (.string s)).frozen? ⟨g, o + i, none⟩ = false := fun i hi => by
  rw [List.length_set] at hi
  have h0 := h j hj
  have h1 := h i hi
  by_cases e : i = j
  · subst e
    simp [go_sem, h0.1, h0.2]
  · have e3 : ¬ j = i := by omega
    simp [go_sem, h1.1, h1.2, e3]
end Go.Proofs.YtjabpidmfgcamaaDoor
