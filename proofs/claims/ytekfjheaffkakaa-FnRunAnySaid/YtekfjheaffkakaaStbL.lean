/-
  Letters sorted by passes from the last digit on: they ascend by codes, equal codes as they stood; and there is only one such order.
-/
import Derived.Test.YtekfjheaffkakaaMgR9
import Derived.Test.YtekfjheaffkakaaMgR16
namespace Go.Proofs.Ytekfjheaffkakaa
open Go.PlainAid (bt get_bt bt_nonneg bt_le)
set_option linter.unusedVariables false

/-- One pass. -/
def stepS (q : Nat) (L : List (Int × ByteArray)) : List (Int × ByteArray) := M.flat (M.bins (nI L) (nC L) q L.length) 10
/-- As many passes, from the last digit on. -/
def passS (L : List (Int × ByteArray)) : Nat → List (Int × ByteArray)
  | 0 => L
  | k + 1 => stepS (6 - k) (passS L k)
def sortS (L : List (Int × ByteArray)) : List (Int × ByteArray) := passS L 7
def ltL (x y : Int × ByteArray) : Bool := M.less x.2 y.2

theorem bl_irr : ∀ a : List UInt8, Op.bytesLess a a = false
  | [] => rfl
  | x :: a => by
    show (decide (x < x) || (x == x && Op.bytesLess a a)) = false
    rw [bl_irr a]
    simp
theorem bl_asym {a b : List UInt8} (h : Op.bytesLess a b = true) : Op.bytesLess b a = false := by
  cases e : Op.bytesLess b a
  · rfl
  · rw [M.bytesLess_other a b, h] at e
    simp at e
theorem bl_trans {a b c : List UInt8} (h1 : Op.bytesLess a b = true) (h2 : Op.bytesLess b c = true) : Op.bytesLess a c = true := by
  rcases M.coless a b c h1 with h | h
  · exact h
  · rw [bl_asym h2] at h; cases h
theorem ltL_ord (pos : Int × ByteArray → Nat) : Sy.Ord ltL pos where
  irr := fun x => bl_irr _
  tr := fun x y z h1 h2 => bl_trans h1 h2
  ntr := fun x y z h1 h2 => by
    cases e : ltL x z
    · rfl
    · rcases M.coless _ _ y.2.toList (show Op.bytesLess x.2.toList z.2.toList = true from e) with h | h
      · exact absurd (h.symm.trans h1) (by decide)
      · exact absurd (h.symm.trans h2) (by decide)
theorem ss_irr {pos : Int × ByteArray → Nat} {x : Int × ByteArray} (h : Sy.ss ltL pos x x) : False := by
  rcases h with h | h
  · rw [show ltL x x = false from bl_irr _] at h; cases h
  · exact Nat.lt_irrefl _ h.2
/-- There is only one stable order. -/
theorem ss_one {pos : Int × ByteArray → Nat} {A B : List (Int × ByteArray)} (hp : A.Perm B) (h1 : A.Pairwise (Sy.ss ltL pos)) (h2 : B.Pairwise (Sy.ss ltL pos)) : A = B :=
  List.Perm.eq_of_pairwise (fun a b _ _ h k => (ss_irr (Sy.ss_trans (ltL_ord pos) h k)).elim) h1 h2 hp

/-- By the digits from q on, and by place where these agree. -/
def sufR (pos : Int × ByteArray → Nat) (q : Nat) (x y : Int × ByteArray) : Prop := Op.bytesLess (x.2.data.toList.drop q) (y.2.data.toList.drop q) = true ∨ (x.2.data.toList.drop q = y.2.data.toList.drop q ∧ pos x < pos y)
theorem drop_bt {c : ByteArray} {q : Nat} (hq : q < c.size) : ∃ b : UInt8, c.data.toList.drop q = b :: c.data.toList.drop (q + 1) ∧ bt c q = (b.toNat : Int) := by
  have hl : q < c.data.toList.length := by simpa using hq
  refine ⟨c.data.toList[q], List.drop_eq_getElem_cons hl, ?_⟩
  rw [← get_bt c q hq]
  rfl
theorem suf_less {pos : Int × ByteArray → Nat} {q : Nat} {x y : Int × ByteArray} (hx : q < x.2.size) (hy : q < y.2.size) (h : bt x.2 q < bt y.2 q) : sufR pos q x y := by
  obtain ⟨a, ha, ha2⟩ := drop_bt hx
  obtain ⟨b, hb, hb2⟩ := drop_bt hy
  left
  rw [ha, hb]
  unfold Op.bytesLess
  have : a < b := by rw [UInt8.lt_iff_toNat_lt]; omega
  simp [this]
theorem suf_same {pos : Int × ByteArray → Nat} {q : Nat} {x y : Int × ByteArray} (hx : q < x.2.size) (hy : q < y.2.size) (h : bt x.2 q = bt y.2 q) (h2 : sufR pos (q + 1) x y) : sufR pos q x y := by
  obtain ⟨a, ha, ha2⟩ := drop_bt hx
  obtain ⟨b, hb, hb2⟩ := drop_bt hy
  have e : a = b := UInt8.toNat_inj.1 (by omega)
  subst e
  unfold sufR
  rw [ha, hb]
  rcases h2 with h2 | ⟨h2, h3⟩
  · left
    unfold Op.bytesLess
    simp [h2]
  · right
    rw [h2]
    exact ⟨rfl, h3⟩
theorem mem_flatS {F : Nat → List (Int × ByteArray)} {y : Int × ByteArray} : ∀ {n : Nat}, y ∈ M.flat F n → ∃ d, d < n ∧ y ∈ F d
  | 0, h => by cases h
  | n + 1, h => by
    rcases List.mem_append.1 (show y ∈ M.flat F n ++ F n from h) with h | h
    · obtain ⟨d, hd, hm⟩ := mem_flatS h
      exact ⟨d, by omega, hm⟩
    · exact ⟨n, Nat.lt_succ_self n, h⟩
theorem flat_pwS {R : Int × ByteArray → Int × ByteArray → Prop} {F : Nat → List (Int × ByteArray)} (h1 : ∀ d, (F d).Pairwise R) (h2 : ∀ d e, d < e → ∀ x ∈ F d, ∀ y ∈ F e, R x y) : ∀ n, (M.flat F n).Pairwise R
  | 0 => List.Pairwise.nil
  | n + 1 => by
    show (M.flat F n ++ F n).Pairwise R
    refine List.pairwise_append.2 ⟨flat_pwS h1 h2 n, h1 n, fun x hx y hy => ?_⟩
    obtain ⟨d, hd, hm⟩ := mem_flatS hx
    exact h2 d n hd x hm y hy
theorem step_batch {L : List (Int × ByteArray)} (h : BatchL L) {q : Nat} (hq : q ≤ 6) : BatchL (stepS q L) ∧ (stepS q L).Perm L := by
  have hb := (batchL_list L).2 h
  have hp := pass_perm hb hq
  rw [lst_nI] at hp
  exact ⟨h.perm hp.symm, hp⟩
theorem pass_batchS {L : List (Int × ByteArray)} (h : BatchL L) : ∀ k, k ≤ 7 → BatchL (passS L k) ∧ (passS L k).Perm L
  | 0, _ => ⟨h, List.Perm.refl _⟩
  | k + 1, hk => by
    obtain ⟨h1, h2⟩ := pass_batchS h k (by omega)
    obtain ⟨h3, h4⟩ := step_batch h1 (q := 6 - k) (by omega)
    exact ⟨h3, h4.trans h2⟩
theorem digK_bt {L : List (Int × ByteArray)} (h : BatchL L) {y : Int × ByteArray} (hy : y ∈ L) {q d : Nat} (hq : q ≤ 6) (hd : (digK q y.2 == some d) = true) : bt y.2 q = 48 + (d : Int) ∧ y.2.size = 7 := by
  obtain ⟨hs, hb⟩ := M.code_bts (h.1 y hy).1
  have := hb q (by omega)
  have e := Option.some.inj (beq_iff_eq.1 hd)
  exact ⟨by omega, hs⟩
theorem step_pw {pos : Int × ByteArray → Nat} {L : List (Int × ByteArray)} (h : BatchL L) {q : Nat} (hq : q ≤ 6) (hp : L.Pairwise (sufR pos (q + 1))) : (stepS q L).Pairwise (sufR pos q) := by
  refine flat_pwS (fun d => ?_) (fun d e hde x hx y hy => ?_) 10
  · rw [bins_list]
    refine List.Pairwise.imp_of_mem (R := sufR pos (q + 1)) (fun {a b} ha hb hab => ?_) (hp.filter _)
    obtain ⟨ha1, ha2⟩ := List.mem_filter.1 ha
    obtain ⟨hb1, hb2⟩ := List.mem_filter.1 hb
    obtain ⟨b1, s1⟩ := digK_bt h ha1 hq ha2
    obtain ⟨b2, s2⟩ := digK_bt h hb1 hq hb2
    exact suf_same (by omega) (by omega) (by omega) hab
  · rw [bins_list] at hx hy
    obtain ⟨ha1, ha2⟩ := List.mem_filter.1 hx
    obtain ⟨hb1, hb2⟩ := List.mem_filter.1 hy
    obtain ⟨b1, s1⟩ := digK_bt h ha1 hq ha2
    obtain ⟨b2, s2⟩ := digK_bt h hb1 hq hb2
    exact suf_less (by omega) (by omega) (by omega)
theorem pass_pw {pos : Int × ByteArray → Nat} {L : List (Int × ByteArray)} (h : BatchL L) (hp : L.Pairwise fun x y => pos x < pos y) : ∀ k, k ≤ 7 → (passS L k).Pairwise (sufR pos (7 - k))
  | 0, _ => by
    refine List.Pairwise.imp_of_mem (R := fun x y => pos x < pos y) (fun {a b} ha hb hab => Or.inr ⟨?_, hab⟩) hp
    have e : ∀ c ∈ L, c.2.data.toList.drop 7 = [] := fun c hc => by
      have := (M.code_bts (h.1 c hc).1).1
      exact List.drop_eq_nil_of_le (by simp; omega)
    show a.2.data.toList.drop 7 = b.2.data.toList.drop 7
    rw [e a ha, e b hb]
  | k + 1, hk => by
    have ih := pass_pw h hp k (by omega)
    have := step_pw (pass_batchS h k (by omega)).1 (q := 6 - k) (by omega) (by rw [show 6 - k + 1 = 7 - k by omega]; exact ih)
    rw [show 7 - (k + 1) = 6 - k by omega]
    exact this
theorem suf_ss {pos : Int × ByteArray → Nat} {x y : Int × ByteArray} (h : sufR pos 0 x y) : Sy.ss ltL pos x y := by
  unfold sufR at h
  rw [List.drop_zero, List.drop_zero] at h
  have e : ∀ c : ByteArray, c.toList = c.data.toList := fun c => ByteArray.toList_eq c
  rcases h with h | ⟨h, hp⟩
  · left
    show Op.bytesLess x.2.toList y.2.toList = true
    rw [e, e]; exact h
  · refine Or.inr ⟨?_, hp⟩
    show Op.bytesLess y.2.toList x.2.toList = false
    rw [e, e, h]; exact bl_irr _
theorem sortS_ss {pos : Int × ByteArray → Nat} {L : List (Int × ByteArray)} (h : BatchL L) (hp : L.Pairwise fun x y => pos x < pos y) : (sortS L).Pairwise (Sy.ss ltL pos) :=
  (pass_pw h hp 7 (Nat.le_refl _)).imp fun h => suf_ss h
theorem sortS_perm {L : List (Int × ByteArray)} (h : BatchL L) : (sortS L).Perm L := (pass_batchS h 7 (Nat.le_refl _)).2
/-- Each letter of a batch has a place. -/
theorem exists_pos {L : List (Int × ByteArray)} (h : BatchL L) : ∃ pos : Int × ByteArray → Nat, (∀ i (hi : i < L.length), pos L[i] = i) ∧ L.Pairwise fun x y => pos x < pos y := by
  have hi : ∀ x : Int × ByteArray, ∃ k : Nat, ∀ i (hi : i < L.length), L[i] = x → k = i := fun x => by
    by_cases hx : ∃ i, ∃ hi : i < L.length, L[i] = x
    · obtain ⟨i, hi, e⟩ := hx
      refine ⟨i, fun j hj ej => ?_⟩
      have hne := List.pairwise_iff_getElem.1 h.2.1
      rcases Nat.lt_trichotomy i j with hlt | rfl | hlt
      · refine absurd ?_ (hne i j (by simpa using hi) (by simpa using hj) hlt)
        rw [List.getElem_map, List.getElem_map, e, ej]
      · rfl
      · refine absurd ?_ (hne j i (by simpa using hj) (by simpa using hi) hlt)
        rw [List.getElem_map, List.getElem_map, e, ej]
    · exact ⟨0, fun i hi e => absurd ⟨i, hi, e⟩ hx⟩
  refine ⟨fun x => Classical.choose (hi x), fun i h2 => Classical.choose_spec (hi L[i]) i h2 rfl, ?_⟩
  rw [List.pairwise_iff_getElem]
  intro i j h1 h2 hij
  show Classical.choose (hi L[i]) < Classical.choose (hi L[j])
  rw [Classical.choose_spec (hi L[i]) i h1 rfl, Classical.choose_spec (hi L[j]) j h2 rfl]
  exact hij
/-- Letters by their indices. -/
def lf (F : Nat → Int × ByteArray) (n : Nat) : List (Int × ByteArray) := (List.range n).map F
theorem lf_len (F : Nat → Int × ByteArray) (n : Nat) : (lf F n).length = n := by simp [lf]
theorem lf_at (F : Nat → Int × ByteArray) (n : Nat) {i : Nat} (h : i < (lf F n).length) : (lf F n)[i] = F i := by simp [lf]
theorem lf_list (L : List (Int × ByteArray)) : lf (fun i => L.getD i (0, ⟨#[]⟩)) L.length = L := by
  apply List.ext_getElem
  · simp [lf]
  · intro i h1 h2
    rw [lf_at]
    simp [List.getD, h2]
theorem perm_sub {α : Type} [DecidableEq α] : ∀ (A L : List α), A.Nodup → (∀ x ∈ A, x ∈ L) → L.length ≤ A.length → A.Perm L
  | [], L, _, _, hl => by
    rw [List.eq_nil_of_length_eq_zero (Nat.le_zero.1 hl)]
  | x :: A, L, hn, hs, hl => by
    have hx : x ∈ L := hs x (List.mem_cons_self ..)
    obtain ⟨h1, h2⟩ := List.nodup_cons.1 hn
    have hp := List.perm_cons_erase hx
    refine (List.Perm.cons x (perm_sub A (L.erase x) h2 (fun y hy => ?_) ?_)).trans hp.symm
    · have hy2 : y ∈ x :: L.erase x := hp.mem_iff.1 (hs y (List.mem_cons_of_mem _ hy))
      rcases List.mem_cons.1 hy2 with e | h
      · subst e; exact absurd hy h1
      · exact h
    · have := hp.length_eq
      simp only [List.length_cons] at this hl
      omega
/-- What ascends and has only these letters is their stable order. -/
theorem lf_sorted {pos : Int × ByteArray → Nat} {L : List (Int × ByteArray)} (h : BatchL L) (hp : L.Pairwise fun x y => pos x < pos y) {F : Nat → Int × ByteArray} (hs : Sy.Srt ltL pos F 0 L.length) (hm : ∀ k, k < L.length → F k ∈ L) : lf F L.length = sortS L := by
  have hpw : (lf F L.length).Pairwise (Sy.ss ltL pos) := by
    rw [List.pairwise_iff_getElem]
    intro i j h1 h2 hij
    rw [lf_at, lf_at]
    rw [lf_len] at h2
    exact hs i j (Nat.zero_le _) hij h2
  refine ss_one ?_ hpw (sortS_ss h hp)
  refine List.Perm.trans ?_ (sortS_perm h).symm
  refine @perm_sub _ (fun a b => Classical.propDecidable (a = b)) _ _ (hpw.imp fun {a b} hab e => ?_) (fun x hx => ?_) (by rw [lf_len]; exact Nat.le_refl _)
  · subst e; exact ss_irr hab
  · obtain ⟨k, hk, rfl⟩ := List.mem_map.1 hx
    exact hm k (List.mem_range.1 hk)
end Go.Proofs.Ytekfjheaffkakaa
