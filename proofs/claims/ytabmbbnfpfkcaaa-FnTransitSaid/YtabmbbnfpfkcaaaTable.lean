/-
  The table of a network: the tries of its offices by their names, in a map.
-/
import Derived.Test.YtabmbbnfpfkcaaaNetW
import Derived.Test.YtabmbbnfpfkcaaaLookUp
import Derived.Test.YtabmbbnfpfkcaaaPath
import Derived.StillTailTactics
namespace Go.Proofs.Ytabmbbnfpfkcaaa
open Go.RowKit Go.Maps
open Go.PlainAid (bt get_bt bt_nonneg bt_le)
set_option linter.unusedVariables false

/-- How a pointer to a node reads: by its block. -/
def tptrR (v : Value) : Option (DataW Unit × List MemPlace) :=
  match v with
  | .pointer none => some (.lit (.int .i64 (-1)), [])
  | .pointer (some ⟨b, 0, none⟩) => some (.lit (.int .i64 (b : Int)), [])
  | _ => none
theorem tptrR_inv {v : Value} {x : Int} {ps : List MemPlace} (h : tptrR v = some (.lit (.int .i64 x), ps)) : (x = -1 ∧ v = .pointer none) ∨ ∃ b : Nat, x = (b : Int) ∧ v = .pointer (some ⟨b, 0, none⟩) := by
  unfold tptrR at h
  split at h
  · have h1 := Option.some.inj h
    simp only [Prod.mk.injEq] at h1
    have h2 := h1.1
    injection h2 with h2
    injection h2 with _ h3
    exact Or.inl ⟨h3.symm, rfl⟩
  · rename_i b
    have h1 := Option.some.inj h
    simp only [Prod.mk.injEq] at h1
    have h2 := h1.1
    injection h2 with h2
    injection h2 with _ h3
    exact Or.inr ⟨b, h3.symm, rfl⟩
  · cases h
theorem tptrR_none : tptrR (.pointer none) = some (.lit (.int .i64 (-1)), []) := rfl
theorem tptrR_some (b : Nat) : tptrR (.pointer (some ⟨b, 0, none⟩)) = some (.lit (.int .i64 (b : Int)), []) := rfl
/-- The map in the block g: the roots R of the tries of the first k offices, all from base on. -/
def Tab (w : World) (base g k : Nat) (NM : Nat → ByteArray) (RL : Nat → List (ByteArray × ByteArray)) (R : Nat → Nat) : Prop :=
  (∃ D : DataW Unit, w.ownsMap Try.prog 9 tptrR g k D ∧ IsMap D ∧ (∀ i, i < k → D.atKey (.string (NM i).data.toList) (.lit (.int .i64 (-1))) = .lit (.int .i64 (R i : Int))) ∧ ∀ x : ByteArray, (∀ i, i < k → NM i ≠ x) → D.atKey (.string x.data.toList) (.lit (.int .i64 (-1))) = .lit (.int .i64 (-1))) ∧
  ∀ i, i < k → TrieOf w base (R i) (RL i).length (nF (RL i)) (nT (RL i))
section
variable {w w' : World} {base g k : Nat} {NM : Nat → ByteArray} {RL : Nat → List (ByteArray × ByteArray)} {R : Nat → Nat}
theorem Tab.lt (h : Tab w base g k NM RL R) : g < w.heap.size := by
  obtain ⟨⟨D, hm, _⟩, _⟩ := h
  exact hm.lt
theorem Tab.on (h : Tab w base g k NM RL R) (hb : Below w.heap.size w w') : Tab w' base g k NM RL R := by
  obtain ⟨⟨D, hm, h1⟩, h2⟩ := h
  exact ⟨⟨D, World.ownsMap.kept hm (row := none) ⟨hb.os, hb.tape, hb.output, hb.size, fun k hk _ => hb.block k hk⟩ (by simp), h1⟩, fun i hi => (h2 i hi).on hb⟩
theorem zeroNode (w : World) : (zeroValue 65).run Try.prog w = .ok (.pointer none) w := by kernel_rfl
theorem Tab.look (h : Tab w base g k NM RL R) {i : Nat} (hi : i < k) (hs : (NM i).size ≤ maxLen) : (Instr.lookup 77 (.map (some g)) (.string (NM i)) false).run Try.prog w = .ok (.pointer (some ⟨R i, 0, none⟩)) w := by
  obtain ⟨⟨D, hm, _, hat, _⟩, _⟩ := h
  obtain ⟨v, ps, hrun, hv⟩ := hm.lookup lawStr Try.underlying77 (zeroNode w) tptrR_none (WideMaps.keyOf_string_mk Try.underlying9 hs)
  rw [hat i hi] at hv
  rw [hrun]
  rcases tptrR_inv hv with ⟨e, rfl⟩ | ⟨b, e, rfl⟩
  · omega
  · have : R i = b := by omega
    rw [this]
theorem Tab.miss (h : Tab w base g k NM RL R) {x : ByteArray} (hx : ∀ i, i < k → NM i ≠ x) (hs : x.size ≤ maxLen) : (Instr.lookup 77 (.map (some g)) (.string x) false).run Try.prog w = .ok (.pointer none) w := by
  obtain ⟨⟨D, hm, _, _, hat⟩, _⟩ := h
  obtain ⟨v, ps, hrun, hv⟩ := hm.lookup lawStr Try.underlying77 (zeroNode w) tptrR_none (WideMaps.keyOf_string_mk Try.underlying9 hs)
  rw [hat x hx] at hv
  rw [hrun]
  rcases tptrR_inv hv with ⟨e, rfl⟩ | ⟨b, e, rfl⟩
  · rfl
  · omega
/-- A store into the map leaves a trie. -/
theorem TrieOf.stored {r n : Nat} {F T : Nat → ByteArray} (h : TrieOf w base r n F T) (hg : w.grownBy w' (some g)) (hm : ∃ es c, w.heap[g]? = some (.map es c)) : TrieOf w' base r n F T := by
  obtain ⟨nd, rl, h1, h2, h3⟩ := h
  obtain ⟨es, c, hm⟩ := hm
  have hne : ∀ {a : Addr} {v : Value}, w.cell? a = some v → a.block ≠ g := fun {a v} hc e => by
    unfold World.cell? at hc
    rw [e, hm] at hc
    cases hc
  refine ⟨nd, rl, h1.kept (Only.of_grown hg) (fun q b hb e => ?_) (fun q x hx e => ?_), h2, h3⟩
  · exact hne (h1.ruleOf hb) (Option.some.inj e)
  · exact hne (h1.rule hx).2.1 (Option.some.inj e)
theorem Tab.step {D : DataW Unit} {r : Nat} (h : Tab w base g k NM RL R) (hr : TrieOf w base r (RL k).length (nF (RL k)) (nT (RL k))) (hno : ∀ i, i < k → NM i ≠ NM k) (hg : w.grownBy w' (some g))
    (hD : w'.ownsMap Try.prog 9 tptrR g (k + 1) (D.put (.string (NM k).data.toList) (.lit (.int .i64 (r : Int))))) (hm : w.ownsMap Try.prog 9 tptrR g k D) (hmap : IsMap D)
    (h1 : ∀ i, i < k → D.atKey (.string (NM i).data.toList) (.lit (.int .i64 (-1))) = .lit (.int .i64 (R i : Int))) (h2 : ∀ x : ByteArray, (∀ i, i < k → NM i ≠ x) → D.atKey (.string x.data.toList) (.lit (.int .i64 (-1))) = .lit (.int .i64 (-1))) :
    Tab w' base g (k + 1) NM RL (fun i => if i = k then r else R i) := by
  obtain ⟨_, ht⟩ := h
  have hgm : ∃ es c, w.heap[g]? = some (.map es c) := by
    obtain ⟨es, c, hb, _⟩ := hm
    exact ⟨es, c, hb⟩
  refine ⟨⟨_, hD, hmap.put _ _, fun i hi => ?_, fun x hx => ?_⟩, fun i hi => ?_⟩
  · show _ = DataW.lit (.int .i64 ((if i = k then r else R i : Nat) : Int))
    by_cases e : i = k
    · subst e
      rw [atKey_put_same hmap (by simp [WideAt.IsKeyLit]) _ _, if_pos rfl]
    · rw [atKey_put_other (by intro h'; injection h' with h3; exact hno i (by omega) (ByteArray.ext (Array.toList_inj.1 h3))), if_neg e]
      exact h1 i (by omega)
  · rw [atKey_put_other (by intro h'; injection h' with h3; exact hx k (by omega) (ByteArray.ext (Array.toList_inj.1 h3)).symm)]
    exact h2 x fun i hi => hx i (by omega)
  · show TrieOf w' base (if i = k then r else R i) _ _ _
    by_cases e : i = k
    · subst e
      rw [if_pos rfl]
      exact hr.stored hg hgm
    · rw [if_neg e]
      exact (ht i (by omega)).stored hg hgm
theorem Tab.update {r : Nat} (h : Tab w base g k NM RL R) (hr : TrieOf w base r (RL k).length (nF (RL k)) (nT (RL k))) (hno : ∀ i, i < k → NM i ≠ NM k) (hs : (NM k).size ≤ maxLen) (hk : k < maxLen) :
    ∃ w', (Instr.mapUpdate 77 (.map (some g)) (.string (NM k)) (.pointer (some ⟨r, 0, none⟩))).run Try.prog w = .ok () w' ∧ Tab w' base g (k + 1) NM RL (fun i => if i = k then r else R i) ∧ w.grownBy w' (some g) := by
  have hh := h
  obtain ⟨⟨D, hm, hmap, h1, h2⟩, _⟩ := hh
  obtain ⟨w', hrun, hown, hg⟩ := hm.update lawStr Try.underlying77 hk (WideMaps.keyOf_string_mk Try.underlying9 hs) (tptrR_some r)
  exact ⟨w', hrun, h.step hr hno hg hown hm hmap h1 h2, hg⟩
theorem TrieOf.lower {r n base' : Nat} {F T : Nat → ByteArray} (h : TrieOf w base r n F T) (hb : base' ≤ base) : TrieOf w base' r n F T := by
  obtain ⟨nd, rl, h1, h2⟩ := h
  exact ⟨nd, rl, h1.lower hb, h2⟩
end
set_option maxHeartbeats 2000000 in
set_option maxRecDepth 100000 in
theorem impl_tableOf_no (w : World) (a : Option Addr) (n c : Nat) (NM : Nat → ByteArray) (RL : Nat → List (ByteArray × ByteArray)) (h : Nts w a n NM RL) (hf : NFits n NM RL) (hn : n ≤ 1048576) (hnet : M.net n NM RL = false) :
    Calls Try.prog 52 #[.slice a n c] w fun e w' => e = .returned (.map none) ∧ Below w.heap.size w w' := by
  have HV := Lib.hid (impl_NetworkValid w a n c NM RL h hf hn)
  rw [hnet] at HV
  clear h hf hnet
  go_enter Try.func52, Try.ntmps52
  go_wp2_with (go_at_call 74; refine HV.out.mono ?_; rintro e w1 ⟨rfl, hb1⟩)
  go_ret
  exact ⟨rfl, hb1⟩
set_option maxHeartbeats 4000000 in
set_option maxRecDepth 100000 in
theorem impl_tableOf_yes (w : World) (a : Option Addr) (n c : Nat) (NM : Nat → ByteArray) (RL : Nat → List (ByteArray × ByteArray)) (h : Nts w a n NM RL) (hf : NFits n NM RL) (hn : n ≤ 1048576) (hnet : M.net n NM RL = true) :
    Calls Try.prog 52 #[.slice a n c] w fun e w' => ∃ g R, e = .returned (.map (some g)) ∧ Tab w' w.heap.size g n NM RL R ∧ Below w.heap.size w w' := by
  have HV := Lib.hid (impl_NetworkValid w a n c NM RL h hf hn)
  rw [hnet] at HV
  obtain ⟨⟨hn1, hn8⟩, hnames, hrules⟩ := M.net_yes hnet
  have HL := Lib.hid h
  have HF := Lib.hid hf
  have HNA := Lib.hid ((M.nameTo_iff NM n).1 hnames)
  have HRU := Lib.hid (fun i hi => (M.ruleOk_is (hrules i hi)).1)
  have hmm := @run_makeMap Try.prog
  clear h hf hnet hnames hrules
  go_enter Try.func52, Try.ntmps52
  go_wp2_with (go_at_call 74; refine HV.out.mono ?_; rintro e w1 ⟨rfl, hb1⟩)
  have K1 := Lib.hid hb1
  have hz1 := hb1.size
  have HM0 := Lib.hid (World.ownsMap_made (H := Unit) w1 Try.prog 9 tptrR)
  clear hb1
  go_loopw [12] (fun i wr => ∃ (k : Nat) (R : Nat → Nat), k ≤ n ∧ i = .int .i64 k ∧ Hid (Tab wr w.heap.size w1.heap.size k NM RL R) ∧ Hid (Below w.heap.size w wr)) (fun i _ => n - (intOf i).toNat)
  case atStart => exact ⟨0, fun _ => 0, Nat.zero_le _, rfl, ⟨⟨.map [], HM0.out, isMap_empty, fun i hi => absurd hi (by omega), fun x _ => rfl⟩, fun i hi => absurd hi (by omega)⟩, K1.out.alloc hz1 _⟩
  case round =>
    obtain ⟨k, R, hk, rfl, htab, hb⟩ := hrel
    have hz := hb.out.size
    by_cases hlt : k < n
    · obtain ⟨b, o, a', c', rfl, c0, c1, hfw⟩ := (HL.out.on hb.out) k hlt
      obtain ⟨s0, f0, m0⟩ := HF.out k hlt
      have hbo := below_alloc0 wr (.cells #[.string (NM k), .slice a' (RL k).length c'] 49)
      obtain ⟨W0, hW0⟩ : ∃ W0, wr.alloc (.cells #[.string (NM k), .slice a' (RL k).length c'] 49) = W0 := ⟨_, rfl⟩
      rw [hW0] at hbo
      have x0 : W0.cell? ⟨wr.heap.size, 0, none⟩ = some (.string (NM k)) := hW0 ▸ (by simp)
      have x1 : W0.cell? ⟨wr.heap.size, 1, none⟩ = some (.slice a' (RL k).length c') := hW0 ▸ (by simp)
      have HT0 := Lib.hid (htab.out.on hbo)
      have HB0 := Lib.hid (sstep hb.out hbo)
      have HTR := Lib.hid (fun W (hW : Below W0.heap.size W0 W) => impl_trieOf_yes W a' _ c' _ _ ((hfw.on hbo).on hW) f0 (HRU.out k hlt))
      have hkm : k < maxLen := by unfold maxLen; omega
      have HUP : Hid (∀ W r, Below W0.heap.size W0 W → TrieOf W w.heap.size r (RL k).length (nF (RL k)) (nT (RL k)) → ∃ W', (Instr.mapUpdate 77 (.map (some w1.heap.size)) (.string (NM k)) (.pointer (some ⟨r, 0, none⟩))).run Try.prog W = .ok () W' ∧ Tab W' w.heap.size w1.heap.size (k + 1) NM RL (fun i => if i = k then r else R i) ∧ W.grownBy W' (some w1.heap.size)) := fun W r hW ht => (HT0.out.on hW).update ht (HNA.out k hlt).2.2 s0 hkm
      have hlx := World.block_lt_of_cell? _ _ x0
      have HDR : Hid (Below W0.heap.size W0 W0.drew) := (Below.refl _ _).drew
      have hz0 := HB0.out.size
      have HW0 := Lib.hid hW0
      clear hfw f0 m0 hbo hW0 s0
      go_wp2_with fail
      rw [HW0.out]
      go_region_with (go_at_call 37; refine (HTR.out _ HDR.out).mono ?_; rintro e w2 ⟨r, rfl, ht2, hb2⟩; have y0 : w2.cell? ⟨wr.heap.size, 0, none⟩ = some (.string (NM k)) := (hb2.cell (p := ⟨wr.heap.size, 0, none⟩) hlx).trans x0; obtain ⟨w3, hins, ht3, hg3⟩ := HUP.out w2 r (HDR.out.trans hb2) (ht2.lower hz0); have T3 := Lib.hid ht3; have B3 : Hid (Below w.heap.size w w3) := (sstep (sstep HB0.out HDR.out) hb2).grown hg3 (sstep (sstep HB0.out HDR.out) hb2).size (fun j hj => by cases hj; exact hz1); clear ht3 hg3 ht2 hb2)
      all_goals
        go_wp2
        exact ⟨⟨k + 1, _, by omega, by go_num, T3, B3⟩, by simp [intOf]; omega⟩
    · obtain rfl : k = n := by omega
      go_wp2
      go_ret
      exact ⟨_, R, rfl, htab.out, hb.out⟩
end Go.Proofs.Ytabmbbnfpfkcaaa
