/-
  Whether two lists of letters are equal, whatever they are.
-/
import Derived.Test.YtbcoklognedffaaSo
import Derived.Test.YtbcoklognedffaaFind
import Derived.BigQuiet
namespace Go.Proofs.Ytbcoklognedffaa
open Go.RowKit
set_option linter.unusedVariables false

theorem lst_same {n : Nat} {I I' : Nat → Int} {C C' : Nat → ByteArray} : M.lst I C n = M.lst I' C' n ↔ ∀ k, k < n → I k = I' k ∧ C k = C' k := by
  constructor
  · intro h k hk
    have h1 : (M.lst I C n)[k]? = (M.lst I' C' n)[k]? := by rw [h]
    unfold M.lst at h1
    simp only [List.getElem?_map, List.getElem?_range hk, Option.map_some] at h1
    injection h1 with h1
    exact ⟨congrArg Prod.fst h1, congrArg Prod.snd h1⟩
  · intro h
    unfold M.lst
    exact List.map_congr_left fun k hk => by rw [(h k (List.mem_range.1 hk)).1, (h k (List.mem_range.1 hk)).2]
theorem toList_inj {s s' : ByteArray} (h : s.toList = s'.toList) : s = s' := by
  rw [Lib.toList_data, Lib.toList_data] at h
  exact ByteArray.ext (Array.toList_inj.1 h)
set_option maxHeartbeats 1000000 in
theorem soBatch_any (w : World) (a a' : Option Addr) (n n' c c' : Nat) (I I' : Nat → Int) (C C' : Nat → ByteArray) (h : Lts w a n I C) (h' : Lts w a' n' I' C') (hn : n ≤ 1048576) :
    Calls Try.prog 15 #[.slice a n c, .slice a' n' c'] w fun e w' => e = .returned (.bool (decide (M.lst I C n = M.lst I' C' n'))) ∧ Below w.heap.size w w' := by
  have HL := Lib.hid h
  have HL' := Lib.hid h'
  clear h h'
  by_cases hnn : n = n'
  · subst hnn
    obtain ⟨d, hd⟩ : ∃ d, decide (M.lst I C n = M.lst I' C' n) = d := ⟨_, rfl⟩
    have HD1 : Hid ((∀ k, k < n → I k = I' k ∧ C k = C' k) → d = true) := fun h => by rw [← hd]; exact decide_eq_true (lst_same.2 h)
    have HD0 : Hid (∀ k, k < n → ¬ (I k = I' k ∧ C k = C' k) → d = false) := fun k hk h => by rw [← hd]; exact decide_eq_false fun e => h (lst_same.1 e k hk)
    rw [hd]
    clear hd
    go_enter Try.func15, Try.ntmps15
    go_wp2
    go_loopw [5] (fun i wr => ∃ k : Nat, k ≤ n ∧ i = .int .i64 k ∧ Hid (∀ j, j < k → I j = I' j ∧ C j = C' j) ∧ Below w.heap.size w wr) (fun i _ => n - (intOf i).toNat)
    case atStart => exact ⟨0, Nat.zero_le _, rfl, fun j hj => absurd hj (by omega), Below.refl _ _⟩
    case round =>
      obtain ⟨k, hk, rfl, hpre, hb⟩ := hrel
      have hz := hb.size
      have BH := Lib.hid hb
      by_cases hlt : k < n
      · obtain ⟨b, o, rfl, c0, c1⟩ := (HL.out.on hb) k hlt
        obtain ⟨b', o', rfl, c0', c1'⟩ := (HL'.out.on hb) k hlt
        have hki : (k : Int) < (n : Int) := by omega
        by_cases he : I k = I' k ∧ C k = C' k
        · have HN : Hid (∀ j, j < k + 1 → I j = I' j ∧ C j = C' j) := fun j hj => by
            by_cases e : j = k
            · subst e; exact he
            · exact hpre.out j (by omega)
          obtain ⟨e1, e2⟩ := he
          rw [← e1] at c0'
          rw [← e2] at c1'
          obtain ⟨x, hx⟩ : ∃ x, I k = x := ⟨_, rfl⟩
          obtain ⟨s, hs⟩ : ∃ s, C k = s := ⟨_, rfl⟩
          rw [hx] at c0 c0'
          rw [hs] at c1 c1'
          clear e1 e2 hx hs
          go_wp2
          go_quiet (fail)
          go_wp2
          go_roundw
          case rel => exact ⟨k + 1, by omega, by go_num, HN, BH.out.trans ⟨rfl, rfl, rfl, Nat.le_refl _, fun _ _ => rfl⟩⟩
          case measure => simp [intOf]; omega
        · have hd := HD0.out k hlt he
          obtain ⟨x, hx⟩ : ∃ x, I k = x := ⟨_, rfl⟩
          obtain ⟨s, hs⟩ : ∃ s, C k = s := ⟨_, rfl⟩
          obtain ⟨x', hx'⟩ : ∃ x, I' k = x := ⟨_, rfl⟩
          obtain ⟨s', hs'⟩ : ∃ s, C' k = s := ⟨_, rfl⟩
          rw [hx] at c0 he
          rw [hs] at c1 he
          rw [hx'] at c0' he
          rw [hs'] at c1' he
          subst hd
          clear hx hs hx' hs' HD1 HD0
          by_cases hxx : x = x'
          · subst hxx
            have hss : ¬ s = s' := fun e => he ⟨rfl, e⟩
            have hsl : ¬ s.toList = s'.toList := fun e => hss (toList_inj e)
            have hs1 : (s.toList == s'.toList) = false := by rw [beq_eq_false_iff_ne]; exact hsl
            have hs2 : (s.toList != s'.toList) = true := by simp only [bne, hs1]; rfl
            clear he hss
            go_wp2
            go_quiet (fail)
            go_wp2
            go_ret
            exact ⟨rfl, BH.out.trans ⟨rfl, rfl, rfl, Nat.le_refl _, fun _ _ => rfl⟩⟩
          · have hx1 : (x == x') = false := by rw [beq_eq_false_iff_ne]; exact hxx
            have hx2 : (x != x') = true := by simp only [bne, hx1]; rfl
            clear he
            go_wp2
            go_quiet (fail)
            go_wp2
            go_ret
            exact ⟨rfl, BH.out.trans ⟨rfl, rfl, rfl, Nat.le_refl _, fun _ _ => rfl⟩⟩
      · obtain rfl : k = n := by omega
        have hd := HD1.out hpre.out
        subst hd
        go_wp2
        go_ret
        exact ⟨rfl, hb⟩
  · have hd : decide (M.lst I C n = M.lst I' C' n') = false := decide_eq_false fun e => hnn (by have := congrArg List.length e; rw [M.lst_length, M.lst_length] at this; exact this)
    rw [hd]
    have hni : ((n : Int) == (n' : Int)) = false := by rw [beq_eq_false_iff_ne]; omega
    have hnb : ((n : Int) != (n' : Int)) = true := by simp [bne, hni]
    clear hd
    go_enter Try.func15, Try.ntmps15
    go_wp2
    go_ret
    exact ⟨rfl, Below.refl _ _⟩
end Go.Proofs.Ytbcoklognedffaa
