/-
  Whether rules are valid, in the program.
-/
import Derived.Test.YtkbebpadbdhnhaaRulV2
namespace Go.Proofs.Ytkbebpadbdhnhaa
open Go.RowKit Go.Maps
open Go.PlainAid (bt get_bt bt_nonneg bt_le)
set_option linter.unusedVariables false

set_option maxHeartbeats 1000000 in
theorem contains_odd (s : ByteArray) (w : World) (hs : s.size ≤ maxLen) :
    Calls Try.prog 37 #[.string s, .func (.func 36) #[] #[]] w fun e w' => e = .returned (.bool (!M.lowTo s s.size)) ∧ Iters s w w' := by
  have HX := Lib.hid (index_odd s w hs)
  clear hs
  have HI : Hid (Calls Try.prog 44 #[.string s, .func (.func 36) #[] #[]] w fun e w' => ∃ r : Int, e = .returned (.int .i64 r) ∧ M.oddAt s r ∧ Iters s w w') := by
    unfold Hid
    go_enter Try.func44, Try.ntmps44
    go_wp2_with (go_at_call 46; refine HX.out.mono ?_; rintro e w1 ⟨r, rfl, hr, hi⟩)
    go_ret
    exact ⟨r, rfl, hr, hi⟩
  clear HX
  go_enter Try.func37, Try.ntmps37
  go_wp2_with fail
  refine HI.out.mono ?_
  rintro e w1 ⟨r, rfl, hr, hi⟩
  rcases hr with ⟨rfl, hl⟩ | ⟨h0, hl⟩
  · go_wp2
    go_ret
    exact ⟨by rw [hl]; rfl, hi⟩
  · go_wp2
    go_ret
    exact ⟨ret_bool (by rw [hl]; simp), hi⟩
set_option maxHeartbeats 1000000 in
theorem impl_nameValid (s : ByteArray) (w : World) (hs : s.size ≤ maxLen) :
    Calls Try.prog 22 #[.string s] w fun e w' => e = .returned (.bool (M.name s)) ∧ Below w.heap.size w w' := by
  have hmf : ∀ (fn : Fn) (first cap : Array Value) (w : World), (Instr.makeFunc fn first cap).run Try.prog w = .ok (.func fn first cap) w := fun _ _ _ _ => rfl
  have HX := Lib.hid (contains_odd s w hs)
  unfold maxLen at hs
  by_cases h0 : s.size = 0
  · have he : s = ⟨#[]⟩ := by
      apply ByteArray.ext
      apply Array.eq_empty_of_size_eq_zero
      exact h0
    subst he
    have hv := Lib.hid (M.name_size (s := ⟨#[]⟩) (by decide))
    clear HX
    go_enter Try.func22, Try.ntmps22
    go_wp2
    go_ret
    exact ⟨ret_bool hv.out.symm, Below.refl _ _⟩
  · have hne : (s.toList == ([] : List UInt8)) = false := by
      rw [beq_eq_false_iff_ne, ByteArray.toList_eq]
      intro e
      have h1 : s.data.toList.length = 0 := by rw [e]; rfl
      rw [Array.length_toList] at h1
      exact h0 h1
    by_cases h8 : s.size ≤ 8
    · have hv := Lib.hid (M.name_in (s := s) ⟨by omega, h8⟩)
      have h8' : (s.size : Int) ≤ 8 := by omega
      go_enter Try.func22, Try.ntmps22
      go_wp2_with (go_at_call 37; refine HX.out.mono ?_; rintro e w1 ⟨rfl, hi⟩)
      go_ret
      exact ⟨ret_bool (by rw [hv.out]), hi.below⟩
    · have hv := Lib.hid (M.name_size (s := s) (by omega))
      have h8' : ¬ (s.size : Int) ≤ 8 := by omega
      clear HX
      go_enter Try.func22, Try.ntmps22
      go_wp2
      go_ret
      exact ⟨ret_bool hv.out.symm, Below.refl _ _⟩
theorem OwnSeenS.on {w w' : World} {b k : Nat} {S : Nat → ByteArray} (h : OwnSeenS w b S k) (hb : Below w.heap.size w w') : OwnSeenS w' b S k :=
  World.ownsMap.kept h (row := none) ⟨hb.os, hb.tape, hb.output, hb.size, fun k hk _ => hb.block k hk⟩ (by simp)

set_option maxHeartbeats 2000000 in
set_option maxRecDepth 100000 in
theorem impl_RulesValid (w : World) (a : Option Addr) (n c : Nat) (F T : Nat → ByteArray) (h : Fws w a n F T) (hf : FFits n F T) :
    Calls Try.prog 11 #[.slice a n c] w fun e w' => e = .returned (.bool (M.rul n F T)) ∧ Below w.heap.size w w' := by
  have HL := Lib.hid h
  have HF := Lib.hid hf
  clear h hf
  have hmm := @run_makeMap Try.prog
  by_cases h20 : 20 < n
  · have hv := Lib.hid (M.rul_long (P := F) (N := T) h20)
    go_enter Try.func11, Try.ntmps11
    go_wp2
    go_ret
    exact ⟨ret_bool hv.out.symm, Below.refl _ _⟩
  go_enter Try.func11, Try.ntmps11
  go_wp2
  go_loopw [12] (fun i wr => ∃ k : Nat, k ≤ n ∧ i = .int .i64 k ∧ Hid (M.rulTo F T k = true) ∧ Hid (OwnSeenS wr w.heap.size F k) ∧ Hid (Below w.heap.size w wr)) (fun i _ => n - (intOf i).toNat)
  case atStart => exact ⟨0, Nat.zero_le _, rfl, rfl, World.ownsMap_made _ _ _ _, (Below.refl _ _).alloc (Nat.le_refl _) _⟩
  case round =>
    obtain ⟨k, hk, rfl, hg, hown, hb⟩ := hrel
    have hz := hb.out.size
    by_cases hlt : k < n
    · obtain ⟨b, o, rfl, c0, c1⟩ := (HL.out.on hb.out) k hlt
      obtain ⟨s0, s1⟩ := HF.out k hlt
      obtain ⟨ob, hob⟩ : ∃ ob, Obj.cells #[.string (F k), .string (T k)] 44 = ob := ⟨_, rfl⟩
      have HO := Lib.hid (World.ownsMap.alloc hown.out (.cells #[.string (F k), .string (T k)] 44))
      have B1 : Hid (Below w.heap.size w (wr.alloc (.cells #[.string (F k), .string (T k)] 44))) := hb.out.alloc hz _
      clear hob hown
      by_cases hs : ∃ j, j < k ∧ F j = F k
      · have hbad := Lib.hid (M.rul_no (N := T) hlt (Or.inr (Or.inr hs)))
        have hlook : (Instr.lookup 48 (.map (some w.heap.size)) (.string (F k)) false).run Try.prog (wr.alloc (.cells #[.string (F k), .string (T k)] 44)) = .ok (.bool true) (wr.alloc (.cells #[.string (F k), .string (T k)] 44)) := by
          obtain ⟨j, hj, e⟩ := hs
          exact OwnSeenS.look HO.out s0 (by rw [← e]; exact SeenS.hit F k j hj)
        clear hs
        go_wp2
        go_ret
        exact ⟨ret_bool hbad.out.symm, B1.out⟩
      have hno : ∀ j, j < k → F j ≠ F k := fun j hj e => hs ⟨j, hj, e⟩
      have hlook : (Instr.lookup 48 (.map (some w.heap.size)) (.string (F k)) false).run Try.prog (wr.alloc (.cells #[.string (F k), .string (T k)] 44)) = .ok (.bool false) (wr.alloc (.cells #[.string (F k), .string (T k)] 44)) :=
        OwnSeenS.look HO.out s0 (SeenS.miss F (F k) k hno)
      have HNO := Lib.hid hno
      clear hs hno
      cases hc0 : M.prefixOk (F k)
      · have hv := Lib.hid (M.rul_no (N := T) hlt (Or.inl hc0))
        have HP : Hid (∀ W, Calls Try.prog 21 #[.string (F k)] W fun e w' => e = .returned (.bool false) ∧ Below W.heap.size W w') := fun W => hc0 ▸ impl_prefixValid (F k) W s0
        clear hc0
        go_wp2_with (go_at_call 21; refine (HP.out _).mono ?_; rintro e w1 ⟨rfl, hb1⟩)
        go_ret
        exact ⟨ret_bool hv.out.symm, sstep B1.out hb1⟩
      have HP : Hid (∀ W, Calls Try.prog 21 #[.string (F k)] W fun e w' => e = .returned (.bool true) ∧ Below W.heap.size W w') := fun W => hc0 ▸ impl_prefixValid (F k) W s0
      have HPK := Lib.hid hc0
      clear hc0
      cases hc1 : M.name (T k)
      · have hv := Lib.hid (M.rul_no (P := F) hlt (Or.inr (Or.inl hc1)))
        have HN : Hid (∀ W, Calls Try.prog 22 #[.string (T k)] W fun e w' => e = .returned (.bool false) ∧ Below W.heap.size W w') := fun W => hc1 ▸ impl_nameValid (T k) W s1
        clear hc1
        go_wp2_with (first
          | (go_at_call 21; refine (HP.out _).mono ?_; rintro e w1 ⟨rfl, hb1⟩; have hz1 := hb1.size; simp at hz1; obtain ⟨hcc, hff⟩ := bcell hb1)
          | (go_at_call 22; refine (HN.out _).mono ?_; rintro e w2 ⟨rfl, hb2⟩))
        go_ret
        exact ⟨ret_bool hv.out.symm, sstep (sstep B1.out hb1) hb2⟩
      have HN : Hid (∀ W, Calls Try.prog 22 #[.string (T k)] W fun e w' => e = .returned (.bool true) ∧ Below W.heap.size W w') := fun W => hc1 ▸ impl_nameValid (T k) W s1
      have hsu := Lib.hid (M.rulTo_succ hg.out HPK.out hc1 HNO.out)
      clear hc1
      have hkey : keyOf Try.prog 9 (.string (F k)) = some (.string (F k).data.toList) := WideMaps.keyOf_string_mk Try.underlying9 s0
      have hkm : k < maxLen := by unfold maxLen; omega
      go_wp2_with (first
        | (go_at_call 21; refine (HP.out _).mono ?_; rintro e w1 ⟨rfl, hb1⟩; have hz1 := hb1.size; simp at hz1; obtain ⟨hcc, hff⟩ := bcell hb1)
        | (go_at_call 22; refine (HN.out _).mono ?_; rintro e w2 ⟨rfl, hb2⟩; have hz2 := hb2.size; have hcell : w2.cell? ⟨wr.heap.size, 0, none⟩ = some (.string (F k)) := ((hb2.cell (p := ⟨wr.heap.size, 0, none⟩) (by show wr.heap.size < w1.heap.size; omega)).trans ((hb1.cell (p := ⟨wr.heap.size, 0, none⟩) (by simp)).trans (by simp))))
        | (at_mapUpdate; refine wpList_mapUpdate_own _ rfl _ _ _ 48 rfl 9 4 lawStr Try.underlying48 _ w.heap.size k _ rfl ((OwnSeenS.on HO.out hb1).on hb2) hkm _ _ _ rfl rfl hkey _ [] (plainElem_bool Try.underlying4 true) ?_; intro w3 hown1 hgrow1))
      go_roundw
      case rel => exact ⟨k + 1, by omega, by go_num, hsu.out, hown1, (sstep (sstep B1.out hb1) hb2).grown hgrow1 (by have := (sstep (sstep B1.out hb1) hb2).size; omega) (fun j hj => by cases hj; exact Nat.le_refl _)⟩
      case measure => simp [intOf]; omega
    · obtain rfl : k = n := by omega
      have hv := Lib.hid (M.rul_all hg.out (by omega))
      go_wp2
      go_ret
      exact ⟨ret_bool hv.out.symm, hb.out⟩
end Go.Proofs.Ytkbebpadbdhnhaa
