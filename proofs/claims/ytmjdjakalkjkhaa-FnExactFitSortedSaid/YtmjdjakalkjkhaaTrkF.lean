/-
  The greatest weights first, in the model: what l5Sorted and FitSorted return.
-/
import Derived.Test.YtmjdjakalkjkhaaTrkE
namespace Go.Proofs.Ytmjdjakalkjkhaa
open Go.RowKit
set_option linter.unusedVariables false

theorem iappend_nil_src {P : Program} (w : World) (base : Nat) (t ty e : TypeId) (i : TypeInfo) (size : Nat) (ht : P.underlying t = some (.slice e)) (hi : P.info? e = some i)
    (v : Value) (n : Nat) (xs : List Value) (hown : w.ownsRow base e size v n xs) (c : Nat) : (Builtin.append_ #[t, t] ty #[v, .slice none 0 c]).run P w = .ok v w := by
  rcases hown.2 with ⟨rfl, rfl⟩ | ⟨g, cap, cur, rfl, _, _, hnc, _⟩
  · simp [Builtin.append_, run_underlying ht, sizeOf, typeInfo, hi, Builtin.lenOf, Builtin.firstCells]
  · simp [Builtin.append_, run_underlying ht, sizeOf, typeInfo, hi, Builtin.lenOf, Builtin.firstCells, hnc, storeCells]
theorem icells_one (L : List Int) (u : Value) (h : u ∈ icells L) : u.oneCell' = true := by
  unfold icells at h
  obtain ⟨x, _, rfl⟩ := List.mem_map.1 h
  rfl
theorem wpList_append_nums {ops : Array Oper} {rest : List Oper} {o : Oper} {a : Act} {Q : Exit → Act → World → Prop} (w : World) (hgd : o.guard = none) (s x : Operand)
    (ho : o.op = .call { callee := .builtin .append, args := #[s, x], argTypes := #[24, 24] })
    (base : Nat) (v : Value) (L : List Int) (hs : a.eval s = v) (hrow : IRow w base v L) (a2 : Option Addr) (m c2 : Nat) (R : List Int) (hx : a.eval x = .slice a2 m c2) (hu : Nums w a2 R) (hR : R.length = m) (hl : L.length + m ≤ 1048576) (hbase : base ≤ w.heap.size)
    (K : ∀ v' w', IRow w' base v' (L ++ R) → w.grownBy w' v.ownBlock → (v'.ownBlock = v.ownBlock ∨ v'.ownBlock = some w.heap.size) → wpList Try.prog ops Q rest (a.put o.dst v') w') :
    wpList Try.prog ops Q (o :: rest) a w := by
  obtain ⟨i0, hi, hz0, hz1, hz2⟩ := info_parts info_int
  by_cases h0 : m = 0
  · subst h0
    obtain rfl : R = [] := List.eq_nil_of_length_eq_zero hR
    rw [List.append_nil] at K
    cases a2 with
    | none =>
      refine wpList_plain hgd fun K' hK => ?_
      have hrun := iappend_nil_src (P := Try.prog) w base 24 o.type 3 i0 1 Try.underlying24 hi v L.length (icells L) hrow c2
      unfold Oper.wp
      simp [execOp, ho, resolve, invoke, builtin, hs, hx, hrun, Result.andThen]
      exact hK _ _ (K v w hrow (World.grownBy.refl w _) (Or.inl rfl))
    | some ad =>
      refine wpList_append_own_at w hgd s x 24 ho base 3 i0 _ 1 8 Try.underlying24 hi hz0 hz1 hz2 rfl (by decide) v L.length (icells L) hs hrow ad 0 c2 [] hx rfl (fun j u hu => by simp at hu) (fun u hu => by cases hu) (by unfold maxLen; omega) (by omega) hbase ?_
      intro v' w' h1 h2 _ h3
      exact K v' w' (by unfold IRow; simpa using h1) h2 h3
  · obtain ⟨b, o', e, _⟩ := hu 0 (by omega)
    subst e
    refine wpList_append_own_at w hgd s x 24 ho base 3 i0 _ 1 8 Try.underlying24 hi hz0 hz1 hz2 rfl (by decide) v L.length (icells L) hs hrow ⟨b, o', none⟩ m c2 (icells R) hx (by rw [icells_length]; omega) ?_ (icells_one _) (by unfold maxLen; omega) (by omega) hbase ?_
    · intro j u hj
      have hjl : j < R.length := by
        have := (List.getElem?_eq_some_iff.1 hj).1
        rw [icells_length] at this
        exact this
      have hadd : (⟨b, o', none⟩ : Addr).add j = ⟨b, o' + j, none⟩ := by unfold Addr.add; split <;> simp_all
      rw [hadd]
      obtain ⟨b', o2, e2, c0⟩ := hu j hjl
      cases e2
      rw [icells_at R j hjl, ← MW.gz_at hjl] at hj
      rw [← Option.some.inj hj]
      exact c0
    · intro v' w' h1 h2 _ h3
      refine K v' w' ?_ h2 h3
      unfold IRow
      rw [List.length_append, hR, icells_append]
      exact h1
theorem Nums.take {w : World} {a : Option Addr} {L : List Int} (h : Nums w a L) (k : Nat) : Nums w a (L.take k) := by
  intro i hi
  have hi2 : i < k ∧ i < L.length := by rw [List.length_take] at hi; omega
  obtain ⟨b, o, e, c⟩ := h i hi2.2
  exact ⟨b, o, e, by rw [MW.gz_take hi2.1]; exact c⟩
theorem Nums.drop {w : World} {b o : Nat} {L : List Int} (h : Nums w (some ⟨b, o, none⟩) L) (k : Nat) : Nums w (some ⟨b, o + k, none⟩) (L.drop k) := by
  intro i hi
  rw [List.length_drop] at hi
  obtain ⟨b', o', e, c⟩ := h (k + i) (by omega)
  cases e
  exact ⟨b, o + k, rfl, by rw [MW.gz_drop, Nat.add_assoc]; exact c⟩
theorem Nums.nil (w : World) (a : Option Addr) : Nums w a [] := fun i hi => absurd hi (by simp)

set_option maxHeartbeats 4000000 in
theorem spec_l5Sorted (w : World) (a : Option Addr) (n c : Nat) (L : List Int) (h : Nums w a L) (hL : L.length = n) (hn : n ≤ 8) :
    Calls Try.prog 40 #[.slice a n c] w (NumsOut w (MW.srt L n)) := by
  have hb0 := below_alloc0 w (.cells #[] 3)
  have HL := Lib.hid h
  have HN := Lib.hid hL
  have HE := Lib.hid (one_irow w)
  clear h hL
  go_enter Try.func40, Try.ntmps40
  go_wp2
  go_loopw [3, 4] (fun v i wr => ∃ k g d : Nat, k ≤ n ∧ i = .int .i64 k ∧ v = .slice (some ⟨g, 0, none⟩) k d ∧ Hid (IRow wr w.heap.size (.slice (some ⟨g, 0, none⟩) k d) (MW.srt L k)) ∧ Hid (Below w.heap.size w wr)) (fun _ i _ => n - (intOf i).toNat)
  case atStart => exact ⟨0, _, _, Nat.zero_le _, rfl, rfl, HE.out, hb0⟩
  case round =>
    obtain ⟨k, g, d, hk, rfl, rfl, hr, hb⟩ := hrel
    by_cases hlt : k < n
    · have hkd : k ≤ d := by
        obtain ⟨_, _, e, hle, _⟩ := hr.out.form
        injection e with _ e2 e3
        rw [MW.srt_length] at hle; omega
      obtain ⟨b, o, rfl, c0⟩ := (HL.out.on hb.out) k (by rw [HN.out]; exact hlt)
      go_wp2
      go_loopw [5] (fun j wv => ∃ t m : Nat, t ≤ k ∧ j = .int .i64 t ∧ Hid (MW.posTo L (MW.srt L k) k k = MW.posTo L (MW.srt L k) k t) ∧ wv = wr.drewN m) (fun j _ => (intOf j).toNat)
      case atStart => exact ⟨k, 0, Nat.le_refl _, rfl, rfl, rfl⟩
      case round =>
        obtain ⟨t, m, ht, rfl, hp, rfl⟩ := hrel
        by_cases ht0 : t = 0
        · have d0 : decide ((0 : Int) < (t : Int)) = false := decide_eq_false (by omega)
          have d1 : decide (0 < t) = false := decide_eq_false (by omega)
          have HP : Hid (MW.posTo L (MW.srt L k) k k = t) := by rw [Hid, hp.out, ht0]; rfl
          have H0 := Lib.hid ht0
          clear ht0
          go_wp2
          go_quiet (fail)
          obtain ⟨w2, hw2⟩ : ∃ w2, (wr.drewN m).drewN nq = w2 := ⟨_, rfl⟩
          have kq : Below wr.heap.size wr w2 := hw2 ▸ ⟨rfl, rfl, rfl, Nat.le_refl _, fun _ _ => rfl⟩
          rw [hw2]
          have r2 := Lib.hid (hr.out.on kq)
          have hb2 := Lib.hid (sstep hb.out kq)
          have hz2 := hb2.out.size
          have HE2 := Lib.hid (one_irow w2)
          have hg2 : g < w2.heap.size := (r2.out.lt g rfl).2
          have hlt1 : ((MW.srt L k).take t).length = t := by rw [List.length_take, MW.srt_length]; omega
          have HLT := Lib.hid hlt1
          clear hw2 kq c0 hlt1
          go_wp2_with (at_builtin; refine wpList_append_nums _ rfl _ _ rfl w2.heap.size (.slice (some ⟨w2.heap.size, 0, none⟩) 0 0) [] rfl HE2.out (some ⟨g, 0, none⟩) (t) d ((MW.srt L k).take (t)) rfl ((r2.out.alloc _).nums.take (t)) HLT.out (by simp; omega) (by simp) ?_)
          intro v6 w3 r6 g6 o6
          have r3 : Hid (IRow w3 w.heap.size (.slice (some ⟨g, 0, none⟩) k d) (MW.srt L k)) := (r2.out.alloc _).only (Only.of_grown g6) (fun b e h => by have e1 : g = b := Option.some.inj e; have e2 : b = w2.heap.size := Option.some.inj h; omega)
          have hb3 : Hid (Below w.heap.size w w3) := (hb2.out.alloc hz2 _).grown g6 (by simp; omega) (fun b e => by have e2 : w2.heap.size = b := Option.some.inj e; omega)
          have z3 : w2.heap.size ≤ w3.heap.size := by have := g6.size; simp at this; omega
          have R6 := Lib.hid r6
          clear r6 g6 o6
          go_wp2_with (at_builtin; refine wpList_append_int _ rfl _ _ rfl w2.heap.size v6 ((MW.srt L k).take (t)) rfl (R6.out.alloc _) _ (k : Int) rfl ?_ (by rw [HLT.out]; omega) (by simp; omega) ?_)
          · simp [go_sem]
          · intro v7 w4 r7 g7 o7
            have r4 : Hid (IRow w4 w.heap.size (.slice (some ⟨g, 0, none⟩) k d) (MW.srt L k)) := (r3.out.alloc _).only (Only.of_grown g7) (fun b e h => by have e1 : g = b := Option.some.inj e; have := (R6.out.lt b h.symm).1; omega)
            have hb4 : Hid (Below w.heap.size w w4) := (hb3.out.alloc (by have := hb3.out.size; omega) _).grown g7 (by have := hb3.out.size; simp; omega) (fun b e => by have := (R6.out.lt b e).1; omega)
            have z4 : w2.heap.size ≤ w4.heap.size := by have := g7.size; simp at this; omega
            have R7 := Lib.hid r7
            have hl7 : Hid ((List.take (t) (MW.srt L k) ++ [(k : Int)]).length = t + 1) := by rw [Hid, List.length_append, HLT.out]; rfl
            have hld : Hid (((MW.srt L k).drop (t)).length = k - (t)) := by rw [Hid, List.length_drop, MW.srt_length]
            clear r7 g7 o7
            by_cases hcap : d = t
            · have hkt : k = t := by omega
              have HK := Lib.hid hkt
              have HCAP := Lib.hid hcap
              have hkt0 : k - (t) = 0 := by omega
              have hf : Hid (MW.srt L (k + 1) = List.take (t) (MW.srt L k) ++ [(k : Int)] ++ []) := by
                have e : (MW.srt L k).drop (t) = [] := List.drop_eq_nil_of_le (by rw [MW.srt_length]; omega)
                show List.take (MW.posTo L (MW.srt L k) k k) _ ++ _ ++ List.drop (MW.posTo L (MW.srt L k) k k) _ = _
                rw [HP.out, e]
              clear hkt
              go_wp2_with (at_builtin; refine wpList_append_nums _ rfl _ _ rfl w2.heap.size v7 (List.take (t) (MW.srt L k) ++ [(k : Int)]) rfl R7.out _ _ _ [] rfl (Nums.nil _ _) (by first | rfl | (simp; omega)) (by rw [hl7.out]; omega) (by omega) ?_)
              intro v8 w5 r8 g8 o8
              replace r8 : IRow w5 w2.heap.size v8 (MW.srt L (k + 1)) := (by rw [hf.out]; first | exact r8 | simpa using r8)
              have hb5 : Hid (Below w.heap.size w w5) := hb4.out.grown g8 (by have := hb4.out.size; omega) (fun b e => by have := (R7.out.lt b e).1; omega)
              rcases r8.cases with ⟨_, e⟩ | ⟨g5, d5, rfl, _, _, _⟩
              · have := congrArg List.length e
                rw [MW.srt_length] at this; cases this
              · rw [MW.srt_length] at r8 ⊢
                have R8 := Lib.hid (r8.lower hz2)
                clear r8 g8 o8
                go_wp2
                go_roundw
                case rel => exact ⟨k + 1, g5, d5, by omega, by go_num, by go_num, R8.out, hb5.out⟩
                case measure => simp [intOf]; omega
            · have hc2 : ¬ t = d := by omega
              have hc3 : ¬ d ≤ t := by omega
              have hf : Hid (MW.srt L (k + 1) = List.take (t) (MW.srt L k) ++ [(k : Int)] ++ (MW.srt L k).drop (t)) := by
                show List.take (MW.posTo L (MW.srt L k) k k) _ ++ _ ++ List.drop (MW.posTo L (MW.srt L k) k k) _ = _
                rw [HP.out]
              have hnd : Hid (Nums w4 (some ⟨g, t, none⟩) ((MW.srt L k).drop (t))) := (by have h9 := r4.out.nums.drop (t); rw [Nat.zero_add] at h9; exact h9)
              go_wp2_with (at_builtin; refine wpList_append_nums _ rfl _ _ rfl w2.heap.size v7 (List.take (t) (MW.srt L k) ++ [(k : Int)]) rfl R7.out _ _ _ ((MW.srt L k).drop (t)) rfl hnd.out hld.out (by rw [hl7.out]; omega) (by omega) ?_)
              intro v8 w5 r8 g8 o8
              replace r8 : IRow w5 w2.heap.size v8 (MW.srt L (k + 1)) := (by rw [hf.out]; first | exact r8 | simpa using r8)
              have hb5 : Hid (Below w.heap.size w w5) := hb4.out.grown g8 (by have := hb4.out.size; omega) (fun b e => by have := (R7.out.lt b e).1; omega)
              rcases r8.cases with ⟨_, e⟩ | ⟨g5, d5, rfl, _, _, _⟩
              · have := congrArg List.length e
                rw [MW.srt_length] at this; cases this
              · rw [MW.srt_length] at r8 ⊢
                have R8 := Lib.hid (r8.lower hz2)
                clear r8 g8 o8
                go_wp2
                go_roundw
                case rel => exact ⟨k + 1, g5, d5, by omega, by go_num, by go_num, R8.out, hb5.out⟩
                case measure => simp [intOf]; omega
        · obtain ⟨s, rfl⟩ : ∃ s, t = s + 1 := ⟨t - 1, by omega⟩
          have d0 : decide ((0 : Int) < (s : Int) + 1) = true := decide_eq_true (by omega)
          have d1 : decide ((0 : Int) < ((s + 1 : Nat) : Int)) = true := decide_eq_true (by omega)
          have s0 : IntKind.i64.wrap ((s : Int) + 1 - 1) = s := by rw [IntWalk.i64_in _ (by omega)]; omega
          obtain ⟨z, hz⟩ : ∃ z : Nat, MW.gz (MW.srt L k) s = z := ⟨(MW.gz (MW.srt L k) s).toNat, by have := MW.srt_in L k s (by omega); omega⟩
          have hzk : z < k := by have := MW.srt_in L k s (by omega); omega
          obtain ⟨c1, f1⟩ := hr.out.at s (by rw [MW.srt_length]; omega)
          rw [hz] at c1
          obtain ⟨_, _, e2, c2⟩ := (HL.out.on hb.out) z (by rw [HN.out]; omega)
          cases e2
          by_cases hc : MW.gz L z < MW.gz L k
          · have HP : Hid (MW.posTo L (MW.srt L k) k k = MW.posTo L (MW.srt L k) k s) := by rw [Hid, hp.out]; exact MW.posTo_go (by rw [hz]; exact hc)
            have hd := decide_eq_true hc
            have HC := Lib.hid hc
            clear hz hc
            go_wp2
            go_quiet (fail)
            go_wp2
            go_roundw
            case rel => exact ⟨s, _, by omega, rfl, HP.out, rfl⟩
            case measure => simp [intOf]
          · have HP : Hid (MW.posTo L (MW.srt L k) k k = s + 1) := by rw [Hid, hp.out]; exact MW.posTo_stop (by rw [hz]; exact hc)
            have hd := decide_eq_false hc
            clear hz hc
            go_wp2
            go_quiet (fail)
            obtain ⟨w2, hw2⟩ : ∃ w2, (wr.drewN m).drewN nq = w2 := ⟨_, rfl⟩
            have kq : Below wr.heap.size wr w2 := hw2 ▸ ⟨rfl, rfl, rfl, Nat.le_refl _, fun _ _ => rfl⟩
            rw [hw2]
            have r2 := Lib.hid (hr.out.on kq)
            have hb2 := Lib.hid (sstep hb.out kq)
            have hz2 := hb2.out.size
            have HE2 := Lib.hid (one_irow w2)
            have hg2 : g < w2.heap.size := (r2.out.lt g rfl).2
            have hlt1 : ((MW.srt L k).take (s + 1)).length = s + 1 := by rw [List.length_take, MW.srt_length]; omega
            have HLT := Lib.hid hlt1
            clear hw2 kq c0 hlt1 c1 c2 f1
            go_wp2_with (at_builtin; refine wpList_append_nums _ rfl _ _ rfl w2.heap.size (.slice (some ⟨w2.heap.size, 0, none⟩) 0 0) [] rfl HE2.out (some ⟨g, 0, none⟩) (s + 1) d ((MW.srt L k).take (s + 1)) rfl ((r2.out.alloc _).nums.take (s + 1)) HLT.out (by simp; omega) (by simp) ?_)
            intro v6 w3 r6 g6 o6
            have r3 : Hid (IRow w3 w.heap.size (.slice (some ⟨g, 0, none⟩) k d) (MW.srt L k)) := (r2.out.alloc _).only (Only.of_grown g6) (fun b e h => by have e1 : g = b := Option.some.inj e; have e2 : b = w2.heap.size := Option.some.inj h; omega)
            have hb3 : Hid (Below w.heap.size w w3) := (hb2.out.alloc hz2 _).grown g6 (by simp; omega) (fun b e => by have e2 : w2.heap.size = b := Option.some.inj e; omega)
            have z3 : w2.heap.size ≤ w3.heap.size := by have := g6.size; simp at this; omega
            have R6 := Lib.hid r6
            clear r6 g6 o6
            go_wp2_with (at_builtin; refine wpList_append_int _ rfl _ _ rfl w2.heap.size v6 ((MW.srt L k).take (s + 1)) rfl (R6.out.alloc _) _ (k : Int) rfl ?_ (by rw [HLT.out]; omega) (by simp; omega) ?_)
            · simp [go_sem]
            · intro v7 w4 r7 g7 o7
              have r4 : Hid (IRow w4 w.heap.size (.slice (some ⟨g, 0, none⟩) k d) (MW.srt L k)) := (r3.out.alloc _).only (Only.of_grown g7) (fun b e h => by have e1 : g = b := Option.some.inj e; have := (R6.out.lt b h.symm).1; omega)
              have hb4 : Hid (Below w.heap.size w w4) := (hb3.out.alloc (by have := hb3.out.size; omega) _).grown g7 (by have := hb3.out.size; simp; omega) (fun b e => by have := (R6.out.lt b e).1; omega)
              have z4 : w2.heap.size ≤ w4.heap.size := by have := g7.size; simp at this; omega
              have R7 := Lib.hid r7
              have hl7 : Hid ((List.take (s + 1) (MW.srt L k) ++ [(k : Int)]).length = s + 1 + 1) := by rw [Hid, List.length_append, HLT.out]; rfl
              have hld : Hid (((MW.srt L k).drop (s + 1)).length = k - (s + 1)) := by rw [Hid, List.length_drop, MW.srt_length]
              clear r7 g7 o7
              by_cases hcap : d = s + 1
              · have hkt : k = s + 1 := by omega
                have HK := Lib.hid hkt
                have HCAP := Lib.hid hcap
                have hkt0 : k - (s + 1) = 0 := by omega
                have hf : Hid (MW.srt L (k + 1) = List.take (s + 1) (MW.srt L k) ++ [(k : Int)] ++ []) := by
                  have e : (MW.srt L k).drop (s + 1) = [] := List.drop_eq_nil_of_le (by rw [MW.srt_length]; omega)
                  show List.take (MW.posTo L (MW.srt L k) k k) _ ++ _ ++ List.drop (MW.posTo L (MW.srt L k) k k) _ = _
                  rw [HP.out, e]
                clear hkt
                go_wp2_with (at_builtin; refine wpList_append_nums _ rfl _ _ rfl w2.heap.size v7 (List.take (s + 1) (MW.srt L k) ++ [(k : Int)]) rfl R7.out _ _ _ [] rfl (Nums.nil _ _) (by first | rfl | (simp; omega)) (by rw [hl7.out]; omega) (by omega) ?_)
                intro v8 w5 r8 g8 o8
                replace r8 : IRow w5 w2.heap.size v8 (MW.srt L (k + 1)) := (by rw [hf.out]; first | exact r8 | simpa using r8)
                have hb5 : Hid (Below w.heap.size w w5) := hb4.out.grown g8 (by have := hb4.out.size; omega) (fun b e => by have := (R7.out.lt b e).1; omega)
                rcases r8.cases with ⟨_, e⟩ | ⟨g5, d5, rfl, _, _, _⟩
                · have := congrArg List.length e
                  rw [MW.srt_length] at this; cases this
                · rw [MW.srt_length] at r8 ⊢
                  have R8 := Lib.hid (r8.lower hz2)
                  clear r8 g8 o8
                  go_wp2
                  go_roundw
                  case rel => exact ⟨k + 1, g5, d5, by omega, by go_num, by go_num, R8.out, hb5.out⟩
                  case measure => simp [intOf]; omega
              · have hc2 : ¬ s + 1 = d := by omega
                have hc3 : ¬ d ≤ s + 1 := by omega
                have hf : Hid (MW.srt L (k + 1) = List.take (s + 1) (MW.srt L k) ++ [(k : Int)] ++ (MW.srt L k).drop (s + 1)) := by
                  show List.take (MW.posTo L (MW.srt L k) k k) _ ++ _ ++ List.drop (MW.posTo L (MW.srt L k) k k) _ = _
                  rw [HP.out]
                have hnd : Hid (Nums w4 (some ⟨g, s + 1, none⟩) ((MW.srt L k).drop (s + 1))) := (by have h9 := r4.out.nums.drop (s + 1); rw [Nat.zero_add] at h9; exact h9)
                go_wp2_with (at_builtin; refine wpList_append_nums _ rfl _ _ rfl w2.heap.size v7 (List.take (s + 1) (MW.srt L k) ++ [(k : Int)]) rfl R7.out _ _ _ ((MW.srt L k).drop (s + 1)) rfl hnd.out hld.out (by rw [hl7.out]; omega) (by omega) ?_)
                intro v8 w5 r8 g8 o8
                replace r8 : IRow w5 w2.heap.size v8 (MW.srt L (k + 1)) := (by rw [hf.out]; first | exact r8 | simpa using r8)
                have hb5 : Hid (Below w.heap.size w w5) := hb4.out.grown g8 (by have := hb4.out.size; omega) (fun b e => by have := (R7.out.lt b e).1; omega)
                rcases r8.cases with ⟨_, e⟩ | ⟨g5, d5, rfl, _, _, _⟩
                · have := congrArg List.length e
                  rw [MW.srt_length] at this; cases this
                · rw [MW.srt_length] at r8 ⊢
                  have R8 := Lib.hid (r8.lower hz2)
                  clear r8 g8 o8
                  go_wp2
                  go_roundw
                  case rel => exact ⟨k + 1, g5, d5, by omega, by go_num, by go_num, R8.out, hb5.out⟩
                  case measure => simp [intOf]; omega
    · obtain rfl : k = n := by omega
      go_wp2
      go_ret
      exact ⟨_, rfl, hr.out, hb.out⟩

set_option maxHeartbeats 1000000 in
theorem spec_FitSorted (w : World) (a : Option Addr) (n c : Nat) (L : List Int) (h : Nums w a L) (hL : L.length = n) (hn : n ≤ 1048576) (q : Int) :
    Calls Try.prog 21 #[.slice a n c, .int .i64 q] w (NumsOut w (MW.fitSorted L q)) := by
  have HL := Lib.hid h
  have HN := Lib.hid hL
  clear h hL
  cases h1 : MW.wOk L q
  · have H1 := Lib.hid h1
    have HV := Lib.hid (MW.fitSorted_no h1)
    clear h1
    go_enter Try.func21, Try.ntmps21
    go_wp2_with (go_at_call 13; refine (spec_WeightsValid _ _ _ _ _ HL.out HN.out hn q).mono ?_; rw [H1.out]; rintro e w1 ⟨rfl, rfl⟩)
    go_ret
    exact ⟨_, rfl, by rw [HV.out]; exact one_irow _, below_alloc0 _ _⟩
  · have H1 := Lib.hid h1
    have HV := Lib.hid ((MW.fitSorted_yes h1).trans (by rw [HN.out]))
    have h8 : n ≤ 8 := by have := ((MW.wOk_iff L q).1 h1).2.1; have := HN.out; omega
    have HSI := Lib.hid (fun k (hk : k < n) => MW.srt_in L n k hk)
    clear h1
    go_enter Try.func21, Try.ntmps21
    go_wp2_with (first
      | (go_at_call 13; refine (spec_WeightsValid _ _ _ _ _ HL.out HN.out hn q).mono ?_; rw [H1.out]; rintro e w1 ⟨rfl, rfl⟩)
      | (go_at_call 40; refine (spec_l5Sorted _ _ _ _ _ HL.out HN.out h8).mono ?_; rintro e w3 ⟨v3, rfl, hr3, hb3⟩; obtain ⟨a3, c3, rfl, _, _⟩ := hr3.form; rw [MW.srt_length] at *; have HR3 := Lib.hid hr3.nums; have HL3 := Lib.hid (HL.out.on hb3); have HB3 := Lib.hid hb3; clear hr3 hb3)
      | (go_at_call 37; refine (spec_l5Fit _ _ _ _ _ HL3.out HN.out _ _ _ HR3.out (MW.srt_length _ _) q H1.out HSI.out).mono ?_; rintro e w4 ⟨v4, rfl, hr4, hb4⟩))
    go_ret
    exact ⟨_, rfl, by rw [HV.out]; exact hr4.lower HB3.out.size, sstep HB3.out hb4⟩
end Go.Proofs.Ytmjdjakalkjkhaa
