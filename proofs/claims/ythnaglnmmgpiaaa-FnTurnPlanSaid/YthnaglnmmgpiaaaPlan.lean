/-
  Plans by value: the copy and the comparison of the law's own text; whether a plan is valid, in the program and in the model of the document.
-/
import Derived.Test.YthnaglnmmgpiaaaStr
import Derived.Test.YthnaglnmmgpiaaaPlanM
import Derived.Test.YthnaglnmmgpiaaaCap
import Derived.Maps.OwnOps
import Derived.Maps.OwnSet
import Derived.Maps.Views
import Derived.WalkLawsBesides
namespace Go.Proofs.Ythnaglnmmgpiaaa
open Go.RowKit Go.Maps
open Go.PlainAid (bt get_bt bt_nonneg bt_le)

/-- A block of three cells, which can be written. -/
def Tri (w : World) (b : Nat) (x y z : Value) : Prop := (w.cell? ⟨b, 0, none⟩ = some x ∧ w.cell? ⟨b, 1, none⟩ = some y ∧ w.cell? ⟨b, 2, none⟩ = some z) ∧ (w.frozen? ⟨b, 0, none⟩ = false ∧ w.frozen? ⟨b, 1, none⟩ = false ∧ w.frozen? ⟨b, 2, none⟩ = false)
theorem Tri.lt {w : World} {b : Nat} {x y z : Value} (h : Tri w b x y z) : b < w.heap.size := World.block_lt_of_cell? _ _ h.1.1
theorem Tri.on {w w' : World} {b : Nat} {x y z : Value} (h : Tri w b x y z) (hb : Below w.heap.size w w') : Tri w' b x y z := by
  have hlt := h.lt
  obtain ⟨⟨h0, h1, h2⟩, f0, f1, f2⟩ := h
  have k := fun o => hb.cell (p := ⟨b, o, none⟩) hlt
  have q := fun o => hb.frozen (p := ⟨b, o, none⟩) hlt
  exact ⟨⟨by rw [k]; exact h0, by rw [k]; exact h1, by rw [k]; exact h2⟩, by rw [q]; exact f0, by rw [q]; exact f1, by rw [q]; exact f2⟩
theorem tri_made (w : World) (x y z : Value) (T : TypeId) : Tri (w.alloc (.cells #[x, y, z] T)) w.heap.size x y z :=
  ⟨⟨by simp [go_sem], by simp [go_sem], by simp [go_sem]⟩, by simp [go_sem], by simp [go_sem], by simp [go_sem]⟩
theorem Tri.alloc {w : World} {b : Nat} {x y z : Value} (h : Tri w b x y z) (o : Obj) : Tri (w.alloc o) b x y z := h.on (below_alloc0 w o)

set_option maxHeartbeats 400000 in
theorem szPlan_any (w : World) (b p : Int) (a : Option Addr) (n c : Nat) (S : Nat → ByteArray) (h : Strs w a n S) (hf : SFits n S) (hn : n ≤ maxLen) (left : Int) (l0 : 0 ≤ left) (l1 : left ≤ 1048576) :
    Calls Try.prog 18 #[.agg #[.int .i64 b, .int .i64 p, .slice a n c], .int .i64 left] w fun e w' => ∃ r : Int, e = .returned (.int .i64 r) ∧ (0 ≤ r → (n : Int) ≤ left) ∧ r ≤ 1048576 ∧ Below w.heap.size w w' := by
  have HL := Lib.hid (h.on ((Below.refl _ _).alloc (Nat.le_refl _) (.cells #[.int .i64 b, .int .i64 p, .slice a n c] 43)))
  clear h
  go_enter Try.func18, Try.ntmps18
  go_wp2_with fail
  refine (szStringS_any _ a n c S HL.out hf hn left l0 l1).mono ?_
  rintro e w1 ⟨r, rfl, h1, h2, rfl⟩
  by_cases hr : r < 0
  · go_wp2
    go_ret
    exact ⟨_, rfl, by omega, by omega, by go_grown⟩
  · go_wp2
    go_ret
    exact ⟨r, rfl, h1, h2, by go_grown⟩

set_option maxHeartbeats 1000000 in
theorem toPlan_any (w : World) (b p : Int) (a : Option Addr) (n c : Nat) (S : Nat → ByteArray) (h : Strs w a n S) (hn : n ≤ 1048576) :
    Calls Try.prog 19 #[.agg #[.int .i64 b, .int .i64 p, .slice a n c]] w fun e w' => ∃ g, e = .returned (.agg #[.int .i64 b, .int .i64 p, .slice (some ⟨g, 0, none⟩) n n]) ∧ w.heap.size ≤ g ∧ SRow w' w.heap.size (.slice (some ⟨g, 0, none⟩) n n) (sst S n) ∧ Below w.heap.size w w' := by
  have HL := Lib.hid h
  clear h
  have bx1 := Lib.hid ((tri_made (w.alloc (.cells #[.int .i64 b, .int .i64 p, .slice a n c] 43)) (.int .i64 0) (.int .i64 0) (.slice none 0 0) 25).alloc (.cells #[.int .i64 b, .int .i64 p, .slice none 0 0] 25))
  have bx2 := Lib.hid (tri_made ((w.alloc (.cells #[.int .i64 b, .int .i64 p, .slice a n c] 43)).alloc (.cells #[.int .i64 0, .int .i64 0, .slice none 0 0] 25)) (.int .i64 b) (.int .i64 p) (.slice none 0 0) 25)
  simp only [World.size_alloc] at bx1 bx2
  go_enter Try.func19, Try.ntmps19
  go_wp2_with fail
  refine (toStringS_any _ a n c S (HL.out.on (by go_grown)) hn).mono ?_
  rintro e w1 ⟨g, rfl, h1, h2, h3⟩
  have by1 := bx1.out.on h3
  have by2 := bx2.out.on h3
  have l1 := by1.lt
  have l2 := by2.lt
  obtain ⟨⟨c0, c1, c2⟩, f0, f1, f2⟩ := by1
  obtain ⟨⟨d0, d1, d2⟩, g0, g1, g2⟩ := by2
  simp only [World.size_alloc] at h1
  have H1 := Lib.hid h1
  have H2 := Lib.hid h2
  have H3 := Lib.hid h3
  clear h1 h2 h3
  go_wp2
  refine bodyPost_ret (v := .agg #[.int .i64 b, .int .i64 p, .slice (some ⟨g, 0, none⟩) n n]) (by simp [results, Try.results19, go_sem, c0, c1, c2]) rfl ?_
  refine ⟨g, rfl, by have := H1.out; omega, ?_, ?_⟩
  · have hg : ∀ k, (Value.slice (some ⟨g, 0, none⟩) n n).ownBlock = some k → w.heap.size + 1 + 1 + 1 ≤ k := fun k e => by
      have : k = g := by simpa [Value.ownBlock] using e.symm
      have := H1.out
      omega
    refine ((((H2.out.set ?_ _).set ?_ _).set ?_ _).set ?_ _).base (by simp; omega)
    all_goals
      intro k hk
      have := hg k hk
      dsimp only
      omega
  · have hb : Below w.heap.size w w1 := Below.trans (by go_grown) (H3.out.mono (by simp only [World.size_alloc]; omega))
    exact (((hb.setCell (by dsimp only; omega) _).setCell (by dsimp only; omega) _).setCell (by dsimp only; omega) _).setCell (by dsimp only; omega) _

set_option maxHeartbeats 400000 in
theorem eqPlan_same (w : World) (b p : Int) (a a' : Option Addr) (n c c' : Nat) (S : Nat → ByteArray) (h : Strs w a n S) (h' : Strs w a' n S) (hn : n ≤ 1048576) :
    Calls Try.prog 20 #[.agg #[.int .i64 b, .int .i64 p, .slice a n c], .agg #[.int .i64 b, .int .i64 p, .slice a' n c']] w fun e w' => e = .returned (.bool true) ∧ Below w.heap.size w w' := by
  have HL := Lib.hid h
  have HL' := Lib.hid h'
  clear h h'
  go_enter Try.func20, Try.ntmps20
  go_wp2_with fail
  refine (eqStringS_same _ a a' n c c' S (HL.out.on (by go_grown)) (HL'.out.on (by go_grown)) hn).mono ?_
  rintro e w1 ⟨rfl, hb1⟩
  go_wp2
  go_ret
  exact ⟨rfl, sstep (by go_grown) hb1⟩

theorem neq_list0 {a b : ByteArray} (h : a ≠ b) : (a.toList == b.toList) = false := by
  rw [beq_eq_false_iff_ne]
  intro e
  rw [ByteArray.toList_eq, ByteArray.toList_eq] at e
  exact h (ByteArray.ext (Array.toList_inj.1 e))
theorem quiet_flip {P : Program} {f : FuncId} {args : Array Value} {w : World} {v : Value} (h : Calls P f args w fun e w' => e = .returned v ∧ w = w') : Calls P f args w fun e w' => e = .returned v ∧ w' = w :=
  h.mono fun _ _ ⟨he, hw⟩ => ⟨he, hw.symm⟩

set_option maxHeartbeats 1000000 in
theorem spec_PlanValid (w : World) (b p : Int) (a : Option Addr) (n c : Nat) (S : Nat → ByteArray) (h : Strs w a n S) (hf : SFits n S) (hn : n ≤ 1048576) :
    Calls Try.prog 26 #[.agg #[.int .i64 b, .int .i64 p, .slice a n c]] w fun e w' => e = .returned (.bool (M.plan b p n S)) ∧ Below w.heap.size w w' := by
  have HL := Lib.hid (h.on ((Below.refl _ _).alloc (Nat.le_refl _) (.cells #[.int .i64 b, .int .i64 p, .slice a n c] 25)))
  have HF := Lib.hid hf
  have bx := Lib.hid (tri_made w (.int .i64 b) (.int .i64 p) (.slice a n c) 25)
  clear h hf
  cases hs : M.shape b p
  · have hv := Lib.hid (M.plan_misfit (S := S) (show M.fits b p n = false by unfold M.fits; rw [hs]; rfl))
    have HS := Lib.hid hs
    clear hs
    go_enter Try.func26, Try.ntmps26
    go_wp2
    go_quiet ((go_at_call 42; exact Calls.quiet_of_same (HS.out ▸ quiet_flip (spec_l3Shape b p _))))
    go_wp2
    go_ret
    exact ⟨ret_bool hv.out.symm, below_drewN0 (by go_grown) _⟩
  have hsh := M.shape_yes hs
  have hpw := Lib.hid (M.pw_bd b p.toNat (by omega) (by omega) (by omega))
  obtain ⟨q, rfl⟩ := Int.eq_ofNat_of_zero_le (show 0 ≤ p by omega)
  have hqp := Lib.hid (spec_l3Power b q · (by omega) (by omega) (by omega))
  have hsh4 := hsh.2.2.2
  rw [Int.toNat_natCast] at hpw
  obtain ⟨P, hP⟩ : ∃ P, M.pw b q = P := ⟨_, rfl⟩
  rw [hP] at hpw hqp
  have hfit : M.fits b q n = decide (1 ≤ n ∧ n ≤ 60 ∧ (n : Int) ≤ P) := by
    unfold M.fits
    rw [hs, Int.toNat_natCast, hP]; rfl
  have HFit := Lib.hid hfit
  have HS := Lib.hid hs
  have hpw2 := hpw.out.2
  have hpw1 := hpw.out.1
  clear hs hP hsh hfit hpw
  by_cases h1 : 1 ≤ (n : Int) ∧ (n : Int) ≤ 60
  · have d1 := Lib.hid (decide_eq_true h1)
    by_cases h2 : P < (n : Int)
    · have hv := Lib.hid (M.plan_misfit (S := S) (show M.fits b q n = false by rw [HFit.out]; exact decide_eq_false (by omega)))
      clear h1
      go_enter Try.func26, Try.ntmps26
      go_wp2
      go_quiet ((first
        | (go_at_call 42; exact Calls.quiet_of_same (HS.out ▸ quiet_flip (spec_l3Shape b q _)))
        | (go_at_call 43; exact Calls.quiet_of_same (d1.out ▸ quiet_flip (spec_l1In n 1 60 _)))
        | (go_at_call 44; exact Calls.quiet_of_same (quiet_flip (hqp.out _)))))
      go_wp2
      go_ret
      exact ⟨ret_bool hv.out.symm, below_drewN0 (by go_grown) _⟩
    · have hv := Lib.hid (M.plan_fit (S := S) (show M.fits b q n = true by rw [HFit.out]; exact decide_eq_true (by omega)))
      clear HFit
      go_enter Try.func26, Try.ntmps26
      go_wp2
      go_quiet ((first
        | (go_at_call 42; exact Calls.quiet_of_same (HS.out ▸ quiet_flip (spec_l3Shape b q _)))
        | (go_at_call 43; exact Calls.quiet_of_same (d1.out ▸ quiet_flip (spec_l1In n 1 60 _)))
        | (go_at_call 44; exact Calls.quiet_of_same (quiet_flip (hqp.out _)))))
      go_wp2
      go_loopw [3] (fun i wr => ∃ k : Nat, k ≤ n ∧ i = .int .i64 k ∧ Hid (M.diffTo S k = true) ∧ Hid (Strs wr a n S) ∧ Hid (Tri wr w.heap.size (.int .i64 b) (.int .i64 q) (.slice a n c)) ∧ Hid (Below w.heap.size w wr)) (fun i _ => n - (intOf i).toNat)
      case atStart => exact ⟨0, Nat.zero_le _, rfl, rfl, HL.out, bx.out, below_drewN0 (by go_grown) _⟩
      case round =>
        obtain ⟨k, hk, rfl, hg, hst, htr, hb⟩ := hrel
        obtain ⟨⟨t0, t1, t2⟩, _⟩ := htr.out
        by_cases hlt : k < n
        · obtain ⟨b1, o1, rfl, c1⟩ := hst.out k hlt
          have s1 := HF.out k hlt
          cases hc : M.code (S k)
          · have hno := Lib.hid (M.diffTo_no hlt (Or.inl hc))
            go_wp2_with fail
            refine (spec_CodeValid _ _ s1).mono ?_
            rw [hc]
            rintro e w1 ⟨rfl, rfl⟩
            go_wp2
            go_ret
            exact ⟨ret_bool (by rw [hv.out, hno.out]), hb.out⟩
          · go_wp2_with fail
            refine (spec_CodeValid _ _ s1).mono ?_
            rw [hc]
            rintro e w1 ⟨rfl, rfl⟩
            have HC := Lib.hid hc
            clear hc t0 t1 t2 c1
            obtain ⟨wo, rfl⟩ : ∃ wo : World, wo = wr := ⟨_, rfl⟩
            go_wp2
            go_loopw [4] (fun i wr => ∃ j : Nat, j ≤ k ∧ i = .int .i64 j ∧ Hid (∀ q, q < j → S q ≠ S k) ∧ ∃ m, wr = wo.drewN m) (fun i _ => k - (intOf i).toNat)
            case atStart => exact ⟨0, Nat.zero_le _, rfl, (fun q hq => absurd hq (by omega)), 0, rfl⟩
            case round =>
              obtain ⟨j, hj, rfl, hno, m, rfl⟩ := hrel
              by_cases hjk : j < k
              · obtain ⟨⟨t0, t1, t2⟩, _⟩ := htr.out
                obtain ⟨b2, o2, e2, c1⟩ := hst.out k hlt
                cases e2
                obtain ⟨b2, o2, e2, c2⟩ := hst.out j (by omega)
                cases e2
                by_cases he : S j = S k
                · have hee : ((S j).toList == (S k).toList) = true := by rw [he]; simp
                  have hno2 := Lib.hid (M.diffTo_no hlt (Or.inr ⟨j, hjk, he⟩))
                  clear he
                  go_wp2
                  go_quiet (fail)
                  go_wp2
                  go_ret
                  exact ⟨ret_bool (by rw [hv.out, hno2.out]), below_drewN0 (below_drewN0 hb.out _) _⟩
                · have hee : ((S j).toList == (S k).toList) = false := neq_list0 he
                  have HE := Lib.hid he
                  clear he
                  go_wp2
                  go_quiet (fail)
                  go_wp2
                  go_roundw
                  case rel => exact ⟨j + 1, by omega, by go_num, (fun q hq => by by_cases e : q = j; (subst e; exact HE.out); exact hno.out q (by omega)), _, rfl⟩
                  case measure => simp [intOf]; omega
              · obtain rfl : j = k := by omega
                go_wp2
                go_roundw
                case rel => exact ⟨j + 1, by omega, by go_num, M.diffTo_succ hg.out HC.out hno.out, hst.out, htr.out, below_drewN0 hb.out _⟩
                case measure => simp [intOf]; omega
        · obtain rfl : k = n := by omega
          go_wp2
          go_ret
          exact ⟨ret_bool (by rw [hv.out, hg.out]), hb.out⟩
  · have d1 := Lib.hid (decide_eq_false h1)
    have hv := Lib.hid (M.plan_misfit (S := S) (show M.fits b q n = false by rw [HFit.out]; exact decide_eq_false (by omega)))
    clear h1
    go_enter Try.func26, Try.ntmps26
    go_wp2
    go_quiet ((first
      | (go_at_call 42; exact Calls.quiet_of_same (HS.out ▸ quiet_flip (spec_l3Shape b q _)))
      | (go_at_call 43; exact Calls.quiet_of_same (d1.out ▸ quiet_flip (spec_l1In n 1 60 _)))))
    go_wp2
    go_ret
    exact ⟨ret_bool hv.out.symm, below_drewN0 (by go_grown) _⟩
/-- The first k strings, as the map that the program fills. -/
def SeenS (S : Nat → ByteArray) : Nat → DataW Unit
  | 0 => .map []
  | k + 1 => (SeenS S k).put (.string (S k).data.toList) (.lit (.bool true))
theorem SeenS.isMap (S : Nat → ByteArray) : ∀ k, IsMap (SeenS S k)
  | 0 => isMap_empty
  | k + 1 => (SeenS.isMap S k).put _ _
theorem SeenS.hit (S : Nat → ByteArray) : ∀ k j, j < k → (SeenS S k).atKey (.string (S j).data.toList) (.lit (.bool false)) = .lit (.bool true)
  | 0, j, h => absurd h (by omega)
  | k + 1, j, h => by
    by_cases e : S j = S k
    · rw [e]
      exact atKey_put_same (SeenS.isMap S k) (by simp [WideAt.IsKeyLit]) _ _
    · rw [SeenS, atKey_put_other (by intro h'; injection h' with h2; exact e (ByteArray.ext (Array.toList_inj.1 h2)))]
      exact SeenS.hit S k j (by by_cases e2 : j = k; (subst e2; exact absurd rfl e); omega)
theorem SeenS.miss (S : Nat → ByteArray) (x : ByteArray) : ∀ k, (∀ j, j < k → S j ≠ x) → (SeenS S k).atKey (.string x.data.toList) (.lit (.bool false)) = .lit (.bool false)
  | 0, _ => rfl
  | k + 1, h => by
    rw [SeenS, atKey_put_other (by intro h'; injection h' with h2; exact h k (by omega) (ByteArray.ext (Array.toList_inj.1 h2)).symm)]
    exact SeenS.miss S x k fun j hj => h j (by omega)
theorem plainElem_bool_invS {H : Type} {P : Program} {e : TypeId} (he : P.underlying e = some .bool) {v : Value} {z : DataW H × List MemPlace} (h : plainElem P e v = some z) : ∃ x, v = .bool x ∧ z = (.lit (.bool x), []) := by
  unfold plainElem at h
  rw [he] at h
  cases v <;> simp at h
  exact ⟨_, rfl, h.symm⟩
theorem look_boolS {P : Program} {w : World} {t k e : TypeId} {b n : Nat} {D : DataW Unit} (h : w.ownsMap P k (plainElem P e) b n D) (K : Keyed P k) (ht : P.underlying t = some (.map k e)) (he : P.underlying e = some .bool) (hz : (zeroValue e).run P w = .ok (.bool false) w)
    {key : Value} {kl : Lit} (hkey : keyOf P k key = some kl) {x : Bool} (hx : D.atKey kl (.lit (.bool false)) = .lit (.bool x)) : (Instr.lookup t (.map (some b)) key false).run P w = .ok (.bool x) w := by
  obtain ⟨v, ps, hrun, hv⟩ := h.lookup K ht hz (plainElem_bool he false) hkey
  obtain ⟨c, rfl, hc⟩ := plainElem_bool_invS he hv
  simp only [Prod.mk.injEq] at hc
  have : (.lit (.bool x) : DataW Unit) = .lit (.bool c) := hx.symm.trans hc.1
  injection this with this
  injection this with this
  rw [this]; exact hrun
theorem lawStr : Keyed Try.prog 9 := string_keyed Try.underlying9
theorem zeroBoolS (w : World) : (zeroValue 4).run Try.prog w = .ok (.bool false) w := by kernel_rfl
/-- The map that differentCodes fills. -/
def OwnSeenS (w : World) (b : Nat) (S : Nat → ByteArray) (k : Nat) : Prop := w.ownsMap Try.prog 9 (plainElem Try.prog 4) b k (SeenS S k)
theorem OwnSeenS.look {w : World} {b k : Nat} {S : Nat → ByteArray} (h : OwnSeenS w b S k) {y : ByteArray} (hy : y.size ≤ maxLen) {x : Bool} (hx : (SeenS S k).atKey (.string y.data.toList) (.lit (.bool false)) = .lit (.bool x)) :
    (Instr.lookup 81 (.map (some b)) (.string y) false).run Try.prog w = .ok (.bool x) w :=
  look_boolS h lawStr Try.underlying81 Try.underlying4 (zeroBoolS w) (WideMaps.keyOf_string_mk Try.underlying9 hy) hx

set_option maxHeartbeats 1000000 in
theorem impl_differentCodes (w : World) (a : Option Addr) (n c : Nat) (S : Nat → ByteArray) (h : Strs w a n S) (hf : SFits n S) (hn : n ≤ 60) :
    Calls Try.prog 35 #[.slice a n c] w fun e w' => e = .returned (.bool (M.diffTo S n)) ∧ Below w.heap.size w w' := by
  have HF := Lib.hid hf
  have HL := Lib.hid h
  clear h hf
  have hmm := @run_makeMap Try.prog
  go_enter Try.func35, Try.ntmps35
  go_wp2
  go_loopw [9] (fun i wr => ∃ k : Nat, k ≤ n ∧ i = .int .i64 k ∧ M.diffTo S k = true ∧ OwnSeenS wr w.heap.size S k ∧ Below w.heap.size w wr) (fun i _ => n - (intOf i).toNat)
  case atStart => exact ⟨0, Nat.zero_le _, rfl, rfl, World.ownsMap_made _ _ _ _, (Below.refl _ _).alloc (Nat.le_refl _) _⟩
  case round =>
    obtain ⟨k, hk, rfl, hg, hown, hb⟩ := hrel
    have hz := hb.size
    by_cases hlt : k < n
    · obtain ⟨b, o, rfl, c1⟩ := (HL.out.on hb) k hlt
      have s1 := HF.out k hlt
      have HG := Lib.hid hg
      have HO := Lib.hid hown
      clear hg hown
      by_cases hs : ∃ j, j < k ∧ S j = S k
      · have hbad := Lib.hid (M.diffTo_no hlt (Or.inr hs))
        have hlook : (Instr.lookup 81 (.map (some w.heap.size)) (.string (S k)) false).run Try.prog wr = .ok (.bool true) wr := by
          obtain ⟨j, hj, e⟩ := hs
          exact OwnSeenS.look HO.out s1 (by rw [← e]; exact SeenS.hit S k j hj)
        clear hs
        go_wp2
        go_ret
        exact ⟨ret_bool hbad.out.symm, by go_grown⟩
      have hno : ∀ j, j < k → S j ≠ S k := fun j hj e => hs ⟨j, hj, e⟩
      have hlook : (Instr.lookup 81 (.map (some w.heap.size)) (.string (S k)) false).run Try.prog wr = .ok (.bool false) wr :=
        OwnSeenS.look HO.out s1 (SeenS.miss S (S k) k hno)
      have HNO := Lib.hid hno
      clear hs hno
      cases hc : M.code (S k)
      · go_wp2_with (go_at_call 56; refine (impl_CodeValid _ _ s1).mono ?_; rw [hc]; rintro e w1 ⟨rfl, hb1⟩; replace hb1 := hb1.below)
        go_ret
        exact ⟨ret_bool (M.diffTo_no hlt (Or.inl hc)).symm, hb.trans (hb1.mono hz)⟩
      · have hkey : keyOf Try.prog 9 (.string (S k)) = some (.string (S k).data.toList) := WideMaps.keyOf_string_mk Try.underlying9 s1
        have hkm : k < maxLen := by unfold maxLen; omega
        go_wp2_with (first
          | (go_at_call 56; refine (impl_CodeValid_yes _ _ hc).mono ?_; rintro e w1 ⟨rfl, rfl⟩)
          | (at_mapUpdate; refine wpList_mapUpdate_own _ rfl _ _ _ 81 rfl 9 4 lawStr Try.underlying81 _ w.heap.size k _ rfl (World.ownsMap.alloc HO.out _) hkm _ _ _ rfl rfl hkey _ [] (plainElem_bool Try.underlying4 true) ?_; intro w1 hown1 hgrow1))
        go_roundw
        case rel => exact ⟨k + 1, by omega, by go_num, M.diffTo_succ HG.out hc HNO.out, hown1, (hb.alloc hz _).grown hgrow1 (by simp; omega) (fun j hj => by cases hj; exact Nat.le_refl _)⟩
        case measure => simp [intOf]; omega
    · obtain rfl : k = n := by omega
      go_wp2
      go_ret
      exact ⟨ret_bool hg.symm, hb⟩

set_option maxHeartbeats 1000000 in
theorem impl_PlanValid (w : World) (b p : Int) (a : Option Addr) (n c : Nat) (S : Nat → ByteArray) (h : Strs w a n S) (hf : SFits n S) (hn : n ≤ 1048576) :
    Calls Try.prog 17 #[.agg #[.int .i64 b, .int .i64 p, .slice a n c]] w fun e w' => e = .returned (.bool (M.plan b p n S)) ∧ Below w.heap.size w w' := by
  have HL := Lib.hid (h.on ((Below.refl _ _).alloc (Nat.le_refl _) (.cells #[.int .i64 b, .int .i64 p, .slice a n c] 25)))
  have HF := Lib.hid hf
  clear h hf
  by_cases h0 : n = 0
  · subst h0
    have hv := Lib.hid (M.plan_misfit (S := S) (M.fits_small (b := b) (p := p) (n := 0) (by omega)))
    go_enter Try.func17, Try.ntmps17
    go_wp2
    go_ret
    exact ⟨ret_bool hv.out.symm, by go_grown⟩
  have hz : ((n : Int) == 0) = false := by rw [beq_eq_false_iff_ne]; omega
  by_cases h60 : 60 < n
  · have hv := Lib.hid (M.plan_misfit (S := S) (M.fits_small (b := b) (p := p) (n := n) (by omega)))
    go_enter Try.func17, Try.ntmps17
    go_wp2
    go_ret
    exact ⟨ret_bool hv.out.symm, by go_grown⟩
  have hfit := M.fits_cap (b := b) (p := p) (n := n) (by omega) (by omega)
  by_cases hc : (n : Int) ≤ M.cap b p
  · have hv := Lib.hid (M.plan_fit (S := S) (hfit.trans (decide_eq_true hc)))
    clear hfit
    go_enter Try.func17, Try.ntmps17
    go_wp2_with fail
    refine (impl_CapacityOf b p _).mono ?_
    rintro e w1 ⟨rfl, rfl⟩
    go_wp2_with fail
    refine (impl_differentCodes _ a n c S HL.out HF.out (by omega)).mono ?_
    rintro e w1 ⟨rfl, hb1⟩
    go_wp2
    go_ret
    exact ⟨ret_bool hv.out.symm, sstep (by go_grown) hb1⟩
  · have hv := Lib.hid (M.plan_misfit (S := S) (hfit.trans (decide_eq_false hc)))
    clear hfit
    go_enter Try.func17, Try.ntmps17
    go_wp2_with fail
    refine (impl_CapacityOf b p _).mono ?_
    rintro e w1 ⟨rfl, rfl⟩
    go_wp2
    go_ret
    exact ⟨ret_bool hv.out.symm, by go_grown⟩
end Go.Proofs.Ythnaglnmmgpiaaa
