/-
  What ForwardBatch returns, in the program and in the model of the document.
-/
import Derived.Test.YtekkajgifgnklaaRes
import Derived.Test.YtekkajgifgnklaaSplit
import Derived.Test.YtekkajgifgnklaaMat
namespace Go.Proofs.Ytekkajgifgnklaa
open Go.RowKit Go.Maps
open Go.PlainAid (bt get_bt bt_nonneg bt_le)
set_option linter.unusedVariables false

namespace M
def endOf (F T : Nat → ByteArray) (n : Nat) (c : ByteArray) : Option ByteArray := (res F T n c).map (·.1)
/-- The letters that arrive, and those that don't. -/
def sentL (g : ByteArray → Option ByteArray) (L : List (Int × ByteArray)) : List (Int × ByteArray) := L.filterMap fun x => (g x.2).map fun d => (x.1, d)
def stuckL (g : ByteArray → Option ByteArray) (L : List (Int × ByteArray)) : List (Int × ByteArray) := L.filter fun x => (g x.2).isNone
theorem sent_yes {g : ByteArray → Option ByteArray} {I : Nat → Int} {C : Nat → ByteArray} {k : Nat} {d : ByteArray} (h : g (C k) = some d) : sentL g (lst I C (k + 1)) = sentL g (lst I C k) ++ [(I k, d)] ∧ stuckL g (lst I C (k + 1)) = stuckL g (lst I C k) := by
  unfold sentL stuckL
  rw [lst_succ, List.filterMap_append, List.filter_append]
  simp [h]
theorem sent_no {g : ByteArray → Option ByteArray} {I : Nat → Int} {C : Nat → ByteArray} {k : Nat} (h : g (C k) = none) : sentL g (lst I C (k + 1)) = sentL g (lst I C k) ∧ stuckL g (lst I C (k + 1)) = stuckL g (lst I C k) ++ [(I k, C k)] := by
  unfold sentL stuckL
  rw [lst_succ, List.filterMap_append, List.filter_append]
  simp [h]
theorem sentL_le (g : ByteArray → Option ByteArray) (I : Nat → Int) (C : Nat → ByteArray) (k : Nat) : (sentL g (lst I C k)).length ≤ k := by
  have := List.length_filterMap_le (fun x : Int × ByteArray => (g x.2).map fun d => (x.1, d)) (lst I C k)
  rw [lst_length] at this
  exact this
theorem stuckL_le (g : ByteArray → Option ByteArray) (I : Nat → Int) (C : Nat → ByteArray) (k : Nat) : (stuckL g (lst I C k)).length ≤ k := by
  have := List.length_filter_le (fun x : Int × ByteArray => (g x.2).isNone) (lst I C k)
  rw [lst_length] at this
  exact this
def fbOk (F T : Nat → ByteArray) (n : Nat) (I : Nat → Int) (C : Nat → ByteArray) (m : Nat) : Bool := fwd n F T && batch m I C
def fbSent (F T : Nat → ByteArray) (n : Nat) (I : Nat → Int) (C : Nat → ByteArray) (m : Nat) : List (Int × ByteArray) := if fbOk F T n I C m = true then sentL (endOf F T n) (lst I C m) else []
def fbStuck (F T : Nat → ByteArray) (n : Nat) (I : Nat → Int) (C : Nat → ByteArray) (m : Nat) : List (Int × ByteArray) := if fbOk F T n I C m = true then stuckL (endOf F T n) (lst I C m) else []
theorem fbSent_le (F T : Nat → ByteArray) (n : Nat) (I : Nat → Int) (C : Nat → ByteArray) (m : Nat) : (fbSent F T n I C m).length ≤ m := by
  unfold fbSent
  split
  · exact sentL_le _ _ _ _
  · exact Nat.zero_le _
theorem fbStuck_le (F T : Nat → ByteArray) (n : Nat) (I : Nat → Int) (C : Nat → ByteArray) (m : Nat) : (fbStuck F T n I C m).length ≤ m := by
  unfold fbStuck
  split
  · exact stuckL_le _ _ _ _
  · exact Nat.zero_le _
theorem fb_no {F T : Nat → ByteArray} {n : Nat} {I : Nat → Int} {C : Nat → ByteArray} {m : Nat} (h : fwd n F T = false ∨ batch m I C = false) : fbOk F T n I C m = false ∧ fbSent F T n I C m = [] ∧ fbStuck F T n I C m = [] := by
  have hk : fbOk F T n I C m = false := by
    unfold fbOk
    rcases h with h | h
    · rw [h]; rfl
    · rw [h]; exact Bool.and_false _
  exact ⟨hk, if_neg (by rw [hk]; decide), if_neg (by rw [hk]; decide)⟩
theorem fb_yes {F T : Nat → ByteArray} {n : Nat} {I : Nat → Int} {C : Nat → ByteArray} {m : Nat} (h : fwd n F T = true) (h2 : batch m I C = true) : fbOk F T n I C m = true ∧ fbSent F T n I C m = sentL (endOf F T n) (lst I C m) ∧ fbStuck F T n I C m = stuckL (endOf F T n) (lst I C m) := by
  have hk : fbOk F T n I C m = true := by unfold fbOk; rw [h, h2]; rfl
  exact ⟨hk, if_pos hk, if_pos hk⟩
theorem endOf_yes {F T : Nat → ByteArray} {n t : Nat} {c d : ByteArray} (h : res F T n c = some (d, t)) : endOf F T n c = some d := by unfold endOf; rw [h]; rfl
theorem endOf_no {F T : Nat → ByteArray} {n : Nat} {c : ByteArray} (h : res F T n c = none) : endOf F T n c = none := by unfold endOf; rw [h]; rfl
end M

/-- A row of letters lies in no block of a book. -/
theorem Row.offBook {w : World} {base base' g n : Nat} {v : Value} {L : List (Int × ByteArray)} {f : ByteArray → Option Nat} {nx : ByteArray → Option ByteArray} (h : Row w base v L) (hB : Book w base' g n f nx) {k : Nat} (hv : v.ownBlock = some k) : k ≠ g ∧ ∀ c b, f c = some b → b ≠ k := by
  rcases h.2 with ⟨rfl, _⟩ | ⟨g', cap, cur, rfl, _, hg', _⟩
  · simp [Value.ownBlock] at hv
  · have e : g' = k := Option.some.inj hv
    subst e
    refine ⟨fun e => ?_, fun c b hb e => ?_⟩
    · obtain ⟨_, ⟨D, ⟨es, clock, hm, _⟩, _⟩, _⟩ := hB
      rw [← e, hg'] at hm
      cases Option.some.inj hm
    · obtain ⟨_, _, _, _, ca, hca⟩ := hB.node hb
      rw [e, hg'] at hca
      have h2 := Option.some.inj hca
      injection h2 with _ h3
      exact absurd h3 (by decide)
/-- What turns no block of the book leaves it. -/
theorem Book.keep {w w' : World} {base g n : Nat} {f : ByteArray → Option Nat} {nx : ByteArray → Option ByteArray} (h : Book w base g n f nx) (hk : ∀ k, k < w.heap.size → (k = g ∨ ∃ c, f c = some k) → w'.heap[k]? = w.heap[k]?) : Book w' base g n f nx := by
  have hlt := h.lt
  have hn := fun {c : ByteArray} {b : Nat} => h.node_lt (c := c) (b := b)
  obtain ⟨h0, ⟨D, hm, h1⟩, h2, h3⟩ := h
  refine ⟨h0, ⟨D, ?_, h1⟩, fun c b hb => ?_, h3⟩
  · obtain ⟨es, clock, hb, r⟩ := hm
    exact ⟨es, clock, (hk g hlt (Or.inl rfl)).trans hb, r⟩
  · obtain ⟨n0, c0, c1, fr, ca, hca⟩ := h2 c b hb
    have hbk := hk b (hn hb) (Or.inr ⟨c, hb⟩)
    exact ⟨n0, (World.cell?_of_block hbk).trans c0, (World.cell?_of_block hbk).trans c1, (World.frozen?_of_block hbk).trans fr, ca, hbk.trans hca⟩
theorem Book.grown {w w' : World} {base base' g n : Nat} {v : Value} {L : List (Int × ByteArray)} {f : ByteArray → Option Nat} {nx : ByteArray → Option ByteArray} (h : Book w base g n f nx) (hr : Row w base' v L) (hg : w.grownBy w' v.ownBlock) : Book w' base g n f nx := h.keep fun k hlt hk => hg.block k hlt fun e => by
  obtain ⟨h1, h2⟩ := hr.offBook h e.symm
  rcases hk with rfl | ⟨c, hc⟩
  · exact h1 rfl
  · exact h2 c k hc rfl

set_option maxHeartbeats 2000000 in
set_option maxRecDepth 100000 in
theorem impl_ForwardBatch (w : World) (a : Option Addr) (n cap : Nat) (F T : Nat → ByteArray) (h : Fws w a n F T) (hf : FFits n F T) (a2 : Option Addr) (m c2 : Nat) (I : Nat → Int) (C : Nat → ByteArray) (h2 : Lts w a2 m I C) (hf2 : Fits m I C) :
    Calls Try.prog 6 #[.slice a n cap, .slice a2 m c2] w (Split w (M.fbOk F T n I C m) (M.fbSent F T n I C m) (M.fbStuck F T n I C m)) := by
  have HL := Lib.hid h
  have HF := Lib.hid hf
  have HL2 := Lib.hid h2
  have HF2 := Lib.hid hf2
  clear h hf h2 hf2
  cases hok : M.fwd n F T
  · obtain ⟨e0, e1, e2⟩ := M.fb_no (I := I) (C := C) (m := m) (Or.inl hok)
    rw [e0, e1, e2]
    go_enter Try.func6, Try.ntmps6
    go_wp2_with fail
    refine (bookOf_no _ _ _ _ _ _ HL.out HF.out hok).mono ?_
    rintro e w1 ⟨rfl, hb1⟩
    have hq := eql_nobook w1
    go_wp2
    go_ret3
    exact ⟨_, _, rfl, Row.nil _ _, Row.nil _ _, Apart.nil _, hb1⟩
  · have hN := (M.fwd_yes hok).1
    cases hbt : M.batch m I C
    · obtain ⟨e0, e1, e2⟩ := M.fb_no (F := F) (T := T) (n := n) (Or.inr hbt)
      rw [e0, e1, e2]
      go_enter Try.func6, Try.ntmps6
      go_wp2_with fail
      refine (bookOf_yes _ _ _ _ _ _ HL.out HF.out hok).mono ?_
      rintro e w1 ⟨g, q, f, rfl, hq60, hB, hb1⟩
      have hq := eql_book g w1
      go_wp2_with fail
      refine (impl_BatchValid _ _ _ _ _ _ (HL2.out.on hb1) HF2.out).mono ?_
      rw [hbt]
      rintro e w2 ⟨rfl, hb2⟩
      go_wp2
      go_ret3
      exact ⟨_, _, rfl, Row.nil _ _, Row.nil _ _, Apart.nil _, step hb1 hb2⟩
    · obtain ⟨e0, e1, e2⟩ := M.fb_yes hok hbt
      rw [e0, e1, e2]
      have hm6 := (M.batch_yes hbt).1
      go_enter Try.func6, Try.ntmps6
      go_wp2_with fail
      refine (bookOf_yes _ _ _ _ _ _ HL.out HF.out hok).mono ?_
      rintro e w1 ⟨g, q, f, rfl, hq60, hB, hb1⟩
      have hq := eql_book g w1
      have HB1 := Lib.hid hB
      clear hB
      go_wp2_with fail
      refine (impl_BatchValid _ _ _ _ _ _ (HL2.out.on hb1) HF2.out).mono ?_
      rw [hbt]
      rintro e w2 ⟨rfl, hb2⟩
      have HB := Lib.hid (HB1.out.on hb2)
      have hbs := step hb1 hb2
      have hbase := HB.out.1
      clear hb1 hb2 hok hbt e0 e1 e2 hq HB1
      go_wp2
      go_loopw [8, 9, 26] (fun u v i wr => ∃ (k : Nat) (f : ByteArray → Option Nat), k ≤ m ∧ i = .int .i64 k ∧ Hid (Row wr w.heap.size u (M.sentL (M.endOf F T n) (M.lst I C k))) ∧ Hid (Row wr w.heap.size v (M.stuckL (M.endOf F T n) (M.lst I C k))) ∧ Hid (Apart u v) ∧ Hid (Book wr w.heap.size g (q + k) f (M.nextOf F T n)) ∧ Below w.heap.size w wr) (fun _ _ i _ => m - (intOf i).toNat)
      case atStart => exact ⟨0, f, Nat.zero_le _, rfl, Row.nil _ _, Row.nil _ _, Apart.nil _, HB, hbs⟩
      case round =>
        obtain ⟨k, f, hk, rfl, ru, rv, hap, hbk, hb⟩ := hrel
        have hz := hb.size
        have hgl := hbk.out.lt
        by_cases hlt : k < m
        · obtain ⟨b, o, rfl, c0, c1⟩ := (HL2.out.on hb) k hlt
          have s0 := (HF2.out k hlt).2
          have OU : Hid (∀ b, u8.ownBlock = some b → ¬ b = g) := fun b hb' => (ru.out.offBook hbk.out hb').1
          have OV : Hid (∀ b, u9.ownBlock = some b → ¬ b = g) := fun b hb' => (rv.out.offBook hbk.out hb').1
          cases hr : M.res F T n (C k) with
          | none =>
            have HR : Hid (resV (M.res F T n (C k)) = .tuple #[.string ⟨#[]⟩, .int .i64 0, .bool false]) := by rw [Hid, hr]; rfl
            obtain ⟨e1, e2⟩ := M.sent_no (I := I) (M.endOf_no hr)
            have E1 := Lib.hid e1
            have E2 := Lib.hid e2
            have hle := M.stuckL_le (M.endOf F T n) I C k
            clear e1 e2 hr
            go_wp2_with (first
              | (go_at_call 24; refine (resolve_any _ w.heap.size g (q + k) n f F T (hbk.out.on (by go_grown)) (C k) s0 (by omega) hN).mono ?_; rintro e w3 ⟨rfl, ⟨f', hB3⟩, ho⟩; rw [HR.out]; have q0 : w3.cell? ⟨wr.heap.size, 0, none⟩ = some (.int .i64 (I k)) := (World.cell?_of_block (a := ⟨wr.heap.size, 0, none⟩) (ho.block wr.heap.size (by simp) (by omega))).trans (by simp); have q1 : w3.cell? ⟨wr.heap.size, 1, none⟩ = some (.string (C k)) := (World.cell?_of_block (a := ⟨wr.heap.size, 1, none⟩) (ho.block wr.heap.size (by simp) (by omega))).trans (by simp); have O3 : Only wr w3 (fun k => k = g) := (Only.new (by go_grown)).trans ho (fun _ _ h => h); have hb3 : Below w.heap.size w w3 := hb.trans (O3.below (B := w.heap.size) (fun k hk _ (e : k = g) => by omega) hz); have hz3 := hb3.size; have hz4 : wr.heap.size < w3.heap.size := World.block_lt_of_cell? _ _ q0; have U3 := Lib.hid (ru.out.only O3 OU.out); have V3 := Lib.hid (rv.out.only O3 OV.out); have HB3 := Lib.hid hB3; clear hB3 ho O3)
              | (at_builtin; refine wpList_append_letter _ rfl _ _ rfl w.heap.size _ _ rfl (V3.out.alloc _) _ (I k) (C k) rfl ?_ (by omega) (by simp; omega) ?_))
            · simp [go_sem]
            · intro v' w4 hr3 hg3 ho3
              obtain ⟨q2, q3⟩ := two_kept (U3.out.alloc _) hap.out.symm hg3 ho3 (by simp)
              have q4 := below_grown (W := w) (hb3.alloc hz3 _) (V3.out.alloc _) (Nat.le_refl _) hg3
              have Q5 := Lib.hid ((HB3.out.on (below_alloc0 _ _)).grown (V3.out.alloc _) hg3)
              have Q2 := Lib.hid q2
              have Q3 := Lib.hid q3
              have R3 := Lib.hid hr3
              clear hr3 hg3 ho3 q2 q3
              go_wp2
              go_roundw
              case rel => exact ⟨k + 1, f', by omega, by go_num, by rw [E1.out]; exact Q2, by rw [E2.out]; exact R3, Q3.out.symm, Q5, q4⟩
              case measure => simp [intOf]; omega
          | some p =>
            obtain ⟨d, t⟩ := p
            have HR : Hid (resV (M.res F T n (C k)) = .tuple #[.string d, .int .i64 t, .bool true]) := by rw [Hid, hr]; rfl
            obtain ⟨e1, e2⟩ := M.sent_yes (I := I) (M.endOf_yes hr)
            have E1 := Lib.hid e1
            have E2 := Lib.hid e2
            have hle := M.sentL_le (M.endOf F T n) I C k
            clear e1 e2 hr
            go_wp2_with (first
              | (go_at_call 24; refine (resolve_any _ w.heap.size g (q + k) n f F T (hbk.out.on (by go_grown)) (C k) s0 (by omega) hN).mono ?_; rintro e w3 ⟨rfl, ⟨f', hB3⟩, ho⟩; rw [HR.out]; have q0 : w3.cell? ⟨wr.heap.size, 0, none⟩ = some (.int .i64 (I k)) := (World.cell?_of_block (a := ⟨wr.heap.size, 0, none⟩) (ho.block wr.heap.size (by simp) (by omega))).trans (by simp); have q1 : w3.cell? ⟨wr.heap.size, 1, none⟩ = some (.string (C k)) := (World.cell?_of_block (a := ⟨wr.heap.size, 1, none⟩) (ho.block wr.heap.size (by simp) (by omega))).trans (by simp); have O3 : Only wr w3 (fun k => k = g) := (Only.new (by go_grown)).trans ho (fun _ _ h => h); have hb3 : Below w.heap.size w w3 := hb.trans (O3.below (B := w.heap.size) (fun k hk _ (e : k = g) => by omega) hz); have hz3 := hb3.size; have hz4 : wr.heap.size < w3.heap.size := World.block_lt_of_cell? _ _ q0; have U3 := Lib.hid (ru.out.only O3 OU.out); have V3 := Lib.hid (rv.out.only O3 OV.out); have HB3 := Lib.hid hB3; clear hB3 ho O3)
              | (at_builtin; refine wpList_append_letter _ rfl _ _ rfl w.heap.size _ _ rfl (U3.out.alloc _) _ (I k) (d) rfl ?_ (by omega) (by simp; omega) ?_))
            · simp [go_sem]
            · intro v' w4 hr3 hg3 ho3
              obtain ⟨q2, q3⟩ := two_kept (V3.out.alloc _) hap.out hg3 ho3 (by simp)
              have q4 := below_grown (W := w) (hb3.alloc hz3 _) (U3.out.alloc _) (Nat.le_refl _) hg3
              have Q5 := Lib.hid ((HB3.out.on (below_alloc0 _ _)).grown (U3.out.alloc _) hg3)
              have Q2 := Lib.hid q2
              have Q3 := Lib.hid q3
              have R3 := Lib.hid hr3
              clear hr3 hg3 ho3 q2 q3
              go_wp2
              go_roundw
              case rel => exact ⟨k + 1, f', by omega, by go_num, by rw [E1.out]; exact R3, by rw [E2.out]; exact Q2, Q3, Q5, q4⟩
              case measure => simp [intOf]; omega
        · obtain rfl : k = m := by omega
          go_wp2
          go_ret3
          exact ⟨_, _, rfl, ru.out, rv.out, hap.out, hb⟩

set_option maxHeartbeats 2000000 in
set_option maxRecDepth 100000 in
theorem spec_ForwardBatch (w : World) (a : Option Addr) (n cap : Nat) (F T : Nat → ByteArray) (h : Fws w a n F T) (hf : FFits n F T) (hn : n ≤ 1048576) (a2 : Option Addr) (m c2 : Nat) (I : Nat → Int) (C : Nat → ByteArray) (h2 : Lts w a2 m I C) (hf2 : Fits m I C) (hm : m ≤ 1048576) :
    Calls Try.prog 7 #[.slice a n cap, .slice a2 m c2] w (Split w (M.fbOk F T n I C m) (M.fbSent F T n I C m) (M.fbStuck F T n I C m)) := by
  have hb0 : Below w.heap.size w ((w.alloc (.cells #[] 34)).alloc (.cells #[] 34)) := by go_grown
  have HL := Lib.hid (h.on hb0)
  have HF := Lib.hid hf
  have HL0 := Lib.hid h
  have HL2 := Lib.hid (h2.on hb0)
  have HL20 := Lib.hid h2
  have HF2 := Lib.hid hf2
  have HE := Lib.hid (two_empty w)
  have HB0 := Lib.hid hb0
  clear h hf h2 hf2 hb0
  cases hok : M.fwd n F T
  · obtain ⟨e0, e1, e2⟩ := M.fb_no (I := I) (C := C) (m := m) (Or.inl hok)
    rw [e0, e1, e2]
    go_enter Try.func7, Try.ntmps7
    go_wp2_with fail
    refine (spec_ForwardsValid _ _ _ _ _ _ HL.out HF.out hn).mono ?_
    rw [hok]
    rintro e w1 ⟨rfl, rfl⟩
    go_wp2
    go_ret3
    exact ⟨_, _, rfl, HE.out.1, HE.out.2.1, HE.out.2.2, HB0.out⟩
  · have hN := (M.fwd_yes hok).1
    cases hbt : M.batch m I C
    · obtain ⟨e0, e1, e2⟩ := M.fb_no (F := F) (T := T) (n := n) (Or.inr hbt)
      rw [e0, e1, e2]
      go_enter Try.func7, Try.ntmps7
      go_wp2_with fail
      refine (spec_ForwardsValid _ _ _ _ _ _ HL.out HF.out hn).mono ?_
      rw [hok]
      rintro e w1 ⟨rfl, rfl⟩
      go_wp2_with fail
      refine (spec_BatchValid _ _ _ _ _ _ HL2.out HF2.out hm).mono ?_
      rw [hbt]
      rintro e w2 ⟨rfl, hb2⟩
      go_wp2
      go_ret3
      exact ⟨_, _, rfl, HE.out.1.on hb2, HE.out.2.1.on hb2, HE.out.2.2, step HB0.out hb2⟩
    · obtain ⟨e0, e1, e2⟩ := M.fb_yes hok hbt
      rw [e0, e1, e2]
      have hm6 := (M.batch_yes hbt).1
      go_enter Try.func7, Try.ntmps7
      go_wp2_with fail
      refine (spec_ForwardsValid _ _ _ _ _ _ HL.out HF.out hn).mono ?_
      rw [hok]
      rintro e w1 ⟨rfl, rfl⟩
      go_wp2_with fail
      refine (spec_BatchValid _ _ _ _ _ _ HL2.out HF2.out hm).mono ?_
      rw [hbt]
      rintro e w2 ⟨rfl, hb2⟩
      have HE1 := Lib.hid (And.intro (HE.out.1.on hb2) (And.intro (HE.out.2.1.on hb2) HE.out.2.2))
      have HB1 : Hid (Below w.heap.size w w2) := step HB0.out hb2
      clear hb2 hok hbt e0 e1 e2 HE HB0 HL HL2
      go_wp2
      go_loopw [7, 8, 9] (fun u v i wr => ∃ (k : Nat), k ≤ m ∧ i = .int .i64 k ∧ Hid (Row wr w.heap.size u (M.sentL (M.endOf F T n) (M.lst I C k))) ∧ Hid (Row wr w.heap.size v (M.stuckL (M.endOf F T n) (M.lst I C k))) ∧ Hid (Apart u v) ∧ Hid (Below w.heap.size w wr)) (fun _ _ i _ => m - (intOf i).toNat)
      case atStart => exact ⟨0, Nat.zero_le _, rfl, HE1.out.1, HE1.out.2.1, HE1.out.2.2, HB1⟩
      case round =>
        obtain ⟨k, hk, rfl, ru, rv, hap, hbh⟩ := hrel
        have hb := hbh.out
        have hz := hb.size
        by_cases hlt : k < m
        · obtain ⟨b, o, rfl, c0, c1⟩ := (HL20.out.on hb) k hlt
          have HLr := Lib.hid (HL0.out.on hb)
          cases hr : M.res F T n (C k) with
          | none =>
            skip
            have HR : Hid (resV (M.res F T n (C k)) = .tuple #[.string ⟨#[]⟩, .int .i64 0, .bool false]) := by rw [Hid, hr]; rfl
            obtain ⟨e1, e2⟩ := M.sent_no (I := I) (M.endOf_no hr)
            have E1 := Lib.hid e1
            have E2 := Lib.hid e2
            have hle := M.stuckL_le (M.endOf F T n) I C k
            clear e1 e2 hr
            go_wp2_with (first
              | (go_at_call 27; refine (spec_l4Resolve _ a n cap F T HLr.out hn (C k)).mono ?_; rw [HR.out]; rintro e w3 ⟨rfl, rfl⟩)
              | (at_builtin; refine wpList_append_letter _ rfl _ _ rfl w.heap.size _ _ rfl (rv.out.alloc _) _ (I k) (C k) rfl ?_ (by omega) (by simp; omega) ?_))
            · simp [go_sem]
            · intro v' w4 hr3 hg3 ho3
              obtain ⟨q2, q3⟩ := two_kept (ru.out.alloc _) hap.out.symm hg3 ho3 (by simp)
              have q4 := Lib.hid (below_grown (W := w) (hb.alloc hz _) (rv.out.alloc _) (Nat.le_refl _) hg3)
              have Q2 := Lib.hid q2
              have Q3 := Lib.hid q3
              have R3 := Lib.hid hr3
              clear hr3 hg3 ho3 q2 q3
              go_wp2
              go_roundw
              case rel => exact ⟨k + 1, by omega, by go_num, by rw [E1.out]; exact Q2, by rw [E2.out]; exact R3, Q3.out.symm, q4⟩
              case measure => simp [intOf]; omega
          | some p =>
            obtain ⟨d, t⟩ := p
            have HR : Hid (resV (M.res F T n (C k)) = .tuple #[.string d, .int .i64 t, .bool true]) := by rw [Hid, hr]; rfl
            obtain ⟨e1, e2⟩ := M.sent_yes (I := I) (M.endOf_yes hr)
            have E1 := Lib.hid e1
            have E2 := Lib.hid e2
            have hle := M.sentL_le (M.endOf F T n) I C k
            clear e1 e2 hr
            go_wp2_with (first
              | (go_at_call 27; refine (spec_l4Resolve _ a n cap F T HLr.out hn (C k)).mono ?_; rw [HR.out]; rintro e w3 ⟨rfl, rfl⟩)
              | (at_builtin; refine wpList_append_letter _ rfl _ _ rfl w.heap.size _ _ rfl (ru.out.alloc _) _ (I k) (d) rfl ?_ (by omega) (by simp; omega) ?_))
            · simp [go_sem]
            · intro v' w4 hr3 hg3 ho3
              obtain ⟨q2, q3⟩ := two_kept (rv.out.alloc _) hap.out hg3 ho3 (by simp)
              have q4 := Lib.hid (below_grown (W := w) (hb.alloc hz _) (ru.out.alloc _) (Nat.le_refl _) hg3)
              have Q2 := Lib.hid q2
              have Q3 := Lib.hid q3
              have R3 := Lib.hid hr3
              clear hr3 hg3 ho3 q2 q3
              go_wp2
              go_roundw
              case rel => exact ⟨k + 1, by omega, by go_num, by rw [E1.out]; exact R3, by rw [E2.out]; exact Q2, Q3, q4⟩
              case measure => simp [intOf]; omega
        · obtain rfl : k = m := by omega
          go_wp2
          go_ret3
          exact ⟨_, _, rfl, ru.out, rv.out, hap.out, hb⟩
end Go.Proofs.Ytekkajgifgnklaa
