/-
  WrongLetters of the program.
-/
import Derived.Test.YthlfbdapkjhmaaaDoorMSpec3
import Derived.Deep.RegionHeld3
namespace Go.Proofs.YthlfbdapkjhmaaaDoor
open Go.RowKit
open Go.PlainAid (bt get_bt bt_nonneg bt_le)
set_option linter.unusedVariables false

theorem run_wrong1 (cap : Array Value) (W : World) : (callFunc 60 cap).run Tryd.prog W = .ok (.enter 60 cap) W :=
  run_enter Tryd.func60 (by kernel_rfl) (by kernel_rfl) cap W
/-- The boxes that WrongLetters' literal holds. -/
structure WBox (w : World) (b p : Int) (a : Option Addr) (n c : Nat) (x : Int) (v : Value) (P0 X0 B0 V0 : Nat) (u : Value) : Prop where
  pp : Tri w P0 (.int .i64 b) (.int .i64 p) (.slice a n c)
  xx : w.cell? ⟨X0, 0, none⟩ = some (.int .i64 x)
  bb : w.cell? ⟨B0, 0, none⟩ = some v
  vv : w.cell? ⟨V0, 0, none⟩ = some u
  vf : w.frozen? ⟨V0, 0, none⟩ = false
theorem WBox.on {w w' : World} {b p : Int} {a : Option Addr} {n c : Nat} {x : Int} {v : Value} {P0 X0 B0 V0 : Nat} {u : Value} (h : WBox w b p a n c x v P0 X0 B0 V0 u) (hb : Below w.heap.size w w') : WBox w' b p a n c x v P0 X0 B0 V0 u := by
  have k : ∀ {q : Nat} {y : Value}, w.cell? ⟨q, 0, none⟩ = some y → w'.cell? ⟨q, 0, none⟩ = some y := fun {q y} e => (World.cell?_of_block (hb.block q (World.block_lt_of_cell? _ _ e))).trans e
  exact ⟨h.pp.on hb, k h.xx, k h.bb, k h.vv, by rw [World.frozen?_of_block (hb.block V0 (World.block_lt_of_cell? _ _ h.vv))]; exact h.vf⟩
/-- What the literal leaves. -/
def WDone (w : World) (V0 : Nat) (L : List Int) (w' : World) : Prop :=
  ∃ u, IRow w' w.heap.size u L ∧ w'.cell? ⟨V0, 0, none⟩ = some u ∧ Only w w' (fun k => k = V0)

set_option maxHeartbeats 4000000 in
set_option maxRecDepth 100000 in
theorem wrong1_yes (w : World) (b p : Int) (a : Option Addr) (n c : Nat) (S : Nat → ByteArray) (h : Strs w a n S) (hf : SFits n S) (hn : n ≤ 1048576) (hp : M.plan b p n S = true) (x : Nat) (hx : (x : Int) < p) (J : Addr) (hj : Jam w J) (base : Nat) (u0 : Option Addr) (N c2 : Nat) (V : Nat → Value) (MM : Nat → List (Int × ByteArray)) (hm : Mat w base (.slice u0 N c2) N V MM) (hN : N ≤ 1048576) (hok : binsOk b N MM = true) (P0 X0 B0 V0 : Nat) (hord : P0 < V0 ∧ X0 < V0 ∧ B0 < V0)
    (hx0 : WBox w b p a n c x (.slice u0 N c2) P0 X0 B0 V0 (.slice none 0 0)) :
    Calls Tryd.prog 60 #[.pointer (some ⟨P0, 0, none⟩), .pointer (some ⟨X0, 0, none⟩), .pointer (some ⟨B0, 0, none⟩), .pointer (some ⟨V0, 0, none⟩)] w
      fun e w' => e = .returned (.tuple #[]) ∧ WDone w V0 (wids b n S x MM N) w' := by
  obtain ⟨s1, s2, s3, s4⟩ := M.plan_shape hp
  have hok2 := hok
  unfold binsOk at hok2
  rw [Bool.and_eq_true] at hok2
  have h60 := ((batchL_list _).1 hok2.2).2.2
  have HX := Lib.hid hx0
  have HMF := Lib.hid (fun W (hW : Below w.heap.size w W) => machineFor_yes W b p a n c S (h.on hW) hf hn hp x ⟨by omega, hx⟩)
  have HST := Lib.hid (fun W (hW : Below w.heap.size w W) => impl_takeOut_yes W b p a n c S (h.on hW) hn s1 s2 x (by omega) J (hj.on hW) base _ N V MM (hm.on hW) hN hok)
  obtain ⟨RM, hRM⟩ : ∃ RM, rightL b n S x MM = RM := ⟨_, rfl⟩
  obtain ⟨WL, hWL⟩ : ∃ WL, M.flat (wrongL b n S x MM) N = WL := ⟨_, rfl⟩
  have hwl : WL.length ≤ 60 := by rw [← hWL]; exact Nat.le_trans (flat_sub (fun k => List.length_filter_le _ _) N) h60
  have hids : Hid (wids b n S x MM N = WL.map Prod.fst) := by unfold Hid wids; rw [hWL]
  rw [hRM, hWL] at HST
  rw [hids.out]
  obtain ⟨ln, hln⟩ : ∃ ln, WL.length = ln := ⟨_, rfl⟩
  have HLN := Lib.hid hln
  rw [hln] at hwl
  have BR := Lib.hid (Below.refl w.heap.size w)
  have lv := World.block_lt_of_cell? _ _ hx0.vv
  clear h hf hp hm hok hok2 h60 hx0 hRM hWL hj hids
  obtain ⟨⟨⟨t0, t1, t2⟩, _⟩, x0, b0, v0, vf⟩ := HX.out
  unfold mac at HMF HST
  go_enter Tryd.func60, Tryd.ntmps60
  go_wp2
  go_region_held3 (fun w' => w'.cell? ⟨P0, 0, none⟩ = some (.int .i64 b) ∧ w'.cell? ⟨P0, 1, none⟩ = some (.int .i64 p) ∧ w'.cell? ⟨P0, 2, none⟩ = some (.slice a n c) ∧ w'.cell? ⟨X0, 0, none⟩ = some (.int .i64 x) ∧ w'.cell? ⟨B0, 0, none⟩ = some (.slice u0 N c2)) (go_keep) (first
    | (go_at_call 51; refine (HMF.out _ (by first | exact BR.out | exact BR.out.drew)).mono ?_; rintro e w1 ⟨rfl, k1⟩; have K1 : Hid (Below w.heap.size w w1) := (by first | exact k1 | exact sstep (Below.refl _ _).drew k1); have HX1 := Lib.hid (HX.out.on K1.out); obtain ⟨⟨⟨c0, c1, c2'⟩, _⟩, c3', c4, c5, c6⟩ := HX1.out)
    | (go_at_call 61; refine (HST.out _ (by first | exact K1.out | exact K1.out.drew)).mono ?_; rintro e w2 ⟨v, V', u, rfl, hm, hr, hap, k2⟩; obtain ⟨aU, cU, hu, hcU, hlU⟩ := hr.form; obtain ⟨aV, cV, hv⟩ : ∃ aV cV, v = Value.slice aV N cV := (by rcases hm.form with ⟨rfl, e⟩ | ⟨g, c, rfl, _⟩ <;> first | exact ⟨_, _, rfl⟩ | exact ⟨_, _, by rw [e]⟩); subst hv hu; rw [HLN.out] at hlU; have K2 : Hid (Below w.heap.size w w2) := (by first | exact sstep K1.out k2 | exact sstep (sstep K1.out (Below.refl _ _).drew) k2); have HX2 := Lib.hid (HX.out.on K2.out); obtain ⟨⟨⟨d0, d1, d2⟩, _⟩, d3, d4, d5, d6⟩ := HX2.out; have HLU := Lib.hid hlU; have HRL := Lib.hid (hr.lower (base' := w.heap.size) (by first | exact K1.out.size | exact K1.out.drew.size)); clear hm hr hap k2 hlU))
  all_goals
    rw [HLN.out] at HRL
    clear t0 t1 t2 x0 b0 v0 vf d0 d1 d2 d3 d4 c0 c1 c2' c3' c4 c5 c6
    have hz2 := K2.out.size
    first
      | rw [HLN.out]
      | skip
    go_wp2
    go_loopw [18] (fun i wr => ∃ (j : Nat) (au : Option Addr) (cu : Nat) (Lj : List Int), j ≤ ln ∧ i = .int .i64 j ∧ wr.cell? ⟨V0, 0, none⟩ = some (.slice au j cu) ∧ wr.frozen? ⟨V0, 0, none⟩ = false ∧ Hid (Lj = (M.lst (nI WL) (nC WL) j).map Prod.fst) ∧ Hid (IRow wr w2.heap.size (.slice au j cu) Lj) ∧ Hid (Only w2 wr (fun k => k = V0))) (fun i _ => ln - (intOf i).toNat)
    case atStart => exact ⟨0, none, 0, [], Nat.zero_le _, rfl, d5, d6, rfl, IRow.nil _ _, Only.refl _ _⟩
    case round =>
      obtain ⟨j, au, cu, Lj, hj, rfl, v0, vf, hLj, hrow, on⟩ := hrel
      have hzr := on.out.size
      have hlj : Lj.length = j := by rw [hLj.out, List.length_map, M.lst_length]
      by_cases hlt : j < ln
      · obtain ⟨b2, o2, e2, q0, q1⟩ := (HLU.out.only on.out (fun b' o' e h0 hbad => by
          subst e
          have := (HRL.out.lt b' rfl).1
          omega)) j hlt
        have hb2 : w.heap.size ≤ b2 := by subst e2; exact (HRL.out.lt b2 rfl).1
        subst e2
        have hji : (j : Int) < (ln : Int) := by omega
        have hj0 : (0 : Int) ≤ (j : Int) := by omega
        have hbV : b2 ≠ V0 := by omega
        have hVb : V0 ≠ b2 := by omega
        have HLJ := Lib.hid hlj
        have hln : Lj.length ≤ 60 := by omega
        clear d5 d6
        have hLn : Hid (Lj ++ [nI WL j] = (M.lst (nI WL) (nC WL) (j + 1)).map Prod.fst) := by unfold Hid; rw [M.lst_succ, List.map_append, hLj.out]; rfl
        have hlen5 : (Lj ++ [nI WL j]).length = j + 1 := by simp [hlj]
        have HL5 := Lib.hid hlen5
        have lw := World.block_lt_of_cell? _ _ v0
        have lwn : V0 ≠ wr.heap.size := by show V0 ≠ _; have : V0 < wr.heap.size := lw; omega
        have lwn2 : wr.heap.size ≠ V0 := fun e => lwn e.symm
        have lwn3 : V0 < wr.heap.size := lw
        have lbn : b2 < wr.heap.size := World.block_lt_of_cell? _ _ q0
        clear hlj hlen5
        go_wp2_with (at_builtin; refine wpList_append_int _ rfl _ _ rfl w2.heap.size (.slice au j cu) Lj rfl ((hrow.out.alloc _).alloc _) _ (nI WL j) rfl ?_ (by omega) (by simp; omega) ?_)
        · intro v1 w4 r1 gr1 ho1
          obtain ⟨a5, c5, e5, hc5, _⟩ := r1.form
          rw [HL5.out] at e5
          subst e5
          have o4 : Only wr w4 (fun q => (Value.slice au j cu).ownBlock = some q) := ((Only.new (S := fun q => (Value.slice au j cu).ownBlock = some q) (below_alloc0 wr _)).trans (Only.new (S := fun q => (Value.slice au j cu).ownBlock = some q) (below_alloc0 _ _)) (fun _ _ h => h)).trans ((Only.of_grown gr1).mono (T := fun q => (Value.slice au j cu).ownBlock = some q) (fun x _ e => e.symm)) (fun _ _ h => h)
          have hnV : ¬ (Value.slice au j cu).ownBlock = some V0 := fun e => by have := (hrow.out.lt V0 e).1; omega
          have v4 : w4.cell? ⟨V0, 0, none⟩ = some (.slice au j cu) := (World.cell?_of_block (o4.block V0 lw hnV)).trans v0
          have f4 : w4.frozen? ⟨V0, 0, none⟩ = false := (World.frozen?_of_block (o4.block V0 lw hnV)).trans vf
          have os := Only.set w4 ⟨V0, 0, none⟩ (.slice a5 (j + 1) c5) (S := fun k => k = V0) rfl
          have R5 : Hid (IRow (w4.setCell ⟨V0, 0, none⟩ (.slice a5 (j + 1) c5)) w2.heap.size (.slice a5 (j + 1) c5) (Lj ++ [nI WL j])) := r1.only os (fun k hk hs => by have := (r1.lt k hk).1; omega)
          have O5 : Hid (Only w2 (w4.setCell ⟨V0, 0, none⟩ (.slice a5 (j + 1) c5)) (fun k => k = V0)) := on.out.trans ((o4.mono (T := fun k => w2.heap.size ≤ k ∨ k = V0) (fun x _ e => Or.inl (hrow.out.lt x e).1)).trans (os.mono (T := fun k => w2.heap.size ≤ k ∨ k = V0) (fun x _ e => Or.inr e)) (fun _ _ h => h)) (fun x hx h => by rcases h with h | h <;> omega)
          have v5 : (w4.setCell ⟨V0, 0, none⟩ (.slice a5 (j + 1) c5)).cell? ⟨V0, 0, none⟩ = some (.slice a5 (j + 1) c5) := by simp [go_sem, v4]
          have f5 : (w4.setCell ⟨V0, 0, none⟩ (.slice a5 (j + 1) c5)).frozen? ⟨V0, 0, none⟩ = false := by simp [go_sem, f4]
          have V5 := Lib.hid v5
          have F5 := Lib.hid f5
          clear r1 gr1 ho1 o4 os v5 f5 v0 vf
          go_wp2
          go_roundw
          case rel => exact ⟨j + 1, a5, c5, _, by omega, by go_num, V5.out, F5.out, hLn, R5, O5⟩
          case measure => simp [intOf]; omega
      · obtain rfl : j = ln := by omega
        go_wp2
        go_end0
        have h9 : Lj = WL.map Prod.fst := by rw [hLj.out, ← HLN.out, lst_nI]
        exact ⟨rfl, _, (by have := hrow.out.lower hz2; rw [h9] at this; exact this), v0, (Only.new K2.out).trans on.out (fun _ _ h => h)⟩

set_option maxHeartbeats 4000000 in
set_option maxRecDepth 100000 in
theorem wrong1_no (w : World) (J : Addr) (hj : Jam w J) (b p : Int) (a : Option Addr) (n c : Nat) (S : Nat → ByteArray) (h : Strs w a n S) (hf : SFits n S) (hn : n ≤ 1048576) (x : Int) (base : Nat) (u0 : Option Addr) (N c2 : Nat) (V : Nat → Value) (MM : Nat → List (Int × ByteArray)) (hm : Mat w base (.slice u0 N c2) N V MM) (hN : N ≤ 1048576) (hl : (M.flat MM N).length ≤ 1048576) (hf2 : Fits (M.flat MM N).length (nI (M.flat MM N)) (nC (M.flat MM N))) (hbad : binsAll b p n S N MM x = false) (P0 X0 B0 V0 : Nat)
    (hx0 : WBox w b p a n c x (.slice u0 N c2) P0 X0 B0 V0 (.slice none 0 0)) :
    Calls Tryd.prog 60 #[.pointer (some ⟨P0, 0, none⟩), .pointer (some ⟨X0, 0, none⟩), .pointer (some ⟨B0, 0, none⟩), .pointer (some ⟨V0, 0, none⟩)] w
      fun e w' => e = JamEnd J ∧ Below w.heap.size w w' := by
  have HX := Lib.hid hx0
  have BR := Lib.hid (Below.refl w.heap.size w)
  obtain ⟨⟨⟨t0, t1, t2⟩, _⟩, x0, b0, v0, vf⟩ := HX.out
  by_cases hmf : M.plan b p n S = true ∧ 0 ≤ x ∧ x < p
  · obtain ⟨s1, s2, s3, s4⟩ := M.plan_shape hmf.1
    have hbo : binsOk b N MM = false := by
      unfold binsAll at hbad
      rw [hmf.1, decide_eq_true (show 0 ≤ x ∧ x ≤ p - 1 by omega), Bool.true_and, Bool.and_true] at hbad
      exact hbad
    have HMF := Lib.hid (fun W (hW : Below w.heap.size w W) => machineFor_yes W b p a n c S (h.on hW) hf hn hmf.1 x hmf.2)
    have HST := Lib.hid (fun W (hW : Below w.heap.size w W) => impl_takeOut_no W b p x (.slice a n c) (by omega) s2 J (hj.on hW) base _ N V MM (hm.on hW) hN hl hf2 hbo)
    clear h hf hm hf2 hx0 hj hbad hmf hbo
    unfold mac at HMF HST
    go_enter Tryd.func60, Tryd.ntmps60
    go_wp2
    refine wp_region_held_drew (by kernel_rfl) (S := fun w' => Below w.heap.size w w') (by exact BR.out.drew) (fun hS => ?_)
    refine wpAnyH_take (i := 0) (v := .agg #[.int .i64 b, .int .i64 p, .slice a n c]) rfl (by kernel_rfl) (by kernel_rfl) (by kernel_rfl) (fun c a' w' h => panic_put (P := Tryd.prog) (fn := Tryd.f60) (R := fun e w' => e = JamEnd J ∧ Below w.heap.size w w') h) (Or.inl ⟨by rfl, ?_⟩) hS ?_
    · intro w' hw'
      obtain ⟨⟨⟨c0, c1, c2'⟩, _⟩, c3', c4, c5, c6⟩ := HX.out.on hw'
      go_simp
    simp only [Act.put, List.setIfInBounds_toArray]
    refine wpAnyH_take (i := 1) (v := .int .i64 x) rfl (by kernel_rfl) (by kernel_rfl) (by kernel_rfl) (fun c a' w' h => panic_put (P := Tryd.prog) (fn := Tryd.f60) (R := fun e w' => e = JamEnd J ∧ Below w.heap.size w w') h) (Or.inl ⟨by rfl, ?_⟩) hS ?_
    · intro w' hw'
      obtain ⟨⟨⟨c0, c1, c2'⟩, _⟩, c3', c4, c5, c6⟩ := HX.out.on hw'
      go_simp
    simp only [Act.put]
    refine wpAnyH_take (i := 3) (v := .slice u0 N c2) rfl (by kernel_rfl) (by kernel_rfl) (by kernel_rfl) (fun c a' w' h => panic_put (P := Tryd.prog) (fn := Tryd.f60) (R := fun e w' => e = JamEnd J ∧ Below w.heap.size w w') h) (Or.inl ⟨by rfl, ?_⟩) hS ?_
    · intro w' hw'
      obtain ⟨⟨⟨c0, c1, c2'⟩, _⟩, c3', c4, c5, c6⟩ := HX.out.on hw'
      go_simp
    simp only [Act.put]
    refine wpAnyH_ready (rs := [2]) (by kernel_rfl) (by simp) ?_
    refine AllReadyH.cons rfl (fun K hK => ?_) AllReadyH.nil
    go_simp
    refine (HMF.out _ BR.out.drew).mono ?_
    rintro e w1 ⟨rfl, k1⟩
    have K1 : Hid (Below w.heap.size w w1) := sstep BR.out.drew k1
    clear k1
    refine hK.out _ _ K1.out (fun hS1 => ?_)
    refine wpAnyH_ready (rs := [4]) (by kernel_rfl) (by simp) ?_
    refine AllReadyH.cons rfl (fun K hK => ?_) AllReadyH.nil
    go_simp
    refine (HST.out _ K1.out).mono ?_
    rintro e w2 ⟨rfl, k2⟩
    exact ⟨rfl, rfl, sstep K1.out k2⟩
  · have HMF := Lib.hid (fun W (hW : Below w.heap.size w W) => machineFor_no W J (hj.on hW) b p a n c S (h.on hW) hf hn x hmf)
    clear h hf hm hf2 hx0 hj hbad hmf
    go_enter Tryd.func60, Tryd.ntmps60
    go_wp2
    refine wp_region_held_drew (by kernel_rfl) (S := fun w' => Below w.heap.size w w') (by exact BR.out.drew) (fun hS => ?_)
    refine wpAnyH_take (i := 0) (v := .agg #[.int .i64 b, .int .i64 p, .slice a n c]) rfl (by kernel_rfl) (by kernel_rfl) (by kernel_rfl) (fun c a' w' h => panic_put (P := Tryd.prog) (fn := Tryd.f60) (R := fun e w' => e = JamEnd J ∧ Below w.heap.size w w') h) (Or.inl ⟨by rfl, ?_⟩) hS ?_
    · intro w' hw'
      obtain ⟨⟨⟨c0, c1, c2'⟩, _⟩, c3', c4, c5, c6⟩ := HX.out.on hw'
      go_simp
    simp only [Act.put, List.setIfInBounds_toArray]
    refine wpAnyH_take (i := 1) (v := .int .i64 x) rfl (by kernel_rfl) (by kernel_rfl) (by kernel_rfl) (fun c a' w' h => panic_put (P := Tryd.prog) (fn := Tryd.f60) (R := fun e w' => e = JamEnd J ∧ Below w.heap.size w w') h) (Or.inl ⟨by rfl, ?_⟩) hS ?_
    · intro w' hw'
      obtain ⟨⟨⟨c0, c1, c2'⟩, _⟩, c3', c4, c5, c6⟩ := HX.out.on hw'
      go_simp
    simp only [Act.put]
    refine wpAnyH_take (i := 3) (v := .slice u0 N c2) rfl (by kernel_rfl) (by kernel_rfl) (by kernel_rfl) (fun c a' w' h => panic_put (P := Tryd.prog) (fn := Tryd.f60) (R := fun e w' => e = JamEnd J ∧ Below w.heap.size w w') h) (Or.inl ⟨by rfl, ?_⟩) hS ?_
    · intro w' hw'
      obtain ⟨⟨⟨c0, c1, c2'⟩, _⟩, c3', c4, c5, c6⟩ := HX.out.on hw'
      go_simp
    simp only [Act.put]
    refine wpAnyH_ready (rs := [2]) (by kernel_rfl) (by simp) ?_
    refine AllReadyH.cons rfl (fun K hK => ?_) AllReadyH.nil
    go_simp
    refine (HMF.out _ BR.out.drew).mono ?_
    rintro e w1 ⟨rfl, k1⟩
    exact ⟨rfl, rfl, sstep BR.out.drew k1⟩

set_option maxHeartbeats 4000000 in
set_option maxRecDepth 100000 in
theorem impl_WrongLetters (w : World) (J : Addr) (hj : Jam w J) (b p : Int) (a : Option Addr) (n c : Nat) (S : Nat → ByteArray) (h : Strs w a n S) (hf : SFits n S) (hn : n ≤ 1048576) (base : Nat) (v : Value) (N : Nat) (V : Nat → Value) (MM : Nat → List (Int × ByteArray)) (hm : Mat w base v N V MM) (hN : N ≤ 1048576) (hl : (M.flat MM N).length ≤ 1048576) (hf2 : Fits (M.flat MM N).length (nI (M.flat MM N)) (nC (M.flat MM N))) (x : Int) :
    Calls Tryd.prog 30 #[.agg #[.int .i64 b, .int .i64 p, .slice a n c], v, .int .i64 x] w (IdsOut w (wrongIds b p n S N MM x)) := by
  obtain ⟨u0, c2, hv⟩ : ∃ u c, v = .slice u N c := by
    rcases hm.form with ⟨rfl, rfl⟩ | ⟨g, c, rfl, _⟩
    · exact ⟨_, _, rfl⟩
    · exact ⟨_, _, rfl⟩
  subst hv
  have hmf : ∀ (fn : Fn) (first cap : Array Value) (w : World), (Instr.makeFunc fn first cap).run Tryd.prog w = .ok (.func fn first cap) w := fun _ _ _ _ => rfl
  obtain ⟨w6, hw6⟩ : ∃ w6, (((w.alloc (.cells #[.int .i64 b, .int .i64 p, .slice a n c] 34)).alloc (.cells #[.slice u0 N c2] 30)).alloc (.cells #[.int .i64 x] 3)).alloc (.cells #[.slice none 0 0] 50) = w6 := ⟨_, rfl⟩
  have B6 : Hid (Below w.heap.size w w6) := by rw [← hw6]; show Below _ _ _; go_grown
  have hz6 : w6.heap.size = w.heap.size + 4 := by rw [← hw6]; simp
  have FB : Hid (∀ W, Below w6.heap.size w6 W → WBox W b p a n c x (.slice u0 N c2) w.heap.size (w.heap.size + 2) (w.heap.size + 1) (w.heap.size + 3) (.slice none 0 0)) := fun W hW => by
    refine WBox.on ?_ hW
    rw [← hw6]
    refine ⟨(((tri_made w (.int .i64 b) (.int .i64 p) (.slice a n c) 34).alloc _).alloc _).alloc _, ?_, ?_, ?_, ?_⟩ <;> simp [go_sem]
  have HJ6 := Lib.hid (hj.on B6.out)
  have HH := Lib.hid (h.on B6.out)
  have HM := Lib.hid (hm.on B6.out)
  unfold wrongIds
  cases hok : binsAll b p n S N MM x
  · rw [if_neg (by decide)]
    have HR := Lib.hid (runs_jam w6 J HJ6.out 60 #[.pointer (some ⟨w.heap.size, 0, none⟩), .pointer (some ⟨w.heap.size + 2, 0, none⟩), .pointer (some ⟨w.heap.size + 1, 0, none⟩), .pointer (some ⟨w.heap.size + 3, 0, none⟩)]
      (fun W w1 => Below (W.alloc (.cells #[.nilIface] 97)).heap.size (W.alloc (.cells #[.nilIface] 97)) w1) (run_wrong1 _)
      (fun W hW => by
        have hW2 : Below w6.heap.size w6 (W.alloc (.cells #[.nilIface] 97)) := hW.alloc hW.size _
        exact wrong1_no _ J (HJ6.out.on hW2) b p a n c S (HH.out.on hW2) hf hn x base u0 N c2 V MM (HM.out.on hW2) hN hl hf2 hok _ _ _ _ (FB.out _ hW2))
      (fun W w1 hW hr => by
        have hbk := hr.block W.heap.size (by simp)
        exact ⟨(World.cell?_of_block hbk).trans (by simp), (World.frozen?_of_block hbk).trans (by simp [go_sem]), ((HJ6.out.on hW).on (below_alloc0 W (.cells #[.nilIface] 97))).on hr⟩))
    have HW6 := Lib.hid hw6
    have HFB := Lib.hid FB
    clear h hm hj hw6 FB HH HM hok
    go_enter Tryd.func30, Tryd.ntmps30
    go_wp2_with fail
    rw [HW6.out]
    refine HR.out.mono ?_
    rintro e w7 ⟨rfl, W, wa, hW, hr, on⟩
    have hsW := hW.size
    have hszA : (W.alloc (.cells #[.nilIface] 97)).heap.size = W.heap.size + 1 := by simp
    have hwa : Below w6.heap.size w6 wa := (hW.alloc hsW (.cells #[.nilIface] 97)).trans (hr.mono (by rw [hszA]; omega))
    have fb := HFB.out wa hwa
    have v7 : w7.cell? ⟨w.heap.size + 3, 0, none⟩ = some (.slice none 0 0) := (World.cell?_of_block (on.block (w.heap.size + 3) (World.block_lt_of_cell? _ _ fb.vv) (by omega))).trans fb.vv
    have hzw := hwa.size
    have B7 : Hid (Below w.heap.size w w7) := (B6.out.trans (hwa.mono (by omega))).trans (on.below (B := w.heap.size) (fun k hk _ hs => by omega) (by omega))
    clear hr on fb hwa hW
    go_wp2
    go_ret
    exact ⟨_, rfl, IRow.nil _ _, by first | exact B7.out | exact below_drewN0 B7.out _⟩
  · rw [if_pos rfl]
    have hk := hok
    unfold binsAll at hk
    simp only [Bool.and_eq_true, decide_eq_true_eq] at hk
    obtain ⟨⟨hp, hbo⟩, hx0, hx1⟩ := hk
    obtain ⟨y, rfl⟩ := Int.eq_ofNat_of_zero_le hx0
    rw [Int.toNat_natCast]
    have HR := Lib.hid (runs_well w6 J HJ6.out 60 #[.pointer (some ⟨w.heap.size, 0, none⟩), .pointer (some ⟨w.heap.size + 2, 0, none⟩), .pointer (some ⟨w.heap.size + 1, 0, none⟩), .pointer (some ⟨w.heap.size + 3, 0, none⟩)]
      (fun W w1 => WDone (W.alloc (.cells #[.nilIface] 97)) (w.heap.size + 3) (wids b n S y MM N) w1) (run_wrong1 _)
      (fun W hW => by
        have hW2 : Below w6.heap.size w6 (W.alloc (.cells #[.nilIface] 97)) := hW.alloc hW.size _
        exact wrong1_yes _ b p a n c S (HH.out.on hW2) hf hn hp y (by omega) J (HJ6.out.on hW2) base u0 N c2 V MM (HM.out.on hW2) hN hbo _ _ _ _ (by omega) (FB.out _ hW2))
      (fun W w1 hW hr => by
        obtain ⟨u, _, _, ho⟩ := hr
        have hs := hW.size
        have hbk := ho.block W.heap.size (by simp) (by omega)
        refine ⟨(World.cell?_of_block hbk).trans (by simp), (World.frozen?_of_block hbk).trans (by simp [go_sem]), ?_⟩
        have hj2 := (HJ6.out.on hW).on (below_alloc0 W (.cells #[.nilIface] 97))
        exact (World.cell?_of_block (ho.block _ hj2.lt (show ¬ (0 = w.heap.size + 3) from by have := hj.lt; omega))).trans hj2))
    obtain ⟨LL, hLL⟩ : ∃ LL, wids b n S y MM N = LL := ⟨_, rfl⟩
    rw [hLL] at HR
    rw [hLL]
    have HW6 := Lib.hid hw6
    clear h hm hj hw6 hLL FB HH HM hp hbo hok hx0 hx1
    go_enter Tryd.func30, Tryd.ntmps30
    go_wp2_with fail
    rw [HW6.out]
    refine HR.out.mono ?_
    rintro e w7 ⟨rfl, W, wa, hW, ⟨u, hRo, hu, ho⟩, on⟩
    have hsW := hW.size
    have hszA : (W.alloc (.cells #[.nilIface] 97)).heap.size = W.heap.size + 1 := by simp
    rw [hszA] at hRo
    have u7 : w7.cell? ⟨w.heap.size + 3, 0, none⟩ = some u := (World.cell?_of_block (on.block (w.heap.size + 3) (World.block_lt_of_cell? _ _ hu) (by omega))).trans hu
    have R7 := Lib.hid (hRo.only on (fun k hk hs => by have := (hRo.lt k hk).1; omega))
    have hoz := ho.size
    rw [hszA] at hoz
    have B7 : Hid (Below w.heap.size w w7) := ((B6.out.trans (hW.mono (by omega))).trans ((below_alloc0 W (.cells #[.nilIface] 97)).mono (by omega))).trans ((ho.below (B := w.heap.size) (fun k hk _ hs => by omega) (by rw [hszA]; omega)).trans (on.below (B := w.heap.size) (fun k hk _ hs => by omega) (by omega)))
    clear hRo hu ho on
    go_wp2
    go_ret
    exact ⟨u, rfl, R7.out.lower (by omega), by first | exact B7.out | exact below_drewN0 B7.out _⟩
theorem wrongIds_len (b p : Int) (n : Nat) (S : Nat → ByteArray) (N : Nat) (MM : Nat → List (Int × ByteArray)) (x : Int) : (wrongIds b p n S N MM x).length ≤ (M.flat MM N).length := by
  unfold wrongIds
  split
  · exact wids_len b n S x.toNat MM (Nat.le_refl _)
  · exact Nat.zero_le _
end Go.Proofs.YthlfbdapkjhmaaaDoor
