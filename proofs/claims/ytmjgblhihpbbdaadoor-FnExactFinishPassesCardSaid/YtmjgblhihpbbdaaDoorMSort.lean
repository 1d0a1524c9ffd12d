/-
  A pass with missorts: the program's machine, sort.
-/
import Derived.Test.YtmjgblhihpbbdaaDoorPutI
namespace Go.Proofs.YtmjgblhihpbbdaaDoor
open Go.RowKit Go.Maps
open Go.PlainAid (bt get_bt bt_nonneg bt_le)
set_option linter.unusedVariables false

/-- The map from numbers of letters to bins. -/
def MSeen (I B : Nat → Int) : Nat → DataW Unit
  | 0 => .map []
  | k + 1 => (MSeen I B k).put (.int .i64 (I k)) (.lit (.int .i64 (B k)))
theorem MSeen.isMap (I B : Nat → Int) : ∀ k, IsMap (MSeen I B k)
  | 0 => isMap_empty
  | k + 1 => (MSeen.isMap I B k).put _ _
theorem MSeen.hit (I B : Nat → Int) (z : DataW Unit) : ∀ k j, j < k → (∀ q, q < k → q ≠ j → I q ≠ I j) → (MSeen I B k).atKey (.int .i64 (I j)) z = .lit (.int .i64 (B j)) ∧ Maps.has (MSeen I B k) (.int .i64 (I j)) = true
  | 0, j, h, _ => absurd h (by omega)
  | k + 1, j, h, hd => by
    by_cases e : j = k
    · subst e
      exact ⟨atKey_put_same (MSeen.isMap I B j) (by simp [WideAt.IsKeyLit]) _ _, Maps.has_put_same (MSeen.isMap I B j) (by simp [WideAt.IsKeyLit]) _⟩
    · have hne : (Lit.int .i64 (I j)) ≠ .int .i64 (I k) := by
        intro h'; injection h' with _ h2; exact hd k (by omega) (by omega) h2.symm
      have ih := MSeen.hit I B z k j (by omega) fun q hq hne => hd q (by omega) hne
      rw [MSeen, atKey_put_other hne, Maps.has_put_other hne]
      exact ih
theorem MSeen.miss (I B : Nat → Int) (z : DataW Unit) (x : Int) : ∀ k, (∀ j, j < k → I j ≠ x) → (MSeen I B k).atKey (.int .i64 x) z = z ∧ Maps.has (MSeen I B k) (.int .i64 x) = false
  | 0, _ => ⟨rfl, rfl⟩
  | k + 1, h => by
    have hne : (Lit.int .i64 x) ≠ .int .i64 (I k) := by
      intro h'; injection h' with _ h2; exact h k (by omega) h2.symm
    have ih := MSeen.miss I B z x k fun j hj => h j (by omega)
    rw [MSeen, atKey_put_other hne, Maps.has_put_other hne]
    exact ih
def OwnM (w : World) (g : Nat) (I B : Nat → Int) (k : Nat) : Prop := w.ownsMap Tryd.prog 3 (plainElem Tryd.prog 3) g k (MSeen I B k)
theorem zeroInt (w : World) : (zeroValue 3).run Tryd.prog w = .ok (.int .i64 0) w := by kernel_rfl
theorem OwnM.look {w : World} {g k : Nat} {I B : Nat → Int} (h : OwnM w g I B k) {y : Int} (y0 : -9223372036854775808 ≤ y) (y1 : y ≤ 9223372036854775807) {v : Int} {t : Bool}
    (hv : (MSeen I B k).atKey (.int .i64 y) (.lit (.int .i64 0)) = .lit (.int .i64 v)) (ht : Maps.has (MSeen I B k) (.int .i64 y) = t) :
    (Instr.lookup 107 (.map (some g)) (.int .i64 y) true).run Tryd.prog w = .ok (.tuple #[.int .i64 v, .bool t]) w := by
  obtain ⟨u, ps, hrun, hu⟩ := World.ownsMap.look_ok h lawInt Tryd.underlying107 (zeroInt w) (plainElem_int Tryd.underlying3 (a := 0) (by decide)) (keyOf_int_mk Tryd.underlying3 (WalkArith.wf_i64 ⟨y0, y1⟩))
  obtain ⟨a, rfl, hz, _⟩ := plainElem_int_inv Tryd.underlying3 hu
  rw [hv] at hz
  simp only [Prod.mk.injEq] at hz
  have h1 := hz.1
  have h2 : v = a := congrArg (fun d : DataW Unit => match d with | .lit (.int _ q) => q | _ => 0) h1
  rw [ht, ← h2] at hrun
  exact hrun

/-- The bin of a letter: that of its missort, or of its code. -/
def fkey (b : Int) (n : Nat) (S C : Nat → ByteArray) (x : Nat) (I' : Nat → Int) (m2 : Nat) (I B : Nat → Int) (k : Nat) : Option Nat :=
  if M.find I m2 (I' k) < 0 then M.planKey b n S C x k else some (B (M.find I m2 (I' k)).toNat).toNat
theorem find_cases (I : Nat → Int) (m : Nat) (x : Int) : (M.find I m x = -1 ∧ ∀ j, j < m → I j ≠ x) ∨ ∃ j, j < m ∧ I j = x ∧ M.find I m x = j := by
  unfold M.find
  cases e : (List.range m).find? (fun i => decide (I i = x)) with
  | none =>
    refine Or.inl ⟨rfl, fun j hj ej => ?_⟩
    rw [List.find?_range_eq_none] at e
    have := e j hj
    simp [ej] at this
  | some i =>
    have h1 := List.find?_some e
    have h2 := List.mem_of_find?_eq_some e
    exact Or.inr ⟨i, List.mem_range.1 h2, of_decide_eq_true h1, rfl⟩

set_option maxHeartbeats 1000000 in
set_option maxRecDepth 100000 in
theorem impl_sort1 (w : World) (b p : Int) (a : Option Addr) (n c : Nat) (S : Nat → ByteArray) (h : Strs w a n S) (hn : n ≤ 1048576) (b0 : 2 ≤ b) (b1 : b ≤ 16) (x : Nat) (hx : x ≤ 3) (Q X g : Nat) (hQ : w.cell? ⟨Q, 0, none⟩ = some (.map (some g))) (hX : Mac w X b p (.slice a n c) x)
    (m : Nat) (I B : Nat → Int) (hg : OwnM w g I B m) (hB : M.misTo (b - 1) I B m) (I' : Nat → Int) (C : Nat → ByteArray) (k : Nat) (i0 : -9223372036854775808 ≤ I' k) (i1 : I' k ≤ 9223372036854775807) :
    Calls Tryd.prog 84 #[.agg #[.int .i64 (I' k), .string (C k)], .pointer (some ⟨Q, 0, none⟩), .pointer (some ⟨X, 0, none⟩)] w fun e w' => e = .returned (.int .i64 (binNo (fkey b n S C x I' m I B k))) ∧ Below w.heap.size w w' := by
  have lq := World.block_lt_of_cell? _ _ hQ
  have lx := hX.lt
  have HG := Lib.hid (World.ownsMap.alloc hg (.cells #[.int .i64 (I' k), .string (C k)] 66))
  have bb := below_alloc0 w (.cells #[.int .i64 (I' k), .string (C k)] 66)
  obtain ⟨⟨x0, x1, x2, x3⟩, _⟩ := hX
  rcases find_cases I m (I' k) with ⟨hf, hno⟩ | ⟨j, hj, ej, hf⟩
  · have hv : Hid (fkey b n S C x I' m I B k = M.planKey b n S C x k) := by unfold Hid fkey; rw [hf, if_pos (by decide)]
    rw [hv.out]
    obtain ⟨e1, e2⟩ := MSeen.miss I B (.lit (.int .i64 0)) (I' k) m hno
    have hlook := OwnM.look HG.out i0 i1 e1 e2
    have HB := Lib.hid (impl_binOf (w.alloc (.cells #[.int .i64 (I' k), .string (C k)] 66)) b p a n c S (h.on bb) hn b0 b1 x hx (I' k) (C k))
    rw [binNo_key b n S C x k b0] at HB
    unfold mac at HB
    obtain ⟨R, hR⟩ : ∃ R, binNo (M.planKey b n S C x k) = R := ⟨_, rfl⟩
    rw [hR] at HB ⊢
    clear h hB hg hf hno hv e1 e2 hR HG
    go_enter Tryd.func84, Tryd.ntmps84
    go_wp2_with fail
    refine HB.out.mono ?_
    rintro e w1 ⟨rfl, k1⟩
    go_wp2
    go_ret
    exact ⟨rfl, sstep bb k1⟩
  · have hBj := (hB j hj).2.1
    have hv : Hid (binNo (fkey b n S C x I' m I B k) = B j) := by
      unfold Hid fkey
      rw [hf, if_neg (by omega), Int.toNat_natCast]
      show (((B j).toNat : Nat) : Int) = B j
      omega
    rw [hv.out]
    have hd : ∀ q, q < m → q ≠ j → I q ≠ I j := fun q hq hne e => by
      rcases Nat.lt_or_ge q j with h1 | h1
      · exact (hB j hj).2.2 q h1 e
      · exact (hB q hq).2.2 j (by omega) e.symm
    obtain ⟨e1, e2⟩ := MSeen.hit I B (.lit (.int .i64 0)) m j hj hd
    rw [ej] at e1 e2
    have hlook := OwnM.look HG.out i0 i1 e1 e2
    obtain ⟨R, hR⟩ : ∃ R, B j = R := ⟨_, rfl⟩
    rw [hR] at hlook ⊢
    clear h hB hg hf hv e1 e2 hR hd ej hBj HG
    go_enter Tryd.func84, Tryd.ntmps84
    go_wp2
    go_ret
    exact ⟨rfl, by go_grown⟩

/-- Bins and the letters that have none, both of the call's own. -/
def SortRes (w : World) (N : Nat) (MM : Nat → List (Int × ByteArray)) (LL : List (Int × ByteArray)) (e : Ending) (w' : World) : Prop :=
  ∃ (v : Value) (V : Nat → Value) (u : Value), e = .returned (.tuple #[v, u]) ∧ Mat w' w.heap.size v N V MM ∧ Row w' w.heap.size u LL ∧ (∀ k, u.ownBlock = some k → ¬ inM v N V k) ∧ Below w.heap.size w w'

set_option maxHeartbeats 4000000 in
set_option maxRecDepth 100000 in
theorem impl_sort_yes (w : World) (b p : Int) (a : Option Addr) (n c : Nat) (S : Nat → ByteArray) (h : Strs w a n S) (hf : SFits n S) (hn : n ≤ 1048576) (x : Nat) (hx : x ≤ 3) (a2 : Option Addr) (m c2 : Nat) (I' : Nat → Int) (C : Nat → ByteArray) (h2 : Lts w a2 m I' C) (hf2 : Fits m I' C)
    (a3 : Option Addr) (m3 c3 : Nat) (I B : Nat → Int) (h3 : Mss w a3 m3 I B) (hf3 : MFits m3 I B) (hb : M.batch m I' C = true) (hmi : M.mis b p n S m3 I B = true) :
    Calls Tryd.prog 56 #[mac b p (.slice a n c) x, .slice a2 m c2, .slice a3 m3 c3] w (SortRes w b.toNat (M.binTo (fkey b n S C x I' m3 I B) I' C m) (M.restTo (fkey b n S C x I' m3 I B) I' C m)) := by
  obtain ⟨hp, hm3, hmt⟩ := M.mis_true hmi
  obtain ⟨s1, s2, s3, s4⟩ := M.plan_shape hp
  have hm60 := (M.batch_yes hb).1
  have hkey : Hid (∀ k, k < m → ∀ d, fkey b n S C x I' m3 I B k = some d → d < b.toNat) := fun k hk d hd => by
    unfold fkey at hd
    rcases find_cases I m3 (I' k) with ⟨e, _⟩ | ⟨j, hj, _, e⟩
    · rw [e, if_pos (by decide)] at hd
      exact planKey_bd s1 hd
    · rw [e, if_neg (by omega), Int.toNat_natCast] at hd
      have := Option.some.inj hd
      have := (hmt j hj).2.1
      omega
  obtain ⟨N, rfl⟩ := Int.eq_ofNat_of_zero_le (show 0 ≤ b by omega)
  rw [Int.toNat_natCast] at hkey ⊢
  have HS1 : Hid (∀ (W : World), Strs W a n S → ∀ (Q X g : Nat), W.cell? ⟨Q, 0, none⟩ = some (.map (some g)) → Mac W X (N : Int) p (.slice a n c) x → OwnM W g I B m3 → ∀ k, k < m → Calls Tryd.prog 84 #[.agg #[.int .i64 (I' k), .string (C k)], .pointer (some ⟨Q, 0, none⟩), .pointer (some ⟨X, 0, none⟩)] W fun e w' => e = .returned (.int .i64 (binNo (fkey (N : Int) n S C x I' m3 I B k))) ∧ Below W.heap.size W w') := fun W hs Q X g hQ hX hg k hk =>
    impl_sort1 W (N : Int) p a n c S hs hn s1 s2 x hx Q X g hQ hX m3 I B hg hmt I' C k (hf2 k hk).1.1 (hf2 k hk).1.2
  obtain ⟨CC, hCC⟩ : ∃ CC, madeCells #[Value.slice none 0 0] N = CC := ⟨_, rfl⟩
  have hmm0 := fun W => mat_made W N (by omega) 108 Tryd.underlying108 .i64 .i64
  rw [hCC] at hmm0
  have hmk : ∀ W : World, (Instr.makeSlice 108 (.int .i64 (N : Int)) (.int .i64 (N : Int))).run Tryd.prog W = .ok (.slice (some ⟨W.heap.size, 0, none⟩) N N) (W.alloc (.cells CC 29)) := fun W => (hmm0 W).1
  have hmat := Lib.hid (fun W => (hmm0 W).2)
  clear hmm0 hCC
  obtain ⟨KEY, hKEY⟩ : ∃ KEY, fkey (N : Int) n S C x I' m3 I B = KEY := ⟨_, rfl⟩
  rw [hKEY] at hkey HS1 ⊢
  clear hKEY
  have hmf : ∀ (fn : Fn) (first cap : Array Value) (w : World), (Instr.makeFunc fn first cap).run Tryd.prog w = .ok (.func fn first cap) w := fun _ _ _ _ => rfl
  have b0 := below_alloc0 w (.cells #[.int .i64 (N : Int), .int .i64 p, .slice a n c, .int .i64 x] 61)
  have HL := Lib.hid (h.on b0)
  have HL2 := Lib.hid (h2.on b0)
  have HL3 := Lib.hid (h3.on b0)
  have mx := Lib.hid (mac_made w (N : Int) p (.slice a n c) x 61)
  have B0 := Lib.hid b0
  have HF := Lib.hid hf
  have HF2 := Lib.hid hf2
  have HF3 := Lib.hid hf3
  have HB := Lib.hid hb
  have HMI := Lib.hid hmi
  have HMT := Lib.hid hmt
  have hmm := @run_makeMap Tryd.prog
  clear h hf h2 hf2 h3 hf3 hb hmi hmt hp b0
  unfold mac
  obtain ⟨⟨t0, t1, t2, t3⟩, _⟩ := mx.out
  go_enter Tryd.func56, Tryd.ntmps56
  go_wp2_with fail
  refine (impl_BatchValid _ a2 m c2 I' C HL2.out HF2.out).mono ?_
  rw [HB.out]
  rintro e w1 ⟨rfl, hb1⟩
  have mx1 := Lib.hid (mx.out.on hb1)
  have HL1 := Lib.hid (HL.out.on hb1)
  have HL21 := Lib.hid (HL2.out.on hb1)
  have HL31 := Lib.hid (HL3.out.on hb1)
  have B1 := Lib.hid (sstep B0.out hb1)
  clear t0 t1 t2 t3 mx B0 hb1 HL HL2 HL3
  obtain ⟨⟨t0, t1, t2, t3⟩, _⟩ := mx1.out
  go_wp2_with fail
  refine (impl_MissortsValid _ (N : Int) p a n c S HL1.out HF.out hn a3 m3 c3 I B HL31.out HF3.out).mono ?_
  rw [HMI.out]
  rintro e w2 ⟨rfl, hb2⟩
  have mx2 := Lib.hid (mx1.out.on hb2)
  have HLa := Lib.hid (HL1.out.on hb2)
  have HLb := Lib.hid (HL21.out.on hb2)
  have HLc := Lib.hid (HL31.out.on hb2)
  have B2 := Lib.hid (sstep B1.out hb2)
  have hzw : w.heap.size < w2.heap.size := mx2.out.lt
  clear t0 t1 t2 t3 mx1 B1 hb2 HL1 HL21 HL31
  go_wp2_with fail
  refine (insist_yes _).mono ?_
  rintro e w3 ⟨rfl, rfl⟩
  go_wp2
  go_loopw [25] (fun i wr => ∃ k : Nat, k ≤ m3 ∧ i = .int .i64 k ∧ Hid (OwnM wr w2.heap.size I B k) ∧ Hid (wr.cell? ⟨w2.heap.size + 1, 0, none⟩ = some (.map (some w2.heap.size))) ∧ Hid (Below w2.heap.size w2 wr)) (fun i _ => m3 - (intOf i).toNat)
  case atStart => exact ⟨0, Nat.zero_le _, rfl, World.ownsMap.alloc (World.ownsMap_made _ _ _ _) _, by show _ = _; simp, by show Below _ _ _; go_grown⟩
  case round =>
    obtain ⟨k, hk, rfl, hown, hq, hb⟩ := hrel
    have hz := hb.out.size
    have hq0 := hq.out
    by_cases hlt : k < m3
    · obtain ⟨b3, o3, rfl, c0, c1⟩ := (HLc.out.on hb.out) k hlt
      obtain ⟨⟨i0, i1⟩, j0, j1⟩ := HF3.out k hlt
      have hkey : keyOf Tryd.prog 3 (.int .i64 (I k)) = some (.int .i64 (I k)) := keyOf_int_mk Tryd.underlying3 (WalkArith.wf_i64 ⟨i0, i1⟩)
      have hkm : k < maxLen := by unfold maxLen; omega
      have lq := World.block_lt_of_cell? _ _ hq0
      go_wp2_with (at_mapUpdate; refine wpList_mapUpdate_own _ rfl _ _ _ 107 rfl 3 3 lawInt Tryd.underlying107 _ w2.heap.size k _ rfl (World.ownsMap.alloc hown.out _) hkm _ _ _ rfl rfl hkey _ [] (plainElem_int Tryd.underlying3 (a := B k) (WalkArith.wf_i64 ⟨j0, j1⟩)) ?_; intro w3 hown1 hgrow1)
      have q1 : Hid (w3.cell? ⟨w2.heap.size + 1, 0, none⟩ = some (.map (some w2.heap.size))) := by
        have hbk := hgrow1.block (w2.heap.size + 1) (by rw [World.size_alloc]; exact Nat.lt_succ_of_lt lq) (by intro e; have := Option.some.inj e; omega)
        exact (World.cell?_of_block hbk).trans ((World.cell?_alloc_past _ _ _ lq).trans hq.out)
      go_roundw
      case rel => exact ⟨k + 1, by omega, by go_num, hown1, q1.out, (hb.out.alloc hz _).grown hgrow1 (by simp; omega) (fun j hj => by cases hj; exact Nat.le_refl _)⟩
      case measure => simp [intOf]; omega
    · obtain rfl : k = m3 := by omega
      have HW : Hid (∀ W : World, Below wr.heap.size (wr.alloc (.cells CC 29)) W → Below wr.heap.size wr W) := fun W hW => (below_alloc0 wr _).trans hW
      have HC : Hid (∀ W, Below wr.heap.size (wr.alloc (.cells CC 29)) W → ∀ q, q < m → Calls Tryd.prog 84 #[.agg #[.int .i64 (I' q), .string (C q)], .pointer (some ⟨w2.heap.size + 1, 0, none⟩), .pointer (some ⟨w.heap.size, 0, none⟩)] W fun e w' => e = .returned (.int .i64 (binNo (KEY q))) ∧ Below W.heap.size W w') := fun W hW q hqm => by
        have hW2 := HW.out W hW
        have lq := World.block_lt_of_cell? _ _ hq.out
        exact HS1.out W ((HLa.out.on hb.out).on hW2) _ _ _ ((hW2.cell (p := ⟨w2.heap.size + 1, 0, none⟩) lq).trans hq.out) ((mx2.out.on hb.out).on hW2) (World.ownsMap.kept hown.out (grown_of_below hW2) (by simp)) q hqm
      have mxr := Lib.hid (mx2.out.on hb.out)
      have HLr := Lib.hid ((HLb.out.on hb.out).on (below_alloc0 wr (.cells CC 29)))
      have hltr : Hid (∀ g o, a2 = some ⟨g, o, none⟩ → 0 < m → g < wr.heap.size) := fun g o e h0 => (HLb.out.on hb.out).lt e h0
      have HM4 := Lib.hid (hmat.out wr)
      have HZ : Hid (addTo (fun _ => []) (M.binTo KEY I' C m) = M.binTo KEY I' C m) := by unfold Hid; funext q; exact List.nil_append _
      obtain ⟨⟨t0, t1, t2, t3⟩, _⟩ := mxr.out
      have hzr := hb.out.size
      have BW := Lib.hid (sstep B2.out hb.out)
      clear hq0 HS1 hmm
      go_wp2_with fail
      refine (putInto_sort _ _ _ wr.heap.size wr.heap.size N N _ (fun _ => []) HM4.out (by simp) (fun d _ => by simp) a2 m c2 I' C HLr.out hm60 (fun g o e h0 hbad => by have := (HM4.out.lt hbad).1; have := hltr.out g o e h0; omega) KEY hkey.out (by omega) HC.out).mono ?_
      rintro e w5 ⟨V, u, rfl, hM5, hR5, hap5, hB5, hz5⟩
      rw [HZ.out] at hM5
      have HM5 := Lib.hid hM5
      have HR5 := Lib.hid hR5
      have HA5 := Lib.hid hap5
      have HB5 := Lib.hid (HW.out w5 hB5)
      clear hM5 hR5 hap5 hB5 t0 t1 t2 t3
      go_wp2
      go_ret2
      exact ⟨_, V, u, rfl, HM5.out.lower (by omega), HR5.out.lower (by simp; omega), HA5.out, sstep BW.out HB5.out⟩

set_option maxHeartbeats 1000000 in
set_option maxRecDepth 100000 in
theorem impl_sort_no (w : World) (J : Addr) (hj : Jam w J) (b p : Int) (a : Option Addr) (n c : Nat) (S : Nat → ByteArray) (h : Strs w a n S) (hf : SFits n S) (hn : n ≤ 1048576) (x : Int) (a2 : Option Addr) (m c2 : Nat) (I' : Nat → Int) (C : Nat → ByteArray) (h2 : Lts w a2 m I' C) (hf2 : Fits m I' C)
    (a3 : Option Addr) (m3 c3 : Nat) (I B : Nat → Int) (h3 : Mss w a3 m3 I B) (hf3 : MFits m3 I B) (hbad : ¬ (M.batch m I' C = true ∧ M.mis b p n S m3 I B = true)) :
    Calls Tryd.prog 56 #[mac b p (.slice a n c) x, .slice a2 m c2, .slice a3 m3 c3] w fun e w' => e = JamEnd J ∧ Below w.heap.size w w' := by
  have b0 := below_alloc0 w (.cells #[.int .i64 b, .int .i64 p, .slice a n c, .int .i64 x] 61)
  have HL := Lib.hid (h.on b0)
  have HL2 := Lib.hid (h2.on b0)
  have HL3 := Lib.hid (h3.on b0)
  have HJ := Lib.hid (hj.on b0)
  have mx := Lib.hid (mac_made w b p (.slice a n c) x 61)
  have B0 := Lib.hid b0
  have HF := Lib.hid hf
  have HF2 := Lib.hid hf2
  have HF3 := Lib.hid hf3
  clear h hf h2 hf2 h3 hf3 hj b0
  unfold mac
  obtain ⟨⟨t0, t1, t2, t3⟩, _⟩ := mx.out
  cases hb : M.batch m I' C
  · clear hbad
    go_enter Tryd.func56, Tryd.ntmps56
    go_wp2_with fail
    refine (impl_BatchValid _ a2 m c2 I' C HL2.out HF2.out).mono ?_
    rw [hb]
    rintro e w1 ⟨rfl, hb1⟩
    go_wp2_with fail
    refine (insist_no _ J (HJ.out.on hb1)).mono ?_
    rintro e w3 ⟨rfl, rfl⟩
    unfold JamEnd
    go_wp2
    exact ⟨rfl, rfl, sstep B0.out hb1⟩
  · have hmi : M.mis b p n S m3 I B = false := by
      cases hh : M.mis b p n S m3 I B
      · rfl
      · exact absurd ⟨hb, hh⟩ hbad
    have HB := Lib.hid hb
    have HMI := Lib.hid hmi
    clear hbad hb hmi
    go_enter Tryd.func56, Tryd.ntmps56
    go_wp2_with fail
    refine (impl_BatchValid _ a2 m c2 I' C HL2.out HF2.out).mono ?_
    rw [HB.out]
    rintro e w1 ⟨rfl, hb1⟩
    have mx1 := Lib.hid (mx.out.on hb1)
    have HL1 := Lib.hid (HL.out.on hb1)
    have HL31 := Lib.hid (HL3.out.on hb1)
    have HJ1 := Lib.hid (HJ.out.on hb1)
    have B1 := Lib.hid (sstep B0.out hb1)
    clear t0 t1 t2 t3 mx B0 hb1 HL HL2 HL3
    obtain ⟨⟨t0, t1, t2, t3⟩, _⟩ := mx1.out
    go_wp2_with fail
    refine (impl_MissortsValid _ b p a n c S HL1.out HF.out hn a3 m3 c3 I B HL31.out HF3.out).mono ?_
    rw [HMI.out]
    rintro e w2 ⟨rfl, hb2⟩
    go_wp2_with fail
    refine (insist_no _ J (HJ1.out.on hb2)).mono ?_
    rintro e w3 ⟨rfl, rfl⟩
    unfold JamEnd
    go_wp2
    exact ⟨rfl, rfl, sstep B1.out hb2⟩
end Go.Proofs.YtmjgblhihpbbdaaDoor
