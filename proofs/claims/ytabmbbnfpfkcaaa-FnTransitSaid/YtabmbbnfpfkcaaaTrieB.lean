/-
  What digitOf, put, trieOfAll and lookUp do to a trie.
-/
import Derived.Test.YtabmbbnfpfkcaaaTrie
import Derived.Test.YtabmbbnfpfkcaaaLookS
import Derived.Test.YtabmbbnfpfkcaaaRulW
namespace Go.Proofs.Ytabmbbnfpfkcaaa
open Go.RowKit Go.Lib
open Go.PlainAid (bt get_bt bt_nonneg bt_le)
set_option linter.unusedVariables false

set_option maxHeartbeats 400000 in
theorem impl_digitOf (r : Int) (h0 : 48 ≤ r) (h1 : r ≤ 57) (w : World) :
    Calls Try.prog 65 #[.int .i32 r] w fun e w' => e = .returned (.int .i64 (((r - 48).toNat : Nat) : Int)) ∧ w = w' := by
  have h2 : (((r - 48).toNat : Nat) : Int) = r - 48 := by omega
  have H2 := Lib.hid h2
  clear h2
  go_enter Try.func65, Try.ntmps65
  go_wp2
  go_ret
  exact ⟨ret_int H2.out.symm, rfl⟩

theorem dg_step {p : ByteArray} (hd : M.digs p = true) {k : Nat} (hk : k < p.size) : (bt p k - 48).toNat < 10 := by
  have := M.digs_bt hd k hk
  omega
theorem iterAt_only (w : World) (k : Nat) (s : ByteArray) (pos : Nat) : Only w (w.iterAt k s pos) (fun x => x = k) :=
  ⟨rfl, rfl, rfl, by simp [World.iterAt], fun i hi hn => by
    show (w.heap.setIfInBounds k (.stringIter s pos))[i]? = _
    rw [Array.getElem?_setIfInBounds_ne (fun e => hn e.symm)]⟩
/-- An iterator's block holds no cells. -/
theorem iter_ne {w : World} {G : Nat} {s : ByteArray} {pos : Nat} (hG : w.heap[G]? = some (.stringIter s pos)) {a : Addr} {v : Value} (hc : w.cell? a = some v) : a.block ≠ G := by
  intro e
  unfold World.cell? at hc
  rw [e, hG] at hc
  cases hc
theorem Trie.iter {w : World} {base : Nat} {nd : List Nat → Option Nat} {rl : List Nat → Option (Nat × ByteArray × ByteArray)} (h : Trie w base nd rl) {G : Nat} {s : ByteArray} {pos : Nat} (hG : w.heap[G]? = some (.stringIter s pos)) (pos' : Nat) : Trie (w.iterAt G s pos') base nd rl :=
  h.kept (iterAt_only w G s pos') (fun q b hb e => iter_ne hG (h.ruleOf hb) e) fun q x hx e => iter_ne hG (h.rule hx).2.1 e

/-- What lookUp returns of a trie. -/
def rlV (rl : List Nat → Option (Nat × ByteArray × ByteArray)) (c : ByteArray) : Option ByteArray := M.look (fun q => (rl q).map (·.2.2)) c c.size
set_option maxHeartbeats 2000000 in
set_option maxRecDepth 100000 in
theorem node_lookUp (w : World) (base : Nat) (nd : List Nat → Option Nat) (rl : List Nat → Option (Nat × ByteArray × ByteArray)) (h : Trie w base nd rl) (r : Nat) (hr : nd [] = some r) (c : ByteArray) (hc : M.digs c = true) :
    Calls Try.prog 38 #[.pointer (some ⟨r, 0, none⟩), .string c] w fun e w' => e = .returned (lkV (rlV rl c)) ∧ Below w.heap.size w w' := by
  have HT := Lib.hid h
  have HD := Lib.hid hc
  have hbt := get_bt c
  have r10 := h.ruleOf hr
  have hlr := (h.lt hr).2
  have HM := Lib.hid (M.look_map (·.2.2) rl c c.size)
  have h00 := Lib.hid (M.look_zero rl c)
  have NR := Lib.hid hr
  clear h hc hr
  go_enter Try.func38, Try.ntmps38
  go_wp2
  go_loopw [0, 6] (fun n rp wr => ∃ (k b : Nat), k ≤ c.size ∧ n = .pointer (some ⟨b, 0, none⟩) ∧ Hid (nd (M.dg c k) = some b) ∧ rp = ptrO ((M.look rl c k).map (·.1)) ∧ Hid (wr.heap[w.heap.size]? = some (.stringIter c k)) ∧ Hid (Below w.heap.size w wr)) (fun _ _ wr => c.size - wr.iterPos w.heap.size)
  case atStart => exact ⟨0, r, Nat.zero_le _, rfl, NR.out, rfl, World.iter_heap w c 0, below_alloc0 w _⟩
  case round =>
    obtain ⟨k, b, hk, rfl, hn, rfl, hit, hb⟩ := hrel
    have hz := hb.out.size
    have HTr := Lib.hid (HT.out.on hb.out)
    by_cases hlt : k < c.size
    · obtain ⟨d0, d1⟩ := M.digs_bt HD.out k hlt
      have ha : (c[k]'hlt).toNat < 128 := by have := hbt k hlt; omega
      have hnx := fun ty => run_next_ascii_at (P := Try.prog) wr w.heap.size c k ty hit.out hlt ha
      rw [hbt k hlt] at hnx
      have HDG := Lib.hid (impl_digitOf (bt c k) d0 d1)
      have hD10 := dg_step HD.out hlt
      have HS := Lib.hid (M.dg_succ c k)
      obtain ⟨D, hD⟩ : ∃ D, (bt c k - 48).toNat = D := ⟨_, rfl⟩
      rw [hD] at HDG hD10 HS
      obtain ⟨W1, hW1⟩ : ∃ W1, wr.iterAt w.heap.size c (k + 1) = W1 := ⟨_, rfl⟩
      have HT1 : Hid (Trie W1 base nd rl) := hW1 ▸ HTr.out.iter hit.out (k + 1)
      have IT1 : Hid (W1.heap[w.heap.size]? = some (.stringIter c (k + 1))) := hW1 ▸ iterAt_heap wr _ c k (k + 1) hit.out
      have BL1 : Hid (Below w.heap.size w W1) := hW1 ▸ hb.out.trans ((iterAt_only wr w.heap.size c (k + 1)).below (fun x hx _ e => by omega) hz)
      have c1 := HT1.out.down hn.out hD10
      rw [← HS.out] at c1
      rw [hW1] at hnx
      have hDi : (D : Int) < 10 := by omega
      have hD0 : (0 : Int) ≤ (D : Int) := by omega
      clear ha hD hW1 hbt d0 d1
      cases hd : nd (M.dg c (k + 1)) with
      | none =>
        have HEND := Lib.hid (fun (j : Nat) (hj : k < j) => (by
          obtain ⟨q, hq⟩ := M.dg_more c (show k + 1 ≤ j by omega)
          rw [hq]; exact (HT.out.end_rl hd q).2 : rl (M.dg c j) = none))
        have HV : Hid (rlV rl c = (M.look rl c k).map (·.2.2)) := by
          unfold Hid rlV
          rw [HM.out, M.look_stay hk fun j h1 _ => HEND.out j h1]
        rw [hd] at c1
        change _ = some (Value.pointer none) at c1
        cases hro : M.look rl c k with
        | none =>
          rw [hro] at HV
          rw [show ptrO (Option.map (fun x : Nat × ByteArray × ByteArray => x.1) none) = Value.pointer none from rfl]
          clear hd hro HEND
          go_wp2
          go_quiet ((go_at_call 65; exact Calls.quiet_of_same (quiet_flip (HDG.out _))))
          go_wp2
          go_ret2
          exact ⟨by rw [HV.out]; rfl, below_drewN0 BL1.out _⟩
        | some x =>
          obtain ⟨q, hq, hx⟩ := M.look_is hro
          obtain ⟨_, e0, e1⟩ := HT1.out.rule hx
          rw [hro] at HV
          rw [show ptrO (Option.map (fun x : Nat × ByteArray × ByteArray => x.1) (some x)) = Value.pointer (some ⟨x.1, 0, none⟩) from rfl]
          clear hd hro HEND hx e0
          go_wp2
          go_quiet ((go_at_call 65; exact Calls.quiet_of_same (quiet_flip (HDG.out _))))
          go_wp2
          go_ret2
          exact ⟨by rw [HV.out]; rfl, below_drewN0 BL1.out _⟩
      | some b' =>
        have NB := Lib.hid hd
        have e10 := HT1.out.ruleOf hd
        rw [hd] at c1
        change _ = some (Value.pointer (some ⟨b', 0, none⟩)) at c1
        clear hd
        obtain ⟨rp, hrp⟩ : ∃ rp, ptrO (Option.map (fun x : Nat × ByteArray × ByteArray => x.1) (M.look rl c k)) = rp := ⟨_, rfl⟩
        rw [hrp]
        have HRP := Lib.hid hrp
        clear hrp
        cases hrq : rl (M.dg c (k + 1)) with
        | none =>
          have HLK := Lib.hid (M.look_miss hrq)
          rw [hrq] at e10
          change _ = some (Value.pointer none) at e10
          clear hrq
          go_wp2
          go_quiet ((go_at_call 65; exact Calls.quiet_of_same (quiet_flip (HDG.out _))))
          go_wp2
          go_roundw
          case rel => exact ⟨k + 1, b', by omega, rfl, NB.out, by rw [HLK.out, HRP.out], IT1.out, below_drewN0 BL1.out _⟩
          case measure => rw [iterPos_of hit.out, (fun q => iterPos_of (w := W1.drewN q) IT1.out : ∀ q, (W1.drewN q).iterPos w.heap.size = k + 1)]; omega
        | some x =>
          have HLK := Lib.hid (M.look_hit (R := rl) hrq)
          rw [hrq] at e10
          change _ = some (Value.pointer (some ⟨x.1, 0, none⟩)) at e10
          clear hrq
          go_wp2
          go_quiet ((go_at_call 65; exact Calls.quiet_of_same (quiet_flip (HDG.out _))))
          go_wp2
          go_roundw
          case rel => exact ⟨k + 1, b', by omega, rfl, NB.out, by rw [HLK.out]; rfl, IT1.out, below_drewN0 BL1.out _⟩
          case measure => rw [iterPos_of hit.out, (fun q => iterPos_of (w := W1.drewN q) IT1.out : ∀ q, (W1.drewN q).iterPos w.heap.size = k + 1)]; omega
    · obtain rfl : k = c.size := by omega
      have hnx := fun ty => run_next_end_at (P := Try.prog) wr w.heap.size c c.size ty hit.out (by omega)
      have HV : Hid (rlV rl c = (M.look rl c c.size).map (·.2.2)) := HM.out
      clear hbt
      cases hro : M.look rl c c.size with
      | none =>
        rw [hro] at HV
        rw [show ptrO (Option.map (fun x : Nat × ByteArray × ByteArray => x.1) none) = Value.pointer none from rfl]
        clear hro
        go_wp2
        go_ret2
        exact ⟨by rw [HV.out]; rfl, hb.out⟩
      | some x =>
        obtain ⟨q, hq, hx⟩ := M.look_is hro
        obtain ⟨_, e0, e1⟩ := HTr.out.rule hx
        rw [hro] at HV
        rw [show ptrO (Option.map (fun x : Nat × ByteArray × ByteArray => x.1) (some x)) = Value.pointer (some ⟨x.1, 0, none⟩) from rfl]
        clear hro hx e0
        go_wp2
        go_ret2
        exact ⟨by rw [HV.out]; rfl, hb.out⟩
end Go.Proofs.Ytabmbbnfpfkcaaa

/-
  A rule is put into a trie; the trie of some rules.
-/
namespace Go.Proofs.Ytabmbbnfpfkcaaa
open Go.RowKit Go.Lib
open Go.PlainAid (bt get_bt bt_nonneg bt_le)
set_option linter.unusedVariables false

theorem grow_only (W : World) (o : Obj) (b D : Nat) (v : Value) (hb : b < W.heap.size) : Only W ((W.setCell ⟨b, D, none⟩ v).alloc o) (fun x => x = b) := by
  rw [← World.setCell_alloc_past o b D v hb]
  exact (Only.new (S := fun x => x = b) (below_alloc0 W o)).trans (Only.set _ ⟨b, D, none⟩ v (S := fun x => x = b) rfl) fun _ _ h => h
/-- What put leaves behind. -/
def Put (w w' : World) (base r : Nat) (rl : List Nat → Option (Nat × ByteArray × ByteArray)) : Prop :=
  ∃ nd, Trie w' base nd rl ∧ nd [] = some r ∧ Below base w w' ∧ w.heap.size ≤ w'.heap.size
set_option maxHeartbeats 2000000 in
set_option maxRecDepth 100000 in
theorem node_put (w : World) (base : Nat) (nd : List Nat → Option Nat) (rl : List Nat → Option (Nat × ByteArray × ByteArray)) (h : Trie w base nd rl) (hbase : base ≤ w.heap.size) (r : Nat) (hr : nd [] = some r) (R : Nat) (p x : ByteArray) (hp : M.digs p = true)
    (hR : base ≤ R) (hn : ∀ q b, nd q = some b → R ≠ b) (c0 : w.cell? ⟨R, 0, none⟩ = some (.string p)) (c1 : w.cell? ⟨R, 1, none⟩ = some (.string x)) :
    Calls Try.prog 79 #[.pointer (some ⟨r, 0, none⟩), .pointer (some ⟨R, 0, none⟩)] w fun e w' => e = .returned (.tuple #[]) ∧ Put w w' base r (setW rl (M.dgs p) (R, p, x)) := by
  have HT := Lib.hid h
  have HD := Lib.hid hp
  have hbt := get_bt p
  have HN := Lib.hid hn
  have HC1 := Lib.hid c1
  have NR := Lib.hid hr
  have lR := World.block_lt_of_cell? _ _ c0
  have HC0 := Lib.hid c0
  clear h hp hr hn c1
  go_enter Try.func79, Try.ntmps79
  go_wp2
  go_loopw [0] (fun n wr => ∃ (k b : Nat) (ndk : List Nat → Option Nat), k ≤ p.size ∧ n = .pointer (some ⟨b, 0, none⟩) ∧ Hid (ndk (M.dg p k) = some b) ∧ Hid (ndk [] = some r) ∧ Hid (Trie wr base ndk rl) ∧ Hid (∀ q b, ndk q = some b → R ≠ b) ∧ Hid (wr.cell? ⟨R, 0, none⟩ = some (.string p) ∧ wr.cell? ⟨R, 1, none⟩ = some (.string x)) ∧ Hid (wr.heap[w.heap.size]? = some (.stringIter p k)) ∧ Hid (Below base w wr) ∧ w.heap.size < wr.heap.size) (fun _ wr => p.size - wr.iterPos w.heap.size)
  case atStart =>
    have hb := below_alloc0 w (.stringIter p 0)
    exact ⟨0, r, nd, Nat.zero_le _, rfl, NR.out, NR.out, HT.out.on hb, HN.out, ⟨(hb.cell (p := ⟨R, 0, none⟩) lR).trans HC0.out, (hb.cell (p := ⟨R, 1, none⟩) lR).trans HC1.out⟩, World.iter_heap w p 0, (Below.refl _ _).alloc hbase _, by show w.heap.size < (w.heap.push _).size; rw [Array.size_push]; omega⟩
  case round =>
    obtain ⟨k, b, ndk, hk, rfl, hnb, hnr, htr, hne, hrc, hit, hb, hz⟩ := hrel
    by_cases hlt : k < p.size
    · obtain ⟨d0, d1⟩ := M.digs_bt HD.out k hlt
      have ha : (p[k]'hlt).toNat < 128 := by have := hbt k hlt; omega
      have hnx := fun ty => run_next_ascii_at (P := Try.prog) wr w.heap.size p k ty hit.out hlt ha
      rw [hbt k hlt] at hnx
      have HDG := Lib.hid (impl_digitOf (bt p k) d0 d1)
      have hD10 := dg_step HD.out hlt
      have HS := Lib.hid (M.dg_succ p k)
      obtain ⟨D, hD⟩ : ∃ D, (bt p k - 48).toNat = D := ⟨_, rfl⟩
      rw [hD] at HDG hD10 HS
      obtain ⟨W1, hW1⟩ : ∃ W1, wr.iterAt w.heap.size p (k + 1) = W1 := ⟨_, rfl⟩
      have honly := iterAt_only wr w.heap.size p (k + 1)
      have HT1 : Hid (Trie W1 base ndk rl) := hW1 ▸ htr.out.iter hit.out (k + 1)
      have IT1 : Hid (W1.heap[w.heap.size]? = some (.stringIter p (k + 1))) := hW1 ▸ iterAt_heap wr _ p k (k + 1) hit.out
      have BL1 : Hid (Below base w W1) := hW1 ▸ hb.out.trans (honly.below (fun x hx _ e => by omega) (by omega))
      have RC1 : Hid (W1.cell? ⟨R, 0, none⟩ = some (.string p) ∧ W1.cell? ⟨R, 1, none⟩ = some (.string x)) := by
        have e := honly.block R (World.block_lt_of_cell? _ _ hrc.out.1) (iter_ne hit.out hrc.out.1)
        rw [hW1] at e
        exact ⟨(World.cell?_of_block e).trans hrc.out.1, (World.cell?_of_block e).trans hrc.out.2⟩
      have hz1 : w.heap.size < W1.heap.size := by have := honly.size; rw [hW1] at this; omega
      have e1 := HT1.out.down hnb.out hD10
      have f1 := HT1.out.frozen hnb.out D
      rw [← HS.out] at e1
      rw [hW1] at hnx
      have hDi : (D : Int) < 10 := by omega
      have hD0 : (0 : Int) ≤ (D : Int) := by omega
      clear ha hD hW1 hbt d0 d1 honly htr hb hrc
      cases hd : ndk (M.dg p (k + 1)) with
      | none =>
        rw [hd] at e1
        change _ = some (Value.pointer none) at e1
        have HG := (HT1.out.grow (by have := hz1; omega) hnb.out hD10 (HS.out ▸ hd) (c := #[.pointer none, .pointer none, .pointer none, .pointer none, .pointer none, .pointer none, .pointer none, .pointer none, .pointer none, .pointer none, .pointer none]) rfl)
        have hlb := (HT1.out.lt hnb.out).2
        rw [World.setCell_alloc_past _ b D _ hlb] at HG
        have HG := Lib.hid HG
        have hbb := (HT1.out.lt hnb.out).1
        clear hd
        go_wp2_with (go_at_call 65; refine (HDG.out _).mono ?_; rintro e w1 ⟨rfl, rfl⟩)
        go_roundw
        case rel =>
          have hg := grow_only W1 (.cells #[.pointer none, .pointer none, .pointer none, .pointer none, .pointer none, .pointer none, .pointer none, .pointer none, .pointer none, .pointer none, .pointer none] 93) b D (.pointer (some ⟨W1.heap.size, 0, none⟩)) hlb
          have lR1 := World.block_lt_of_cell? _ _ RC1.out.1
          have hRb : R ≠ b := hne.out _ b hnb.out
          have hGb : b ≠ w.heap.size := iter_ne IT1.out e1
          have eR := hg.block R lR1 hRb
          refine ⟨k + 1, W1.heap.size, setW ndk (M.dg p k ++ [D]) W1.heap.size, by omega, rfl, ?_, ?_, HG.out, ?_, ?_, ?_, ?_, ?_⟩
          · show setW _ _ _ _ = _
            rw [HS.out]; exact setW_same _ _ _
          · show setW _ _ _ _ = _
            rw [setW_other _ _ (by simp)]; exact hnr.out
          · intro q b' hq
            by_cases e : q = M.dg p k ++ [D]
            · subst e
              rw [setW_same] at hq
              have := Option.some.inj hq
              have : R < W1.heap.size := lR1
              omega
            · rw [setW_other _ _ e] at hq
              exact hne.out q b' hq
          · exact ⟨(World.cell?_of_block eR).trans RC1.out.1, (World.cell?_of_block eR).trans RC1.out.2⟩
          · exact (hg.block _ hz1 (fun e => hGb e.symm)).trans IT1.out
          · exact BL1.out.trans (hg.below (fun x hx _ e => by omega) (by omega))
          · have := hg.size
            omega
        case measure =>
          have hg := grow_only W1 (.cells #[.pointer none, .pointer none, .pointer none, .pointer none, .pointer none, .pointer none, .pointer none, .pointer none, .pointer none, .pointer none, .pointer none] 93) b D (.pointer (some ⟨W1.heap.size, 0, none⟩)) hlb
          have hGb : b ≠ w.heap.size := iter_ne IT1.out e1
          rw [iterPos_of hit.out, iterPos_of ((hg.block _ hz1 (fun e => hGb e.symm)).trans IT1.out)]
          omega
      | some b' =>
        rw [hd] at e1
        change _ = some (Value.pointer (some ⟨b', 0, none⟩)) at e1
        have NB := Lib.hid hd
        clear hd
        go_wp2_with (go_at_call 65; refine (HDG.out _).mono ?_; rintro e w1 ⟨rfl, rfl⟩)
        go_roundw
        case rel => exact ⟨k + 1, b', ndk, by omega, rfl, NB.out, hnr.out, HT1.out, hne.out, RC1.out, IT1.out, BL1.out, hz1⟩
        case measure => rw [iterPos_of hit.out, iterPos_of IT1.out]; omega
    · obtain rfl : k = p.size := by omega
      have hnx := fun ty => run_next_end_at (P := Try.prog) wr w.heap.size p p.size ty hit.out (by omega)
      have HP := Lib.hid (htr.out.put (p := p) (x := x) hnb.out hR hne.out hrc.out.1 hrc.out.2)
      have f1 := htr.out.frozen hnb.out 10
      have e1 := htr.out.ruleOf hnb.out
      have hbb := (htr.out.lt hnb.out).1
      clear hbt
      go_wp2
      go_end0
      exact ⟨rfl, ndk, HP.out, hnr.out, hb.out.setCell hbb _, by simp; omega⟩

theorem two_cells (W : World) (R : Nat) (ty : TypeId) (s t : ByteArray) (h : R = W.heap.size) : (W.alloc (.cells #[.string s, .string t] ty)).cell? ⟨R, 0, none⟩ = some (.string s) ∧ (W.alloc (.cells #[.string s, .string t] ty)).cell? ⟨R, 1, none⟩ = some (.string t) := by
  subst h
  exact ⟨by simp, by simp⟩
/-- A trie of the first n rules, its root in the block r. -/
def TrieOf (w : World) (base r n : Nat) (F T : Nat → ByteArray) : Prop :=
  ∃ nd rl, Trie w base nd rl ∧ nd [] = some r ∧ ∀ q, (rl q).map (·.2.2) = M.ruleAt F T n q
theorem TrieOf.on {w w' : World} {base r n : Nat} {F T : Nat → ByteArray} (h : TrieOf w base r n F T) (hb : Below w.heap.size w w') : TrieOf w' base r n F T := by
  obtain ⟨nd, rl, h1, h2⟩ := h
  exact ⟨nd, rl, h1.on hb, h2⟩
set_option maxHeartbeats 2000000 in
set_option maxRecDepth 100000 in
theorem impl_trieOfAll (w : World) (a : Option Addr) (n c : Nat) (F T : Nat → ByteArray) (h : Fws w a n F T) (hd : ∀ i, i < n → M.digs (F i) = true) (hn : n ≤ 1048576) :
    Calls Try.prog 64 #[.slice a n c] w fun e w' => ∃ r, e = .returned (.pointer (some ⟨r, 0, none⟩)) ∧ TrieOf w' w.heap.size r n F T ∧ Below w.heap.size w w' := by
  have HL := Lib.hid h
  have HD := Lib.hid hd
  clear h hd
  have HR := Lib.hid (Trie.root (w := w) (base := w.heap.size) (Nat.le_refl _) (c := #[.pointer none, .pointer none, .pointer none, .pointer none, .pointer none, .pointer none, .pointer none, .pointer none, .pointer none, .pointer none, .pointer none]) rfl)
  go_enter Try.func64, Try.ntmps64
  go_wp2
  go_loopw [10] (fun i wr => ∃ k : Nat, k ≤ n ∧ i = .int .i64 k ∧ Hid (TrieOf wr w.heap.size w.heap.size k F T) ∧ Hid (Below w.heap.size w wr)) (fun i _ => n - (intOf i).toNat)
  case atStart => exact ⟨0, Nat.zero_le _, rfl, ⟨_, _, HR.out, setW_same _ _ _, fun q => rfl⟩, below_alloc0 w _⟩
  case round =>
    obtain ⟨k, hk, rfl, htr, hb⟩ := hrel
    have hz := hb.out.size
    by_cases hlt : k < n
    · obtain ⟨b, o, rfl, c0, c1⟩ := (HL.out.on hb.out) k hlt
      obtain ⟨nd, rl, ht, hr, hq⟩ := htr.out
      have hB := (below_alloc0 wr (.cells #[.string (F k), .string (T k)] 31))
      have hB2 := sstep hB (below_alloc0 (wr.alloc (.cells #[.string (F k), .string (T k)] 31)) (.cells #[.string (F k), .string (T k)] 98))
      have HP := Lib.hid (node_put ((wr.alloc (.cells #[.string (F k), .string (T k)] 31)).alloc (.cells #[.string (F k), .string (T k)] 98)) w.heap.size nd rl (ht.on hB2) (by simp; omega) w.heap.size hr (wr.heap.size + 1) (F k) (T k) (HD.out k hlt) (by omega)
        (fun q b' hb' e => by have := (ht.lt hb').2; omega) (two_cells _ _ _ (F k) (T k) (by simp)).1 (two_cells _ _ _ (F k) (T k) (by simp)).2)
      have HQ := Lib.hid hq
      have HB2 := Lib.hid (hb.out.trans (hB2.mono hz))
      clear ht hr hq hB hB2 htr
      go_wp2_with (go_at_call 79; refine HP.out.mono ?_; rintro e w1 ⟨rfl, nd1, ht1, hr1, hb1, hz1⟩)
      go_roundw
      case rel => exact ⟨k + 1, by omega, by go_num, ⟨nd1, _, ht1, hr1, fun q => by
        rw [M.ruleAt_succ]
        by_cases e : q = M.dgs (F k)
        · subst e; rw [setW_same, if_pos rfl]; rfl
        · rw [setW_other _ _ e, if_neg (fun e2 => e e2.symm)]; exact HQ.out q⟩, HB2.out.trans hb1⟩
      case measure => simp [intOf]; omega
    · obtain rfl : k = n := by omega
      go_wp2
      go_ret
      exact ⟨_, rfl, htr.out, hb.out⟩
end Go.Proofs.Ytabmbbnfpfkcaaa
