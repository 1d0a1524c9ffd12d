/-
  A rule is put into a trie; the trie of some rules.
-/
import Derived.Test.YtkbebpadbdhnhaaTrie2
import Derived.Test.YtkbebpadbdhnhaaRulV3
namespace Go.Proofs.Ytkbebpadbdhnhaa
open Go.RowKit Go.Lib
open Go.PlainAid (bt get_bt bt_nonneg bt_le)
set_option linter.unusedVariables false

theorem grow_only (W : World) (o : Obj) (b D : Nat) (v : Value) (hb : b < W.heap.size) : Only W ((W.setCell ⟨b, D, none⟩ v).alloc o) (fun x => x = b) := by
  rw [← World.setCell_alloc_past o b D v hb]
  exact (Only.new (S := fun x => x = b) (below_alloc0 W o)).trans (Only.set _ ⟨b, D, none⟩ v (S := fun x => x = b) rfl) fun _ _ h => h
/-- What put leaves behind. -/
def Put (w w' : World) (base r : Nat) (rl : List Nat → Option (Nat × ByteArray × ByteArray)) : Prop :=
  ∃ nd, Trie w' base nd rl ∧ nd [] = some r ∧ Below base w w' ∧ w.heap.size ≤ w'.heap.size
set_option maxHeartbeats 2000000 in
set_option maxRecDepth 100000 in
theorem node_put (w : World) (base : Nat) (nd : List Nat → Option Nat) (rl : List Nat → Option (Nat × ByteArray × ByteArray)) (h : Trie w base nd rl) (hbase : base ≤ w.heap.size) (r : Nat) (hr : nd [] = some r) (R : Nat) (p x : ByteArray) (hp : M.digs p = true)
    (hR : base ≤ R) (hn : ∀ q b, nd q = some b → R ≠ b) (c0 : w.cell? ⟨R, 0, none⟩ = some (.string p)) (c1 : w.cell? ⟨R, 1, none⟩ = some (.string x)) :
    Calls Try.prog 45 #[.pointer (some ⟨r, 0, none⟩), .pointer (some ⟨R, 0, none⟩)] w fun e w' => e = .returned (.tuple #[]) ∧ Put w w' base r (setW rl (M.dgs p) (R, p, x)) := by
  have HT := Lib.hid h
  have HD := Lib.hid hp
  have hbt := get_bt p
  have HN := Lib.hid hn
  have HC1 := Lib.hid c1
  have NR := Lib.hid hr
  have lR := World.block_lt_of_cell? _ _ c0
  have HC0 := Lib.hid c0
  clear h hp hr hn c1
  go_enter Try.func45, Try.ntmps45
  go_wp2
  go_loopw [0] (fun n wr => ∃ (k b : Nat) (ndk : List Nat → Option Nat), k ≤ p.size ∧ n = .pointer (some ⟨b, 0, none⟩) ∧ Hid (ndk (M.dg p k) = some b) ∧ Hid (ndk [] = some r) ∧ Hid (Trie wr base ndk rl) ∧ Hid (∀ q b, ndk q = some b → R ≠ b) ∧ Hid (wr.cell? ⟨R, 0, none⟩ = some (.string p) ∧ wr.cell? ⟨R, 1, none⟩ = some (.string x)) ∧ Hid (wr.heap[w.heap.size]? = some (.stringIter p k)) ∧ Hid (Below base w wr) ∧ w.heap.size < wr.heap.size) (fun _ wr => p.size - wr.iterPos w.heap.size)
  case atStart =>
    have hb := below_alloc0 w (.stringIter p 0)
    exact ⟨0, r, nd, Nat.zero_le _, rfl, NR.out, NR.out, HT.out.on hb, HN.out, ⟨(hb.cell (p := ⟨R, 0, none⟩) lR).trans HC0.out, (hb.cell (p := ⟨R, 1, none⟩) lR).trans HC1.out⟩, World.iter_heap w p 0, (Below.refl _ _).alloc hbase _, by show w.heap.size < (w.heap.push _).size; rw [Array.size_push]; omega⟩
  case round =>
    obtain ⟨k, b, ndk, hk, rfl, hnb, hnr, htr, hne, hrc, hit, hb, hz⟩ := hrel
    by_cases hlt : k < p.size
    · obtain ⟨d0, d1⟩ := M.digs_bt HD.out k hlt
      have ha : (p[k]'hlt).toNat < 128 := by have := hbt k hlt; omega
      have hnx := fun ty => run_next_ascii_at (P := Try.prog) wr w.heap.size p k ty hit.out hlt ha
      rw [hbt k hlt] at hnx
      have HDG := Lib.hid (impl_digitOf (bt p k) d0 d1)
      have hD10 := dg_step HD.out hlt
      have HS := Lib.hid (M.dg_succ p k)
      obtain ⟨D, hD⟩ : ∃ D, (bt p k - 48).toNat = D := ⟨_, rfl⟩
      rw [hD] at HDG hD10 HS
      obtain ⟨W1, hW1⟩ : ∃ W1, wr.iterAt w.heap.size p (k + 1) = W1 := ⟨_, rfl⟩
      have honly := iterAt_only wr w.heap.size p (k + 1)
      have HT1 : Hid (Trie W1 base ndk rl) := hW1 ▸ htr.out.iter hit.out (k + 1)
      have IT1 : Hid (W1.heap[w.heap.size]? = some (.stringIter p (k + 1))) := hW1 ▸ iterAt_heap wr _ p k (k + 1) hit.out
      have BL1 : Hid (Below base w W1) := hW1 ▸ hb.out.trans (honly.below (fun x hx _ e => by omega) (by omega))
      have RC1 : Hid (W1.cell? ⟨R, 0, none⟩ = some (.string p) ∧ W1.cell? ⟨R, 1, none⟩ = some (.string x)) := by
        have e := honly.block R (World.block_lt_of_cell? _ _ hrc.out.1) (iter_ne hit.out hrc.out.1)
        rw [hW1] at e
        exact ⟨(World.cell?_of_block e).trans hrc.out.1, (World.cell?_of_block e).trans hrc.out.2⟩
      have hz1 : w.heap.size < W1.heap.size := by have := honly.size; rw [hW1] at this; omega
      have e1 := HT1.out.down hnb.out hD10
      have f1 := HT1.out.frozen hnb.out D
      rw [← HS.out] at e1
      rw [hW1] at hnx
      have hDi : (D : Int) < 10 := by omega
      have hD0 : (0 : Int) ≤ (D : Int) := by omega
      clear ha hD hW1 hbt d0 d1 honly htr hb hrc
      cases hd : ndk (M.dg p (k + 1)) with
      | none =>
        rw [hd] at e1
        change _ = some (Value.pointer none) at e1
        have HG := (HT1.out.grow (by have := hz1; omega) hnb.out hD10 (HS.out ▸ hd) (c := #[.pointer none, .pointer none, .pointer none, .pointer none, .pointer none, .pointer none, .pointer none, .pointer none, .pointer none, .pointer none, .pointer none]) rfl)
        have hlb := (HT1.out.lt hnb.out).2
        rw [World.setCell_alloc_past _ b D _ hlb] at HG
        have HG := Lib.hid HG
        have hbb := (HT1.out.lt hnb.out).1
        clear hd
        go_wp2_with (go_at_call 43; refine (HDG.out _).mono ?_; rintro e w1 ⟨rfl, rfl⟩)
        go_roundw
        case rel =>
          have hg := grow_only W1 (.cells #[.pointer none, .pointer none, .pointer none, .pointer none, .pointer none, .pointer none, .pointer none, .pointer none, .pointer none, .pointer none, .pointer none] 70) b D (.pointer (some ⟨W1.heap.size, 0, none⟩)) hlb
          have lR1 := World.block_lt_of_cell? _ _ RC1.out.1
          have hRb : R ≠ b := hne.out _ b hnb.out
          have hGb : b ≠ w.heap.size := iter_ne IT1.out e1
          have eR := hg.block R lR1 hRb
          refine ⟨k + 1, W1.heap.size, setW ndk (M.dg p k ++ [D]) W1.heap.size, by omega, rfl, ?_, ?_, HG.out, ?_, ?_, ?_, ?_, ?_⟩
          · show setW _ _ _ _ = _
            rw [HS.out]; exact setW_same _ _ _
          · show setW _ _ _ _ = _
            rw [setW_other _ _ (by simp)]; exact hnr.out
          · intro q b' hq
            by_cases e : q = M.dg p k ++ [D]
            · subst e
              rw [setW_same] at hq
              have := Option.some.inj hq
              have : R < W1.heap.size := lR1
              omega
            · rw [setW_other _ _ e] at hq
              exact hne.out q b' hq
          · exact ⟨(World.cell?_of_block eR).trans RC1.out.1, (World.cell?_of_block eR).trans RC1.out.2⟩
          · exact (hg.block _ hz1 (fun e => hGb e.symm)).trans IT1.out
          · exact BL1.out.trans (hg.below (fun x hx _ e => by omega) (by omega))
          · have := hg.size
            omega
        case measure =>
          have hg := grow_only W1 (.cells #[.pointer none, .pointer none, .pointer none, .pointer none, .pointer none, .pointer none, .pointer none, .pointer none, .pointer none, .pointer none, .pointer none] 70) b D (.pointer (some ⟨W1.heap.size, 0, none⟩)) hlb
          have hGb : b ≠ w.heap.size := iter_ne IT1.out e1
          rw [iterPos_of hit.out, iterPos_of ((hg.block _ hz1 (fun e => hGb e.symm)).trans IT1.out)]
          omega
      | some b' =>
        rw [hd] at e1
        change _ = some (Value.pointer (some ⟨b', 0, none⟩)) at e1
        have NB := Lib.hid hd
        clear hd
        go_wp2_with (go_at_call 43; refine (HDG.out _).mono ?_; rintro e w1 ⟨rfl, rfl⟩)
        go_roundw
        case rel => exact ⟨k + 1, b', ndk, by omega, rfl, NB.out, hnr.out, HT1.out, hne.out, RC1.out, IT1.out, BL1.out, hz1⟩
        case measure => rw [iterPos_of hit.out, iterPos_of IT1.out]; omega
    · obtain rfl : k = p.size := by omega
      have hnx := fun ty => run_next_end_at (P := Try.prog) wr w.heap.size p p.size ty hit.out (by omega)
      have HP := Lib.hid (htr.out.put (p := p) (x := x) hnb.out hR hne.out hrc.out.1 hrc.out.2)
      have f1 := htr.out.frozen hnb.out 10
      have e1 := htr.out.ruleOf hnb.out
      have hbb := (htr.out.lt hnb.out).1
      clear hbt
      go_wp2
      go_end0
      exact ⟨rfl, ndk, HP.out, hnr.out, hb.out.setCell hbb _, by simp; omega⟩

theorem two_cells (W : World) (R : Nat) (ty : TypeId) (s t : ByteArray) (h : R = W.heap.size) : (W.alloc (.cells #[.string s, .string t] ty)).cell? ⟨R, 0, none⟩ = some (.string s) ∧ (W.alloc (.cells #[.string s, .string t] ty)).cell? ⟨R, 1, none⟩ = some (.string t) := by
  subst h
  exact ⟨by simp, by simp⟩
/-- A trie of the first n rules, its root in the block r. -/
def TrieOf (w : World) (base r n : Nat) (F T : Nat → ByteArray) : Prop :=
  ∃ nd rl, Trie w base nd rl ∧ nd [] = some r ∧ ∀ q, (rl q).map (·.2.2) = M.ruleAt F T n q
theorem TrieOf.on {w w' : World} {base r n : Nat} {F T : Nat → ByteArray} (h : TrieOf w base r n F T) (hb : Below w.heap.size w w') : TrieOf w' base r n F T := by
  obtain ⟨nd, rl, h1, h2⟩ := h
  exact ⟨nd, rl, h1.on hb, h2⟩
set_option maxHeartbeats 2000000 in
set_option maxRecDepth 100000 in
theorem impl_trieOfAll (w : World) (a : Option Addr) (n c : Nat) (F T : Nat → ByteArray) (h : Fws w a n F T) (hd : ∀ i, i < n → M.digs (F i) = true) (hn : n ≤ 1048576) :
    Calls Try.prog 42 #[.slice a n c] w fun e w' => ∃ r, e = .returned (.pointer (some ⟨r, 0, none⟩)) ∧ TrieOf w' w.heap.size r n F T ∧ Below w.heap.size w w' := by
  have HL := Lib.hid h
  have HD := Lib.hid hd
  clear h hd
  have HR := Lib.hid (Trie.root (w := w) (base := w.heap.size) (Nat.le_refl _) (c := #[.pointer none, .pointer none, .pointer none, .pointer none, .pointer none, .pointer none, .pointer none, .pointer none, .pointer none, .pointer none, .pointer none]) rfl)
  go_enter Try.func42, Try.ntmps42
  go_wp2
  go_loopw [10] (fun i wr => ∃ k : Nat, k ≤ n ∧ i = .int .i64 k ∧ Hid (TrieOf wr w.heap.size w.heap.size k F T) ∧ Hid (Below w.heap.size w wr)) (fun i _ => n - (intOf i).toNat)
  case atStart => exact ⟨0, Nat.zero_le _, rfl, ⟨_, _, HR.out, setW_same _ _ _, fun q => rfl⟩, below_alloc0 w _⟩
  case round =>
    obtain ⟨k, hk, rfl, htr, hb⟩ := hrel
    have hz := hb.out.size
    by_cases hlt : k < n
    · obtain ⟨b, o, rfl, c0, c1⟩ := (HL.out.on hb.out) k hlt
      obtain ⟨nd, rl, ht, hr, hq⟩ := htr.out
      have hB := (below_alloc0 wr (.cells #[.string (F k), .string (T k)] 44))
      have hB2 := sstep hB (below_alloc0 (wr.alloc (.cells #[.string (F k), .string (T k)] 44)) (.cells #[.string (F k), .string (T k)] 75))
      have HP := Lib.hid (node_put ((wr.alloc (.cells #[.string (F k), .string (T k)] 44)).alloc (.cells #[.string (F k), .string (T k)] 75)) w.heap.size nd rl (ht.on hB2) (by simp; omega) w.heap.size hr (wr.heap.size + 1) (F k) (T k) (HD.out k hlt) (by omega)
        (fun q b' hb' e => by have := (ht.lt hb').2; omega) (two_cells _ _ _ (F k) (T k) (by simp)).1 (two_cells _ _ _ (F k) (T k) (by simp)).2)
      have HQ := Lib.hid hq
      have HB2 := Lib.hid (hb.out.trans (hB2.mono hz))
      clear ht hr hq hB hB2 htr
      go_wp2_with (go_at_call 45; refine HP.out.mono ?_; rintro e w1 ⟨rfl, nd1, ht1, hr1, hb1, hz1⟩)
      go_roundw
      case rel => exact ⟨k + 1, by omega, by go_num, ⟨nd1, _, ht1, hr1, fun q => by
        rw [M.ruleAt_succ]
        by_cases e : q = M.dgs (F k)
        · subst e; rw [setW_same, if_pos rfl]; rfl
        · rw [setW_other _ _ e, if_neg (fun e2 => e e2.symm)]; exact HQ.out q⟩, HB2.out.trans hb1⟩
      case measure => simp [intOf]; omega
    · obtain rfl : k = n := by omega
      go_wp2
      go_ret
      exact ⟨_, rfl, htr.out, hb.out⟩
end Go.Proofs.Ytkbebpadbdhnhaa
