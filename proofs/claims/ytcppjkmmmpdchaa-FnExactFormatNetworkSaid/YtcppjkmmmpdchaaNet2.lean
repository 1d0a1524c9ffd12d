/-
  Offices in memory: their copy, whether two lists of them agree; offices that came in.
-/
import Derived.Test.YtcppjkmmmpdchaaNet
import Derived.Test.YtcppjkmmmpdchaaRulOpen
import Derived.Deep.SlicePairs
import Derived.Deep.Slices
namespace Go.Proofs.Ytcppjkmmmpdchaa
open Go.ChangeShapes Go.WideShapes Go.ChangeAt Go.RowKit
open Go.PlainAid (bt get_bt bt_nonneg bt_le)
set_option linter.unusedVariables false

theorem RRow.set {w : World} {base : Nat} {v : Value} {L : List (ByteArray × ByteArray)} (h : RRow w base v L) {p : Addr} (hne : ∀ b, v.ownBlock = some b → b ≠ p.block) (u : Value) : RRow (w.setCell p u) base v L :=
  h.only (S := fun k => k = p.block) (Only.set w p u rfl) fun b hb e => hne b hb e
set_option maxHeartbeats 2000000 in
set_option maxRecDepth 100000 in
theorem toOffice_any (w : World) (s : ByteArray) (a : Option Addr) (L : List (ByteArray × ByteArray)) (c : Nat) (h : Fws w a L.length (nF L) (nT L)) (hn : L.length ≤ 1048576) :
    Calls Try.prog 35 #[.agg #[.string s, .slice a L.length c]] w fun e w' => ∃ b, e = .returned (.agg #[.string s, .slice (some ⟨b, 0, none⟩) L.length L.length]) ∧ w.heap.size ≤ b ∧ RRow w' w.heap.size (.slice (some ⟨b, 0, none⟩) L.length L.length) L ∧ Below w.heap.size w w' := by
  have HL := Lib.hid h
  clear h
  go_enter Try.func35, Try.ntmps35
  go_wp2_with fail
  refine (toRuleS_row _ a L.length c _ _ (HL.out.on (by go_grown)) hn).mono ?_
  rintro e w1 ⟨b1, rfl, q1, k1⟩
  rw [flst_nI] at q1
  have hz1 := k1.size
  simp at hz1
  have hlt := (q1.lt b1 rfl).1
  simp at hlt
  have d0 : w1.cell? ⟨w.heap.size + 1, 0, none⟩ = some (.string ⟨#[]⟩) := (k1.cell (p := ⟨w.heap.size + 1, 0, none⟩) (by simp)).trans (by simp [go_sem])
  have d1 : w1.cell? ⟨w.heap.size + 1, 1, none⟩ = some (.slice none 0 0) := (k1.cell (p := ⟨w.heap.size + 1, 1, none⟩) (by simp)).trans (by simp [go_sem])
  have e0 : w1.cell? ⟨w.heap.size + 1 + 1, 0, none⟩ = some (.string s) := (k1.cell (p := ⟨w.heap.size + 1 + 1, 0, none⟩) (by simp)).trans (by simp [go_sem])
  have e1 : w1.cell? ⟨w.heap.size + 1 + 1, 1, none⟩ = some (.slice none 0 0) := (k1.cell (p := ⟨w.heap.size + 1 + 1, 1, none⟩) (by simp)).trans (by simp [go_sem])
  have g0 : w1.frozen? ⟨w.heap.size + 1, 0, none⟩ = false := (k1.frozen (p := ⟨w.heap.size + 1, 0, none⟩) (by simp)).trans (by simp [go_sem])
  have g1 : w1.frozen? ⟨w.heap.size + 1, 1, none⟩ = false := (k1.frozen (p := ⟨w.heap.size + 1, 1, none⟩) (by simp)).trans (by simp [go_sem])
  have g2 : w1.frozen? ⟨w.heap.size + 1 + 1, 1, none⟩ = false := (k1.frozen (p := ⟨w.heap.size + 1 + 1, 1, none⟩) (by simp)).trans (by simp [go_sem])
  have Q1 := Lib.hid (q1.lower (show w.heap.size ≤ _ by simp; omega))
  have BB : Hid (Below w.heap.size w w1) := Below.trans (by go_grown) (k1.mono (by simp; omega))
  have hlt2 : w.heap.size + 1 + 1 < b1 := by omega
  have hlt3 : w.heap.size + 1 < b1 := by omega
  clear q1 k1 hlt
  have r0 : ((((w1.setCell ⟨w.heap.size + 1 + 1, 1, none⟩ (.slice (some ⟨b1, 0, none⟩) L.length L.length)).setCell ⟨w.heap.size + 1, 0, none⟩ (.string s)).setCell ⟨w.heap.size + 1, 1, none⟩ (.slice (some ⟨b1, 0, none⟩) L.length L.length))).cell? ⟨w.heap.size + 1, 0, none⟩ = some (.string s) := by
    rw [World.cell?_setCell_other _ _ _ _ (by simp)]
    exact World.cell?_setCell_same _ _ _ ((World.cell?_setCell_other _ _ _ _ (by simp)).trans d0)
  have r1 : ((((w1.setCell ⟨w.heap.size + 1 + 1, 1, none⟩ (.slice (some ⟨b1, 0, none⟩) L.length L.length)).setCell ⟨w.heap.size + 1, 0, none⟩ (.string s)).setCell ⟨w.heap.size + 1, 1, none⟩ (.slice (some ⟨b1, 0, none⟩) L.length L.length))).cell? ⟨w.heap.size + 1, 1, none⟩ = some (.slice (some ⟨b1, 0, none⟩) L.length L.length) :=
    World.cell?_setCell_same _ _ _ ((World.cell?_setCell_other _ _ _ _ (by simp)).trans ((World.cell?_setCell_other _ _ _ _ (by simp)).trans d1))
  have q0 : ((w1.setCell ⟨w.heap.size + 1 + 1, 1, none⟩ (.slice (some ⟨b1, 0, none⟩) L.length L.length))).cell? ⟨w.heap.size + 1 + 1, 1, none⟩ = some (.slice (some ⟨b1, 0, none⟩) L.length L.length) := World.cell?_setCell_same _ _ _ e1
  have p0 : ((w1.setCell ⟨w.heap.size + 1 + 1, 1, none⟩ (.slice (some ⟨b1, 0, none⟩) L.length L.length))).cell? ⟨w.heap.size + 1 + 1, 0, none⟩ = some (.string s) := (World.cell?_setCell_other _ _ _ _ (by simp)).trans e0
  go_wp2
  refine bodyPost_ret (v := .agg #[.string s, .slice (some ⟨b1, 0, none⟩) L.length L.length]) (by simp [results, Try.results35, go_sem, r0, r1]) rfl ?_
  refine ⟨b1, rfl, by omega, ?_, ?_⟩
  · have := Q1.out
    exact ((this.set (by rintro b ⟨rfl⟩ e; simp at e; omega) _).set (by rintro b ⟨rfl⟩ e; simp at e; omega) _).set (by rintro b ⟨rfl⟩ e; simp at e; omega) _
  · exact ((BB.out.setCell (by simp; omega) _).setCell (by simp) _).setCell (by simp) _

/-- A row of cells that holds offices, nobody's but the call's: their rules lie in blocks of their own, one for each. -/
def ONet (w : World) (base b n : Nat) (NM : Nat → ByteArray) (RL : Nat → List (ByteArray × ByteArray)) (m : Nat) : Prop :=
  ∃ (f : Nat → Value) (G : Nat → Nat), w.rowIs b 65 (m * 2) f ∧ (∀ i, i < n → f (i * 2) = .string (NM i) ∧ f (i * 2 + 1) = .slice (some ⟨G i, 0, none⟩) (RL i).length (RL i).length ∧ b ≠ G i ∧ RRow w base (.slice (some ⟨G i, 0, none⟩) (RL i).length (RL i).length) (RL i)) ∧ ∀ i j, i < j → j < n → G i ≠ G j
theorem ONet.nts {w : World} {base b n m : Nat} {NM : Nat → ByteArray} {RL : Nat → List (ByteArray × ByteArray)} (h : ONet w base b n NM RL m) (hm : n ≤ m) : Nts w (some ⟨b, 0, none⟩) n NM RL := by
  obtain ⟨f, G, hr, hf, _⟩ := h
  intro i hi
  obtain ⟨h1, h2, _, h3⟩ := hf i hi
  obtain ⟨a4, c4, hv4, _, hw4⟩ := h3.form
  refine ⟨b, 0, some ⟨G i, 0, none⟩, (RL i).length, rfl, ?_, ?_, ?_⟩
  · rw [Nat.zero_add, ← h1]; exact hr.cell (by omega)
  · rw [Nat.zero_add, ← h2]; exact hr.cell (by omega)
  · injection hv4 with e1 _ _
    rw [e1]; exact hw4
theorem make_offices (n : Nat) (hn : n ≤ 1048576) (w : World) :
    (Instr.makeSlice 39 (.int .i64 (n : Int)) (.int .i64 (n : Int))).run Try.prog w = .ok (.slice (some ⟨w.heap.size, 0, none⟩) n n) (w.alloc (.cells (madeCells #[.string ⟨#[]⟩, .slice none 0 0] (n * 2)) 65)) := by
  have hinfo : (Try.prog.info? 65).map (fun i => (i.zero, i.size, i.bytes)) = some (some (.agg #[.string ⟨#[]⟩, .slice none 0 0]), 2, 40) := by kernel_rfl
  obtain ⟨i, hi, hzz⟩ := Option.map_eq_some_iff.1 hinfo
  simp only [Prod.mk.injEq] at hzz
  obtain ⟨hz, hs, hb⟩ := hzz
  have hr := run_make (P := Try.prog) w 39 65 i _ Try.underlying39 hi hz .i64 .i64 n n (by omega) (Int.le_refl _) (by rw [hb]; omega) (by omega)
  simp only [Int.toNat_natCast, hs] at hr
  exact hr
theorem oown_made (w : World) (n : Nat) : ∃ f, (w.alloc (.cells (madeCells #[.string ⟨#[]⟩, .slice none 0 0] (n * 2)) 65)).rowIs w.heap.size 65 (n * 2) f := by
  refine ⟨fun j => (madeCells #[.string ⟨#[]⟩, .slice none 0 0] (n * 2)).getD j undef, ?_⟩
  have := World.rowIs_alloc w (madeCells #[.string ⟨#[]⟩, .slice none 0 0] (n * 2)) 65 (fun j => (madeCells #[.string ⟨#[]⟩, .slice none 0 0] (n * 2)).getD j undef) (fun i hi => by simp [Array.getD, hi])
  rwa [size_madeCells] at this
/-- One office more is laid. -/
theorem ONet.step {w w1 : World} {base b k m g : Nat} {NM : Nat → ByteArray} {RL : Nat → List (ByteArray × ByteArray)} (h : ONet w base b k NM RL m) (hb : Below w.heap.size w w1) (hk : k < m) (hg : w.heap.size ≤ g) (hr : RRow w1 base (.slice (some ⟨g, 0, none⟩) (RL k).length (RL k).length) (RL k)) :
    ONet ((w1.setCell ⟨b, k * 2, none⟩ (.string (NM k))).setCell ⟨b, k * 2 + 1, none⟩ (.slice (some ⟨g, 0, none⟩) (RL k).length (RL k).length)) base b (k + 1) NM RL m := by
  obtain ⟨f, G, hrow, hf, hd⟩ := h
  have hlt := hrow.lt
  have hr1 := hrow.of_block (hb.block _ hlt)
  refine ⟨_, fun i => if i = k then g else G i, (hr1.set (k * 2) (.string (NM k))).set (k * 2 + 1) (.slice (some ⟨g, 0, none⟩) (RL k).length (RL k).length), fun i hi => ?_, fun i j hij hj => ?_⟩
  · by_cases e : i = k
    · subst e
      refine ⟨?_, ?_, ?_, ?_⟩
      · show (if i * 2 = i * 2 + 1 then _ else if i * 2 = i * 2 then _ else _) = _
        rw [if_neg (by omega), if_pos rfl]
      · show (if i * 2 + 1 = i * 2 + 1 then _ else _) = _
        rw [if_pos rfl]
        show _ = Value.slice (some ⟨if i = i then g else G i, 0, none⟩) _ _
        rw [if_pos rfl]
      · show b ≠ if i = i then g else _
        rw [if_pos rfl]; omega
      · show RRow _ _ (.slice (some ⟨if i = i then g else _, 0, none⟩) _ _) _
        rw [if_pos rfl]
        exact (hr.set (by rintro b' ⟨rfl⟩ e; have : g = b := e; omega) _).set (by rintro b' ⟨rfl⟩ e; have : g = b := e; omega) _
    · obtain ⟨h1, h2, h3, h4⟩ := hf i (by omega)
      refine ⟨?_, ?_, ?_, ?_⟩
      · show (if i * 2 = k * 2 + 1 then _ else if i * 2 = k * 2 then _ else _) = _
        rw [if_neg (by omega), if_neg (by omega)]; exact h1
      · show (if i * 2 + 1 = k * 2 + 1 then _ else if i * 2 + 1 = k * 2 then _ else _) = _
        rw [if_neg (by omega), if_neg (by omega)]
        show _ = Value.slice (some ⟨if i = k then g else G i, 0, none⟩) _ _
        rw [if_neg e]; exact h2
      · show b ≠ if i = k then g else _
        rw [if_neg e]; exact h3
      · show RRow _ _ (.slice (some ⟨if i = k then g else _, 0, none⟩) _ _) _
        rw [if_neg e]
        exact ((h4.on hb).set (by rintro b' ⟨rfl⟩ e; exact h3 e.symm) _).set (by rintro b' ⟨rfl⟩ e; exact h3 e.symm) _
  · show (if i = k then g else G i) ≠ if j = k then g else G j
    rw [if_neg (by omega)]
    by_cases e : j = k
    · rw [if_pos e]
      obtain ⟨_, _, _, h4⟩ := hf i (by omega)
      have : G i < w.heap.size := (h4.lt _ rfl).2
      omega
    · rw [if_neg e]; exact hd i j hij (by omega)
set_option maxHeartbeats 2000000 in
set_option maxRecDepth 100000 in
theorem toOfficeS_any (w : World) (a : Option Addr) (n c : Nat) (NM : Nat → ByteArray) (RL : Nat → List (ByteArray × ByteArray)) (h : Nts w a n NM RL) (hn : n ≤ 1048576) (hl : ∀ i, i < n → (RL i).length ≤ 1048576) :
    Calls Try.prog 18 #[.slice a n c] w fun e w' => ∃ b, e = .returned (.slice (some ⟨b, 0, none⟩) n n) ∧ w.heap.size ≤ b ∧ ONet w' w.heap.size b n NM RL n ∧ Below w.heap.size w w' := by
  have HL := Lib.hid h
  have HLN := Lib.hid hl
  clear h hl
  have hmk := make_offices n hn
  obtain ⟨f0, hf0⟩ := oown_made w n
  have HF0 := Lib.hid hf0
  have hb0 := Lib.hid (below_alloc0 w (.cells (madeCells #[.string ⟨#[]⟩, .slice none 0 0] (n * 2)) 65))
  clear hf0
  go_enter Try.func18, Try.ntmps18
  go_wp2
  go_loopw [4] (fun i wr => ∃ (k : Nat), k ≤ n ∧ i = .int .i64 k ∧ Hid (ONet wr w.heap.size w.heap.size k NM RL n) ∧ Hid (Below w.heap.size w wr)) (fun i _ => n - (intOf i).toNat)
  case atStart => exact ⟨0, Nat.zero_le _, rfl, ⟨f0, fun _ => 0, HF0.out, fun j hj => absurd hj (by omega), fun i j _ hj => absurd hj (by omega)⟩, hb0⟩
  case round =>
    obtain ⟨k, hk, rfl, hnet, hb⟩ := hrel
    have hz := hb.out.size
    by_cases hlt : k < n
    · obtain ⟨b, o, a', c', rfl, c0, c1, h2⟩ := (HL.out.on hb.out) k hlt
      have H2 := Lib.hid h2
      have hll := HLN.out k hlt
      clear h2
      go_wp2_with fail
      refine (toOffice_any wr (NM k) a' (RL k) c' H2.out hll).mono ?_
      rintro e w1 ⟨g, rfl, hg, r1, hb1⟩
      have HS := Lib.hid (hnet.out.step hb1 hlt hg (r1.lower hz))
      have K1 := Lib.hid (sstep hb.out hb1)
      have hcell : ∃ u v, w1.cell? ⟨w.heap.size, k * 2, none⟩ = some u ∧ w1.cell? ⟨w.heap.size, k * 2 + 1, none⟩ = some v ∧ w1.frozen? ⟨w.heap.size, k * 2, none⟩ = false ∧ w1.frozen? ⟨w.heap.size, k * 2 + 1, none⟩ = false := by
        obtain ⟨f, G, hrow, _⟩ := hnet.out
        have hr1 := hrow.of_block (hb1.block _ hrow.lt)
        exact ⟨_, _, hr1.cell (by omega), hr1.cell (by omega), hr1.frozen _, hr1.frozen _⟩
      obtain ⟨u, v, d0, d1, g0, g1⟩ := hcell
      clear r1 hb1 hnet
      go_wp2
      go_roundw
      case rel => exact ⟨k + 1, by omega, by go_num, HS, (K1.out.setCell (Nat.le_refl _) _).setCell (Nat.le_refl _) _⟩
      case measure => simp [intOf]; omega
    · obtain rfl : k = n := by omega
      go_wp2
      go_ret
      exact ⟨_, rfl, Nat.le_refl _, hnet.out, hb.out⟩
set_option maxHeartbeats 1000000 in
set_option maxRecDepth 100000 in
theorem eqOfficeS_same (w : World) (a a' : Option Addr) (n c c' : Nat) (NM : Nat → ByteArray) (RL : Nat → List (ByteArray × ByteArray)) (h : Nts w a n NM RL) (h' : Nts w a' n NM RL) (hn : n ≤ 1048576) (hl : ∀ i, i < n → (RL i).length ≤ 1048576) :
    Calls Try.prog 20 #[.slice a n c, .slice a' n c'] w fun e w' => e = .returned (.bool true) ∧ Below w.heap.size w w' := by
  have HL := Lib.hid h
  have HL' := Lib.hid h'
  have HLN := Lib.hid hl
  clear h h' hl
  go_enter Try.func20, Try.ntmps20
  go_wp2
  go_loopw [5] (fun i wr => ∃ k : Nat, k ≤ n ∧ i = .int .i64 k ∧ Hid (Below w.heap.size w wr)) (fun i _ => n - (intOf i).toNat)
  case atStart => exact ⟨0, Nat.zero_le _, rfl, Below.refl _ _⟩
  case round =>
    obtain ⟨k, hk, rfl, hb⟩ := hrel
    by_cases hlt : k < n
    · obtain ⟨b, o, x, d, rfl, c0, c1, h2⟩ := (HL.out.on hb.out) k hlt
      obtain ⟨b', o', x', d', rfl, c0', c1', h2'⟩ := (HL'.out.on hb.out) k hlt
      have HX := Lib.hid (fun W (hW : Below wr.heap.size wr W) => eqOffice_same W (NM k) x x' (RL k) d d' (h2.on hW) (h2'.on hW) (HLN.out k hlt))
      have DR : Hid (Below wr.heap.size wr wr.drew) := (Below.refl _ _).drew
      clear h2 h2'
      go_wp2
      go_region_with (go_at_call 38; refine (HX.out _ DR.out).mono ?_; rintro e w1 ⟨rfl, hb1⟩)
      all_goals
        have K1 := Lib.hid (sstep (sstep hb.out DR.out) hb1)
        clear hb1
        go_wp2
        exact ⟨⟨k + 1, by omega, by go_num, K1⟩, by simp [intOf]; omega⟩
    · obtain rfl : k = n := by omega
      go_wp2
      go_ret
      exact ⟨rfl, hb.out⟩
theorem trod_rules {H : Type} {enc : TypeId × Value → H} {W : World} {base : Nat} {sp : Nat → Bool} {held : Bool} {fuel : Nat} {v : Value} {x : DataW H × List MemPlace}
    (h : DataW.trod enc Try.prog W base sp held fuel 29 [v] = some x) : ∃ a c L, v = .slice a (List.length L) c ∧ Fws W a L.length (nF L) (nT L) ∧ FFits L.length (nF L) (nT L) ∧ L.length ≤ maxLen := by
  obtain ⟨a, n, c, rfl⟩ : ∃ a n c, v = .slice a n c := by
    rcases Deep.open_slice_pairs Try.underlying29 Try.underlying55 (by kernel_rfl) rfl rfl (by kernel_rfl) (by kernel_rfl) h with ⟨hcs, _⟩ | ⟨a', len, cap, m, k, V0, V1, D0, D1, P0, P1, hcs, _⟩
    · exact ⟨_, _, _, List.singleton_inj.1 hcs⟩
    · exact ⟨_, _, _, List.singleton_inj.1 hcs⟩
  obtain ⟨I, C, h1, h2, h3⟩ := open_rules h
  have hl : (M.flst I C n).length = n := M.flst_length I C n
  refine ⟨a, c, M.flst I C n, by rw [hl], ?_, ?_, by rw [hl]; exact h3⟩
  · rw [hl]; exact h1.congr fun i hi => ⟨(flst_at hi).1.symm, (flst_at hi).2.symm⟩
  · rw [hl]; intro i hi; rw [(flst_at hi).1, (flst_at hi).2]; exact h2 i hi
theorem open_offices {H : Type} {enc : TypeId × Value → H} {W : World} {base : Nat} {sp : Nat → Bool} {held : Bool} {fuel : Nat} {a : Option Addr} {n c : Nat} {x : DataW H × List MemPlace}
    (h : DataW.trod enc Try.prog W base sp held fuel 36 [.slice a n c] = some x) : ∃ NM RL, Nts W a n NM RL ∧ NFits n NM RL ∧ n ≤ maxLen := by
  rcases Deep.open_slice_pairs Try.underlying36 Try.underlying62 (by kernel_rfl) rfl rfl (by kernel_rfl) (by kernel_rfl) h with ⟨hcs, _⟩ | ⟨a', len, cap, m, k, V0, V1, D0, D1, P0, P1, hcs, _, hl, hm, hmm, _, hx⟩
  · simp at hcs
    obtain ⟨rfl, rfl, rfl⟩ := hcs
    exact ⟨fun _ => ⟨#[]⟩, fun _ => [], fun i hi => absurd hi (by omega), fun i hi => absurd hi (by omega), Nat.zero_le _⟩
  · simp at hcs
    obtain ⟨rfl, rfl, rfl⟩ := hcs
    have hnm : n ≤ m := by rw [hmm]; split <;> omega
    obtain ⟨RL, hRL⟩ := Deep.choose_lt (α := List (ByteArray × ByteArray)) (n := n) (p := fun i L => ∃ b c, V1 i = .slice b L.length c ∧ Fws W b L.length (nF L) (nT L) ∧ FFits L.length (nF L) (nT L) ∧ L.length ≤ maxLen) (fun i hi => by
      obtain ⟨a1, c1, L, e, h1, h2, h3⟩ := trod_rules (hx i (by omega)).2.2.2
      exact ⟨L, a1, c1, e, h1, h2, h3⟩)
    by_cases hn0 : n = 0
    · exact ⟨fun _ => ⟨#[]⟩, fun _ => [], fun i hi => absurd hi (by omega), fun i hi => absurd hi (by omega), by omega⟩
    obtain ⟨b, o, sp'⟩ := a'
    have hspot : sp' = none := by simpa [Addr.add] using World.cell?_spot (hx 0 (by omega)).1
    subst hspot
    refine ⟨fun i => match V0 i with | .string s => s | _ => ⟨#[]⟩, RL, fun i hi => ?_, fun i hi => ?_, by omega⟩
    · obtain ⟨c0, c1, t0, t1⟩ := hx i (by omega)
      obtain ⟨y, ey, _, _⟩ := DataW.trod_string Try.underlying9 t0
      have e0 := List.singleton_inj.1 ey
      obtain ⟨b1, c2, e, h1, h2, h3⟩ := hRL i hi
      rw [add_plain] at c0 c1
      refine ⟨b, o, b1, c2, rfl, ?_, ?_, h1⟩
      · show W.cell? ⟨b, o + i * 2, none⟩ = some (Value.string (match V0 i with | .string s => s | _ => ⟨#[]⟩))
        rw [c0, e0]
      · show W.cell? ⟨b, o + (i * 2 + 1), none⟩ = _
        rw [c1, e]
    · obtain ⟨c0, c1, t0, t1⟩ := hx i (by omega)
      obtain ⟨y, ey, _, wy⟩ := DataW.trod_string Try.underlying9 t0
      have e0 := List.singleton_inj.1 ey
      obtain ⟨b1, c2, e, h1, h2, h3⟩ := hRL i hi
      simp only [e0]
      exact ⟨wy, h2, h3⟩
end Go.Proofs.Ytcppjkmmmpdchaa
