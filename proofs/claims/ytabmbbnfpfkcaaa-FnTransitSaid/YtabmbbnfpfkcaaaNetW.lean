/-
  Whether offices are a network, in the program.
-/
import Derived.Test.YtabmbbnfpfkcaaaNetV
import Derived.Test.YtabmbbnfpfkcaaaDelFM
namespace Go.Proofs.Ytabmbbnfpfkcaaa
open Go.RowKit Go.Maps
open Go.PlainAid (bt get_bt bt_nonneg bt_le)
set_option linter.unusedVariables false

/-- The names that are known: first the word for the office itself. -/
def knows (NM : Nat → ByteArray) : Nat → ByteArray := fun i => if i = 0 then M.here else NM (i - 1)
theorem knows_succ (NM : Nat → ByteArray) (i : Nat) : knows NM (i + 1) = NM i := rfl
theorem knows_has {NM : Nat → ByteArray} {k : Nat} {x : ByteArray} : M.leads NM k x = true ↔ ∃ j, j < k + 1 ∧ knows NM j = x := by
  rw [M.leads_iff]
  constructor
  · rintro (h | ⟨i, hi, h⟩)
    · exact ⟨0, by omega, h.symm⟩
    · exact ⟨i + 1, by omega, h⟩
  · rintro ⟨j, hj, h⟩
    cases j with
    | zero => exact Or.inl h.symm
    | succ j => exact Or.inr ⟨j, by omega, h⟩
set_option maxHeartbeats 1000000 in
set_option maxRecDepth 100000 in
theorem rindex_away (w : World) (a : Option Addr) (L : List (ByteArray × ByteArray)) (c : Nat) (h : Fws w a L.length (nF L) (nT L)) (hn : L.length ≤ 1048576) (B : Nat) (d : ByteArray × ByteArray → Bool) (Cl : World → Prop) (hcl : Cl w) (hst : ∀ W W', Cl W → Below W.heap.size W W' → Cl W')
    (hC : ∀ W p, p ∈ L → Cl W → Calls Try.prog 82 #[.agg #[.string p.1, .string p.2], .pointer (some ⟨B, 0, none⟩)] W fun e w' => e = .returned (.bool (d p)) ∧ Below W.heap.size W w') :
    Calls Try.prog 72 #[.slice a L.length c, .func (.func 82) #[] #[.pointer (some ⟨B, 0, none⟩)]] w fun e w' => e = .returned (.int .i64 (M.firstF d L)) ∧ Below w.heap.size w w' := by
  have HL := Lib.hid h
  have HCC := Lib.hid hC
  have HST := Lib.hid hst
  have HCL := Lib.hid hcl
  obtain ⟨N, hN⟩ : ∃ N, L.length = N := ⟨_, rfl⟩
  have HN := Lib.hid hN
  rw [hN] at hn HL ⊢
  clear h hC hst hcl hN
  go_enter Try.func72, Try.ntmps72
  go_wp2
  go_loopw [8] (fun i wr => ∃ k : Nat, k ≤ N ∧ i = .int .i64 k ∧ Hid (∀ j (hj : j < L.length), j < k → d L[j] = false) ∧ Below w.heap.size w wr) (fun i _ => N - (intOf i).toNat)
  case atStart => exact ⟨0, Nat.zero_le _, rfl, fun j _ hj => absurd hj (by omega), Below.refl _ _⟩
  case round =>
    obtain ⟨k, hk, rfl, hall, hb⟩ := hrel
    by_cases hlt : k < N
    · obtain ⟨b, o, rfl, c0, c1⟩ := (HL.out.on hb) k hlt
      have hkL : k < L.length := by rw [HN.out]; exact hlt
      rw [nF_at hkL] at c0
      rw [nT_at hkL] at c1
      have hmem := List.getElem_mem hkL
      have HLK := Lib.hid (show L[k]'hkL = L[k]'hkL from rfl)
      have HCALL : Hid (∀ W : World, Cl W → Calls Try.prog 82 #[.agg #[.string (L[k]'hkL).1, .string (L[k]'hkL).2], .pointer (some ⟨B, 0, none⟩)] W fun e w' => e = .returned (.bool (d (L[k]'hkL))) ∧ Below W.heap.size W w') := fun W hW => HCC.out W _ hmem hW
      have CLX : Hid (Cl wr) := HST.out _ _ HCL.out hb
      have HYES : Hid (d (L[k]'hkL) = true → M.firstF d L = (k : Int)) := fun he => M.firstF_hit hkL he hall.out
      have HNO : Hid (d (L[k]'hkL) = false → ∀ j (hj : j < L.length), j < k + 1 → d L[j] = false) := fun he j hj hjk => by
        by_cases e : j = k
        · subst e; exact he
        · exact hall.out j hj (by omega)
      clear hmem HLK
      generalize L[k]'hkL = P at *
      obtain ⟨f, t⟩ := P
      simp only at c0 c1
      cases he : d (f, t)
      · rw [he] at HCALL
        have HN2 := Lib.hid (HNO.out he)
        clear he HYES HNO
        go_wp2_with (go_at_call 82; refine (HCALL.out _ CLX.out).mono ?_; rintro e w1 ⟨rfl, hb1⟩)
        go_roundw
        case rel => exact ⟨k + 1, by omega, by go_num, HN2, sstep hb hb1⟩
        case measure => simp [intOf]; omega
      · rw [he] at HCALL
        have HE := Lib.hid (HYES.out he)
        clear he HYES HNO
        go_wp2_with (go_at_call 82; refine (HCALL.out _ CLX.out).mono ?_; rintro e w1 ⟨rfl, hb1⟩)
        go_ret
        exact ⟨by rw [HE.out]; rfl, sstep hb hb1⟩
    · obtain rfl : k = N := by omega
      have HE := Lib.hid (M.firstF_miss (d := d) (L := L) fun j hj => hall.out j hj (by rw [← HN.out]; exact hj))
      go_wp2
      go_ret
      exact ⟨by rw [HE.out]; rfl, hb⟩

theorem M.firstF_any (d : ByteArray × ByteArray → Bool) (L : List (ByteArray × ByteArray)) : decide (0 ≤ M.firstF d L) = L.any d := by
  rcases M.firstF_cases d L with ⟨h1, h2⟩ | ⟨i, hi, h1, _, h2⟩
  · rw [h1]
    have : L.any d = false := by
      rw [List.any_eq_false]
      intro p hp
      obtain ⟨j, hj, rfl⟩ := List.getElem_of_mem hp
      rw [h2 j hj]; decide
    rw [this]; rfl
  · rw [h2, decide_eq_true (by omega)]
    exact (List.any_eq_true.2 ⟨_, List.getElem_mem hi, h1⟩).symm
theorem OwnSeenS.lt {w : World} {b k : Nat} {S : Nat → ByteArray} (h : OwnSeenS w b S k) : b < w.heap.size := World.ownsMap.lt h
theorem seen_leads {W : World} {mb n : Nat} {NM : Nat → ByteArray} (hO : OwnSeenS W mb (knows NM) (n + 1)) {x : ByteArray} (hx : x.size ≤ maxLen) : (Instr.lookup 68 (.map (some mb)) (.string x) false).run Try.prog W = .ok (.bool (M.leads NM n x)) W := by
  cases h : M.leads NM n x
  · exact OwnSeenS.look hO hx (SeenS.miss (knows NM) x (n + 1) fun j hj e => by rw [knows_has.2 ⟨j, hj, e⟩] at h; cases h)
  · obtain ⟨j, hj, e⟩ := knows_has.1 h
    exact OwnSeenS.look hO hx (by rw [← e]; exact SeenS.hit (knows NM) (n + 1) j hj)
set_option maxHeartbeats 1000000 in
theorem away_it (w : World) (B mb n : Nat) (NM : Nat → ByteArray) (hB : w.cell? ⟨B, 0, none⟩ = some (.map (some mb))) (hO : OwnSeenS w mb (knows NM) (n + 1)) (f t : ByteArray) (ht : t.size ≤ maxLen) :
    Calls Try.prog 82 #[.agg #[.string f, .string t], .pointer (some ⟨B, 0, none⟩)] w fun e w' => e = .returned (.bool (!M.leads NM n t)) ∧ Below w.heap.size w w' := by
  have hlB := World.block_lt_of_cell? _ _ hB
  have hlk := seen_leads (OwnSeenS.on hO (below_alloc0 w (.cells #[.string f, .string t] 31))) ht
  obtain ⟨y, hy⟩ : ∃ y, M.leads NM n t = y := ⟨_, rfl⟩
  rw [hy] at hlk ⊢
  clear hO ht hy
  go_enter Try.func82, Try.ntmps82
  go_wp2
  go_ret
  exact ⟨rfl, below_alloc0 w _⟩
set_option maxHeartbeats 1000000 in
theorem contains_away (w : World) (a : Option Addr) (L : List (ByteArray × ByteArray)) (c : Nat) (h : Fws w a L.length (nF L) (nT L)) (hf : FFits L.length (nF L) (nT L)) (hn : L.length ≤ 1048576) (B mb n : Nat) (NM : Nat → ByteArray) (hB : w.cell? ⟨B, 0, none⟩ = some (.map (some mb))) (hO : OwnSeenS w mb (knows NM) (n + 1)) :
    Calls Try.prog 83 #[.slice a L.length c, .func (.func 82) #[] #[.pointer (some ⟨B, 0, none⟩)]] w fun e w' => e = .returned (.bool (L.any fun p => !M.leads NM n p.2)) ∧ Below w.heap.size w w' := by
  have HX := Lib.hid (rindex_away w a L c h hn B (fun p => !M.leads NM n p.2) (fun W => W.cell? ⟨B, 0, none⟩ = some (.map (some mb)) ∧ OwnSeenS W mb (knows NM) (n + 1)) ⟨hB, hO⟩
    (fun W W' ⟨h1, h2⟩ hb => ⟨(hb.cell (p := ⟨B, 0, none⟩) (World.block_lt_of_cell? _ _ h1)).trans h1, OwnSeenS.on h2 hb⟩)
    (fun W p hp ⟨h1, h2⟩ => away_it W B mb n NM h1 h2 p.1 p.2 (by
      obtain ⟨i, hi, rfl⟩ := List.getElem_of_mem hp
      have := (hf i hi).2
      rw [nT_at hi] at this
      exact this)))
  have HA := Lib.hid (M.firstF_any (fun p => !M.leads NM n p.2) L)
  obtain ⟨r, hr⟩ : ∃ r, M.firstF (fun p => !M.leads NM n p.2) L = r := ⟨_, rfl⟩
  rw [hr] at HX HA
  clear h hf hB hO hr
  go_enter Try.func83, Try.ntmps83
  go_wp2_with (go_at_call 72; refine HX.out.mono ?_; rintro e w1 ⟨rfl, hb1⟩)
  go_ret
  exact ⟨ret_bool HA.out, hb1⟩
set_option maxHeartbeats 2000000 in
set_option maxRecDepth 100000 in
theorem impl_NetworkValid (w : World) (a : Option Addr) (n c : Nat) (NM : Nat → ByteArray) (RL : Nat → List (ByteArray × ByteArray)) (h : Nts w a n NM RL) (hf : NFits n NM RL) (hn : n ≤ 1048576) :
    Calls Try.prog 74 #[.slice a n c] w fun e w' => e = .returned (.bool (M.net n NM RL)) ∧ Below w.heap.size w w' := by
  have hmf : ∀ (fn : Fn) (first cap : Array Value) (w : World), (Instr.makeFunc fn first cap).run Try.prog w = .ok (.func fn first cap) w := fun _ _ _ _ => rfl
  have hmm := @run_makeMap Try.prog
  have HL := Lib.hid h
  have HF := Lib.hid hf
  clear h hf
  by_cases h0 : n = 0
  · subst h0
    have hv := Lib.hid (M.net_size (n := 0) (NM := NM) (RL := RL) (by omega))
    clear HL HF
    go_enter Try.func74, Try.ntmps74
    go_wp2
    go_ret
    exact ⟨ret_bool hv.out.symm, Below.refl _ _⟩
  have hz0 : ((n : Int) == 0) = false := by rw [beq_eq_false_iff_ne]; omega
  by_cases h8 : 8 < n
  · have hv := Lib.hid (M.net_size (n := n) (NM := NM) (RL := RL) (by omega))
    clear HL HF
    go_enter Try.func74, Try.ntmps74
    go_wp2
    go_ret
    exact ⟨ret_bool hv.out.symm, Below.refl _ _⟩
  have hkey0 : keyOf Try.prog 9 (.string ⟨#[104, 101, 114, 101]⟩) = some (.string M.here.data.toList) := WideMaps.keyOf_string_mk Try.underlying9 (by show (4 : Nat) ≤ maxLen; unfold maxLen; omega)
  have h8' : ¬ (8 : Int) < (n : Int) := by omega
  obtain ⟨w1, hins, hown1, hg1⟩ := (World.ownsMap_made (H := Unit) w Try.prog 9 (plainElem Try.prog 4)).update lawStr Try.underlying68 (by unfold maxLen; omega) hkey0 (plainElem_bool Try.underlying4 true)
  have O1 : Hid (OwnSeenS w1 w.heap.size (knows NM) 1) := hown1
  have B1 : Hid (Below w.heap.size w w1) := (below_alloc0 w (.map #[] 0)).grown hg1 (by simp) (fun j hj => by cases hj; exact Nat.le_refl _)
  have hz1 := B1.out.size
  clear hown1 hg1 hkey0
  go_enter Try.func74, Try.ntmps74
  go_wp2
  obtain ⟨kb, hkb⟩ : ∃ kb, w1.heap.size = kb := ⟨_, rfl⟩
  rw [hkb]
  have hbx := below_alloc0 w1 (.cells #[.map (some w.heap.size)] 68)
  have O2 : Hid (OwnSeenS (w1.alloc (.cells #[.map (some w.heap.size)] 68)) w.heap.size (knows NM) 1) := OwnSeenS.on O1.out hbx
  have B2 : Hid (Below w.heap.size w (w1.alloc (.cells #[.map (some w.heap.size)] 68))) := sstep B1.out hbx
  have C2 : Hid ((w1.alloc (.cells #[.map (some w.heap.size)] 68)).cell? ⟨kb, 0, none⟩ = some (.map (some w.heap.size))) := by
    unfold Hid
    rw [← hkb]
    simp
  have HKW : Hid (w.heap.size < kb) := by have := (OwnSeenS.lt O1.out); unfold Hid; omega
  have hkm : Hid (∀ W mb, OwnSeenS W mb (knows NM) 1 → True) := fun _ _ _ => trivial
  clear hbx hins O1 B1 hkm hkb
  go_loopw [21] (fun i wr => ∃ k : Nat, k ≤ n ∧ i = .int .i64 k ∧ Hid (M.nameTo NM k = true) ∧ Hid (OwnSeenS wr w.heap.size (knows NM) (k + 1)) ∧ Hid (wr.cell? ⟨kb, 0, none⟩ = some (.map (some w.heap.size))) ∧ Hid (Below w.heap.size w wr)) (fun i _ => n - (intOf i).toNat)
  case atStart => exact ⟨0, Nat.zero_le _, rfl, rfl, O2, C2, B2⟩
  case round =>
    obtain ⟨k, hk, rfl, hg, hown, hcl, hb⟩ := hrel
    have hz := hb.out.size
    by_cases hlt : k < n
    · obtain ⟨b, o, a', c', rfl, c0, c1, _⟩ := (HL.out.on hb.out) k hlt
      obtain ⟨s0, _, _⟩ := HF.out k hlt
      have hbo := below_alloc0 wr (.cells #[.string (NM k), .slice a' (RL k).length c'] 49)
      have HO := Lib.hid (OwnSeenS.on hown.out hbo)
      have B3 : Hid (Below w.heap.size w (wr.alloc (.cells #[.string (NM k), .slice a' (RL k).length c'] 49))) := sstep hb.out hbo
      have hlk := seen_leads HO.out s0
      have hlkb := World.block_lt_of_cell? _ _ hcl.out
      have hc := hcl.out
      have HCL := Lib.hid hcl.out
      have HKB : Hid (kb < (wr.alloc (.cells #[.string (NM k), .slice a' (RL k).length c'] 49)).heap.size) := by
        show kb < (wr.heap.push _).size
        rw [Array.size_push]; exact Nat.lt_succ_of_lt hlkb
      cases hle : M.leads NM k (NM k)
      rotate_left
      · have hv : Hid (M.net n NM RL = false) := M.net_name (M.nameTo_no hlt (Or.inr ((M.leads_iff.1 hle).imp id fun ⟨i, hi, e⟩ => ⟨i, hi, e⟩)))
        rw [hle] at hlk
        clear hle hown hbo hcl
        go_wp2
        go_ret
        exact ⟨ret_bool hv.out.symm, B3.out⟩
      · have hnl : ¬ (NM k = M.here ∨ ∃ i, i < k ∧ NM i = NM k) := fun e => by rw [M.leads_iff.2 e] at hle; cases hle
        rw [hle] at hlk
        have HNL := Lib.hid hnl
        clear hle hnl hown hbo hcl
        cases hc0 : M.name (NM k)
        · have hv := Lib.hid (M.net_name (RL := RL) (M.nameTo_no hlt (Or.inl hc0)))
          have HN : Hid (∀ W, Calls Try.prog 43 #[.string (NM k)] W fun e w' => e = .returned (.bool false) ∧ Below W.heap.size W w') := fun W => hc0 ▸ impl_nameValid (NM k) W s0
          clear hc0
          go_wp2_with (go_at_call 43; refine (HN.out _).mono ?_; rintro e w2 ⟨rfl, hb2⟩)
          go_ret
          exact ⟨ret_bool hv.out.symm, sstep B3.out hb2⟩
        · have HN : Hid (∀ W, Calls Try.prog 43 #[.string (NM k)] W fun e w' => e = .returned (.bool true) ∧ Below W.heap.size W w') := fun W => hc0 ▸ impl_nameValid (NM k) W s0
          have hsu := Lib.hid (M.nameTo_succ hg.out hc0 (fun e => HNL.out (Or.inl e)) (fun j hj e => HNL.out (Or.inr ⟨j, hj, e⟩)))
          clear hc0
          have hkey : keyOf Try.prog 9 (.string (NM k)) = some (.string (NM k).data.toList) := WideMaps.keyOf_string_mk Try.underlying9 s0
          have hkm : k + 1 < maxLen := by unfold maxLen; omega
          go_wp2_with (first
            | (go_at_call 43; refine (HN.out _).mono ?_; rintro e w2 ⟨rfl, hb2⟩; have hcell : w2.cell? ⟨wr.heap.size, 0, none⟩ = some (.string (NM k)) := ((hb2.cell (p := ⟨wr.heap.size, 0, none⟩) (by simp)).trans (by simp)); have hck : w2.cell? ⟨kb, 0, none⟩ = some (.map (some w.heap.size)) := ((hb2.cell (p := ⟨kb, 0, none⟩) HKB.out).trans (((below_alloc0 wr _).cell (p := ⟨kb, 0, none⟩) hlkb).trans HCL.out)); have HCK := Lib.hid hck; have O4 := Lib.hid (OwnSeenS.on HO.out hb2); have B4 := Lib.hid (sstep B3.out hb2); clear hb2)
            | (at_mapUpdate; refine wpList_mapUpdate_own _ rfl _ _ _ 68 rfl 9 4 lawStr Try.underlying68 _ w.heap.size (k + 1) _ rfl O4.out hkm _ _ _ rfl rfl hkey _ [] (plainElem_bool Try.underlying4 true) ?_; intro w3 hown1 hgrow1))
          have C5 : Hid (w3.cell? ⟨kb, 0, none⟩ = some (.map (some w.heap.size))) := (World.cell?_of_block (hgrow1.block kb (World.block_lt_of_cell? _ _ HCK.out) (by intro e; injection e with e; have := HKW.out; omega))).trans HCK.out
          have O5 : Hid (OwnSeenS w3 w.heap.size (knows NM) (k + 1 + 1)) := hown1
          have B5 : Hid (Below w.heap.size w w3) := B4.out.grown hgrow1 B4.out.size (fun j hj => by cases hj; exact Nat.le_refl _)
          clear hown1 hgrow1 hcell hck
          go_roundw
          case rel => exact ⟨k + 1, by omega, by go_num, hsu, O5, C5, B5⟩
          case measure => simp [intOf]; omega
    · obtain rfl : k = n := by omega
      go_wp2
      go_loopw [42] (fun i wr => ∃ q : Nat, q ≤ k ∧ i = .int .i64 q ∧ Hid (∀ p, p < q → M.ruleOk NM k (RL p) = true) ∧ Hid (OwnSeenS wr w.heap.size (knows NM) (k + 1)) ∧ Hid (wr.cell? ⟨kb, 0, none⟩ = some (.map (some w.heap.size))) ∧ Hid (Below w.heap.size w wr)) (fun i _ => k - (intOf i).toNat)
      case atStart => exact ⟨0, Nat.zero_le _, rfl, fun p hp => absurd hp (by omega), hown, hcl, hb⟩
      case round =>
        obtain ⟨q, hq, rfl, hru, ho2, hc2, hb2⟩ := hrel
        by_cases hltq : q < k
        · obtain ⟨b, o, a', c', rfl, c0, c1, hfw⟩ := (HL.out.on hb2.out) q hltq
          obtain ⟨s0, f0, m0⟩ := HF.out q hltq
          have hbo := below_alloc0 wr (.cells #[.string (NM q), .slice a' (RL q).length c'] 49)
          obtain ⟨W0, hW0⟩ : ∃ W0, wr.alloc (.cells #[.string (NM q), .slice a' (RL q).length c'] 49) = W0 := ⟨_, rfl⟩
          have HRV := Lib.hid (impl_RulesValid W0 a' _ c' _ _ (hW0 ▸ hfw.on hbo) f0)
          have x1 : W0.cell? ⟨wr.heap.size, 1, none⟩ = some (.slice a' (RL q).length c') := hW0 ▸ (by simp)
          have lx1 := World.block_lt_of_cell? _ _ x1
          have HFW0 : Hid (Fws W0 a' (RL q).length (nF (RL q)) (nT (RL q))) := hW0 ▸ hfw.on hbo
          have HO0 : Hid (OwnSeenS W0 w.heap.size (knows NM) (k + 1)) := hW0 ▸ OwnSeenS.on ho2.out hbo
          have HC0 : Hid (W0.cell? ⟨kb, 0, none⟩ = some (.map (some w.heap.size))) := hW0 ▸ (hbo.cell (p := ⟨kb, 0, none⟩) (World.block_lt_of_cell? _ _ hc2.out)).trans hc2.out
          have HB0 : Hid (Below w.heap.size w W0) := hW0 ▸ sstep hb2.out hbo
          have HW0 := Lib.hid hW0
          have HF0 := Lib.hid f0
          have X1 := Lib.hid x1
          clear hfw f0 m0 hbo hW0
          cases hc1 : M.rul (RL q).length (nF (RL q)) (nT (RL q))
          · have hv := Lib.hid (M.net_rule (NM := NM) hltq (M.ruleOk_no (Or.inl hc1)))
            rw [hc1] at HRV
            clear hc1
            go_wp2_with (go_at_call 12; rw [HW0.out]; refine HRV.out.mono ?_; rintro e w3 ⟨rfl, hb3⟩)
            go_ret
            exact ⟨ret_bool hv.out.symm, sstep HB0.out hb3⟩
          · rw [hc1] at HRV
            have HC1 := Lib.hid hc1
            have h20 := (M.rul_yes hc1).1
            clear hc1
            go_wp2_with (go_at_call 12; rw [HW0.out]; refine HRV.out.mono ?_; rintro e w3 ⟨rfl, hb3⟩; have y1 : w3.cell? ⟨wr.heap.size, 1, none⟩ = some (.slice a' (RL q).length c') := ((hb3.cell (p := ⟨wr.heap.size, 1, none⟩) lx1).trans X1.out))
            have HCA := Lib.hid (contains_away w3 a' (RL q) c' (HFW0.out.on hb3) HF0.out (by omega) kb w.heap.size k NM ((hb3.cell (p := ⟨kb, 0, none⟩) (World.block_lt_of_cell? _ _ HC0.out)).trans HC0.out) (OwnSeenS.on HO0.out hb3))
            have O3 := Lib.hid (OwnSeenS.on HO0.out hb3)
            have C3 : Hid (w3.cell? ⟨kb, 0, none⟩ = some (.map (some w.heap.size))) := (hb3.cell (p := ⟨kb, 0, none⟩) (World.block_lt_of_cell? _ _ HC0.out)).trans HC0.out
            have B3 := Lib.hid (sstep HB0.out hb3)
            clear hb3
            refine HCA.out.mono ?_
            rintro e w4 ⟨rfl, hb4⟩
            cases hany : (RL q).any fun p => !M.leads NM k p.2
            · have hok : Hid (∀ p, p < q + 1 → M.ruleOk NM k (RL p) = true) := fun p hp => by
                by_cases e : p = q
                · subst e
                  refine M.ruleOk_yes HC1.out fun y hy => ?_
                  have := List.any_eq_false.1 hany y hy
                  cases hl : M.leads NM k y.2
                  · rw [hl] at this; exact absurd rfl this
                  · rfl
                · exact hru.out p (by omega)
              have O6 := Lib.hid (OwnSeenS.on O3.out hb4)
              have C6 : Hid (w4.cell? ⟨kb, 0, none⟩ = some (.map (some w.heap.size))) := (hb4.cell (p := ⟨kb, 0, none⟩) (World.block_lt_of_cell? _ _ C3.out)).trans C3.out
              have B6 := Lib.hid (sstep B3.out hb4)
              clear hany hb4 y1
              go_wp2
              go_roundw
              case rel => exact ⟨q + 1, by omega, by go_num, hok, O6, C6, B6⟩
              case measure => simp [intOf]; omega
            · have hv : Hid (M.net k NM RL = false) := by
                obtain ⟨y, hy, hly⟩ := List.any_eq_true.1 hany
                exact M.net_rule (NM := NM) hltq (M.ruleOk_no (Or.inr ⟨y, hy, by simpa using hly⟩))
              clear hany
              go_wp2
              go_ret
              exact ⟨ret_bool hv.out.symm, sstep B3.out hb4⟩
        · obtain rfl : q = k := by omega
          have hv : Hid (M.net q NM RL = true) := by rw [Hid, M.net_all hg.out hru.out]; exact decide_eq_true (by omega)
          go_wp2
          go_ret
          exact ⟨ret_bool hv.out.symm, hb2.out⟩
end Go.Proofs.Ytabmbbnfpfkcaaa
