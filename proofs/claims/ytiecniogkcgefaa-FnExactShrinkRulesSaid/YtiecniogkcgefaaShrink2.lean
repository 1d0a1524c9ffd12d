/-
  What ShrinkRules returns, in the program and in the model of the document.
-/
import Derived.Test.YtiecniogkcgefaaShrink
namespace Go.Proofs.Ytiecniogkcgefaa
open Go.RowKit Go.Maps Go.Lib
open Go.PlainAid (bt get_bt bt_nonneg bt_le)
set_option linter.unusedVariables false

theorem Fws.row {w : World} {a : Option Addr} {n : Nat} {F T : Nat → ByteArray} {L : List (ByteArray × ByteArray)} (h : Fws w a n F T) (hL : L = M.flst F T n) : Fws w a L.length (nF L) (nT L) := by
  subst hL
  have hfl := M.flst_length F T n
  rw [hfl]
  refine h.congr fun i hi => ?_
  have g := flst_get? F T hi
  have hlt : i < (M.flst F T n).length := by rw [hfl]; exact hi
  rw [nF_at hlt, nT_at hlt]
  rw [List.getElem?_eq_getElem hlt] at g
  rw [Option.some.inj g]; exact ⟨rfl, rfl⟩
set_option maxHeartbeats 2000000 in
set_option maxRecDepth 100000 in
theorem impl_ShrinkRules (w : World) (a : Option Addr) (n cap : Nat) (F T : Nat → ByteArray) (h : Fws w a n F T) (hf : FFits n F T) :
    Calls Try.prog 26 #[.slice a n cap] w (rFRowOut w (M.shrink F T n)) := by
  have hmf : ∀ (fn : Fn) (first cap : Array Value) (w : World), (Instr.makeFunc fn first cap).run Try.prog w = .ok (.func fn first cap) w := fun _ _ _ _ => rfl
  cases hr : M.rul n F T
  · have HX := Lib.hid (impl_trieOf_no w a n cap F T h hf hr)
    have HE := Lib.hid (M.shrink_no hr)
    clear h hf hr
    go_enter Try.func26, Try.ntmps26
    go_wp2_with (go_at_call 55; refine HX.out.mono ?_; rintro e w1 ⟨rfl, hb1⟩)
    go_ret
    exact ⟨_, rfl, HE.out ▸ RRow.nil _ _, hb1.alloc hb1.size _⟩
  · have HX := Lib.hid (impl_trieOf_yes w a n cap F T h hf hr)
    have HE := Lib.hid (M.shrink_yes hr)
    obtain ⟨h20, hd⟩ := M.rul_digs hr
    have HL := Lib.hid h
    have HD := Lib.hid hd
    have hn : n ≤ 1048576 := by omega
    clear h hf hr hd
    go_enter Try.func26, Try.ntmps26
    go_wp2_with fail
    refine HX.out.mono ?_
    rintro e w1 ⟨r, rfl, ht, hb1⟩
    obtain ⟨nd, rl, h1, h2, h3⟩ := ht
    have hbx := below_alloc0 w1 (.cells #[.pointer (some ⟨r, 0, none⟩)] 70)
    obtain ⟨wx, hwx⟩ : ∃ wx, w1.alloc (.cells #[.pointer (some ⟨r, 0, none⟩)] 70) = wx := ⟨_, rfl⟩
    have c0 : wx.cell? ⟨w1.heap.size, 0, none⟩ = some (.pointer (some ⟨r, 0, none⟩)) := hwx ▸ (by simp)
    have hszx : wx.heap.size = w1.heap.size + 1 := hwx ▸ (by simp)
    rw [hwx] at hbx
    have hT := h1.on hbx
    have hlim : (∀ q b, nd q = some b → b < wx.heap.size) ∧ (∀ q x, rl q = some x → x.1 < wx.heap.size) := by
      refine ⟨fun q b hb => (hT.lt hb).2, fun q x hx => World.block_lt_of_cell? _ _ (hT.rule hx).2.1⟩
    have BX := Lib.hid (sstep hb1 hbx)
    have HLX := Lib.hid ((HL.out.on hb1).on hbx)
    have HWX := Lib.hid hwx
    have HT := Lib.hid hT
    have HLIM := Lib.hid hlim
    have HQ := Lib.hid h3
    have HR := Lib.hid h2
    have HC0 := Lib.hid c0
    have HSZ := Lib.hid hszx
    clear h1 h2 h3 hb1 hbx hT hlim hwx c0 hszx HX HL
    go_wp2_with (go_at_call 58; rw [HWX.out]; refine (rslices_CloneF _ _ _ _ _ _ HLX.out hn).mono ?_; rintro e w2 ⟨v, rfl, r2, hb2⟩)
    have R2 := Lib.hid r2
    have hCl : Hid (Calls Try.prog 64 #[v, .func (.func 63) #[] #[.pointer (some ⟨w1.heap.size, 0, none⟩)]] w2 (rDelRes w2 wx.heap.size v.ownBlock (M.wof (M.dropF F T n) (M.flst F T n)))) := by
      have hv : ∀ g, v.ownBlock = some g → wx.heap.size ≤ g := fun g hg => (r2.lt g hg).1
      refine rdelete_if w2 wx.heap.size v (M.flst F T n) r2 (by rw [M.flst_length]; exact hn) w1.heap.size (M.dropF F T n) (fun W => W.cell? ⟨w1.heap.size, 0, none⟩ = some (.pointer (some ⟨r, 0, none⟩)) ∧ Trie W w.heap.size nd rl) ?_ ?_ ?_
      · exact ⟨(hb2.cell (p := ⟨w1.heap.size, 0, none⟩) (by have := HSZ.out; show w1.heap.size < wx.heap.size; omega)).trans HC0.out, HT.out.on hb2⟩
      · rintro W W' ⟨hc, htr⟩ ho
        refine ⟨?_, htr.kept ho (fun q b hb e => ?_) (fun q x hx e => ?_)⟩
        · have hl := World.block_lt_of_cell? _ _ hc
          refine (World.cell?_of_block (ho.block w1.heap.size hl (fun e => ?_))).trans hc
          have := hv _ e.symm
          have := HSZ.out
          omega
        · have := hv _ e.symm
          have := HLIM.out.1 q b hb
          omega
        · have := hv _ e.symm
          have := HLIM.out.2 q x hx
          omega
      · rintro W p hp ⟨hc, htr⟩
        obtain ⟨i, hi, rfl⟩ : ∃ i, i < n ∧ (F i, T i) = p := by
          unfold M.flst at hp
          obtain ⟨i, hi, rfl⟩ := List.mem_map.1 hp
          exact ⟨i, List.mem_range.1 hi, rfl⟩
        exact shrink_it W w.heap.size r n F T w1.heap.size hc nd rl htr HR.out HQ.out (F i) (T i) (HD.out i hi)
    have K2 := Lib.hid (sstep BX.out hb2)
    have hzx := BX.out.size
    clear r2 hb2
    go_wp2_with fail
    refine hCl.out.mono ?_
    rintro e w3 ⟨v3, rfl, r3, g3, hv3⟩
    go_wp2
    go_ret
    refine ⟨_, rfl, ?_, ?_⟩
    · rw [HE.out]; exact r3.lower hzx
    · exact K2.out.grown g3 K2.out.size (fun q e => by have := (R2.out.lt q e).1; omega)
set_option maxHeartbeats 2000000 in
set_option maxRecDepth 100000 in
theorem spec_ShrinkRules (w : World) (a : Option Addr) (n cap : Nat) (F T : Nat → ByteArray) (h : Fws w a n F T) (hf : FFits n F T) (hn : n ≤ 1048576) (hcap : n ≤ cap) :
    Calls Try.prog 25 #[.slice a n cap] w (rFRowOut w (M.shrink F T n)) := by
  have HL := Lib.hid h
  have HF := Lib.hid hf
  have E0 := Lib.hid (rone_frow w)
  have B0 := Lib.hid (below_alloc0 w (.cells #[] 64))
  have HV := Lib.hid (fun W (hb : Below w.heap.size w W) => spec_RulesValid W a n cap F T (h.on hb) hf hn)
  clear h hf
  by_cases hn0 : n = 0
  · have HE : Hid (M.shrink F T n = []) := by
      rw [Hid]
      cases hr : M.rul n F T
      · exact M.shrink_no hr
      · rw [M.shrink_yes hr, hn0]; rfl
    clear HV HL HF
    go_enter Try.func25, Try.ntmps25
    subst hn0
    go_wp2
    go_rounds 1
    go_ret
    exact ⟨_, rfl, HE.out ▸ E0.out, B0.out⟩
  cases hr : M.rul n F T
  · have HE := Lib.hid (M.shrink_no hr)
    rw [hr] at HV
    have hn1 : (0 : Int) < (n : Int) := by omega
    have hn2 : 0 < n := by omega
    have hn3 : decide ((0 : Int) < (n : Int)) = true := decide_eq_true hn1
    have hn4 : decide (0 < n) = true := decide_eq_true hn2
    clear hr
    go_enter Try.func25, Try.ntmps25
    go_wp2
    go_loopw [3, 4] (fun q i wr => i = .int .i64 0 ∧ Hid (RRow wr w.heap.size q []) ∧ Hid (Below w.heap.size w wr)) (fun _ i _ => n - (intOf i).toNat)
    case atStart => exact ⟨rfl, E0.out, B0.out⟩
    case round =>
      obtain ⟨rfl, hrow, hb⟩ := hrel
      go_wp2_with (go_at_call 13; refine (HV.out _ hb.out).mono ?_; rintro e w1 ⟨rfl, rfl⟩)
      go_ret
      exact ⟨_, rfl, HE.out ▸ hrow.out, hb.out⟩
  · have HE := Lib.hid (M.shrink_yes hr)
    rw [hr] at HV
    have HRT := Lib.hid hr
    have hn20 := (M.rul_yes hr).1
    clear hr
    go_enter Try.func25, Try.ntmps25
    go_wp2
    go_loopw [3, 4] (fun q i wr => ∃ k : Nat, k ≤ n ∧ i = .int .i64 k ∧ Hid (RRow wr w.heap.size q (M.wof (M.dropF F T n) (M.flst F T k))) ∧ Hid (Below w.heap.size w wr)) (fun _ i _ => n - (intOf i).toNat)
    case atStart => exact ⟨0, Nat.zero_le _, rfl, E0.out, B0.out⟩
    case round =>
      obtain ⟨k, hk, rfl, hrow, hb⟩ := hrel
      have hz := hb.out.size
      by_cases hlt : k < n
      · have hki : decide ((k : Int) < (n : Int)) = true := decide_eq_true (by omega)
        have hki2 : decide (k < n) = true := decide_eq_true hlt
        have HW := Lib.hid (spec_l6Without wr a n cap F T (HL.out.on hb.out) hn hcap k hlt)
        go_wp2_with (go_at_call 13; refine (HV.out _ hb.out).mono ?_; rintro e w1 ⟨rfl, rfl⟩)
        refine HW.out.mono ?_
        rintro e w2 ⟨v5, rfl, r5, hb2⟩
        have HL2 := Lib.hid (HL.out.on (sstep hb.out hb2))
        have ROW2 := Lib.hid (hrow.out.on hb2)
        have B2 := Lib.hid (sstep hb.out hb2)
        obtain ⟨a5, c5, hv5, _, hw5⟩ := r5.form
        have hl5 := M.sansAt_len (P := F) (N := T) hlt
        rw [hl5] at hv5 hw5
        have hfits : FFits (n - 1) (nF (M.sansAt F T n k)) (nT (M.sansAt F T n k)) := fun i hi => by
          obtain ⟨e1, e2⟩ := M.sansAt_get (P := F) (N := T) hlt hi
          rw [e1, e2]
          exact HF.out _ (by split <;> omega)
        have HNX := Lib.hid (fun m => spec_l6Next (w2.drewN m) a5 (n - 1) c5 _ _ hw5 hfits (by omega) (F k))
        have HNS := Lib.hid (M.next_sans HRT.out hlt)
        have HWF := Lib.hid (M.wof_flst (M.dropF F T n) F T k)
        obtain ⟨x, hx⟩ : ∃ x, M.nextTo (nF (M.sansAt F T n k)) (nT (M.sansAt F T n k)) (F k) (n - 1) = x := ⟨_, rfl⟩
        rw [hx] at HNX HNS
        subst hv5
        obtain ⟨b, o, rfl, c0, c1⟩ := HL2.out k hlt
        have hkn : (k : Int) < (n : Int) := by omega
        have hk0 : (0 : Int) ≤ (k : Int) := by omega
        have hz2 := B2.out.size
        have hwl := M.wof_le (M.dropF F T n) (M.flst F T k)
        rw [M.flst_length] at hwl
        clear r5 hw5 hl5 hfits hx hb2 hrow hb
        by_cases he : x = T k
        · have hd := str_eq he
          have HST : Hid (M.wof (M.dropF F T n) (M.flst F T (k + 1)) = M.wof (M.dropF F T n) (M.flst F T k)) := by rw [Hid, HWF.out, if_pos (HNS.out.1 he)]
          clear he
          go_wp2
          go_quiet ((go_at_call 54; exact Calls.quiet_of (HNX.out _)))
          go_wp2
          go_roundw
          case rel => exact ⟨k + 1, by omega, by go_num, by rw [Hid, HST.out]; exact ROW2.out.on (below_drewN0 (Below.refl _ _) _), below_drewN0 B2.out _⟩
          case measure => simp [intOf]; omega
        · have hd : (x.toList == (T k).toList) = false := neq_list0 he
          have HST : Hid (M.wof (M.dropF F T n) (M.flst F T (k + 1)) = M.wof (M.dropF F T n) (M.flst F T k) ++ [(F k, T k)]) := by rw [Hid, HWF.out, if_neg (fun e => he (HNS.out.2 e))]
          clear he
          go_wp2
          go_quiet ((go_at_call 54; exact Calls.quiet_of (HNX.out _)))
          have ROW3 : Hid (∀ q, RRow (w2.drewN q) w.heap.size u3 (M.wof (M.dropF F T n) (M.flst F T k))) := fun q => ROW2.out.on (below_drewN0 (Below.refl _ _) _)
          have B3 : Hid (∀ q, Below w.heap.size w (w2.drewN q)) := fun q => below_drewN0 B2.out _
          go_wp2_with (at_builtin; refine wpList_append_rule _ rfl _ _ rfl w.heap.size _ _ rfl ((ROW3.out _).alloc _) _ (F k) (T k) rfl ?_ (by omega) (by simp; omega) ?_)
          · exact two_cells _ w2.heap.size _ _ _ rfl
          · intro v6 w6 r6 g6 o6
            have R6 : Hid (RRow w6 w.heap.size v6 (M.wof (M.dropF F T n) (M.flst F T (k + 1)))) := by rw [Hid, HST.out]; exact r6
            have K6 : Hid (Below w.heap.size w w6) := rfbelow_grown (W := w) ((B3.out _).alloc (by exact hz2) _) ((ROW3.out _).alloc _) (Nat.le_refl _) g6
            clear r6 g6 o6
            go_wp2
            go_roundw
            case rel => exact ⟨k + 1, by omega, by go_num, R6, K6⟩
            case measure => simp [intOf]; omega
      · obtain rfl : k = n := by omega
        have hki : decide ((k : Int) < (k : Int)) = false := decide_eq_false (by omega)
        go_wp2
        go_ret
        exact ⟨_, rfl, HE.out ▸ hrow.out, hb.out⟩
end Go.Proofs.Ytiecniogkcgefaa
