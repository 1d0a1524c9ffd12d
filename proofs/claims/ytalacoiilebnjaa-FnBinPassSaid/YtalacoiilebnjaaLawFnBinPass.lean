/-
  For every slice of bytes, laws.FnBinPass returns true.
-/
import Derived.Test.YtalacoiilebnjaaRows
import Derived.Test.YtalacoiilebnjaaDrawS
import Derived.Test.YtalacoiilebnjaaBins3
import Derived.Test.YtalacoiilebnjaaBinP
import Derived.Test.YtalacoiilebnjaaSoAll
import Derived.Test.YtalacoiilebnjaaSo
import Derived.Test.YtalacoiilebnjaaSmpM
import Derived.Deep.RegionHeld3
import Derived.BigQuiet
import Derived.WalkKit
import Derived.ProofKit
import Derived.OpenShut
import Derived.ShutString
import Derived.ChangeOld
import Derived.Below
import Derived.Handy
import Derived.Lib.Hide
namespace Go.Proofs.Ytalacoiilebnjaa.fnBinPass
open Go.ChangeShapes Go.WideShapes Go.ChangeAt Go.RowKit
open Go.ChangeMaps (open_string shut_string)
open Go.PlainAid (bt get_bt bt_nonneg bt_le)
set_option linter.unusedVariables false

theorem two_made (w : World) (i : Int) (s : ByteArray) : (w.alloc (.cells #[.int .i64 i, .string s] 31)).cell? ⟨w.heap.size, 0, none⟩ = some (.int .i64 i) ∧ (w.alloc (.cells #[.int .i64 i, .string s] 31)).cell? ⟨w.heap.size, 1, none⟩ = some (.string s) := ⟨by simp [go_sem], by simp [go_sem]⟩
theorem own : ownKnob Try.prog.godebug = none := by kernel_rfl
theorem laidOut : laidOutB Try.prog = true := by kernel_rfl

set_option maxHeartbeats 40000000 in
set_option maxRecDepth 100000 in
theorem walk (w : World) (a0 : Option Addr) (l0 k0 : Nat) (z0 : List Int) (w0 : IsRow .u8 w a0 l0 k0 z0) :
    Calls Try.prog 3 #[.slice a0 l0 k0] w fun e w' => e = .returned (.bool true) ∧ Below w.heap.size w w' := by
  by_cases hl : 1048576 < l0
  · go_enter Try.func3, Try.ntmps3
    go_wp2
    go_ret
    exact ⟨rfl, Below.refl _ _⟩
  go_enter Try.func3, Try.ntmps3
  go_wp2_with fail
  refine (DrawBinPass_any a0 l0 k0 z0 w w0).mono ?_
  rintro e u ⟨v, x, rfl, a, n, c, I, C, rfl, lt, fi, hn, bl⟩
  obtain ⟨L, hLe, hlt2, hfi2⟩ : ∃ L : List (Int × ByteArray), L.length = n ∧ Lts u a n (nI L) (nC L) ∧ Fits n (nI L) (nC L) := ⟨M.lst I C n, M.lst_length I C n, lt.congr fun i hi => ⟨(lst_at hi).1.symm, (lst_at hi).2.symm⟩, fun i hi => by rw [(lst_at hi).1, (lst_at hi).2]; exact fi i hi⟩
  subst hLe
  have LT := Lib.hid hlt2
  have FI := Lib.hid hfi2
  have BL := Lib.hid bl
  have hn2 : L.length ≤ 1048576 := by omega
  clear lt fi bl hlt2 hfi2
  cases hok : M.binOk L.length (nI L) (nC L) x
  · obtain ⟨MM, hMM⟩ : ∃ F, M.bins (nI L) (nC L) x.toNat L.length = F := ⟨_, rfl⟩
    have HR : Hid (∀ W, BinsRes W (M.binOk L.length (nI L) (nC L) x) (if M.binOk L.length (nI L) (nC L) x = true then 10 else 0) (M.bins (nI L) (nC L) x.toNat L.length) = BinsRes W false 0 MM) := fun W => by rw [hok, if_neg (by decide), hMM]
    clear hok hMM
    go_wp2_with fail
    refine (impl_BinPass_any _ a L.length c (nI L) (nC L) LT.out FI.out x).mono ?_
    rw [HR.out]
    rintro e v1 ⟨p1, V1, rfl, m1, k1⟩
    replace BL := Lib.hid (step BL.out k1)
    replace LT := Lib.hid (LT.out.on k1)
    have HM1 := Lib.hid m1
    clear k1
    clear m1
    obtain ⟨G1, C1, hp1⟩ : ∃ g c, p1 = .slice g 0 c := by
      rcases HM1.out.form with ⟨rfl, h⟩ | ⟨g, c, rfl, _⟩
      · first | exact ⟨_, _, rfl⟩ | exact absurd h (by decide)
      · exact ⟨_, _, rfl⟩
    subst hp1
    go_wp2_with fail
    refine (spec_BinPass_any _ a L.length c (nI L) (nC L) LT.out FI.out hn2 x).mono ?_
    rw [HR.out]
    rintro e v2 ⟨p2, V2, rfl, m2, k2⟩
    replace BL := Lib.hid (step BL.out k2)
    replace LT := Lib.hid (LT.out.on k2)
    replace HM1 := Lib.hid (HM1.out.on k2)
    have HM2 := Lib.hid m2
    clear k2
    clear m2
    obtain ⟨G2, C2, hp2⟩ : ∃ g c, p2 = .slice g 0 c := by
      rcases HM2.out.form with ⟨rfl, h⟩ | ⟨g, c, rfl, _⟩
      · first | exact ⟨_, _, rfl⟩ | exact absurd h (by decide)
      · exact ⟨_, _, rfl⟩
    subst hp2
    go_wp2
    go_ret
    exact ⟨rfl, BL.out⟩
  · obtain ⟨hb, hx0, hx6⟩ := M.binOk_yes hok
    obtain ⟨q, rfl⟩ := Int.eq_ofNat_of_zero_le hx0
    have hq6 : q ≤ 6 := by omega
    have hbl := (batchL_list L).1 hb
    have h60 := hbl.2.2
    have hat := fun d i (hi : i < (M.bins (nI L) (nC L) q L.length d).length) => bin_at hbl hq6 hi
    have hpl := fun d i (hi : i + 1 < (M.bins (nI L) (nC L) q L.length d).length) => bin_plc hbl hi
    have hpm := (pass_perm hb hq6).length_eq
    rw [M.lst_length] at hpm
    obtain ⟨MM, hMM⟩ : ∃ F, M.bins (nI L) (nC L) q L.length = F := ⟨_, rfl⟩
    have HR : Hid (∀ W, BinsRes W (M.binOk L.length (nI L) (nC L) (q : Int)) (if M.binOk L.length (nI L) (nC L) (q : Int) = true then 10 else 0) (M.bins (nI L) (nC L) (q : Int).toNat L.length) = BinsRes W true 10 MM) := fun W => by rw [hok, if_pos rfl, Int.toNat_natCast, hMM]
    rw [hMM] at hat hpl hpm
    have HAT := Lib.hid hat
    have HPL := Lib.hid hpl
    have HPM := Lib.hid hpm
    have HUP : Hid (∀ k, k < 10 → (M.flat MM k).length + (MM k).length ≤ 60) := fun k hk => by have := flat_le10 MM hk; omega
    clear hok hb hx0 hx6 hbl hat hpl hpm hMM
    go_wp2_with fail
    refine (impl_BinPass_any _ a L.length c (nI L) (nC L) LT.out FI.out (q : Int)).mono ?_
    rw [HR.out]
    rintro e v1 ⟨p1, V1, rfl, m1, k1⟩
    replace BL := Lib.hid (step BL.out k1)
    replace LT := Lib.hid (LT.out.on k1)
    have HM1 := Lib.hid m1
    clear k1
    clear m1
    obtain ⟨G1, C1, hp1⟩ : ∃ g c, p1 = .slice g 10 c := by
      rcases HM1.out.form with ⟨rfl, h⟩ | ⟨g, c, rfl, _⟩
      · first | exact ⟨_, _, rfl⟩ | exact absurd h (by decide)
      · exact ⟨_, _, rfl⟩
    subst hp1
    go_wp2_with fail
    refine (spec_BinPass_any _ a L.length c (nI L) (nC L) LT.out FI.out hn2 (q : Int)).mono ?_
    rw [HR.out]
    rintro e v2 ⟨p2, V2, rfl, m2, k2⟩
    replace BL := Lib.hid (step BL.out k2)
    replace LT := Lib.hid (LT.out.on k2)
    replace HM1 := Lib.hid (HM1.out.on k2)
    have HM2 := Lib.hid m2
    clear k2
    clear m2
    obtain ⟨G2, C2, hp2⟩ : ∃ g c, p2 = .slice g 10 c := by
      rcases HM2.out.form with ⟨rfl, h⟩ | ⟨g, c, rfl, _⟩
      · first | exact ⟨_, _, rfl⟩ | exact absurd h (by decide)
      · exact ⟨_, _, rfl⟩
    subst hp2
    have HV6 := Lib.hid BL.out
    clear BL
    obtain ⟨Z, hZ⟩ : ∃ Z, v2 = Z := ⟨_, rfl⟩
    rw [hZ] at LT HM1 HM2 HV6 ⊢
    clear hZ
    have HF0 : Hid (0 = (M.flat MM 0).length) := rfl
    go_wp2
    go_loopw [9, 10] (fun nn i wr => ∃ (k s : Nat), k ≤ 10 ∧ i = .int .i64 k ∧ nn = .int .i64 s ∧ Hid (s = (M.flat MM k).length) ∧ Hid (Below Z.heap.size Z wr)) (fun _ i _ => 10 - (intOf i).toNat)
    case atStart => exact ⟨0, 0, Nat.zero_le _, rfl, rfl, HF0, Below.refl _ _⟩
    case round =>
      obtain ⟨k, s, hk, rfl, rfl, hs, hbw⟩ := hrel
      by_cases hlt : k < 10
      · have hki : (k : Int) < 10 := by omega
        have hk0 : (0 : Int) ≤ (k : Int) := by omega
        have hup := HUP.out k hlt
        rw [← hs.out] at hup
        obtain ⟨mk, hmke⟩ : ∃ n, (MM k).length = n := ⟨_, rfl⟩
        have HMK := Lib.hid hmke
        rw [hmke] at hup
        have hsn : Hid (s + mk = (M.flat MM (k + 1)).length) := by
          have h1 : (M.flat MM (k + 1)).length = (M.flat MM k).length + (MM k).length := by
            show (M.flat MM k ++ MM k).length = _
            rw [List.length_append]
          show s + mk = (M.flat MM (k + 1)).length
          rw [h1, hmke, hs.out]
        have hm := HM1.out.on hbw.out
        have hm' := HM2.out.on hbw.out
        obtain ⟨g, qq, hg, c0, _⟩ := hm.cell hlt
        obtain ⟨g', qq', hg', c0', _⟩ := hm'.cell hlt
        have hr := Lib.hid (hm.2.1 k hlt)
        have hr' := Lib.hid (hm'.2.1 k hlt)
        have hlk : (MM k).length ≤ 1048576 := by omega
        obtain ⟨vk, hvk⟩ : ∃ y, V1 k = y := ⟨_, rfl⟩
        obtain ⟨vk', hvk'⟩ : ∃ y, V2 k = y := ⟨_, rfl⟩
        rw [hvk] at c0 hr
        rw [hvk'] at c0' hr'
        injection hg with hg1 hg2 hg3
        injection hg' with hg1' hg2' hg3'
        subst hg1 hg1'
        have lg := World.block_lt_of_cell? _ _ c0
        have lg' := World.block_lt_of_cell? _ _ c0'
        have s0 : wr.cell? ⟨g, k, none⟩ = some vk ∧ wr.cell? ⟨g', k, none⟩ = some vk' := ⟨c0, c0'⟩
        clear hm hm' hg2 hg3 hg2' hg3' hmke hvk hvk'
        go_wp2_with fail
        go_region_held3 (fun w' => w'.cell? ⟨g, k, none⟩ = some vk ∧ w'.cell? ⟨g', k, none⟩ = some vk') (first | exact s0 | exact s1) (first
          | (go_at_call 8; refine (soBatch_row _ _ _ vk vk' _ (hr.out.on (by go_grown)) (hr'.out.on (by go_grown)) hlk).mono ?_; rintro e w1 ⟨rfl, k1⟩; have K1 : Below wr.heap.size wr w1 := (by exact sstep (by go_grown) k1); have s1 : w1.cell? ⟨g, k, none⟩ = some vk ∧ w1.cell? ⟨g', k, none⟩ = some vk' := ⟨(K1.cell (p := ⟨g, k, none⟩) lg).trans c0, (K1.cell (p := ⟨g', k, none⟩) lg').trans c0'⟩))
        have B1 := Lib.hid (sstep hbw.out K1)
        clear k1 K1 s0 s1 c0 c0' hr hr' lg lg'
        go_wp2
        go_loopw [9, 11] (fun nn i wr => ∃ (j : Nat), j ≤ mk ∧ i = .int .i64 j ∧ nn = .int .i64 ((s + j : Nat) : Int) ∧ Hid (Below Z.heap.size Z wr)) (fun _ i _ => mk - (intOf i).toNat)
        case atStart => exact ⟨0, Nat.zero_le _, rfl, rfl, by first | exact B1 | exact below_drewS B1.out _⟩
        case round =>
          obtain ⟨i, hi, rfl, rfl, hbi⟩ := hrel
          have LT2 := Lib.hid (LT.out.on hbi.out)
          have hm := HM1.out.on hbi.out
          obtain ⟨g9, cg, hg, t0, _⟩ := hm.cell hlt
          injection hg with hg1 hg2 hg3
          obtain ⟨rfl, _⟩ := Addr.mk.inj (Option.some.inj hg1)
          obtain ⟨ak, ck, hvk, hck, lk⟩ := (hm.2.1 k hlt).form
          rw [hvk, HMK.out] at t0
          rw [HMK.out] at lk
          have LK := Lib.hid lk
          clear hm hvk hck lk hg1 hg2 hg3
          by_cases hil : i < mk
          · have hii : (i : Int) < (mk : Int) := by omega
            have hi0 : (0 : Int) ≤ (i : Int) := by omega
            obtain ⟨hcode, hdig⟩ := HAT.out k i (by rw [HMK.out]; exact hil)
            obtain ⟨gk, ok, hak, y0, y1⟩ := LK.out i hil
            subst hak
            have hplb : ∀ j, i = j + 1 → ∃ k1 k2 : Nat, k1 < k2 ∧ M.findLetter L.length (nI L) (nC L) (nI (MM k) j) = (k1 : Int) ∧ M.findLetter L.length (nI L) (nC L) (nI (MM k) i) = (k2 : Int) := fun j e => by
              subst e
              exact HPL.out k j (by rw [HMK.out]; exact hil)
            obtain ⟨yi, hyi⟩ : ∃ y, nI (MM k) i = y := ⟨_, rfl⟩
            obtain ⟨yc, hyc⟩ : ∃ y, nC (MM k) i = y := ⟨_, rfl⟩
            rw [hyc] at hcode hdig y1
            rw [hyi] at y0 hplb
            have HPLB := Lib.hid hplb
            have hcy := M.code_yes hcode
            have hbt := M.digs_bt hcy.1 q (by omega)
            have hgb := get_bt yc
            have hxi : (q : Int) < (yc.size : Int) := by omega
            have hxn : q < yc.size := by omega
            have hq0 : (0 : Int) ≤ (q : Int) := by omega
            have hb48 := hbt.1
            have hb57 := hbt.2
            have hwr : IntKind.i64.wrap (bt yc q) = bt yc q := IntWalk.i64_in _ (by omega)
            have hwr8 : IntKind.i64.wrap (bt yc q - 48) = bt yc q - 48 := IntWalk.i64_in _ (by omega)
            have hdd : (bt yc q - 48 != (k : Int)) = false := by rw [hdig]; simp
            have ba := below_alloc0 wr (.cells #[.int .i64 yi, .string yc] 31)
            have HBA := Lib.hid ba
            have hb0 := two_made wr yi yc
            obtain ⟨e0, e1⟩ := hb0
            have lg := World.block_lt_of_cell? _ _ t0
            have lgk := World.block_lt_of_cell? _ _ y0
            have E2 : Hid (∀ W, Below (wr.heap.size + 1) (wr.alloc (.cells #[.int .i64 yi, .string yc] 31)) W → W.cell? ⟨wr.heap.size, 0, none⟩ = some (.int .i64 yi) ∧ W.cell? ⟨wr.heap.size, 1, none⟩ = some (.string yc)) := fun W hW => ⟨(hW.cell (p := ⟨wr.heap.size, 0, none⟩) (by simp)).trans e0, (hW.cell (p := ⟨wr.heap.size, 1, none⟩) (by simp)).trans e1⟩
            have OK := Lib.hid LK.out
            have hsi9 : s + i ≤ 60 := by omega
            clear hyi hyc hplb hcode hdig hcy hbt
            by_cases hi1 : 0 < i
            · obtain ⟨j, hj⟩ : ∃ j, i = j + 1 := ⟨i - 1, by omega⟩
              obtain ⟨k1, k2, hk12, hf1, hf2⟩ := HPLB.out j hj
              obtain ⟨bb9, oo9, e9, z0, _⟩ := OK.out j (by omega)
              obtain ⟨rfl, rfl, _⟩ := Addr.mk.inj (Option.some.inj e9)
              have hjw : IntKind.i64.wrap ((i : Int) - 1) = (j : Int) := (IntWalk.i64_in _ (by omega)).trans (by omega)
              have hj0 : (0 : Int) ≤ (j : Int) := by omega
              have hjm : (j : Int) < (mk : Int) := by omega
              have hi1i : (0 : Int) < (i : Int) := by omega
              have hi1d : decide ((0 : Int) < (i : Int)) = true := decide_eq_true hi1i
              have hi1n : decide (0 < i) = true := decide_eq_true hi1
              have hnle : ¬ (k2 : Int) ≤ (k1 : Int) := by omega
              have hnln : ¬ k2 ≤ k1 := by omega
              have hnld : decide ((k2 : Int) ≤ (k1 : Int)) = false := decide_eq_false hnle
              have hnlm : decide (k2 ≤ k1) = false := decide_eq_false hnln
              obtain ⟨zi, hzi⟩ : ∃ y, nI (MM k) j = y := ⟨_, rfl⟩
              rw [hzi] at hf1 z0
              have HF1 := Lib.hid hf1
              have HF2 := Lib.hid hf2
              have HALL : Hid (∀ W, Below wr.heap.size wr W → W.cell? ⟨g, k, none⟩ = some (.slice (some ⟨gk, ok, none⟩) mk ck) ∧ W.cell? ⟨gk, ok + j * 2, none⟩ = some (.int .i64 zi)) := fun W hW => ⟨(hW.cell (p := ⟨g, k, none⟩) lg).trans t0, (hW.cell (p := ⟨gk, ok + j * 2, none⟩) lgk).trans z0⟩
              have KL : Below (wr.heap.size + 1) (wr.alloc (.cells #[.int .i64 yi, .string yc] 31)) (wr.alloc (.cells #[.int .i64 yi, .string yc] 31)) := Below.refl _ _
              obtain ⟨wa, hwa⟩ : ∃ wa, wr.alloc (.cells #[.int .i64 yi, .string yc] 31) = wa := ⟨_, rfl⟩
              have zwa : wa.heap.size = wr.heap.size + 1 := by rw [← hwa]; simp
              rw [hwa] at KL E2 HBA
              have KB : Below wr.heap.size wr wa := HBA.out
              have s0 : (wa.cell? ⟨wr.heap.size, 0, none⟩ = some (.int .i64 yi) ∧ wa.cell? ⟨wr.heap.size, 1, none⟩ = some (.string yc)) ∧ (wa.cell? ⟨g, k, none⟩ = some (.slice (some ⟨gk, ok, none⟩) mk ck) ∧ wa.cell? ⟨gk, ok + j * 2, none⟩ = some (.int .i64 zi)) := ⟨E2.out _ KL, HALL.out _ KB⟩
              have HZW := Lib.hid zwa
              have CA : Hid (∀ W W', Below (wr.heap.size + 1) wa W → Below W.heap.size W W' → Below (wr.heap.size + 1) wa W') := fun W W' h1 h2 => h1.trans (h2.mono (by have := h1.size; have := HZW.out; omega))
              have CB : Hid (∀ W, Below (wr.heap.size + 1) wa W → Below wr.heap.size wr W) := fun W h1 => KB.trans (h1.mono (by omega))
              have hw9 : (wr.alloc (.cells #[.int .i64 yi, .string yc] 31)) = wa := hwa
              clear hf1 hf2 hzi hj e9 z0 e0 e1 ba hwa KB zwa
              go_wp2_with fail
              try rw [hw9]
              clear hw9 t0 y0 y1
              go_region_held3 (fun w' => (w'.cell? ⟨wr.heap.size, 0, none⟩ = some (.int .i64 yi) ∧ w'.cell? ⟨wr.heap.size, 1, none⟩ = some (.string yc)) ∧ (w'.cell? ⟨g, k, none⟩ = some (.slice (some ⟨gk, ok, none⟩) mk ck) ∧ w'.cell? ⟨gk, ok + j * 2, none⟩ = some (.int .i64 zi))) (first | exact s0 | exact s8 | exact s9) (first
                | (go_at_call_of 9 (Value.int .i64 zi); refine (soPlace_any _ a L.length c (nI L) (nC L) (LT2.out.on (CB.out _ (CA.out _ _ KL (by go_grown)))) FI.out zi).mono ?_; rw [HF1.out]; rintro e w8 ⟨rfl, k8⟩; have KL := CA.out _ _ (CA.out _ _ KL (by go_grown)) k8; have s8 : (w8.cell? ⟨wr.heap.size, 0, none⟩ = some (.int .i64 yi) ∧ w8.cell? ⟨wr.heap.size, 1, none⟩ = some (.string yc)) ∧ (w8.cell? ⟨g, k, none⟩ = some (.slice (some ⟨gk, ok, none⟩) mk ck) ∧ w8.cell? ⟨gk, ok + j * 2, none⟩ = some (.int .i64 zi)) := ⟨E2.out _ KL, HALL.out _ (CB.out _ KL)⟩)
                | (go_at_call_of 9 (Value.int .i64 yi); refine (soPlace_any _ a L.length c (nI L) (nC L) (LT2.out.on (CB.out _ (CA.out _ _ KL (by go_grown)))) FI.out yi).mono ?_; rw [HF2.out]; rintro e w9 ⟨rfl, k9⟩; have KL := CA.out _ _ (CA.out _ _ KL (by go_grown)) k9; have s9 : (w9.cell? ⟨wr.heap.size, 0, none⟩ = some (.int .i64 yi) ∧ w9.cell? ⟨wr.heap.size, 1, none⟩ = some (.string yc)) ∧ (w9.cell? ⟨g, k, none⟩ = some (.slice (some ⟨gk, ok, none⟩) mk ck) ∧ w9.cell? ⟨gk, ok + j * 2, none⟩ = some (.int .i64 zi)) := ⟨E2.out _ KL, HALL.out _ (CB.out _ KL)⟩))
              all_goals
                have B9 := Lib.hid (sstep hbi.out (CB.out _ KL))
                clear k8 k9 s0 s8 s9 KL
                go_wp2
                go_roundw
                case rel => exact ⟨i + 1, by omega, by go_num, by go_num, by first | exact B9.out | exact below_drewS B9.out _⟩
                case measure => simp [intOf]; omega
            · obtain rfl : i = 0 := by omega
              rw [Nat.zero_mul, Nat.add_zero] at y0 y1
              have B9 := Lib.hid (sstep hbi.out HBA.out)
              clear hi1 e0 e1 ba
              go_wp2
              go_quiet (fail)
              go_wp2
              go_roundw
              case rel => exact ⟨0 + 1, by omega, by go_num, by go_num, below_drewS B9.out _⟩
              case measure => simp [intOf]; omega
          · obtain rfl : i = mk := by omega
            go_wp2
            go_roundw
            case rel => exact ⟨k + 1, s + i, by omega, by go_num, rfl, hsn, hbi⟩
            case measure => simp [intOf]; omega
      · obtain rfl : k = 10 := by omega
        have hsl : s = L.length := by rw [hs.out]; exact HPM.out
        clear hs
        subst hsl
        go_wp2
        go_ret
        exact ⟨rfl, step HV6.out hbw.out⟩

set_option maxRecDepth 100000 in
theorem lifted (os : Os) (started : os.Started) (H : Type) (enc : TypeId × Value → H) :
    ReturnsInHanded {} Try.checked os 3 .any (Rows.fnBinPassSpec.pre6 enc Try.prog Try.f3 Rows.fnBinPassRow.domain false) (Rows.fnBinPassSpec.post enc Try.prog Try.f3 false true false false) := by
  refine returnsInHanded_of_change (C := Try.checked) own started (by kernel_rfl) Try.func3
    (ChangeSpec.witness6 (enc := enc) (C := Try.checked) false ⟨#[], #[.slice none 0 0], []⟩ 8 (by kernel_rfl) (by kernel_rfl) (by kernel_rfl) (by kernel_rfl)) ?_
  intro W base args ds gs before hval0 hW hcnd _
  have hval : ∀ (j : Nat) t v, Try.f3.params[j]? = some t → args[j]? = some v → Value.okWide Try.prog W .any base t v := hval0
  have hW' := hW
  obtain ⟨p, q, hA0, hV, rfl, hfz, hnd⟩ := hW
  have hA : DataW.TrodAll enc Try.prog W 0 (fun _ => true) true Try.f3.params.toList args.toList ds p := hA0
  rw [Try.params3] at hA hval
  obtain ⟨v0, vs0, d0, ds0, p0, q0, hargs, rfl, rfl, h0, r0⟩ := trodAll_cons hA
  obtain ⟨rfl, rfl, rfl⟩ := trodAll_nil r0
  obtain rfl : args = #[v0] := by cases args; simp_all
  obtain ⟨rfl, rfl⟩ := trodVars_none hV
  have g0 := h0
  have lt0 : ∀ x ∈ p0, x.block < W.heap.size := by obtain ⟨m, hm⟩ := g0; exact DataW.trod_lt m _ _ _ hm
  obtain ⟨a0, l0, k0, rfl⟩ := okWide_slice Try.underlying22 (hval 0 22 v0 rfl rfl)
  obtain ⟨z0, w0⟩ : ∃ zs, IsRow .u8 W a0 l0 k0 zs := by
    obtain ⟨fuel, hf⟩ := h0
    rcases open_ints Try.underlying22 Try.underlying5 (by kernel_rfl) hf with ⟨hcs, _⟩ | ⟨x, l, c, zs, hcs, _, hl, hm, hz, _, hcell, hwz⟩
    · simp [Value.cells] at hcs
      obtain ⟨rfl, rfl, rfl⟩ := hcs
      exact ⟨[], .inl ⟨rfl, rfl, rfl, rfl⟩⟩
    · simp [Value.cells] at hcs
      obtain ⟨rfl, rfl, rfl⟩ := hcs
      exact ⟨zs, .inr ⟨_, rfl, hl, hm, by simpa using hz, hcell, hwz⟩⟩
  clear hA0 hval0
  refine (walk W a0 l0 k0 z0 w0).mono fun e W' ⟨he, bel⟩ => ?_
  subst he
  exact ⟨_, rfl, _, _, _, [], _, [], hW', trodAll_mk1 (shut_bool Try.underlying4 _), (trodAll_cons_mk (Below.trod laidOut (by kernel_rfl) (of_decide_eq_true (by kernel_rfl)) g0 bel lt0) trodAll_mk0), rfl, bel.frame _, fun h => by cases h⟩

theorem proved : Rows.FnBinPassSaid :=
  OpenClaim.holds_of_wide 3 Try.f3 rfl rfl rfl rfl rfl rfl rfl ⟨rfl, rfl, rfl, rfl, rfl⟩ rfl rfl rfl rfl rfl (by kernel_rfl) Try.func3 (by kernel_rfl)
    (of_decide_eq_true (by kernel_rfl)) (by unfold Func.isWrapper; first | (rw [if_pos (by decide +kernel)]; kernel_rfl) | (rw [if_neg (by decide +kernel)]; exact ⟨rfl, rfl⟩))
    (fun os started H enc _ => lifted os started H enc)
#print axioms proved
end Go.Proofs.Ytalacoiilebnjaa.fnBinPass
