/-
  The text of a batch, in the program and in the model of the document.
-/
import Derived.Test.YtpfabfjbmaagnaaDoorItems
import Derived.Test.YtpfabfjbmaagnaaDoorDecN
import Derived.Test.YtpfabfjbmaagnaaDoorBatch
import Derived.Test.YtpfabfjbmaagnaaDoorStepS
import Derived.Deep.RegionHeld3
namespace Go.Proofs.YtpfabfjbmaagnaaDoor
open Go.RowKit
open Go.PlainAid (bt get_bt bt_nonneg bt_le)
set_option linter.unusedVariables false

def M.colon : ByteArray := ⟨#[58]⟩
/-- The text of a letter, and of a batch. -/
def M.letT (I : Nat → Int) (C : Nat → ByteArray) (k : Nat) : ByteArray := M.decT (I k) ++ M.colon ++ C k
def M.batText (n : Nat) (I : Nat → Int) (C : Nat → ByteArray) : ByteArray := if M.batch n I C then M.itemsOf (M.letT I C) n else ⟨#[]⟩
theorem bat_sizes {n : Nat} {I : Nat → Int} {C : Nat → ByteArray} (h : M.batch n I C = true) : n ≤ 60 ∧ ∀ i, i < n → 1 ≤ I i ∧ I i ≤ 9999 ∧ (C i).size = 7 ∧ (M.letT I C i).size ≤ 12 ∧ 0 < (M.letT I C i).size := by
  obtain ⟨hn, hall⟩ := M.batch_yes h
  refine ⟨hn, fun i hi => ?_⟩
  obtain ⟨h1, h2, _⟩ := hall i hi
  have h3 := (M.code_yes h1).2
  have h4 := M.decT_size (n := I i) (by omega) (by omega)
  have h5 : M.colon.size = 1 := rfl
  unfold M.letT
  rw [ByteArray.size_append, ByteArray.size_append, h5]
  omega
theorem letT_app (o : ByteArray) (I : Nat → Int) (C : Nat → ByteArray) (k : Nat) : o ++ M.decT (I k) ++ M.colon ++ C k = o ++ M.letT I C k := by
  unfold M.letT
  rw [M.bapp_assoc, M.bapp_assoc, M.bapp_assoc]

set_option maxHeartbeats 1000000 in
set_option maxRecDepth 100000 in
theorem spec_FormatBatch (w : World) (a : Option Addr) (n c : Nat) (I : Nat → Int) (C : Nat → ByteArray) (h : Lts w a n I C) (hf : Fits n I C) (hn : n ≤ 1048576) :
    Calls Tryd.prog 6 #[.slice a n c] w fun e w' => e = .returned (.string (M.batText n I C)) ∧ Below w.heap.size w w' := by
  have HL := Lib.hid h
  have HF := Lib.hid hf
  clear h hf
  cases hv : M.batch n I C
  · have HV := Lib.hid hv
    have HR : Hid (M.batText n I C = ⟨#[]⟩) := by unfold Hid M.batText; rw [hv]; rfl
    clear hv
    go_enter Tryd.func6, Tryd.ntmps6
    go_wp2_with fail
    refine (spec_BatchValid w a n c I C HL.out HF.out hn).mono ?_
    rw [HV.out]
    rintro e w1 ⟨rfl, hb1⟩
    go_wp2
    go_ret
    exact ⟨ret_txt HR.out, hb1⟩
  · have HV := Lib.hid hv
    have HR : Hid (M.batText n I C = M.itemsOf (M.letT I C) n) := by unfold Hid M.batText; rw [hv]; rfl
    obtain ⟨nm, hall⟩ := bat_sizes hv
    have HS := Lib.hid hall
    clear hv hall
    go_enter Tryd.func6, Tryd.ntmps6
    go_wp2_with fail
    refine (spec_BatchValid w a n c I C HL.out HF.out hn).mono ?_
    rw [HV.out]
    rintro e w1 ⟨rfl, hb1⟩
    have HL1 := Lib.hid (HL.out.on hb1)
    have B1 := Lib.hid hb1
    clear hb1
    go_wp2
    go_loopw [3, 4] (fun o i wr => ∃ k : Nat, k ≤ n ∧ i = .int .i64 k ∧ o = .string (M.gapsTo M.gap (M.letT I C) k) ∧ Below w1.heap.size w1 wr) (fun _ i _ => n - (intOf i).toNat)
    case atStart => exact ⟨0, Nat.zero_le _, rfl, rfl, Below.refl _ _⟩
    case round =>
      obtain ⟨k, hk, rfl, rfl, hb⟩ := hrel
      have hgs := M.gapsTo_size (g := M.gap) (T := M.letT I C) (m := 12) (k := k) (fun i hi => (HS.out i (by omega)).2.2.2.1)
      have hg1 : M.gap.size = 1 := rfl
      rw [hg1] at hgs
      clear hg1
      by_cases hlt : k < n
      · obtain ⟨b, o, rfl, c0, c1⟩ := (HL1.out.on hb) k hlt
        obtain ⟨i0, i1, s1, _, _⟩ := HS.out k hlt
        replace s1 := Nat.le_of_eq s1
        have hlb := World.block_lt_of_cell? _ _ c0
        have hki : (k : Int) < (n : Int) := by omega
        have HAPP := Lib.hid (fun o => letT_app o I C k)
        have HT : Hid (if k = 0 then M.gapsTo M.gap (M.letT I C) (k + 1) = M.gapsTo M.gap (M.letT I C) k ++ M.letT I C k else M.gapsTo M.gap (M.letT I C) (k + 1) = M.gapsTo M.gap (M.letT I C) k ++ M.gap ++ M.letT I C k) := by
          by_cases h0 : k = 0
          · rw [Hid, if_pos h0]; exact M.gapsTo_first _ _ h0
          · rw [Hid, if_neg h0]; exact M.gapsTo_next _ _ h0
        obtain ⟨x, hx⟩ : ∃ x, M.gapsTo M.gap (M.letT I C) k = x := ⟨_, rfl⟩
        obtain ⟨y, hy⟩ : ∃ y, M.gapsTo M.gap (M.letT I C) (k + 1) = y := ⟨_, rfl⟩
        obtain ⟨z, hz⟩ : ∃ z, M.letT I C k = z := ⟨_, rfl⟩
        have HY := Lib.hid hy
        rw [hx, hy, hz] at HT
        rw [hz] at HAPP
        rw [hx] at hgs ⊢
        obtain ⟨q, hq⟩ : ∃ q, I k = q := ⟨_, rfl⟩
        rw [hq] at c0 i0 i1 HAPP
        obtain ⟨f, hf⟩ : ∃ f, C k = f := ⟨_, rfl⟩
        rw [hf] at c1 s1 HAPP
        have HFR := Lib.hid (fun W => spec_dec q W (by omega) (by omega))
        have hds := M.decT_size (n := q) (by omega) (by omega)
        obtain ⟨r, hr⟩ : ∃ r, M.decT q = r := ⟨_, rfl⟩
        rw [hr] at HAPP HFR hds
        have HGP : Hid (M.gap = ⟨#[32]⟩) := rfl
        have HCL : Hid (M.colon = ⟨#[58]⟩) := rfl
        rw [HCL.out] at HAPP
        rw [HGP.out] at HT
        clear hx hy hz hq hf hr
        by_cases h0 : k = 0
        · have HT0 := Lib.hid ((if_pos h0 : (if k = 0 then y = x ++ z else y = x ++ ⟨#[32]⟩ ++ z) = (y = x ++ z)).mp HT.out)
          have hg0 : ¬ (0 : Int) < (k : Int) := by omega
          have hg2 : decide ((0 : Int) < (k : Int)) = false := decide_eq_false hg0
          have q1 : ¬ 9223372036854775807 < x.size + r.size := by omega
          have q2 : ¬ 9223372036854775807 < x.size + r.size + 1 := by omega
          have q3 : ¬ 9223372036854775807 < x.size + r.size + 1 + f.size := by omega
          clear h0
          go_wp2
          go_region_held3 (fun w' => w'.cell? ⟨b, o + k * 2, none⟩ = some (.int .i64 q) ∧ w'.cell? ⟨b, o + k * 2 + 1, none⟩ = some (.string f)) (first | exact ⟨c0, c1⟩ | exact t3) (first
            | (go_at_call 17; refine (HFR.out _).mono ?_; rintro e w3 ⟨rfl, hb3⟩; have K3 : Below wr.heap.size wr w3 := (by exact sstep (by go_grown) hb3); have t3 : w3.cell? ⟨b, o + k * 2, none⟩ = some (.int .i64 q) ∧ w3.cell? ⟨b, o + k * 2 + 1, none⟩ = some (.string f) := ⟨(K3.cell (p := ⟨b, o + k * 2, none⟩) hlb).trans c0, (K3.cell (p := ⟨b, o + k * 2 + 1, none⟩) hlb).trans c1⟩))
          all_goals
            go_wp2
            go_roundw
            case rel => exact ⟨k + 1, by omega, by go_num, by rw [HY.out, HT0.out, ← HAPP.out], sstep hb K3⟩
            case measure => simp [intOf]; omega
        · have HT0 := Lib.hid ((if_neg h0 : (if k = 0 then y = x ++ z else y = x ++ ⟨#[32]⟩ ++ z) = (y = x ++ ⟨#[32]⟩ ++ z)).mp HT.out)
          have hg0 : (0 : Int) < (k : Int) := by omega
          have hg2 : decide ((0 : Int) < (k : Int)) = true := decide_eq_true hg0
          have q1 : ¬ 9223372036854775807 < x.size + 1 + r.size := by omega
          have q2 : ¬ 9223372036854775807 < x.size + 1 + r.size + 1 := by omega
          have q3 : ¬ 9223372036854775807 < x.size + 1 + r.size + 1 + f.size := by omega
          clear h0
          go_wp2
          go_region_held3 (fun w' => w'.cell? ⟨b, o + k * 2, none⟩ = some (.int .i64 q) ∧ w'.cell? ⟨b, o + k * 2 + 1, none⟩ = some (.string f)) (first | exact ⟨c0, c1⟩ | exact t3) (first
            | (go_at_call 17; refine (HFR.out _).mono ?_; rintro e w3 ⟨rfl, hb3⟩; have K3 : Below wr.heap.size wr w3 := (by exact sstep (by go_grown) hb3); have t3 : w3.cell? ⟨b, o + k * 2, none⟩ = some (.int .i64 q) ∧ w3.cell? ⟨b, o + k * 2 + 1, none⟩ = some (.string f) := ⟨(K3.cell (p := ⟨b, o + k * 2, none⟩) hlb).trans c0, (K3.cell (p := ⟨b, o + k * 2 + 1, none⟩) hlb).trans c1⟩))
          all_goals
            go_wp2
            go_roundw
            case rel => exact ⟨k + 1, by omega, by go_num, by rw [HY.out, HT0.out, ← HAPP.out], sstep hb K3⟩
            case measure => simp [intOf]; omega
      · obtain rfl : k = n := by omega
        have HD := Lib.hid (M.dashed_gaps (T := M.letT I C) (n := k) (fun h0 => (HS.out (k - 1) (by omega)).2.2.2.2))
        obtain ⟨x, hx⟩ : ∃ x, M.gapsTo M.gap (M.letT I C) k = x := ⟨_, rfl⟩
        rw [hx] at HD hgs ⊢
        clear hx
        go_wp2_with fail
        refine (spec_l2Dash x wr).mono ?_
        rintro e w2 ⟨rfl, rfl⟩
        go_wp2
        go_ret
        exact ⟨ret_txt (HR.out.trans HD.out.symm), sstep B1.out hb⟩

set_option maxHeartbeats 1000000 in
set_option maxRecDepth 100000 in
theorem impl_FormatBatch (w : World) (a : Option Addr) (n c : Nat) (I : Nat → Int) (C : Nat → ByteArray) (hT : PowT w) (h : Lts w a n I C) (hf : Fits n I C) :
    Calls Tryd.prog 5 #[.slice a n c] w fun e w' => e = .returned (.string (M.batText n I C)) ∧ Below w.heap.size w w' := by
  have HL := Lib.hid h
  have HF := Lib.hid hf
  have HPT := Lib.hid hT
  clear h hf hT
  cases hv : M.batch n I C
  · have HV := Lib.hid hv
    have HR : Hid (M.batText n I C = ⟨#[]⟩) := by unfold Hid M.batText; rw [hv]; rfl
    clear hv
    go_enter Tryd.func5, Tryd.ntmps5
    go_wp2_with fail
    refine (impl_BatchValid w a n c I C HL.out HF.out).mono ?_
    rw [HV.out]
    rintro e w1 ⟨rfl, hb1⟩
    go_wp2
    go_ret
    exact ⟨ret_txt HR.out, hb1⟩
  · have HV := Lib.hid hv
    have HR : Hid (M.batText n I C = M.itemsOf (M.letT I C) n) := by unfold Hid M.batText; rw [hv]; rfl
    obtain ⟨nm, hall⟩ := bat_sizes hv
    have HS := Lib.hid hall
    clear hv hall
    go_enter Tryd.func5, Tryd.ntmps5
    go_wp2_with fail
    refine (impl_BatchValid w a n c I C HL.out HF.out).mono ?_
    rw [HV.out]
    rintro e w1 ⟨rfl, hb1⟩
    have HL1 := Lib.hid (HL.out.on hb1)
    have HP1 := Lib.hid (HPT.out.below hb1)
    have B1 := Lib.hid hb1
    have z1 := hb1.size
    clear hb1
    go_wp2
    go_loopw [3, 11] (fun q i wr => ∃ k : Nat, k ≤ n ∧ i = .int .i64 k ∧ Hid (SRow wr w1.heap.size q (sst (M.letT I C) k)) ∧ Below w1.heap.size w1 wr) (fun _ i _ => n - (intOf i).toNat)
    case atStart => exact ⟨0, Nat.zero_le _, rfl, SRow.nil _ _, Below.refl _ _⟩
    case round =>
      obtain ⟨k, hk, rfl, hrow, hb⟩ := hrel
      have hz := hb.size
      by_cases hlt : k < n
      · obtain ⟨b, o, rfl, c0, c1⟩ := (HL1.out.on hb) k hlt
        obtain ⟨i0, i1, s1, _, _⟩ := HS.out k hlt
        replace s1 := Nat.le_of_eq s1
        have HST : Hid (sst (M.letT I C) (k + 1) = sst (M.letT I C) k ++ [M.decT (I k) ++ M.colon ++ C k]) := by unfold Hid sst; rw [List.range_succ, List.map_append]; rfl
        have hlen := sst_length (M.letT I C) k
        obtain ⟨LL, hLL⟩ : ∃ LL, sst (M.letT I C) k = LL := ⟨_, rfl⟩
        rw [hLL] at hrow HST hlen
        obtain ⟨q, hq⟩ : ∃ q, I k = q := ⟨_, rfl⟩
        rw [hq] at c0 i0 i1 HST
        obtain ⟨f, hf⟩ : ∃ f, C k = f := ⟨_, rfl⟩
        rw [hf] at c1 s1 HST
        have hds := M.decT_size (n := q) (by omega) (by omega)
        have hbw := hb
        have HFR := Lib.hid (fun (W : World) (hb : Below wr.heap.size wr W) => itoa_dec q (by omega) (by omega) W ((HP1.out.below hbw).below hb))
        obtain ⟨r, hr⟩ : ∃ r, M.decT q = r := ⟨_, rfl⟩
        rw [hr] at HST HFR hds
        have HCL : Hid (M.colon = ⟨#[58]⟩) := rfl
        rw [HCL.out] at HST
        obtain ⟨OB, hOB⟩ : ∃ OB, (Obj.cells #[.int .i64 q, .string f] 37) = OB := ⟨_, rfl⟩
        have x0 : (wr.alloc OB).cell? ⟨wr.heap.size, 0, none⟩ = some (.int .i64 q) := by rw [← hOB]; simp [go_sem]
        have x1 : (wr.alloc OB).cell? ⟨wr.heap.size, 1, none⟩ = some (.string f) := by rw [← hOB]; simp [go_sem]
        have zo : (wr.alloc OB).heap.size = wr.heap.size + 1 := by simp
        have KO : Hid (Below wr.heap.size wr (wr.alloc OB)) := below_alloc0 wr OB
        have R0 := Lib.hid (hrow.out.alloc OB)
        have q1 : ¬ 9223372036854775807 < r.size + 1 := by omega
        have q2 : ¬ 9223372036854775807 < r.size + 1 + f.size := by omega
        have hk3 : ∀ (w3 : World), Below (wr.alloc OB).drew.heap.size (wr.alloc OB).drew w3 → (w3.cell? ⟨wr.heap.size, 0, none⟩ = some (.int .i64 q) ∧ w3.cell? ⟨wr.heap.size, 1, none⟩ = some (.string f)) ∧ wr.heap.size < w3.heap.size ∧ Below wr.heap.size wr w3 := fun w3 hb3 => by
          have hz3 := hb3.size
          have hz4 : wr.heap.size < (wr.alloc OB).drew.heap.size := by show wr.heap.size < (wr.alloc OB).heap.size; omega
          exact ⟨⟨(hb3.cell (p := ⟨wr.heap.size, 0, none⟩) hz4).trans x0, (hb3.cell (p := ⟨wr.heap.size, 1, none⟩) hz4).trans x1⟩, by omega, (KO.out.drew).trans (hb3.mono (by omega))⟩
        have hk4 : ∀ (w3 : World) (ob : Obj), (w3.cell? ⟨wr.heap.size, 0, none⟩ = some (.int .i64 q) ∧ w3.cell? ⟨wr.heap.size, 1, none⟩ = some (.string f)) → wr.heap.size < w3.heap.size → ((w3.alloc ob).cell? ⟨wr.heap.size, 0, none⟩ = some (.int .i64 q) ∧ (w3.alloc ob).cell? ⟨wr.heap.size, 1, none⟩ = some (.string f)) := fun w3 ob t3 z3 =>
          ⟨((below_alloc0 w3 ob).cell (p := ⟨wr.heap.size, 0, none⟩) z3).trans t3.1, ((below_alloc0 w3 ob).cell (p := ⟨wr.heap.size, 1, none⟩) z3).trans t3.2⟩
        have hk5 : ∀ (w3 : World) (ob : Obj) (w5 : World), (w3.cell? ⟨wr.heap.size, 0, none⟩ = some (.int .i64 q) ∧ w3.cell? ⟨wr.heap.size, 1, none⟩ = some (.string f)) → wr.heap.size < w3.heap.size → (w3.alloc ob).grownBy w5 u3.ownBlock → (w5.cell? ⟨wr.heap.size, 0, none⟩ = some (.int .i64 q) ∧ w5.cell? ⟨wr.heap.size, 1, none⟩ = some (.string f)) := fun w3 ob w5 t3 z3 g => by
          have hbk := (Only.of_grown g).block wr.heap.size (Nat.lt_of_lt_of_le z3 (below_alloc0 w3 ob).size) (fun e => by have := (hrow.out.lt _ e.symm).2; omega)
          have t4 := hk4 w3 ob t3 z3
          exact ⟨(World.cell?_of_block hbk).trans t4.1, (World.cell?_of_block hbk).trans t4.2⟩
        have hR3 : ∀ (w3 : World), Below (wr.alloc OB).drew.heap.size (wr.alloc OB).drew w3 → Hid (SRow w3 w1.heap.size u3 LL) := fun w3 hb3 => SRow.below (w := (wr.alloc OB).drew) R0.out hb3
        clear hLL hq hf hr hbw
        go_wp2
        go_region_held3 (fun w' => w'.cell? ⟨wr.heap.size, 0, none⟩ = some (.int .i64 q) ∧ w'.cell? ⟨wr.heap.size, 1, none⟩ = some (.string f)) (first | exact ⟨x0, x1⟩ | exact (hk3 _ hb3).1 | exact hk4 _ _ (hk3 _ hb3).1 (hk3 _ hb3).2.1 | exact t5) (first
          | (go_at_call 14; refine (HFR.out _ (by go_grown)).mono ?_; rintro e w3 ⟨rfl, hb3⟩; have z3 := (hk3 w3 hb3).2.1; have R3 := hR3 w3 hb3)
          | (refine step_append_str _ (by rfl) _ _ (by rfl) w1.heap.size _ LL (by rfl) (SRow.alloc (show _ from R3.out) _) _ (r ++ ⟨#[58]⟩ ++ f) (by rfl) (by simp [go_sem]) (by omega) (by simp; omega) ?_; intro v5 w5 r5 gr5 ho5; have t5 := hk5 _ _ w5 (hk3 _ hb3).1 z3 gr5))
        all_goals
          have R1 : Hid (SRow w5 w1.heap.size v5 (sst (M.letT I C) (k + 1))) := by rw [HST.out]; exact r5
          have K3 := (hk3 w3 hb3).2.2
          have B3 : Below w1.heap.size w1 w5 := Below.grown (sstep hb (K3.trans ((below_alloc0 w3 _).mono (by omega)))) gr5 (by simp; omega) (fun q e => (R3.out.lt q e).1)
          clear r5 gr5 ho5 t5 hk3 hk4 hk5 hR3
          go_wp2
          go_roundw
          case rel => exact ⟨k + 1, by omega, by go_num, R1, B3⟩
          case measure => simp [intOf]; omega
      · obtain rfl : k = n := by omega
        obtain ⟨a1, c1, e, hc1, hst⟩ := hrow.out.form
        rw [sst_length] at e hst hc1
        subst e
        have HSS : Hid (Strs wr a1 k (M.letT I C)) := hst.congr fun i hi => sC_sst hi
        have hgs := M.gapsTo_size (g := M.gap) (T := M.letT I C) (m := 12) (k := k) (fun i hi => (HS.out i (by omega)).2.2.2.1)
        have hg1 : M.gap.size = 1 := rfl
        rw [hg1] at hgs
        clear hst hg1
        go_wp2_with fail
        refine (impl_joinItems wr a1 k c1 (M.letT I C) HSS.out hc1 (by omega) (by omega)).mono ?_
        rintro e w2 ⟨rfl, hb2⟩
        go_wp2
        go_ret
        exact ⟨ret_txt HR.out, sstep (sstep B1.out hb) hb2⟩
end Go.Proofs.YtpfabfjbmaagnaaDoor
