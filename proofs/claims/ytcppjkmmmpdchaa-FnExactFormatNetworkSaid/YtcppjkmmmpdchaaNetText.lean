/-
  The text of a network, in the program and in the model of the document.
-/
import Derived.Test.YtcppjkmmmpdchaaRulText
import Derived.Test.YtcppjkmmmpdchaaNetV
import Derived.Test.YtcppjkmmmpdchaaNetW
import Derived.Deep.RegionHeld3
import Derived.Maps.AppendAt
namespace Go.Proofs.Ytcppjkmmmpdchaa
open Go.RowKit
open Go.PlainAid (bt get_bt bt_nonneg bt_le)
set_option linter.unusedVariables false

theorem step_append_str {ops : Array Oper} {o : Oper} {a : Act} {K : Act → World → Prop} {Q : Exit → Act → World → Prop} {E : Prop} (w : World) (hgd : o.guard = none) (s x : Operand)
    (ho : o.op = .call { callee := .builtin .append, args := #[s, x], argTypes := #[50, 50] })
    (base : Nat) (v : Value) (L : List ByteArray) (hs : a.eval s = v) (hrow : SRow w base v L) (b : Nat) (t : ByteArray) (hx : a.eval x = .slice (some ⟨b, 0, none⟩) 1 1)
    (hc : w.cell? ⟨b, 0, none⟩ = some (.string t)) (hl : L.length ≤ 1048576) (hbase : base ≤ w.heap.size)
    (hK : ∀ v' w', SRow w' base v' (L ++ [t]) → w.grownBy w' v.ownBlock → (v'.ownBlock = v.ownBlock ∨ v'.ownBlock = some w.heap.size) → K (a.put o.dst v') w') :
    if Region.wanted o (yielded ops a.tmps) = true then Oper.wp Try.prog o a w K Q else E := by
  have hw : Region.wanted o (yielded ops a.tmps) = true := by simp [Region.wanted, hgd]
  rw [if_pos hw]
  obtain ⟨i0, hi, hz0, hz1, hz2⟩ := info_parts info_string
  have hcells : ∀ j u, [Value.string t][j]? = some u → w.cell? ((⟨b, 0, none⟩ : Addr).add j) = some u := fun j u hj => by
    match j, hj with
    | 0, hj => simp at hj; subst hj; simpa [Addr.add] using hc
  have hone : ∀ u ∈ [Value.string t], u.oneCell' = true := fun u hu => by
    simp at hu
    subst hu; rfl
  obtain ⟨v', w', hr, h2, h3, _, h5⟩ := run_append_own_at (P := Try.prog) (w := w) base 50 o.type 9 i0 _ 1 16 Try.underlying50 hi hz0 hz1 hz2 rfl (by decide) v L.length (scells L) hrow ⟨b, 0, none⟩ 1 1 [.string t] rfl hcells hone (by unfold maxLen; omega) (by omega) hbase
  unfold Oper.wp execOp
  simp only [ho, resolve, invoke, builtin, Sem.run_bind, Sem.run_pure, Result.andThen_ok, List.map_toArray, List.map_cons, List.map_nil, hs, hx, hr]
  refine hK v' w' ?_ h3 h5
  unfold SRow
  rw [List.length_append, scells_append]
  exact h2

def M.semi : ByteArray := ⟨#[59]⟩
/-- The text of an office, and of a network. -/
def M.offT (NM : Nat → ByteArray) (RL : Nat → List (ByteArray × ByteArray)) (k : Nat) : ByteArray := NM k ++ M.gap ++ M.rulText (RL k).length (nF (RL k)) (nT (RL k))
def M.netText (n : Nat) (NM : Nat → ByteArray) (RL : Nat → List (ByteArray × ByteArray)) : ByteArray := if M.net n NM RL then M.gapsTo M.semi (M.offT NM RL) n else ⟨#[]⟩
theorem M.rulText_size {n : Nat} {F T : Nat → ByteArray} (h : M.rul n F T = true) : (M.rulText n F T).size ≤ 400 := by
  obtain ⟨hn, hs⟩ := rul_sizes h
  unfold M.rulText
  rw [h, if_pos rfl]
  unfold M.itemsOf
  by_cases h0 : n = 0
  · rw [if_pos h0]
    show (1 : Nat) ≤ 400
    omega
  · rw [if_neg h0]
    have := M.gapsTo_size (g := M.gap) (T := M.pairT F T) (m := 17) (k := n) (fun i hi => (M.pairT_size (hs i hi).1 (hs i hi).2).1)
    have hg : M.gap.size = 1 := rfl
    rw [hg] at this
    omega
theorem net_sizes {n : Nat} {NM : Nat → ByteArray} {RL : Nat → List (ByteArray × ByteArray)} (h : M.net n NM RL = true) : n ≤ 8 ∧ ∀ i, i < n → (NM i).size ≤ 8 ∧ (RL i).length ≤ 20 ∧ (M.rulText (RL i).length (nF (RL i)) (nT (RL i))).size ≤ 400 := by
  obtain ⟨h1, h2, h3⟩ := M.net_yes h
  refine ⟨h1.2, fun i hi => ?_⟩
  have h4 := M.name_yes ((M.nameTo_iff NM n).1 h2 i hi).1
  have h5 := (M.ruleOk_is (h3 i hi)).1
  exact ⟨h4.2.2, (rul_sizes h5).1, M.rulText_size h5⟩
theorem M.offT_size {NM : Nat → ByteArray} {RL : Nat → List (ByteArray × ByteArray)} {k : Nat} (h1 : (NM k).size ≤ 8) (h2 : (M.rulText (RL k).length (nF (RL k)) (nT (RL k))).size ≤ 400) : (M.offT NM RL k).size ≤ 409 := by
  have hg : M.gap.size = 1 := rfl
  unfold M.offT
  rw [ByteArray.size_append, ByteArray.size_append, hg]
  omega
theorem M.offT_app (o : ByteArray) (NM : Nat → ByteArray) (RL : Nat → List (ByteArray × ByteArray)) (k : Nat) : o ++ NM k ++ M.gap ++ M.rulText (RL k).length (nF (RL k)) (nT (RL k)) = o ++ M.offT NM RL k := by
  unfold M.offT
  rw [M.bapp_assoc, M.bapp_assoc, M.bapp_assoc]

set_option maxHeartbeats 1000000 in
set_option maxRecDepth 100000 in
theorem spec_FormatNetwork (w : World) (a : Option Addr) (n c : Nat) (NM : Nat → ByteArray) (RL : Nat → List (ByteArray × ByteArray)) (h : Nts w a n NM RL) (hf : NFits n NM RL) (hn : n ≤ 1048576) (hl : ∀ i, i < n → (RL i).length ≤ 1048576) :
    Calls Try.prog 17 #[.slice a n c] w fun e w' => e = .returned (.string (M.netText n NM RL)) ∧ Below w.heap.size w w' := by
  have HL := Lib.hid h
  have HF := Lib.hid hf
  have HN := Lib.hid hl
  clear h hf hl
  cases hv : M.net n NM RL
  · have HV := Lib.hid hv
    have HR : Hid (M.netText n NM RL = ⟨#[]⟩) := by unfold Hid M.netText; rw [hv]; rfl
    clear hv
    go_enter Try.func17, Try.ntmps17
    go_wp2_with fail
    refine (spec_NetworkValid w a n c NM RL HL.out HF.out hn HN.out).mono ?_
    rw [HV.out]
    rintro e w1 ⟨rfl, rfl⟩
    go_wp2
    go_ret
    exact ⟨ret_txt HR.out, Below.refl _ _⟩
  · have HV := Lib.hid hv
    have HR : Hid (M.netText n NM RL = M.gapsTo M.semi (M.offT NM RL) n) := by unfold Hid M.netText; rw [hv]; rfl
    obtain ⟨nm, hall⟩ := net_sizes hv
    have HS := Lib.hid hall
    clear hv hall
    go_enter Try.func17, Try.ntmps17
    go_wp2_with fail
    refine (spec_NetworkValid w a n c NM RL HL.out HF.out hn HN.out).mono ?_
    rw [HV.out]
    rintro e w1 ⟨rfl, rfl⟩
    go_wp2
    go_loopw [3, 4] (fun o i wr => ∃ k : Nat, k ≤ n ∧ i = .int .i64 k ∧ o = .string (M.gapsTo M.semi (M.offT NM RL) k) ∧ Below w.heap.size w wr) (fun _ i _ => n - (intOf i).toNat)
    case atStart => exact ⟨0, Nat.zero_le _, rfl, rfl, Below.refl _ _⟩
    case round =>
      obtain ⟨k, hk, rfl, rfl, hb⟩ := hrel
      have hgs := M.gapsTo_size (g := M.semi) (T := M.offT NM RL) (m := 409) (k := k) (fun i hi => M.offT_size (HS.out i (by omega)).1 (HS.out i (by omega)).2.2)
      have hg1 : M.semi.size = 1 := rfl
      rw [hg1] at hgs
      clear hg1
      by_cases hlt : k < n
      · obtain ⟨b, o, a', c', rfl, c0, c1, hfw⟩ := (HL.out.on hb) k hlt
        obtain ⟨s0, s1, s2⟩ := HS.out k hlt
        have hlb := World.block_lt_of_cell? _ _ c0
        have hki : (k : Int) < (n : Int) := by omega
        have HFW := Lib.hid hfw
        have HFF := Lib.hid (HF.out k hlt).2.1
        have HAPP := Lib.hid (fun o => M.offT_app o NM RL k)
        have HT : Hid (if k = 0 then M.gapsTo M.semi (M.offT NM RL) (k + 1) = M.gapsTo M.semi (M.offT NM RL) k ++ M.offT NM RL k else M.gapsTo M.semi (M.offT NM RL) (k + 1) = M.gapsTo M.semi (M.offT NM RL) k ++ M.semi ++ M.offT NM RL k) := by
          by_cases h0 : k = 0
          · rw [Hid, if_pos h0]; exact M.gapsTo_first _ _ h0
          · rw [Hid, if_neg h0]; exact M.gapsTo_next _ _ h0
        obtain ⟨x, hx⟩ : ∃ x, M.gapsTo M.semi (M.offT NM RL) k = x := ⟨_, rfl⟩
        obtain ⟨y, hy⟩ : ∃ y, M.gapsTo M.semi (M.offT NM RL) (k + 1) = y := ⟨_, rfl⟩
        obtain ⟨z, hz⟩ : ∃ z, M.offT NM RL k = z := ⟨_, rfl⟩
        have HY := Lib.hid hy
        rw [hx, hy, hz] at HT
        rw [hz] at HAPP
        rw [hx] at hgs ⊢
        obtain ⟨L, hL⟩ : ∃ L, RL k = L := ⟨_, rfl⟩
        rw [hL] at c1 s1 s2 HFW HFF HAPP
        obtain ⟨f, hf⟩ : ∃ f, NM k = f := ⟨_, rfl⟩
        rw [hf] at c0 s0 HAPP
        have HFR := Lib.hid (fun W (hb : Below wr.heap.size wr W) => spec_FormatRules W a' L.length c' (nF L) (nT L) (HFW.out.on hb) HFF.out (by omega))
        obtain ⟨r, hr⟩ : ∃ r, M.rulText L.length (nF L) (nT L) = r := ⟨_, rfl⟩
        rw [hr] at HAPP HFR s2
        have HGP : Hid (M.gap = ⟨#[32]⟩) := rfl
        have HSM : Hid (M.semi = ⟨#[59]⟩) := rfl
        rw [HGP.out] at HAPP
        rw [HSM.out] at HT
        clear hx hy hz hL hf hr hfw
        by_cases h0 : k = 0
        · have HT0 := Lib.hid ((if_pos h0 : (if k = 0 then y = x ++ z else y = x ++ ⟨#[59]⟩ ++ z) = (y = x ++ z)).mp HT.out)
          have hg0 : ¬ (0 : Int) < (k : Int) := by omega
          have hg2 : decide ((0 : Int) < (k : Int)) = false := decide_eq_false hg0
          have q1 : ¬ 9223372036854775807 < x.size + f.size := by omega
          have q2 : ¬ 9223372036854775807 < x.size + f.size + 1 := by omega
          have q3 : ¬ 9223372036854775807 < x.size + f.size + 1 + r.size := by omega
          clear h0
          go_wp2
          go_region_held3 (fun w' => w'.cell? ⟨b, o + k * 2, none⟩ = some (.string f) ∧ w'.cell? ⟨b, o + k * 2 + 1, none⟩ = some (.slice a' L.length c')) (first | exact ⟨c0, c1⟩ | exact t3) (first
            | (go_at_call 12; refine (HFR.out _ (by go_grown)).mono ?_; rintro e w3 ⟨rfl, hb3⟩; have K3 : Below wr.heap.size wr w3 := (by exact sstep (by go_grown) hb3); have t3 : w3.cell? ⟨b, o + k * 2, none⟩ = some (.string f) ∧ w3.cell? ⟨b, o + k * 2 + 1, none⟩ = some (.slice a' L.length c') := ⟨(K3.cell (p := ⟨b, o + k * 2, none⟩) hlb).trans c0, (K3.cell (p := ⟨b, o + k * 2 + 1, none⟩) hlb).trans c1⟩))
          all_goals
            go_wp2
            go_roundw
            case rel => exact ⟨k + 1, by omega, by go_num, by rw [HY.out, HT0.out, ← HAPP.out], sstep hb K3⟩
            case measure => simp [intOf]; omega
        · have HT0 := Lib.hid ((if_neg h0 : (if k = 0 then y = x ++ z else y = x ++ ⟨#[59]⟩ ++ z) = (y = x ++ ⟨#[59]⟩ ++ z)).mp HT.out)
          have hg0 : (0 : Int) < (k : Int) := by omega
          have hg2 : decide ((0 : Int) < (k : Int)) = true := decide_eq_true hg0
          have q1 : ¬ 9223372036854775807 < x.size + 1 + f.size := by omega
          have q2 : ¬ 9223372036854775807 < x.size + 1 + f.size + 1 := by omega
          have q3 : ¬ 9223372036854775807 < x.size + 1 + f.size + 1 + r.size := by omega
          clear h0
          go_wp2
          go_region_held3 (fun w' => w'.cell? ⟨b, o + k * 2, none⟩ = some (.string f) ∧ w'.cell? ⟨b, o + k * 2 + 1, none⟩ = some (.slice a' L.length c')) (first | exact ⟨c0, c1⟩ | exact t3) (first
            | (go_at_call 12; refine (HFR.out _ (by go_grown)).mono ?_; rintro e w3 ⟨rfl, hb3⟩; have K3 : Below wr.heap.size wr w3 := (by exact sstep (by go_grown) hb3); have t3 : w3.cell? ⟨b, o + k * 2, none⟩ = some (.string f) ∧ w3.cell? ⟨b, o + k * 2 + 1, none⟩ = some (.slice a' L.length c') := ⟨(K3.cell (p := ⟨b, o + k * 2, none⟩) hlb).trans c0, (K3.cell (p := ⟨b, o + k * 2 + 1, none⟩) hlb).trans c1⟩))
          all_goals
            go_wp2
            go_roundw
            case rel => exact ⟨k + 1, by omega, by go_num, by rw [HY.out, HT0.out, ← HAPP.out], sstep hb K3⟩
            case measure => simp [intOf]; omega
      · obtain rfl : k = n := by omega
        go_wp2
        go_ret
        exact ⟨ret_txt HR.out, hb⟩

set_option maxHeartbeats 1000000 in
set_option maxRecDepth 100000 in
theorem impl_FormatNetwork (w : World) (a : Option Addr) (n c : Nat) (NM : Nat → ByteArray) (RL : Nat → List (ByteArray × ByteArray)) (h : Nts w a n NM RL) (hf : NFits n NM RL) (hn : n ≤ 1048576) :
    Calls Try.prog 19 #[.slice a n c] w fun e w' => e = .returned (.string (M.netText n NM RL)) ∧ Below w.heap.size w w' := by
  have HL := Lib.hid h
  have HF := Lib.hid hf
  clear h hf
  cases hv : M.net n NM RL
  · have HV := Lib.hid hv
    have HR : Hid (M.netText n NM RL = ⟨#[]⟩) := by unfold Hid M.netText; rw [hv]; rfl
    clear hv
    go_enter Try.func19, Try.ntmps19
    go_wp2_with fail
    refine (impl_NetworkValid w a n c NM RL HL.out HF.out hn).mono ?_
    rw [HV.out]
    rintro e w1 ⟨rfl, hb1⟩
    go_wp2
    go_ret
    exact ⟨ret_txt HR.out, hb1⟩
  · have HV := Lib.hid hv
    have HR : Hid (M.netText n NM RL = M.gapsTo M.semi (M.offT NM RL) n) := by unfold Hid M.netText; rw [hv]; rfl
    obtain ⟨nm, hall⟩ := net_sizes hv
    have HS := Lib.hid hall
    have n1 : n ≠ 0 := by have := (M.net_yes hv).1; omega
    clear hv hall
    go_enter Try.func19, Try.ntmps19
    go_wp2_with fail
    refine (impl_NetworkValid w a n c NM RL HL.out HF.out hn).mono ?_
    rw [HV.out]
    rintro e w1 ⟨rfl, hb1⟩
    have HL1 := Lib.hid (HL.out.on hb1)
    have B1 := Lib.hid hb1
    have z1 := hb1.size
    clear hb1
    go_wp2
    go_loopw [3, 11] (fun q i wr => ∃ k : Nat, k ≤ n ∧ i = .int .i64 k ∧ Hid (SRow wr w1.heap.size q (sst (M.offT NM RL) k)) ∧ Below w1.heap.size w1 wr) (fun _ i _ => n - (intOf i).toNat)
    case atStart => exact ⟨0, Nat.zero_le _, rfl, SRow.nil _ _, Below.refl _ _⟩
    case round =>
      obtain ⟨k, hk, rfl, hrow, hb⟩ := hrel
      have hz := hb.size
      by_cases hlt : k < n
      · obtain ⟨b, o, a', c', rfl, c0, c1, hfw⟩ := (HL1.out.on hb) k hlt
        obtain ⟨s0, s1, s2⟩ := HS.out k hlt
        have hlb := World.block_lt_of_cell? _ _ c0
        have HFW := Lib.hid hfw
        have HFF := Lib.hid (HF.out k hlt).2.1
        have HST : Hid (sst (M.offT NM RL) (k + 1) = sst (M.offT NM RL) k ++ [NM k ++ M.gap ++ M.rulText (RL k).length (nF (RL k)) (nT (RL k))]) := by unfold Hid sst; rw [List.range_succ, List.map_append]; rfl
        have hlen := sst_length (M.offT NM RL) k
        obtain ⟨LL, hLL⟩ : ∃ LL, sst (M.offT NM RL) k = LL := ⟨_, rfl⟩
        rw [hLL] at hrow HST hlen
        obtain ⟨L, hL⟩ : ∃ L, RL k = L := ⟨_, rfl⟩
        rw [hL] at c1 s1 s2 HFW HFF HST
        obtain ⟨f, hf⟩ : ∃ f, NM k = f := ⟨_, rfl⟩
        rw [hf] at c0 s0 HST
        have HFR := Lib.hid (fun W (hb : Below wr.heap.size wr W) => impl_FormatRules W a' L.length c' (nF L) (nT L) (HFW.out.on hb) HFF.out)
        obtain ⟨r, hr⟩ : ∃ r, M.rulText L.length (nF L) (nT L) = r := ⟨_, rfl⟩
        rw [hr] at HST HFR s2
        have HGP : Hid (M.gap = ⟨#[32]⟩) := rfl
        rw [HGP.out] at HST
        obtain ⟨OB, hOB⟩ : ∃ OB, (Obj.cells #[.string f, .slice a' L.length c'] 65) = OB := ⟨_, rfl⟩
        have x0 : (wr.alloc OB).cell? ⟨wr.heap.size, 0, none⟩ = some (.string f) := by rw [← hOB]; simp [go_sem]
        have x1 : (wr.alloc OB).cell? ⟨wr.heap.size, 1, none⟩ = some (.slice a' L.length c') := by rw [← hOB]; simp [go_sem]
        have zo : (wr.alloc OB).heap.size = wr.heap.size + 1 := by simp
        have KO : Hid (Below wr.heap.size wr (wr.alloc OB)) := below_alloc0 wr OB
        have R0 := Lib.hid (hrow.out.alloc OB)
        have q1 : ¬ 9223372036854775807 < f.size + 1 := by omega
        have q2 : ¬ 9223372036854775807 < f.size + 1 + r.size := by omega
        have hk3 : ∀ (w3 : World), Below (wr.alloc OB).drew.heap.size (wr.alloc OB).drew w3 → (w3.cell? ⟨wr.heap.size, 0, none⟩ = some (.string f) ∧ w3.cell? ⟨wr.heap.size, 1, none⟩ = some (.slice a' L.length c')) ∧ wr.heap.size < w3.heap.size ∧ Below wr.heap.size wr w3 := fun w3 hb3 => by
          have hz3 := hb3.size
          have hz4 : wr.heap.size < (wr.alloc OB).drew.heap.size := by show wr.heap.size < (wr.alloc OB).heap.size; omega
          exact ⟨⟨(hb3.cell (p := ⟨wr.heap.size, 0, none⟩) hz4).trans x0, (hb3.cell (p := ⟨wr.heap.size, 1, none⟩) hz4).trans x1⟩, by omega, (KO.out.drew).trans (hb3.mono (by omega))⟩
        have hk4 : ∀ (w3 : World) (ob : Obj), (w3.cell? ⟨wr.heap.size, 0, none⟩ = some (.string f) ∧ w3.cell? ⟨wr.heap.size, 1, none⟩ = some (.slice a' L.length c')) → wr.heap.size < w3.heap.size → ((w3.alloc ob).cell? ⟨wr.heap.size, 0, none⟩ = some (.string f) ∧ (w3.alloc ob).cell? ⟨wr.heap.size, 1, none⟩ = some (.slice a' L.length c')) := fun w3 ob t3 z3 =>
          ⟨((below_alloc0 w3 ob).cell (p := ⟨wr.heap.size, 0, none⟩) z3).trans t3.1, ((below_alloc0 w3 ob).cell (p := ⟨wr.heap.size, 1, none⟩) z3).trans t3.2⟩
        have hk5 : ∀ (w3 : World) (ob : Obj) (w5 : World), (w3.cell? ⟨wr.heap.size, 0, none⟩ = some (.string f) ∧ w3.cell? ⟨wr.heap.size, 1, none⟩ = some (.slice a' L.length c')) → wr.heap.size < w3.heap.size → (w3.alloc ob).grownBy w5 u3.ownBlock → (w5.cell? ⟨wr.heap.size, 0, none⟩ = some (.string f) ∧ w5.cell? ⟨wr.heap.size, 1, none⟩ = some (.slice a' L.length c')) := fun w3 ob w5 t3 z3 g => by
          have hbk := (Only.of_grown g).block wr.heap.size (Nat.lt_of_lt_of_le z3 (below_alloc0 w3 ob).size) (fun e => by have := (hrow.out.lt _ e.symm).2; omega)
          have t4 := hk4 w3 ob t3 z3
          exact ⟨(World.cell?_of_block hbk).trans t4.1, (World.cell?_of_block hbk).trans t4.2⟩
        have hR3 : ∀ (w3 : World), Below (wr.alloc OB).drew.heap.size (wr.alloc OB).drew w3 → Hid (SRow w3 w1.heap.size u3 LL) := fun w3 hb3 => SRow.below (w := (wr.alloc OB).drew) R0.out hb3
        clear hLL hL hf hr hfw
        go_wp2
        go_region_held3 (fun w' => w'.cell? ⟨wr.heap.size, 0, none⟩ = some (.string f) ∧ w'.cell? ⟨wr.heap.size, 1, none⟩ = some (.slice a' L.length c')) (first | exact ⟨x0, x1⟩ | exact (hk3 _ hb3).1 | exact hk4 _ _ (hk3 _ hb3).1 (hk3 _ hb3).2.1 | exact t5) (first
          | (go_at_call 14; refine (HFR.out _ (by go_grown)).mono ?_; rintro e w3 ⟨rfl, hb3⟩; have z3 := (hk3 w3 hb3).2.1; have R3 := hR3 w3 hb3)
          | (refine step_append_str _ (by rfl) _ _ (by rfl) w1.heap.size _ LL (by rfl) (SRow.alloc (show _ from R3.out) _) _ (f ++ ⟨#[32]⟩ ++ r) (by rfl) (by simp [go_sem]) (by omega) (by simp; omega) ?_; intro v5 w5 r5 gr5 ho5; have t5 := hk5 _ _ w5 (hk3 _ hb3).1 z3 gr5))
        all_goals
          have R1 : Hid (SRow w5 w1.heap.size v5 (sst (M.offT NM RL) (k + 1))) := by rw [HST.out]; exact r5
          have K3 := (hk3 w3 hb3).2.2
          have B3 : Below w1.heap.size w1 w5 := Below.grown (sstep hb (K3.trans ((below_alloc0 w3 _).mono (by omega)))) gr5 (by simp; omega) (fun q e => (R3.out.lt q e).1)
          clear r5 gr5 ho5 t5 hk3 hk4 hk5 hR3
          go_wp2
          go_roundw
          case rel => exact ⟨k + 1, by omega, by go_num, R1, B3⟩
          case measure => simp [intOf]; omega
      · obtain rfl : k = n := by omega
        obtain ⟨a1, c1, e, hc1, hst⟩ := hrow.out.form
        rw [sst_length] at e hst hc1
        subst e
        have HSS : Hid (Strs wr a1 k (M.offT NM RL)) := hst.congr fun i hi => sC_sst hi
        have hgs := M.gapsTo_size (g := M.semi) (T := M.offT NM RL) (m := 409) (k := k) (fun i hi => M.offT_size (HS.out i (by omega)).1 (HS.out i (by omega)).2.2)
        have hg1 : M.semi.size = 1 := rfl
        rw [hg1] at hgs
        clear hst hg1
        go_wp2_with fail
        refine (strings_join wr a1 k c1 (M.offT NM RL) M.semi HSS.out hc1 n1 (by omega) (by omega)).mono ?_
        rintro e w2 ⟨rfl, hb2⟩
        go_wp2
        go_ret
        exact ⟨ret_txt HR.out, sstep (sstep B1.out hb) hb2⟩
end Go.Proofs.Ytcppjkmmmpdchaa
