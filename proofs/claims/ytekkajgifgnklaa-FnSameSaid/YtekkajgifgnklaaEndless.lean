/-
  The codes of which letters never arrive: program and model.
-/
import Derived.Test.YtekkajgifgnklaaSort
import Derived.Test.YtekkajgifgnklaaFBatch
import Derived.Test.YtekkajgifgnklaaLong
namespace Go.Proofs.Ytekkajgifgnklaa
open Go.RowKit Go.Maps
open Go.PlainAid (bt get_bt bt_nonneg bt_le)
set_option linter.unusedVariables false

namespace M
/-- Among the first orders those that lead nowhere: their codes. -/
def endl (F T : Nat → ByteArray) (n : Nat) : Nat → List ByteArray
  | 0 => []
  | k + 1 => if (res F T n (F k)).isSome then endl F T n k else endl F T n k ++ [F k]
theorem endl_le (F T : Nat → ByteArray) (n : Nat) : ∀ k, (endl F T n k).length ≤ k
  | 0 => Nat.le_refl 0
  | k + 1 => by
    have := endl_le F T n k
    unfold endl
    split
    · omega
    · rw [List.length_append]
      show _ + 1 ≤ k + 1
      omega
theorem endl_yes {F T : Nat → ByteArray} {n k : Nat} (h : (res F T n (F k)).isSome = true) : endl F T n (k + 1) = endl F T n k := if_pos h
theorem endl_no {F T : Nat → ByteArray} {n k : Nat} (h : (res F T n (F k)).isSome = false) : endl F T n (k + 1) = endl F T n k ++ [F k] := if_neg (by rw [h]; decide)
def endless (F T : Nat → ByteArray) (n : Nat) : List ByteArray := if fwd n F T then insAll (endl F T n n) else []
theorem endless_no {F T : Nat → ByteArray} {n : Nat} (h : fwd n F T = false) : endless F T n = [] := by unfold endless; rw [h]; rfl
theorem endless_yes {F T : Nat → ByteArray} {n : Nat} (h : fwd n F T = true) : endless F T n = insAll (endl F T n n) := by unfold endless; rw [h]; rfl
theorem endless_le (F T : Nat → ByteArray) (n : Nat) : (endless F T n).length ≤ n := by
  unfold endless
  split
  · rw [insAll_len]; exact endl_le F T n n
  · exact Nat.zero_le _
end M
theorem sst_sC (L : List ByteArray) : sst (sC L) L.length = L := by
  apply List.ext_getElem?
  intro i
  unfold sst
  by_cases h : i < L.length
  · simp [h, sC_at h]
  · rw [List.getElem?_eq_none (by simp; omega), List.getElem?_eq_none (by omega)]
/-- A row of strings lies in no block of a book. -/
theorem SRow.offBook {w : World} {base base' g n : Nat} {v : Value} {L : List ByteArray} {f : ByteArray → Option Nat} {nx : ByteArray → Option ByteArray} (h : SRow w base v L) (hB : Book w base' g n f nx) {k : Nat} (hv : v.ownBlock = some k) : k ≠ g ∧ ∀ c b, f c = some b → b ≠ k := by
  rcases h.2 with ⟨rfl, _⟩ | ⟨g', cap, cur, rfl, _, hg', _⟩
  · simp [Value.ownBlock] at hv
  · have e : g' = k := Option.some.inj hv
    subst e
    refine ⟨fun e => ?_, fun c b hb e => ?_⟩
    · obtain ⟨_, ⟨D, ⟨es, clock, hm, _⟩, _⟩, _⟩ := hB
      rw [← e, hg'] at hm
      cases Option.some.inj hm
    · obtain ⟨_, _, _, _, ca, hca⟩ := hB.node hb
      rw [e, hg'] at hca
      have h2 := Option.some.inj hca
      injection h2 with _ h3
      exact absurd h3 (by decide)
theorem Book.sgrown {w w' : World} {base base' g n : Nat} {v : Value} {L : List ByteArray} {f : ByteArray → Option Nat} {nx : ByteArray → Option ByteArray} (h : Book w base g n f nx) (hr : SRow w base' v L) (hg : w.grownBy w' v.ownBlock) : Book w' base g n f nx := h.keep fun k hlt hk => hg.block k hlt fun e => by
  obtain ⟨h1, h2⟩ := hr.offBook h e.symm
  rcases hk with rfl | ⟨c, hc⟩
  · exact h1 rfl
  · exact h2 c k hc rfl

set_option maxHeartbeats 2000000 in
set_option maxRecDepth 100000 in
theorem impl_EndlessCodes (w : World) (a : Option Addr) (n cap : Nat) (F T : Nat → ByteArray) (h : Fws w a n F T) (hf : FFits n F T) :
    Calls Try.prog 17 #[.slice a n cap] w (SRowOut w (M.endless F T n)) := by
  have HL := Lib.hid h
  have HF := Lib.hid hf
  clear h hf
  go_enter Try.func17, Try.ntmps17
  cases hok : M.fwd n F T
  · have hv := Lib.hid (M.endless_no hok)
    go_wp2_with fail
    refine (bookOf_no _ _ _ _ _ _ HL.out HF.out hok).mono ?_
    rintro e w1 ⟨rfl, hb1⟩
    have hq := eql_nobook w1
    go_wp2
    go_ret
    exact ⟨_, rfl, by rw [hv.out]; exact SRow.nil _ _, hb1⟩
  · have hv := Lib.hid (M.endless_yes hok)
    have hN := (M.fwd_yes hok).1
    go_wp2_with fail
    refine (bookOf_yes _ _ _ _ _ _ HL.out HF.out hok).mono ?_
    rintro e w1 ⟨g, m, f, rfl, hm, hB, hb1⟩
    have hq := eql_book g w1
    have HB := Lib.hid hB
    have hbase := hB.1
    clear hB hok
    go_wp2
    go_loopw [4, 16] (fun v i wr => ∃ (k : Nat) (f : ByteArray → Option Nat), k ≤ n ∧ i = .int .i64 k ∧ Hid (SRow wr w.heap.size v (M.endl F T n k)) ∧ Hid (Book wr w.heap.size g (m + k) f (M.nextOf F T n)) ∧ Below w.heap.size w wr) (fun _ i _ => n - (intOf i).toNat)
    case atStart => exact ⟨0, f, Nat.zero_le _, rfl, SRow.nil _ _, HB, hb1⟩
    case round =>
      obtain ⟨k, f, hk, rfl, hrow, hbk, hb⟩ := hrel
      have hz := hb.size
      have hgl := hbk.out.lt
      have hle := M.endl_le F T n k
      by_cases hlt : k < n
      · obtain ⟨b, o, rfl, c0, c1⟩ := (HL.out.on hb) k hlt
        have s0 := (HF.out k hlt).1
        have OU : Hid (∀ b, u4.ownBlock = some b → ¬ b = g) := fun b hb' => (hrow.out.offBook hbk.out hb').1
        have hr := Lib.hid (resV_eq (M.res F T n (F k)))
        obtain ⟨s, hs⟩ : ∃ s, M.endS (M.res F T n (F k)) = s := ⟨_, rfl⟩
        obtain ⟨t, ht⟩ : ∃ t, M.cntOf (M.res F T n (F k)) = t := ⟨_, rfl⟩
        rw [hs, ht] at hr
        clear hs ht
        cases hy : (M.res F T n (F k)).isSome
        · have E1 := Lib.hid (M.endl_no hy)
          rw [hy] at hr
          clear hy
          go_wp2_with (first
            | (go_at_call 24; refine (resolve_any _ w.heap.size g (m + k) n f F T (hbk.out.on (by go_grown)) (F k) s0 (by omega) hN).mono ?_; rintro e w3 ⟨rfl, ⟨f', hB3⟩, ho⟩; rw [hr.out]; have q0 : w3.cell? ⟨wr.heap.size, 0, none⟩ = some (.string (F k)) := (World.cell?_of_block (a := ⟨wr.heap.size, 0, none⟩) (ho.block wr.heap.size (by simp) (by omega))).trans (by simp); have O3 : Only wr w3 (fun k => k = g) := (Only.new (by go_grown)).trans ho (fun _ _ h => h); have hb3 : Below w.heap.size w w3 := hb.trans (O3.below (B := w.heap.size) (fun k hk _ (e : k = g) => by omega) hz); have hz3 := hb3.size; have hz4 : wr.heap.size < w3.heap.size := World.block_lt_of_cell? _ _ q0; have U3 := Lib.hid (hrow.out.only O3 OU.out); have HB3 := Lib.hid hB3; clear hB3 ho O3)
            | (at_builtin; refine wpList_append_string _ rfl _ _ rfl w.heap.size _ _ rfl (U3.out.alloc _) _ (F k) rfl ?_ (by omega) (by simp; omega) ?_))
          · simp [go_sem]
          · intro v' w4 hr3 hg3 ho3
            have q4 := sbelow_grown (W := w) (hb3.alloc hz3 _) (U3.out.alloc _) (Nat.le_refl _) hg3
            have Q5 := Lib.hid ((HB3.out.on (below_alloc0 _ _)).sgrown (U3.out.alloc _) hg3)
            have R3 := Lib.hid hr3
            clear hr3 hg3 ho3
            go_wp2
            go_roundw
            case rel => exact ⟨k + 1, f', by omega, by go_num, by rw [E1.out]; exact R3, Q5, q4⟩
            case measure => simp [intOf]; omega
        · have E1 := Lib.hid (M.endl_yes hy)
          rw [hy] at hr
          clear hy
          go_wp2_with (go_at_call 24; refine (resolve_any _ w.heap.size g (m + k) n f F T (hbk.out.on (by go_grown)) (F k) s0 (by omega) hN).mono ?_; rintro e w3 ⟨rfl, ⟨f', hB3⟩, ho⟩; rw [hr.out]; have q0 : w3.cell? ⟨wr.heap.size, 0, none⟩ = some (.string (F k)) := (World.cell?_of_block (a := ⟨wr.heap.size, 0, none⟩) (ho.block wr.heap.size (by simp) (by omega))).trans (by simp); have O3 : Only wr w3 (fun k => k = g) := (Only.new (by go_grown)).trans ho (fun _ _ h => h); have hb3 : Below w.heap.size w w3 := hb.trans (O3.below (B := w.heap.size) (fun k hk _ (e : k = g) => by omega) hz); have hz3 := hb3.size; have hz4 : wr.heap.size < w3.heap.size := World.block_lt_of_cell? _ _ q0; have U3 := Lib.hid (hrow.out.only O3 OU.out); have HB3 := Lib.hid hB3; clear hB3 ho O3)
          go_roundw
          case rel => exact ⟨k + 1, f', by omega, by go_num, by rw [E1.out]; exact U3, HB3, hb3⟩
          case measure => simp [intOf]; omega
      · obtain rfl : k = n := by omega
        go_wp2_with (go_at_call 40; refine (sort_strings _ w.heap.size _ _ hrow.out (by omega)).mono ?_; rintro e w3 ⟨rfl, r3, gr3⟩; have K3 : Hid (Below w.heap.size w w3) := hb.grown gr3 hz (fun q e => (hrow.out.lt q e).1); have R3 := Lib.hid r3; clear r3 gr3)
        go_ret
        exact ⟨_, rfl, by rw [hv.out]; exact R3.out, K3.out⟩
theorem M.endless_small (F T : Nat → ByteArray) (n : Nat) (hn : n ≤ 1048576) : (M.endless F T n).length ≤ 1048576 := Nat.le_trans (M.endless_le F T n) hn
end Go.Proofs.Ytekkajgifgnklaa
