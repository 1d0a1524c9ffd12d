/-
  What digitOf, put, trieOfAll and lookUp do to a trie.
-/
import Derived.Test.YtkbebpadbdhnhaaTrie
import Derived.Test.YtkbebpadbdhnhaaLookS
namespace Go.Proofs.Ytkbebpadbdhnhaa
open Go.RowKit Go.Lib
open Go.PlainAid (bt get_bt bt_nonneg bt_le)
set_option linter.unusedVariables false

set_option maxHeartbeats 400000 in
theorem impl_digitOf (r : Int) (h0 : 48 ≤ r) (h1 : r ≤ 57) (w : World) :
    Calls Try.prog 43 #[.int .i32 r] w fun e w' => e = .returned (.int .i64 (((r - 48).toNat : Nat) : Int)) ∧ w = w' := by
  have h2 : (((r - 48).toNat : Nat) : Int) = r - 48 := by omega
  have H2 := Lib.hid h2
  clear h2
  go_enter Try.func43, Try.ntmps43
  go_wp2
  go_ret
  exact ⟨ret_int H2.out.symm, rfl⟩

theorem dg_step {p : ByteArray} (hd : M.digs p = true) {k : Nat} (hk : k < p.size) : (bt p k - 48).toNat < 10 := by
  have := M.digs_bt hd k hk
  omega
theorem iterAt_only (w : World) (k : Nat) (s : ByteArray) (pos : Nat) : Only w (w.iterAt k s pos) (fun x => x = k) :=
  ⟨rfl, rfl, rfl, by simp [World.iterAt], fun i hi hn => by
    show (w.heap.setIfInBounds k (.stringIter s pos))[i]? = _
    rw [Array.getElem?_setIfInBounds_ne (fun e => hn e.symm)]⟩
/-- An iterator's block holds no cells. -/
theorem iter_ne {w : World} {G : Nat} {s : ByteArray} {pos : Nat} (hG : w.heap[G]? = some (.stringIter s pos)) {a : Addr} {v : Value} (hc : w.cell? a = some v) : a.block ≠ G := by
  intro e
  unfold World.cell? at hc
  rw [e, hG] at hc
  cases hc
theorem Trie.iter {w : World} {base : Nat} {nd : List Nat → Option Nat} {rl : List Nat → Option (Nat × ByteArray × ByteArray)} (h : Trie w base nd rl) {G : Nat} {s : ByteArray} {pos : Nat} (hG : w.heap[G]? = some (.stringIter s pos)) (pos' : Nat) : Trie (w.iterAt G s pos') base nd rl :=
  h.kept (iterAt_only w G s pos') (fun q b hb e => iter_ne hG (h.ruleOf hb) e) fun q x hx e => iter_ne hG (h.rule hx).2.1 e

/-- What lookUp returns of a trie. -/
def rlV (rl : List Nat → Option (Nat × ByteArray × ByteArray)) (c : ByteArray) : Option ByteArray := M.look (fun q => (rl q).map (·.2.2)) c c.size
set_option maxHeartbeats 2000000 in
set_option maxRecDepth 100000 in
theorem node_lookUp (w : World) (base : Nat) (nd : List Nat → Option Nat) (rl : List Nat → Option (Nat × ByteArray × ByteArray)) (h : Trie w base nd rl) (r : Nat) (hr : nd [] = some r) (c : ByteArray) (hc : M.digs c = true) :
    Calls Try.prog 34 #[.pointer (some ⟨r, 0, none⟩), .string c] w fun e w' => e = .returned (lkV (rlV rl c)) ∧ Below w.heap.size w w' := by
  have HT := Lib.hid h
  have HD := Lib.hid hc
  have hbt := get_bt c
  have r10 := h.ruleOf hr
  have hlr := (h.lt hr).2
  have HM := Lib.hid (M.look_map (·.2.2) rl c c.size)
  have h00 := Lib.hid (M.look_zero rl c)
  have NR := Lib.hid hr
  clear h hc hr
  go_enter Try.func34, Try.ntmps34
  go_wp2
  go_loopw [0, 6] (fun n rp wr => ∃ (k b : Nat), k ≤ c.size ∧ n = .pointer (some ⟨b, 0, none⟩) ∧ Hid (nd (M.dg c k) = some b) ∧ rp = ptrO ((M.look rl c k).map (·.1)) ∧ Hid (wr.heap[w.heap.size]? = some (.stringIter c k)) ∧ Hid (Below w.heap.size w wr)) (fun _ _ wr => c.size - wr.iterPos w.heap.size)
  case atStart => exact ⟨0, r, Nat.zero_le _, rfl, NR.out, rfl, World.iter_heap w c 0, below_alloc0 w _⟩
  case round =>
    obtain ⟨k, b, hk, rfl, hn, rfl, hit, hb⟩ := hrel
    have hz := hb.out.size
    have HTr := Lib.hid (HT.out.on hb.out)
    by_cases hlt : k < c.size
    · obtain ⟨d0, d1⟩ := M.digs_bt HD.out k hlt
      have ha : (c[k]'hlt).toNat < 128 := by have := hbt k hlt; omega
      have hnx := fun ty => run_next_ascii_at (P := Try.prog) wr w.heap.size c k ty hit.out hlt ha
      rw [hbt k hlt] at hnx
      have HDG := Lib.hid (impl_digitOf (bt c k) d0 d1)
      have hD10 := dg_step HD.out hlt
      have HS := Lib.hid (M.dg_succ c k)
      obtain ⟨D, hD⟩ : ∃ D, (bt c k - 48).toNat = D := ⟨_, rfl⟩
      rw [hD] at HDG hD10 HS
      obtain ⟨W1, hW1⟩ : ∃ W1, wr.iterAt w.heap.size c (k + 1) = W1 := ⟨_, rfl⟩
      have HT1 : Hid (Trie W1 base nd rl) := hW1 ▸ HTr.out.iter hit.out (k + 1)
      have IT1 : Hid (W1.heap[w.heap.size]? = some (.stringIter c (k + 1))) := hW1 ▸ iterAt_heap wr _ c k (k + 1) hit.out
      have BL1 : Hid (Below w.heap.size w W1) := hW1 ▸ hb.out.trans ((iterAt_only wr w.heap.size c (k + 1)).below (fun x hx _ e => by omega) hz)
      have c1 := HT1.out.down hn.out hD10
      rw [← HS.out] at c1
      rw [hW1] at hnx
      have hDi : (D : Int) < 10 := by omega
      have hD0 : (0 : Int) ≤ (D : Int) := by omega
      clear ha hD hW1 hbt d0 d1
      cases hd : nd (M.dg c (k + 1)) with
      | none =>
        have HEND := Lib.hid (fun (j : Nat) (hj : k < j) => (by
          obtain ⟨q, hq⟩ := M.dg_more c (show k + 1 ≤ j by omega)
          rw [hq]; exact (HT.out.end_rl hd q).2 : rl (M.dg c j) = none))
        have HV : Hid (rlV rl c = (M.look rl c k).map (·.2.2)) := by
          unfold Hid rlV
          rw [HM.out, M.look_stay hk fun j h1 _ => HEND.out j h1]
        rw [hd] at c1
        change _ = some (Value.pointer none) at c1
        cases hro : M.look rl c k with
        | none =>
          rw [hro] at HV
          rw [show ptrO (Option.map (fun x : Nat × ByteArray × ByteArray => x.1) none) = Value.pointer none from rfl]
          clear hd hro HEND
          go_wp2
          go_quiet ((go_at_call 43; exact Calls.quiet_of_same (quiet_flip (HDG.out _))))
          go_wp2
          go_ret2
          exact ⟨by rw [HV.out]; rfl, below_drewN0 BL1.out _⟩
        | some x =>
          obtain ⟨q, hq, hx⟩ := M.look_is hro
          obtain ⟨_, e0, e1⟩ := HT1.out.rule hx
          rw [hro] at HV
          rw [show ptrO (Option.map (fun x : Nat × ByteArray × ByteArray => x.1) (some x)) = Value.pointer (some ⟨x.1, 0, none⟩) from rfl]
          clear hd hro HEND hx e0
          go_wp2
          go_quiet ((go_at_call 43; exact Calls.quiet_of_same (quiet_flip (HDG.out _))))
          go_wp2
          go_ret2
          exact ⟨by rw [HV.out]; rfl, below_drewN0 BL1.out _⟩
      | some b' =>
        have NB := Lib.hid hd
        have e10 := HT1.out.ruleOf hd
        rw [hd] at c1
        change _ = some (Value.pointer (some ⟨b', 0, none⟩)) at c1
        clear hd
        obtain ⟨rp, hrp⟩ : ∃ rp, ptrO (Option.map (fun x : Nat × ByteArray × ByteArray => x.1) (M.look rl c k)) = rp := ⟨_, rfl⟩
        rw [hrp]
        have HRP := Lib.hid hrp
        clear hrp
        cases hrq : rl (M.dg c (k + 1)) with
        | none =>
          have HLK := Lib.hid (M.look_miss hrq)
          rw [hrq] at e10
          change _ = some (Value.pointer none) at e10
          clear hrq
          go_wp2
          go_quiet ((go_at_call 43; exact Calls.quiet_of_same (quiet_flip (HDG.out _))))
          go_wp2
          go_roundw
          case rel => exact ⟨k + 1, b', by omega, rfl, NB.out, by rw [HLK.out, HRP.out], IT1.out, below_drewN0 BL1.out _⟩
          case measure => rw [iterPos_of hit.out, (fun q => iterPos_of (w := W1.drewN q) IT1.out : ∀ q, (W1.drewN q).iterPos w.heap.size = k + 1)]; omega
        | some x =>
          have HLK := Lib.hid (M.look_hit (R := rl) hrq)
          rw [hrq] at e10
          change _ = some (Value.pointer (some ⟨x.1, 0, none⟩)) at e10
          clear hrq
          go_wp2
          go_quiet ((go_at_call 43; exact Calls.quiet_of_same (quiet_flip (HDG.out _))))
          go_wp2
          go_roundw
          case rel => exact ⟨k + 1, b', by omega, rfl, NB.out, by rw [HLK.out]; rfl, IT1.out, below_drewN0 BL1.out _⟩
          case measure => rw [iterPos_of hit.out, (fun q => iterPos_of (w := W1.drewN q) IT1.out : ∀ q, (W1.drewN q).iterPos w.heap.size = k + 1)]; omega
    · obtain rfl : k = c.size := by omega
      have hnx := fun ty => run_next_end_at (P := Try.prog) wr w.heap.size c c.size ty hit.out (by omega)
      have HV : Hid (rlV rl c = (M.look rl c c.size).map (·.2.2)) := HM.out
      clear hbt
      cases hro : M.look rl c c.size with
      | none =>
        rw [hro] at HV
        rw [show ptrO (Option.map (fun x : Nat × ByteArray × ByteArray => x.1) none) = Value.pointer none from rfl]
        clear hro
        go_wp2
        go_ret2
        exact ⟨by rw [HV.out]; rfl, hb.out⟩
      | some x =>
        obtain ⟨q, hq, hx⟩ := M.look_is hro
        obtain ⟨_, e0, e1⟩ := HTr.out.rule hx
        rw [hro] at HV
        rw [show ptrO (Option.map (fun x : Nat × ByteArray × ByteArray => x.1) (some x)) = Value.pointer (some ⟨x.1, 0, none⟩) from rfl]
        clear hro hx e0
        go_wp2
        go_ret2
        exact ⟨by rw [HV.out]; rfl, hb.out⟩
end Go.Proofs.Ytkbebpadbdhnhaa
