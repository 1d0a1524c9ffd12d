/-
  What BinLoads returns, in the program and in the model of the document.
-/
import Derived.Test.YtbcoklognedffaaPassA
import Derived.Test.YtbcoklognedffaaIntS
namespace Go.Proofs.Ytbcoklognedffaa
open Go.RowKit
open Go.PlainAid (bt get_bt bt_nonneg bt_le)

/-- How many letters the first k slices have, each. -/
def lens (MM : Nat → List (Int × ByteArray)) (k : Nat) : List Int := (List.range k).map fun i => ((MM i).length : Int)
theorem lens_length (MM : Nat → List (Int × ByteArray)) (k : Nat) : (lens MM k).length = k := by simp [lens]
theorem lens_succ (MM : Nat → List (Int × ByteArray)) (k : Nat) : lens MM (k + 1) = lens MM k ++ [((MM k).length : Int)] := by
  unfold lens
  rw [List.range_succ, List.map_append]
  rfl
/-- A slice of numbers that the call has made. -/
def IRowOut (w : World) (L : List Int) (e : Ending) (w' : World) : Prop := ∃ v, e = .returned v ∧ IRow w' w.heap.size v L ∧ Below w.heap.size w w'
def loadsN (b p : Int) (n : Nat) (S : Nat → ByteArray) (m : Nat) (I : Nat → Int) (C : Nat → ByteArray) (x : Int) : Nat := if M.passOk b p n S m I C x = true then b.toNat else 0
def loads (b p : Int) (n : Nat) (S : Nat → ByteArray) (m : Nat) (I : Nat → Int) (C : Nat → ByteArray) (x : Int) : List Int := lens (M.binTo (M.planKey b n S C x.toNat) I C m) (loadsN b p n S m I C x)

set_option maxHeartbeats 2000000 in
theorem impl_BinLoads (w : World) (b p : Int) (a : Option Addr) (n c : Nat) (S : Nat → ByteArray) (h : Strs w a n S) (hf : SFits n S) (hn : n ≤ 1048576) (a2 : Option Addr) (m c2 : Nat) (I : Nat → Int) (C : Nat → ByteArray) (h2 : Lts w a2 m I C) (hf2 : Fits m I C) (hm : m ≤ 1048576) (x : Int) :
    Calls Try.prog 16 #[.agg #[.int .i64 b, .int .i64 p, .slice a n c], .slice a2 m c2, .int .i64 x] w (IRowOut w (loads b p n S m I C x)) := by
  have b0 := below_alloc0 w (.cells #[.int .i64 b, .int .i64 p, .slice a n c] 25)
  have HR := Lib.hid (impl_PlanPass_any _ b p a n c S (h.on b0) hf hn a2 m c2 I C (h2.on b0) hf2 x)
  have B0 := Lib.hid b0
  obtain ⟨l1, l2⟩ := passRet_len (b := b) (p := p) (n := n) (S := S) (m := m) (I := I) (C := C) (x := x)
  have hlen : Hid (∀ i, (M.binTo (M.planKey b n S C x.toNat) I C m i).length ≤ 1048576) := fun i => by have := M.binTo_len (M.planKey b n S C x.toNat) I C m i; omega
  unfold PassRet at HR
  unfold loads loadsN
  obtain ⟨N, hN⟩ : ∃ N, (if M.passOk b p n S m I C x = true then b.toNat else 0) = N := ⟨_, rfl⟩
  obtain ⟨LL, hLL⟩ : ∃ LL, (if M.passOk b p n S m I C x = true then M.restTo (M.planKey b n S C x.toNat) I C m else []) = LL := ⟨_, rfl⟩
  obtain ⟨ok, hok⟩ : ∃ ok, M.passOk b p n S m I C x = ok := ⟨_, rfl⟩
  obtain ⟨MM, hMM⟩ : ∃ MM, M.binTo (M.planKey b n S C x.toNat) I C m = MM := ⟨_, rfl⟩
  rw [hN, hLL, hok, hMM] at HR
  rw [hN, hMM]
  rw [hN] at l1
  rw [hMM] at hlen
  clear h hf h2 hf2 hN hLL hok hMM b0 l2
  go_enter Try.func16, Try.ntmps16
  go_wp2_with fail
  refine (HR.out).mono ?_
  rintro e w1 ⟨v, V, u, rfl, hm1, hr1, hap, hb1⟩
  have BL : Hid (Below w.heap.size w w1) := sstep B0.out hb1
  have HM := Lib.hid hm1
  obtain ⟨u1, c', hv⟩ : ∃ u c', v = .slice u N c' := by
    rcases hm1.form with ⟨rfl, e⟩ | ⟨g, c', rfl, _⟩
    · exact ⟨_, _, by rw [e]⟩
    · exact ⟨_, _, rfl⟩
  subst hv
  clear hm1 hr1 hap hb1 HR
  have zz := BL.out.size
  go_wp2
  go_loopw [10, 23] (fun q i wr => ∃ k : Nat, k ≤ N ∧ i = .int .i64 k ∧ Hid (IRow wr w1.heap.size q (lens MM k)) ∧ Hid (Below w1.heap.size w1 wr)) (fun _ i _ => N - (intOf i).toNat)
  case atStart => exact ⟨0, Nat.zero_le _, rfl, IRow.nil _ _, Below.refl _ _⟩
  case round =>
    obtain ⟨k, hk, rfl, hrow, hb⟩ := hrel
    by_cases hlt : k < N
    · have hm := Lib.hid (HM.out.on hb.out)
      obtain ⟨G, c2, e1, g0, _⟩ := hm.out.cell hlt
      cases e1
      obtain ⟨a2, cc, hv, _, hlts⟩ := (hm.out.2.1 k hlt).form
      rw [hv] at g0
      have hfl := hlen.out k
      have hz := hb.out.size
      have hll := lens_length MM k
      have hsucc := Lib.hid (lens_succ MM k)
      obtain ⟨q, hq⟩ : ∃ q, (MM k).length = q := ⟨_, rfl⟩
      rw [hq] at hfl hsucc g0
      clear hlts hv hq
      go_wp2_with (at_builtin; refine wpList_append_int _ rfl _ _ rfl w1.heap.size u10 (lens MM k) rfl (hrow.out.alloc _) _ (q : Int) rfl ?_ (by omega) (by simp; omega) ?_)
      · simp [go_sem]
      · intro v1 w3 r1 gr1 ho1
        have R1 : Hid (IRow w3 w1.heap.size v1 (lens MM (k + 1))) := by rw [hsucc.out]; exact r1
        have B3 : Hid (Below w1.heap.size w1 w3) := (hb.out.alloc hz _).grown gr1 (by simp; omega) (fun q e => (hrow.out.lt q e).1)
        clear r1 gr1 ho1
        go_wp2
        go_roundw
        case rel => exact ⟨k + 1, by omega, by go_num, R1, B3⟩
        case measure => simp [intOf]; omega
    · obtain rfl : k = N := by omega
      go_wp2
      go_ret
      exact ⟨_, rfl, hrow.out.lower zz, sstep BL.out hb.out⟩

end Go.Proofs.Ytbcoklognedffaa
