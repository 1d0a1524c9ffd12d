/-
  What CollectBins and SortPass leave, in the program and in the model of the document.
-/
import Derived.Test.YtekfjheaffkakaaBins3
import Derived.Test.YtekfjheaffkakaaMgR13
import Derived.Test.YtekfjheaffkakaaRank
import Derived.Test.YtekfjheaffkakaaBatch
namespace Go.Proofs.Ytekfjheaffkakaa
open Go.RowKit

/-- Letters, and whether there are any. -/
def RowRes (w : World) (ok : Bool) (L : List (Int × ByteArray)) (e : Ending) (w' : World) : Prop := ∃ v, e = .returned (.tuple #[v, .bool ok]) ∧ Row w' w.heap.size v L ∧ Below w.heap.size w w'
/-- The letters of bins are a batch, of which there are not too many. -/
def M.collOk (n : Nat) (MM : Nat → List (Int × ByteArray)) : Bool := decide (n ≤ 60) && M.batch (M.flat MM n).length (nI (M.flat MM n)) (nC (M.flat MM n))
def M.coll (n : Nat) (MM : Nat → List (Int × ByteArray)) : List (Int × ByteArray) := if M.collOk n MM = true then M.flat MM n else []
def FitsL (L : List (Int × ByteArray)) : Prop := Fits L.length (nI L) (nC L)

/-- The letters after a pass. -/
def M.passL (n : Nat) (I : Nat → Int) (C : Nat → ByteArray) (x : Int) : List (Int × ByteArray) := if M.binOk n I C x = true then M.flat (M.bins I C x.toNat n) 10 else []
theorem passL_ok {n : Nat} {I : Nat → Int} {C : Nat → ByteArray} {x : Int} (h : M.binOk n I C x = true) : M.passL n I C x = M.flat (M.bins I C x.toNat n) 10 ∧ BatchL (M.passL n I C x) ∧ M.collOk 10 (M.bins I C x.toNat n) = true ∧ M.coll 10 (M.bins I C x.toNat n) = M.passL n I C x := by
  obtain ⟨h1, h2, h3⟩ := M.binOk_yes h
  have e : M.passL n I C x = M.flat (M.bins I C x.toNat n) 10 := if_pos h
  have hb := pass_batch h1 (x := x.toNat) (by omega)
  have hk : M.collOk 10 (M.bins I C x.toNat n) = true := by
    unfold M.collOk
    rw [(batchL_list _).2 hb]; rfl
  exact ⟨e, by rw [e]; exact hb, hk, by unfold M.coll; rw [if_pos hk, e]⟩

end Go.Proofs.Ytekfjheaffkakaa

/-
  What InOrder returns, in the program and in the model of the document.
-/
namespace Go.Proofs.Ytekfjheaffkakaa
open Go.RowKit
open Go.PlainAid (bt get_bt bt_nonneg bt_le)

set_option maxHeartbeats 400000 in
theorem spec_l3Ready (w : World) (b p : Int) (a : Option Addr) (n c : Nat) (S : Nat → ByteArray) (h : Strs w a n S) (hf : SFits n S) (hn : n ≤ 1048576) (a2 : Option Addr) (m c2 : Nat) (I : Nat → Int) (C : Nat → ByteArray) (h2 : Lts w a2 m I C) (hf2 : Fits m I C) (hm : m ≤ 1048576) :
    Calls Try.prog 14 #[.agg #[.int .i64 b, .int .i64 p, .slice a n c], .slice a2 m c2] w fun e w' => e = .returned (.bool (M.plan b p n S && M.batch m I C)) ∧ Below w.heap.size w w' := by
  have HL := Lib.hid (h.on ((Below.refl _ _).alloc (Nat.le_refl _) (.cells #[.int .i64 b, .int .i64 p, .slice a n c] 25)))
  have HL2 := Lib.hid (h2.on ((Below.refl _ _).alloc (Nat.le_refl _) (.cells #[.int .i64 b, .int .i64 p, .slice a n c] 25)))
  have HF := Lib.hid hf
  have HF2 := Lib.hid hf2
  clear h hf h2 hf2
  cases hp : M.plan b p n S
  · go_enter Try.func14, Try.ntmps14
    go_wp2_with fail
    refine (spec_PlanValid _ b p a n c S HL.out HF.out hn).mono ?_
    rw [hp]
    rintro e w1 ⟨rfl, hb1⟩
    go_wp2
    go_ret
    exact ⟨rfl, sstep (by go_grown) hb1⟩
  · go_enter Try.func14, Try.ntmps14
    go_wp2_with fail
    refine (spec_PlanValid _ b p a n c S HL.out HF.out hn).mono ?_
    rw [hp]
    rintro e w1 ⟨rfl, hb1⟩
    go_wp2_with fail
    refine (spec_BatchValid _ a2 m c2 I C (HL2.out.on hb1) HF2.out hm).mono ?_
    rintro e w2 ⟨rfl, hb2⟩
    go_wp2
    go_ret
    exact ⟨rfl, sstep (sstep (by go_grown) hb1) hb2⟩

end Go.Proofs.Ytekfjheaffkakaa
