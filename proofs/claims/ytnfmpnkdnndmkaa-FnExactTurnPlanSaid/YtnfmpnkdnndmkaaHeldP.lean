/-
  The marks of a plan's codes, known; and held.
-/
import Derived.Test.YtnfmpnkdnndmkaaMarkS
import Derived.Test.YtnfmpnkdnndmkaaSMark
import Derived.Test.YtnfmpnkdnndmkaaTurnP
namespace Go.Proofs.Ytnfmpnkdnndmkaa
open Go.RowKit
set_option linter.unusedVariables false

set_option maxHeartbeats 1000000 in
theorem heldPlan_row (w : World) (base : Nat) (b p : Int) (v : Value) (k n : Nat) (h : SRow w base v (M.smarks k n)) (hn : n ≤ 1048576) (k1 : 1 ≤ k) (k2 : k ≤ 10000000) :
    Calls Try.prog 11 #[.agg #[.int .i64 b, .int .i64 p, v], .int .i64 k] w fun e w' => e = .returned (.int .i64 ((k + n : Nat) : Int)) ∧ Below w.heap.size w w' := by
  obtain ⟨a, c, rfl, hlc, _⟩ := h.form
  have HS := Lib.hid (h.on (below_alloc0 w (.cells #[.int .i64 b, .int .i64 p, .slice a (M.smarks k n).length c] 26)))
  obtain ⟨q, hq⟩ : ∃ q : Nat, k + n = q := ⟨_, rfl⟩
  have hm := Lib.hid (fun W (hs : SRow W base (.slice a (M.smarks k n).length c) (M.smarks k n)) => hq ▸ heldStringS_row W base _ k n hs hn k1 k2)
  have hq0 : ¬ ((q : Int) < 0) := by omega
  rw [hq]
  clear h hq hlc
  go_enter Try.func11, Try.ntmps11
  go_wp2_with fail
  refine (hm.out _ HS.out).mono ?_
  rintro e w1 ⟨rfl, o1⟩
  go_wp2
  go_ret
  exact ⟨rfl, sstep (below_alloc0 w _) o1⟩
set_option maxHeartbeats 1000000 in
theorem markPlan_full (w : World) (base : Nat) (b p : Int) (v : Value) (L : List ByteArray) (k : Nat) (h : SRow w base v L) (hn : L.length ≤ 1048576) (k1 : 1 ≤ k) (k2 : k ≤ 10000000) :
    Calls Try.prog 10 #[.agg #[.int .i64 b, .int .i64 p, v], .int .i64 k] w fun e w' => e = .returned (.int .i64 ((k + L.length : Nat) : Int)) ∧ SRow w' base v (M.smarks k L.length) ∧ Only w w' (fun b => v.ownBlock = some b) := by
  have HS := Lib.hid (h.on (below_alloc0 w (.cells #[.int .i64 b, .int .i64 p, v] 26)))
  obtain ⟨q, hq⟩ : ∃ q : Nat, k + L.length = q := ⟨_, rfl⟩
  have hm := Lib.hid (fun W (hs : SRow W base v L) => hq ▸ markStringS_full W base v L k hs hn k1 k2)
  rw [hq]
  clear h hq
  go_enter Try.func10, Try.ntmps10
  go_wp2_with fail
  refine (hm.out _ HS.out).mono ?_
  rintro e w1 ⟨rfl, r1, o1⟩
  have R1 := Lib.hid r1
  go_wp2
  go_ret
  exact ⟨rfl, R1.out, (Only.new (S := fun b => v.ownBlock = some b) (below_alloc0 w _)).trans o1 (fun _ _ h => h)⟩
set_option maxHeartbeats 1000000 in
theorem eqPlan_row (w : World) (b1 b2 : Nat) (b p : Int) (v v' : Value) (L : List ByteArray) (h : SRow w b1 v L) (h' : SRow w b2 v' L) (hn : L.length ≤ 1048576) :
    Calls Try.prog 9 #[.agg #[.int .i64 b, .int .i64 p, v], .agg #[.int .i64 b, .int .i64 p, v']] w fun e w' => e = .returned (.bool true) ∧ Below w.heap.size w w' := by
  obtain ⟨a, c, rfl, _, hl⟩ := h.form
  obtain ⟨a', c', rfl, _, hl'⟩ := h'.form
  exact eqPlan_same w b p a a' L.length c c' _ hl hl' hn
def PlanSl (w : World) (ok : Bool) (b p : Int) (L : List ByteArray) (e : Ending) (w' : World) : Prop := ∃ a c, e = .returned (.tuple #[.agg #[.int .i64 b, .int .i64 p, .slice a L.length c], .bool ok]) ∧ SRow w' w.heap.size (.slice a L.length c) L ∧ Below w.heap.size w w'
theorem planSl {P : Program} {f : FuncId} {args : Array Value} {w : World} {ok : Bool} {b p : Int} {L : List ByteArray} (h : Calls P f args w (PlanOut w ok b p L)) : Calls P f args w (PlanSl w ok b p L) :=
  h.mono fun e w' ⟨v, he, hr, hb⟩ => by
    obtain ⟨a, c, rfl, _, _⟩ := hr.form
    exact ⟨a, c, he, hr, hb⟩
theorem tL_len (ok : Bool) (n : Nat) (S : Nat → ByteArray) : (tL ok n S).length ≤ n := by
  unfold tL
  cases ok <;> simp [sst]
end Go.Proofs.Ytnfmpnkdnndmkaa
