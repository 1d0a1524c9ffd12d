/-
  No cell of these rows narrows 'for every input' (looked for: loops, veiled, ifaces, maps, wideKeys, modest, calm, conditions, laid).
  DERIVED. THE GIVEN ROWS OF THIS SEAT. 3 by the template 'for every input the law returns true; each argument reads behind the call as it read before'; 0 by the template 'total and deterministic' (their statements: YthnaglnmmgpiaaaTotals.lean).
  GIVEN WITH THE SEED: the statements are not yours to turn. If you find one false, say at which input.
  Laid BY PROGRAM, IN A SANDBOX (cutbox-rows.mjs): the forced cells as the released guide's own fill.sh prints them over the translation 9a1da94402a33d9d… (all of the seat's roots in one cut). By AI agents, Wed Nov 11 2026. No macro, syntax, notation, axiom, sorry.
-/
import Derived.Test.YthnaglnmmgpiaaaChecked
import GoSem.Claim
import GoSem.ClaimJoined
import GoSem.ClaimMapViews
import Derived.JoinedTies
import Derived.KernelRfl
namespace Go.Proofs.Ythnaglnmmgpiaaa
/- THE CELL 'sum', in the pinned program and in every row, IS THE sha256 OF THE DUMP (.gsa) THAT YthnaglnmmgpiaaaProg.lean LOADS. Nothing in Lean hashes anything: it is a label: what it is worth is what the hold of that sum in a sandbox is worth. -/
noncomputable def Try.pinned : Pinned := { name := "ythnaglnmmgpiaaa", sum := "9a1da94402a33d9ded132a82afa1fac7e373cac4678c87cc188150c9f680d49e", checked := Try.checked }
namespace Rows
def none {H : Type} : Left H := { results := [], args := [] }

/-- 'laws.FnTurnPlan': WHATEVER THE INPUT: true; the input reads as it did. -/
def fnTurnPlanSpec : ChangeSpec := { name := "fnTurnPlan", fn := fun _ => fun
  | [d1, d2] => { results := [.lit (.bool true)], args := [d1, d2] }
  | _ => none }
def fnTurnPlanRow : OpenClaim := { program := "ythnaglnmmgpiaaa", sum := "9a1da94402a33d9ded132a82afa1fac7e373cac4678c87cc188150c9f680d49e", func := "loop.example/sortingoffice/laws.FnTurnPlan", spec := "fnTurnPlan", recurses := true, apart := false }
def FnTurnPlanSaid : Prop := fnTurnPlanRow.holds Try.pinned (OpenSpec.ofChange fnTurnPlanSpec)

/-- ITS FALSE NEIGHBOUR: 'it returns false'. Refute it at one input. -/
def fnTurnPlanWrong : ChangeSpec := { name := "fnTurnPlan", fn := fun _ => fun
  | [d1, d2] => { results := [.lit (.bool false)], args := [d1, d2] }
  | _ => none }
def FnTurnPlanWrongFalsely : Prop := fnTurnPlanRow.holds Try.pinned (OpenSpec.ofChange fnTurnPlanWrong)

/-- 'laws.FnJoinPlans': WHATEVER THE INPUT: true; the input reads as it did. -/
def fnJoinPlansSpec : ChangeSpec := { name := "fnJoinPlans", fn := fun _ => fun
  | [d1, d2] => { results := [.lit (.bool true)], args := [d1, d2] }
  | _ => none }
def fnJoinPlansRow : OpenClaim := { program := "ythnaglnmmgpiaaa", sum := "9a1da94402a33d9ded132a82afa1fac7e373cac4678c87cc188150c9f680d49e", func := "loop.example/sortingoffice/laws.FnJoinPlans", spec := "fnJoinPlans", recurses := true, apart := false }
def FnJoinPlansSaid : Prop := fnJoinPlansRow.holds Try.pinned (OpenSpec.ofChange fnJoinPlansSpec)

/-- ITS FALSE NEIGHBOUR: 'it returns false'. Refute it at one input. -/
def fnJoinPlansWrong : ChangeSpec := { name := "fnJoinPlans", fn := fun _ => fun
  | [d1, d2] => { results := [.lit (.bool false)], args := [d1, d2] }
  | _ => none }
def FnJoinPlansWrongFalsely : Prop := fnJoinPlansRow.holds Try.pinned (OpenSpec.ofChange fnJoinPlansWrong)

/-- 'laws.FnExactJoinPlans': WHATEVER THE INPUT: true; the input reads as it did. -/
def fnExactJoinPlansSpec : ChangeSpec := { name := "fnExactJoinPlans", fn := fun _ => fun
  | [d1, d2] => { results := [.lit (.bool true)], args := [d1, d2] }
  | _ => none }
def fnExactJoinPlansRow : OpenClaim := { program := "ythnaglnmmgpiaaa", sum := "9a1da94402a33d9ded132a82afa1fac7e373cac4678c87cc188150c9f680d49e", func := "loop.example/sortingoffice/laws.FnExactJoinPlans", spec := "fnExactJoinPlans", apart := false }
def FnExactJoinPlansSaid : Prop := fnExactJoinPlansRow.holds Try.pinned (OpenSpec.ofChange fnExactJoinPlansSpec)

/-- ITS FALSE NEIGHBOUR: 'it returns false'. Refute it at one input. -/
def fnExactJoinPlansWrong : ChangeSpec := { name := "fnExactJoinPlans", fn := fun _ => fun
  | [d1, d2] => { results := [.lit (.bool false)], args := [d1, d2] }
  | _ => none }
def FnExactJoinPlansWrongFalsely : Prop := fnExactJoinPlansRow.holds Try.pinned (OpenSpec.ofChange fnExactJoinPlansWrong)

/- THE SECOND FORM. 'bulk': how many values and letters a reading holds, each counted each time it is reached (what is shared counts as often as it is met; a slice's spare places count too). A statement '..UptoSaid' is the law's where the arguments, and the package variables that the reading takes, are together of bulk at most 1048576: NARROWER than '..Said'. Prove '..Said' where nothing that the law and all that it calls make is longer than what came in: it says more and counts as full. Else prove '..UptoSaid'. A law counts once. -/
mutual
def uptoBulk {H : Type} : DataW H → Nat
  | .lit (.string bytes) => bytes.length + 1
  | .lit _ => 1
  | .nil => 1
  | .ptr d => uptoBulk d + 1
  | .slice elems spare => uptoBulkAll elems + uptoBulkAll spare + 1
  | .agg parts => uptoBulkAll parts + 1
  | .iface _ d => uptoBulk d + 1
  | .map entries => uptoBulkEntries entries + 1
  | .held _ => 1
def uptoBulkAll {H : Type} : List (DataW H) → Nat
  | [] => 0
  | d :: r => uptoBulk d + uptoBulkAll r
def uptoBulkEntries {H : Type} : List (Lit × DataW H) → Nat
  | [] => 0
  | x :: r => uptoBulkEntry x + uptoBulkEntries r
def uptoBulkEntry {H : Type} : Lit × DataW H → Nat
  | (.string bytes, d) => bytes.length + uptoBulk d + 1
  | (_, d) => uptoBulk d + 1
 end
def uptoSmall : (H : Type) → List (DataW H) → Bool := fun _ ds => decide (uptoBulkAll ds ≤ 1048576)
def OpenSpec.upto (s : _root_.Go.ChangeSpec) : _root_.Go.OpenSpec := { _root_.Go.OpenSpec.ofChange s with cond := some uptoSmall }

/-- 'laws.FnTurnPlan', WHERE WHAT IT READS IS OF BULK AT MOST 1048576: true; the input reads as it did. -/
def fnTurnPlanUptoRow : OpenClaim := { program := "ythnaglnmmgpiaaa", sum := "9a1da94402a33d9ded132a82afa1fac7e373cac4678c87cc188150c9f680d49e", func := "loop.example/sortingoffice/laws.FnTurnPlan", spec := "fnTurnPlan", recurses := true, apart := false, narrowed := true }
def FnTurnPlanUptoSaid : Prop := fnTurnPlanUptoRow.holds Try.pinned (OpenSpec.upto fnTurnPlanSpec)

/-- 'laws.FnJoinPlans', WHERE WHAT IT READS IS OF BULK AT MOST 1048576: true; the input reads as it did. -/
def fnJoinPlansUptoRow : OpenClaim := { program := "ythnaglnmmgpiaaa", sum := "9a1da94402a33d9ded132a82afa1fac7e373cac4678c87cc188150c9f680d49e", func := "loop.example/sortingoffice/laws.FnJoinPlans", spec := "fnJoinPlans", recurses := true, apart := false, narrowed := true }
def FnJoinPlansUptoSaid : Prop := fnJoinPlansUptoRow.holds Try.pinned (OpenSpec.upto fnJoinPlansSpec)

/-- 'laws.FnExactJoinPlans', WHERE WHAT IT READS IS OF BULK AT MOST 1048576: true; the input reads as it did. -/
def fnExactJoinPlansUptoRow : OpenClaim := { program := "ythnaglnmmgpiaaa", sum := "9a1da94402a33d9ded132a82afa1fac7e373cac4678c87cc188150c9f680d49e", func := "loop.example/sortingoffice/laws.FnExactJoinPlans", spec := "fnExactJoinPlans", apart := false, narrowed := true }
def FnExactJoinPlansUptoSaid : Prop := fnExactJoinPlansUptoRow.holds Try.pinned (OpenSpec.upto fnExactJoinPlansSpec)

end Rows
end Go.Proofs.Ythnaglnmmgpiaaa
