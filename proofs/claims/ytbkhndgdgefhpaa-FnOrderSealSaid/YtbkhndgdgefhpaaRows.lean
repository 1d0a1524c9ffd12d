/-
  No cell of these rows narrows 'for every input' (looked for: loops, veiled, ifaces, maps, wideKeys, modest, calm, conditions, laid).
  DERIVED. THE GIVEN ROWS OF THIS SEAT. 9 by the template 'for every input the law returns true; each argument reads behind the call as it read before'; 0 by the template 'total and deterministic' (their statements: YtbkhndgdgefhpaaTotals.lean).
  GIVEN WITH THE SEED: the statements are not yours to turn. If you find one false, say at which input.
  Laid BY PROGRAM, IN A SANDBOX (cutbox-rows.mjs): the forced cells as the released guide's own fill.sh prints them over the translation db49cd6f47d7d3a6… (all of the seat's roots in one cut). By AI agents, Wed Nov 11 2026. No macro, syntax, notation, axiom, sorry.
-/
import Derived.Test.YtbkhndgdgefhpaaChecked
import GoSem.Claim
import GoSem.ClaimJoined
import GoSem.ClaimMapViews
import Derived.JoinedTies
import Derived.KernelRfl
namespace Go.Proofs.Ytbkhndgdgefhpaa
/- THE CELL 'sum', in the pinned program and in every row, IS THE sha256 OF THE DUMP (.gsa) THAT YtbkhndgdgefhpaaProg.lean LOADS. Nothing in Lean hashes anything: it is a label: what it is worth is what the hold of that sum in a sandbox is worth. -/
noncomputable def Try.pinned : Pinned := { name := "ytbkhndgdgefhpaa", sum := "db49cd6f47d7d3a6d15bb8e6d975a9f32fbc68ad55a4701430ddd69d6fd1b04a", checked := Try.checked }
namespace Rows
def none {H : Type} : Left H := { results := [], args := [] }

/-- 'laws.FnBinPass': WHATEVER THE INPUT: true; the input reads as it did. -/
def fnBinPassSpec : ChangeSpec := { name := "fnBinPass", fn := fun _ => fun
  | [d] => { results := [.lit (.bool true)], args := [d] }
  | _ => none }
def fnBinPassRow : OpenClaim := { program := "ytbkhndgdgefhpaa", sum := "db49cd6f47d7d3a6d15bb8e6d975a9f32fbc68ad55a4701430ddd69d6fd1b04a", func := "loop.example/sortingoffice/laws.FnBinPass", spec := "fnBinPass", unfollowed := true, recurses := true, apart := false }
def FnBinPassSaid : Prop := fnBinPassRow.holds Try.pinned (OpenSpec.ofChange fnBinPassSpec)

/-- ITS FALSE NEIGHBOUR: 'it returns false'. Refute it at one input. -/
def fnBinPassWrong : ChangeSpec := { name := "fnBinPass", fn := fun _ => fun
  | [d] => { results := [.lit (.bool false)], args := [d] }
  | _ => none }
def FnBinPassWrongFalsely : Prop := fnBinPassRow.holds Try.pinned (OpenSpec.ofChange fnBinPassWrong)

/-- 'laws.FnCollect': WHATEVER THE INPUT: true; the input reads as it did. -/
def fnCollectSpec : ChangeSpec := { name := "fnCollect", fn := fun _ => fun
  | [d] => { results := [.lit (.bool true)], args := [d] }
  | _ => none }
def fnCollectRow : OpenClaim := { program := "ytbkhndgdgefhpaa", sum := "db49cd6f47d7d3a6d15bb8e6d975a9f32fbc68ad55a4701430ddd69d6fd1b04a", func := "loop.example/sortingoffice/laws.FnCollect", spec := "fnCollect", recurses := true, apart := false }
def FnCollectSaid : Prop := fnCollectRow.holds Try.pinned (OpenSpec.ofChange fnCollectSpec)

/-- ITS FALSE NEIGHBOUR: 'it returns false'. Refute it at one input. -/
def fnCollectWrong : ChangeSpec := { name := "fnCollect", fn := fun _ => fun
  | [d] => { results := [.lit (.bool false)], args := [d] }
  | _ => none }
def FnCollectWrongFalsely : Prop := fnCollectRow.holds Try.pinned (OpenSpec.ofChange fnCollectWrong)

/-- 'laws.FnSortPass': WHATEVER THE INPUT: true; the input reads as it did. -/
def fnSortPassSpec : ChangeSpec := { name := "fnSortPass", fn := fun _ => fun
  | [d] => { results := [.lit (.bool true)], args := [d] }
  | _ => none }
def fnSortPassRow : OpenClaim := { program := "ytbkhndgdgefhpaa", sum := "db49cd6f47d7d3a6d15bb8e6d975a9f32fbc68ad55a4701430ddd69d6fd1b04a", func := "loop.example/sortingoffice/laws.FnSortPass", spec := "fnSortPass", unfollowed := true, recurses := true, apart := false }
def FnSortPassSaid : Prop := fnSortPassRow.holds Try.pinned (OpenSpec.ofChange fnSortPassSpec)

/-- ITS FALSE NEIGHBOUR: 'it returns false'. Refute it at one input. -/
def fnSortPassWrong : ChangeSpec := { name := "fnSortPass", fn := fun _ => fun
  | [d] => { results := [.lit (.bool false)], args := [d] }
  | _ => none }
def FnSortPassWrongFalsely : Prop := fnSortPassRow.holds Try.pinned (OpenSpec.ofChange fnSortPassWrong)

/-- 'laws.FnInversions': WHATEVER THE INPUT: true; the input reads as it did. -/
def fnInversionsSpec : ChangeSpec := { name := "fnInversions", fn := fun _ => fun
  | [d] => { results := [.lit (.bool true)], args := [d] }
  | _ => none }
def fnInversionsRow : OpenClaim := { program := "ytbkhndgdgefhpaa", sum := "db49cd6f47d7d3a6d15bb8e6d975a9f32fbc68ad55a4701430ddd69d6fd1b04a", func := "loop.example/sortingoffice/laws.FnInversions", spec := "fnInversions", recurses := true, apart := false }
def FnInversionsSaid : Prop := fnInversionsRow.holds Try.pinned (OpenSpec.ofChange fnInversionsSpec)

/-- ITS FALSE NEIGHBOUR: 'it returns false'. Refute it at one input. -/
def fnInversionsWrong : ChangeSpec := { name := "fnInversions", fn := fun _ => fun
  | [d] => { results := [.lit (.bool false)], args := [d] }
  | _ => none }
def FnInversionsWrongFalsely : Prop := fnInversionsRow.holds Try.pinned (OpenSpec.ofChange fnInversionsWrong)

/-- 'laws.FnHold': WHATEVER THE INPUT: true; the input reads as it did. -/
def fnHoldSpec : ChangeSpec := { name := "fnHold", fn := fun _ => fun
  | [d] => { results := [.lit (.bool true)], args := [d] }
  | _ => none }
def fnHoldRow : OpenClaim := { program := "ytbkhndgdgefhpaa", sum := "db49cd6f47d7d3a6d15bb8e6d975a9f32fbc68ad55a4701430ddd69d6fd1b04a", func := "loop.example/sortingoffice/laws.FnHold", spec := "fnHold", unfollowed := true, recurses := true, apart := false }
def FnHoldSaid : Prop := fnHoldRow.holds Try.pinned (OpenSpec.ofChange fnHoldSpec)

/-- ITS FALSE NEIGHBOUR: 'it returns false'. Refute it at one input. -/
def fnHoldWrong : ChangeSpec := { name := "fnHold", fn := fun _ => fun
  | [d] => { results := [.lit (.bool false)], args := [d] }
  | _ => none }
def FnHoldWrongFalsely : Prop := fnHoldRow.holds Try.pinned (OpenSpec.ofChange fnHoldWrong)

/-- 'laws.FnSeal': WHATEVER THE INPUT: true; the input reads as it did. -/
def fnSealSpec : ChangeSpec := { name := "fnSeal", fn := fun _ => fun
  | [d] => { results := [.lit (.bool true)], args := [d] }
  | _ => none }
def fnSealRow : OpenClaim := { program := "ytbkhndgdgefhpaa", sum := "db49cd6f47d7d3a6d15bb8e6d975a9f32fbc68ad55a4701430ddd69d6fd1b04a", func := "loop.example/sortingoffice/laws.FnSeal", spec := "fnSeal", inPlace := ["internal/reflectlite.ValueOf", "internal/reflectlite.Swapper", "(internal/reflectlite.Value).Len"], unfollowed := true, recurses := true, apart := false }
def FnSealSaid : Prop := fnSealRow.holds Try.pinned (OpenSpec.ofChange fnSealSpec)

/-- ITS FALSE NEIGHBOUR: 'it returns false'. Refute it at one input. -/
def fnSealWrong : ChangeSpec := { name := "fnSeal", fn := fun _ => fun
  | [d] => { results := [.lit (.bool false)], args := [d] }
  | _ => none }
def FnSealWrongFalsely : Prop := fnSealRow.holds Try.pinned (OpenSpec.ofChange fnSealWrong)

/-- 'laws.FnOrderSeal': WHATEVER THE INPUT: true; the input reads as it did. -/
def fnOrderSealSpec : ChangeSpec := { name := "fnOrderSeal", fn := fun _ => fun
  | [d] => { results := [.lit (.bool true)], args := [d] }
  | _ => none }
def fnOrderSealRow : OpenClaim := { program := "ytbkhndgdgefhpaa", sum := "db49cd6f47d7d3a6d15bb8e6d975a9f32fbc68ad55a4701430ddd69d6fd1b04a", func := "loop.example/sortingoffice/laws.FnOrderSeal", spec := "fnOrderSeal", unfollowed := true, recurses := true, apart := false }
def FnOrderSealSaid : Prop := fnOrderSealRow.holds Try.pinned (OpenSpec.ofChange fnOrderSealSpec)

/-- ITS FALSE NEIGHBOUR: 'it returns false'. Refute it at one input. -/
def fnOrderSealWrong : ChangeSpec := { name := "fnOrderSeal", fn := fun _ => fun
  | [d] => { results := [.lit (.bool false)], args := [d] }
  | _ => none }
def FnOrderSealWrongFalsely : Prop := fnOrderSealRow.holds Try.pinned (OpenSpec.ofChange fnOrderSealWrong)

/-- 'laws.FnSample': WHATEVER THE INPUT: true; the input reads as it did. -/
def fnSampleSpec : ChangeSpec := { name := "fnSample", fn := fun _ => fun
  | [d] => { results := [.lit (.bool true)], args := [d] }
  | _ => none }
def fnSampleRow : OpenClaim := { program := "ytbkhndgdgefhpaa", sum := "db49cd6f47d7d3a6d15bb8e6d975a9f32fbc68ad55a4701430ddd69d6fd1b04a", func := "loop.example/sortingoffice/laws.FnSample", spec := "fnSample", recurses := true, apart := false }
def FnSampleSaid : Prop := fnSampleRow.holds Try.pinned (OpenSpec.ofChange fnSampleSpec)

/-- ITS FALSE NEIGHBOUR: 'it returns false'. Refute it at one input. -/
def fnSampleWrong : ChangeSpec := { name := "fnSample", fn := fun _ => fun
  | [d] => { results := [.lit (.bool false)], args := [d] }
  | _ => none }
def FnSampleWrongFalsely : Prop := fnSampleRow.holds Try.pinned (OpenSpec.ofChange fnSampleWrong)

/-- 'laws.FnExactDayValid': WHATEVER THE INPUT: true; the input reads as it did. -/
def fnExactDayValidSpec : ChangeSpec := { name := "fnExactDayValid", fn := fun _ => fun
  | [d] => { results := [.lit (.bool true)], args := [d] }
  | _ => none }
def fnExactDayValidRow : OpenClaim := { program := "ytbkhndgdgefhpaa", sum := "db49cd6f47d7d3a6d15bb8e6d975a9f32fbc68ad55a4701430ddd69d6fd1b04a", func := "loop.example/sortingoffice/laws.FnExactDayValid", spec := "fnExactDayValid", unfollowed := true, recurses := true, apart := false }
def FnExactDayValidSaid : Prop := fnExactDayValidRow.holds Try.pinned (OpenSpec.ofChange fnExactDayValidSpec)

/-- ITS FALSE NEIGHBOUR: 'it returns false'. Refute it at one input. -/
def fnExactDayValidWrong : ChangeSpec := { name := "fnExactDayValid", fn := fun _ => fun
  | [d] => { results := [.lit (.bool false)], args := [d] }
  | _ => none }
def FnExactDayValidWrongFalsely : Prop := fnExactDayValidRow.holds Try.pinned (OpenSpec.ofChange fnExactDayValidWrong)

/- THE SECOND FORM. 'bulk': how many values and letters a reading holds, each counted each time it is reached (what is shared counts as often as it is met; a slice's spare places count too). A statement '..UptoSaid' is the law's where the arguments, and the package variables that the reading takes, are together of bulk at most 1048576: NARROWER than '..Said'. Prove '..Said' where nothing that the law and all that it calls make is longer than what came in: it says more and counts as full. Else prove '..UptoSaid'. A law counts once. -/
mutual
def uptoBulk {H : Type} : DataW H → Nat
  | .lit (.string bytes) => bytes.length + 1
  | .lit _ => 1
  | .nil => 1
  | .ptr d => uptoBulk d + 1
  | .slice elems spare => uptoBulkAll elems + uptoBulkAll spare + 1
  | .agg parts => uptoBulkAll parts + 1
  | .iface _ d => uptoBulk d + 1
  | .map entries => uptoBulkEntries entries + 1
  | .held _ => 1
def uptoBulkAll {H : Type} : List (DataW H) → Nat
  | [] => 0
  | d :: r => uptoBulk d + uptoBulkAll r
def uptoBulkEntries {H : Type} : List (Lit × DataW H) → Nat
  | [] => 0
  | x :: r => uptoBulkEntry x + uptoBulkEntries r
def uptoBulkEntry {H : Type} : Lit × DataW H → Nat
  | (.string bytes, d) => bytes.length + uptoBulk d + 1
  | (_, d) => uptoBulk d + 1
 end
def uptoSmall : (H : Type) → List (DataW H) → Bool := fun _ ds => decide (uptoBulkAll ds ≤ 1048576)
def OpenSpec.upto (s : _root_.Go.ChangeSpec) : _root_.Go.OpenSpec := { _root_.Go.OpenSpec.ofChange s with cond := some uptoSmall }

/-- 'laws.FnBinPass', WHERE WHAT IT READS IS OF BULK AT MOST 1048576: true; the input reads as it did. -/
def fnBinPassUptoRow : OpenClaim := { program := "ytbkhndgdgefhpaa", sum := "db49cd6f47d7d3a6d15bb8e6d975a9f32fbc68ad55a4701430ddd69d6fd1b04a", func := "loop.example/sortingoffice/laws.FnBinPass", spec := "fnBinPass", unfollowed := true, recurses := true, apart := false, narrowed := true }
def FnBinPassUptoSaid : Prop := fnBinPassUptoRow.holds Try.pinned (OpenSpec.upto fnBinPassSpec)

/-- 'laws.FnCollect', WHERE WHAT IT READS IS OF BULK AT MOST 1048576: true; the input reads as it did. -/
def fnCollectUptoRow : OpenClaim := { program := "ytbkhndgdgefhpaa", sum := "db49cd6f47d7d3a6d15bb8e6d975a9f32fbc68ad55a4701430ddd69d6fd1b04a", func := "loop.example/sortingoffice/laws.FnCollect", spec := "fnCollect", recurses := true, apart := false, narrowed := true }
def FnCollectUptoSaid : Prop := fnCollectUptoRow.holds Try.pinned (OpenSpec.upto fnCollectSpec)

/-- 'laws.FnSortPass', WHERE WHAT IT READS IS OF BULK AT MOST 1048576: true; the input reads as it did. -/
def fnSortPassUptoRow : OpenClaim := { program := "ytbkhndgdgefhpaa", sum := "db49cd6f47d7d3a6d15bb8e6d975a9f32fbc68ad55a4701430ddd69d6fd1b04a", func := "loop.example/sortingoffice/laws.FnSortPass", spec := "fnSortPass", unfollowed := true, recurses := true, apart := false, narrowed := true }
def FnSortPassUptoSaid : Prop := fnSortPassUptoRow.holds Try.pinned (OpenSpec.upto fnSortPassSpec)

/-- 'laws.FnInversions', WHERE WHAT IT READS IS OF BULK AT MOST 1048576: true; the input reads as it did. -/
def fnInversionsUptoRow : OpenClaim := { program := "ytbkhndgdgefhpaa", sum := "db49cd6f47d7d3a6d15bb8e6d975a9f32fbc68ad55a4701430ddd69d6fd1b04a", func := "loop.example/sortingoffice/laws.FnInversions", spec := "fnInversions", recurses := true, apart := false, narrowed := true }
def FnInversionsUptoSaid : Prop := fnInversionsUptoRow.holds Try.pinned (OpenSpec.upto fnInversionsSpec)

/-- 'laws.FnHold', WHERE WHAT IT READS IS OF BULK AT MOST 1048576: true; the input reads as it did. -/
def fnHoldUptoRow : OpenClaim := { program := "ytbkhndgdgefhpaa", sum := "db49cd6f47d7d3a6d15bb8e6d975a9f32fbc68ad55a4701430ddd69d6fd1b04a", func := "loop.example/sortingoffice/laws.FnHold", spec := "fnHold", unfollowed := true, recurses := true, apart := false, narrowed := true }
def FnHoldUptoSaid : Prop := fnHoldUptoRow.holds Try.pinned (OpenSpec.upto fnHoldSpec)

/-- 'laws.FnSeal', WHERE WHAT IT READS IS OF BULK AT MOST 1048576: true; the input reads as it did. -/
def fnSealUptoRow : OpenClaim := { program := "ytbkhndgdgefhpaa", sum := "db49cd6f47d7d3a6d15bb8e6d975a9f32fbc68ad55a4701430ddd69d6fd1b04a", func := "loop.example/sortingoffice/laws.FnSeal", spec := "fnSeal", inPlace := ["internal/reflectlite.ValueOf", "internal/reflectlite.Swapper", "(internal/reflectlite.Value).Len"], unfollowed := true, recurses := true, apart := false, narrowed := true }
def FnSealUptoSaid : Prop := fnSealUptoRow.holds Try.pinned (OpenSpec.upto fnSealSpec)

/-- 'laws.FnOrderSeal', WHERE WHAT IT READS IS OF BULK AT MOST 1048576: true; the input reads as it did. -/
def fnOrderSealUptoRow : OpenClaim := { program := "ytbkhndgdgefhpaa", sum := "db49cd6f47d7d3a6d15bb8e6d975a9f32fbc68ad55a4701430ddd69d6fd1b04a", func := "loop.example/sortingoffice/laws.FnOrderSeal", spec := "fnOrderSeal", unfollowed := true, recurses := true, apart := false, narrowed := true }
def FnOrderSealUptoSaid : Prop := fnOrderSealUptoRow.holds Try.pinned (OpenSpec.upto fnOrderSealSpec)

/-- 'laws.FnSample', WHERE WHAT IT READS IS OF BULK AT MOST 1048576: true; the input reads as it did. -/
def fnSampleUptoRow : OpenClaim := { program := "ytbkhndgdgefhpaa", sum := "db49cd6f47d7d3a6d15bb8e6d975a9f32fbc68ad55a4701430ddd69d6fd1b04a", func := "loop.example/sortingoffice/laws.FnSample", spec := "fnSample", recurses := true, apart := false, narrowed := true }
def FnSampleUptoSaid : Prop := fnSampleUptoRow.holds Try.pinned (OpenSpec.upto fnSampleSpec)

/-- 'laws.FnExactDayValid', WHERE WHAT IT READS IS OF BULK AT MOST 1048576: true; the input reads as it did. -/
def fnExactDayValidUptoRow : OpenClaim := { program := "ytbkhndgdgefhpaa", sum := "db49cd6f47d7d3a6d15bb8e6d975a9f32fbc68ad55a4701430ddd69d6fd1b04a", func := "loop.example/sortingoffice/laws.FnExactDayValid", spec := "fnExactDayValid", unfollowed := true, recurses := true, apart := false, narrowed := true }
def FnExactDayValidUptoSaid : Prop := fnExactDayValidUptoRow.holds Try.pinned (OpenSpec.upto fnExactDayValidSpec)

end Rows
end Go.Proofs.Ytbkhndgdgefhpaa
