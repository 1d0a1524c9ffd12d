/-
  No cell of these rows narrows 'for every input' (looked for: loops, veiled, ifaces, maps, wideKeys, modest, calm, conditions, laid).
  DERIVED. THE GIVEN ROWS OF THIS SEAT. 3 by the template 'for every input the law returns true; each argument reads behind the call as it read before'; 0 by the template 'total and deterministic' (their statements: YtcppjkmmmpdchaaTotals.lean).
  GIVEN WITH THE SEED: the statements are not yours to turn. If you find one false, say at which input.
  Laid BY PROGRAM, IN A SANDBOX (cutbox-rows.mjs): the forced cells as the released guide's own fill.sh prints them over the translation 5378f87edbe75997… (all of the seat's roots in one cut). By AI agents, Wed Nov 11 2026. No macro, syntax, notation, axiom, sorry.
-/
import Derived.Test.YtcppjkmmmpdchaaChecked
import GoSem.Claim
import GoSem.ClaimJoined
import GoSem.ClaimMapViews
import Derived.JoinedTies
import Derived.KernelRfl
namespace Go.Proofs.Ytcppjkmmmpdchaa
/- THE CELL 'sum', in the pinned program and in every row, IS THE sha256 OF THE DUMP (.gsa) THAT YtcppjkmmmpdchaaProg.lean LOADS. Nothing in Lean hashes anything: it is a label: what it is worth is what the hold of that sum in a sandbox is worth. -/
noncomputable def Try.pinned : Pinned := { name := "ytcppjkmmmpdchaa", sum := "5378f87edbe75997d0183ac7686f80a5a095f8b195962ddc9e83f3dbe24d2638", checked := Try.checked }
namespace Rows
def none {H : Type} : Left H := { results := [], args := [] }

/-- 'laws.FnExactFormatForwards': WHATEVER THE INPUT: true; the input reads as it did. -/
def fnExactFormatForwardsSpec : ChangeSpec := { name := "fnExactFormatForwards", fn := fun _ => fun
  | [d] => { results := [.lit (.bool true)], args := [d] }
  | _ => none }
def fnExactFormatForwardsRow : OpenClaim := { program := "ytcppjkmmmpdchaa", sum := "5378f87edbe75997d0183ac7686f80a5a095f8b195962ddc9e83f3dbe24d2638", func := "loop.example/sortingoffice/laws.FnExactFormatForwards", spec := "fnExactFormatForwards", inPlace := ["internal/abi.NoEscape", "internal/bytealg.MakeNoZero"], apart := false }
def FnExactFormatForwardsSaid : Prop := fnExactFormatForwardsRow.holds Try.pinned (OpenSpec.ofChange fnExactFormatForwardsSpec)

/-- ITS FALSE NEIGHBOUR: 'it returns false'. Refute it at one input. -/
def fnExactFormatForwardsWrong : ChangeSpec := { name := "fnExactFormatForwards", fn := fun _ => fun
  | [d] => { results := [.lit (.bool false)], args := [d] }
  | _ => none }
def FnExactFormatForwardsWrongFalsely : Prop := fnExactFormatForwardsRow.holds Try.pinned (OpenSpec.ofChange fnExactFormatForwardsWrong)

/-- 'laws.FnExactFormatRules': WHATEVER THE INPUT: true; the input reads as it did. -/
def fnExactFormatRulesSpec : ChangeSpec := { name := "fnExactFormatRules", fn := fun _ => fun
  | [d] => { results := [.lit (.bool true)], args := [d] }
  | _ => none }
def fnExactFormatRulesRow : OpenClaim := { program := "ytcppjkmmmpdchaa", sum := "5378f87edbe75997d0183ac7686f80a5a095f8b195962ddc9e83f3dbe24d2638", func := "loop.example/sortingoffice/laws.FnExactFormatRules", spec := "fnExactFormatRules", inPlace := ["internal/abi.NoEscape", "internal/bytealg.MakeNoZero"], unfollowed := true, recurses := true, apart := false }
def FnExactFormatRulesSaid : Prop := fnExactFormatRulesRow.holds Try.pinned (OpenSpec.ofChange fnExactFormatRulesSpec)

/-- ITS FALSE NEIGHBOUR: 'it returns false'. Refute it at one input. -/
def fnExactFormatRulesWrong : ChangeSpec := { name := "fnExactFormatRules", fn := fun _ => fun
  | [d] => { results := [.lit (.bool false)], args := [d] }
  | _ => none }
def FnExactFormatRulesWrongFalsely : Prop := fnExactFormatRulesRow.holds Try.pinned (OpenSpec.ofChange fnExactFormatRulesWrong)

/-- 'laws.FnExactFormatNetwork': WHATEVER THE INPUT: true; the input reads as it did. -/
def fnExactFormatNetworkSpec : ChangeSpec := { name := "fnExactFormatNetwork", fn := fun _ => fun
  | [d] => { results := [.lit (.bool true)], args := [d] }
  | _ => none }
def fnExactFormatNetworkRow : OpenClaim := { program := "ytcppjkmmmpdchaa", sum := "5378f87edbe75997d0183ac7686f80a5a095f8b195962ddc9e83f3dbe24d2638", func := "loop.example/sortingoffice/laws.FnExactFormatNetwork", spec := "fnExactFormatNetwork", inPlace := ["internal/abi.NoEscape", "internal/bytealg.MakeNoZero"], unfollowed := true, recurses := true, apart := false }
def FnExactFormatNetworkSaid : Prop := fnExactFormatNetworkRow.holds Try.pinned (OpenSpec.ofChange fnExactFormatNetworkSpec)

/-- ITS FALSE NEIGHBOUR: 'it returns false'. Refute it at one input. -/
def fnExactFormatNetworkWrong : ChangeSpec := { name := "fnExactFormatNetwork", fn := fun _ => fun
  | [d] => { results := [.lit (.bool false)], args := [d] }
  | _ => none }
def FnExactFormatNetworkWrongFalsely : Prop := fnExactFormatNetworkRow.holds Try.pinned (OpenSpec.ofChange fnExactFormatNetworkWrong)

/- THE SECOND FORM. 'bulk': how many values and letters a reading holds, each counted each time it is reached (what is shared counts as often as it is met; a slice's spare places count too). A statement '..UptoSaid' is the law's where the arguments, and the package variables that the reading takes, are together of bulk at most 1048576: NARROWER than '..Said'. Prove '..Said' where nothing that the law and all that it calls make is longer than what came in: it says more and counts as full. Else prove '..UptoSaid'. A law counts once. -/
mutual
def uptoBulk {H : Type} : DataW H → Nat
  | .lit (.string bytes) => bytes.length + 1
  | .lit _ => 1
  | .nil => 1
  | .ptr d => uptoBulk d + 1
  | .slice elems spare => uptoBulkAll elems + uptoBulkAll spare + 1
  | .agg parts => uptoBulkAll parts + 1
  | .iface _ d => uptoBulk d + 1
  | .map entries => uptoBulkEntries entries + 1
  | .held _ => 1
def uptoBulkAll {H : Type} : List (DataW H) → Nat
  | [] => 0
  | d :: r => uptoBulk d + uptoBulkAll r
def uptoBulkEntries {H : Type} : List (Lit × DataW H) → Nat
  | [] => 0
  | x :: r => uptoBulkEntry x + uptoBulkEntries r
def uptoBulkEntry {H : Type} : Lit × DataW H → Nat
  | (.string bytes, d) => bytes.length + uptoBulk d + 1
  | (_, d) => uptoBulk d + 1
 end
def uptoSmall : (H : Type) → List (DataW H) → Bool := fun _ ds => decide (uptoBulkAll ds ≤ 1048576)
def OpenSpec.upto (s : _root_.Go.ChangeSpec) : _root_.Go.OpenSpec := { _root_.Go.OpenSpec.ofChange s with cond := some uptoSmall }

/-- 'laws.FnExactFormatForwards', WHERE WHAT IT READS IS OF BULK AT MOST 1048576: true; the input reads as it did. -/
def fnExactFormatForwardsUptoRow : OpenClaim := { program := "ytcppjkmmmpdchaa", sum := "5378f87edbe75997d0183ac7686f80a5a095f8b195962ddc9e83f3dbe24d2638", func := "loop.example/sortingoffice/laws.FnExactFormatForwards", spec := "fnExactFormatForwards", inPlace := ["internal/abi.NoEscape", "internal/bytealg.MakeNoZero"], apart := false, narrowed := true }
def FnExactFormatForwardsUptoSaid : Prop := fnExactFormatForwardsUptoRow.holds Try.pinned (OpenSpec.upto fnExactFormatForwardsSpec)

/-- 'laws.FnExactFormatRules', WHERE WHAT IT READS IS OF BULK AT MOST 1048576: true; the input reads as it did. -/
def fnExactFormatRulesUptoRow : OpenClaim := { program := "ytcppjkmmmpdchaa", sum := "5378f87edbe75997d0183ac7686f80a5a095f8b195962ddc9e83f3dbe24d2638", func := "loop.example/sortingoffice/laws.FnExactFormatRules", spec := "fnExactFormatRules", inPlace := ["internal/abi.NoEscape", "internal/bytealg.MakeNoZero"], unfollowed := true, recurses := true, apart := false, narrowed := true }
def FnExactFormatRulesUptoSaid : Prop := fnExactFormatRulesUptoRow.holds Try.pinned (OpenSpec.upto fnExactFormatRulesSpec)

/-- 'laws.FnExactFormatNetwork', WHERE WHAT IT READS IS OF BULK AT MOST 1048576: true; the input reads as it did. -/
def fnExactFormatNetworkUptoRow : OpenClaim := { program := "ytcppjkmmmpdchaa", sum := "5378f87edbe75997d0183ac7686f80a5a095f8b195962ddc9e83f3dbe24d2638", func := "loop.example/sortingoffice/laws.FnExactFormatNetwork", spec := "fnExactFormatNetwork", inPlace := ["internal/abi.NoEscape", "internal/bytealg.MakeNoZero"], unfollowed := true, recurses := true, apart := false, narrowed := true }
def FnExactFormatNetworkUptoSaid : Prop := fnExactFormatNetworkUptoRow.holds Try.pinned (OpenSpec.upto fnExactFormatNetworkSpec)

end Rows
end Go.Proofs.Ytcppjkmmmpdchaa
