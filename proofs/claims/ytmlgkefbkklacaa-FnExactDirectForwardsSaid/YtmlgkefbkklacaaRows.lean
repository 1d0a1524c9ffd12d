/-
  No cell of these rows narrows 'for every input' (looked for: loops, veiled, ifaces, maps, wideKeys, modest, calm, conditions, laid).
  DERIVED. THE GIVEN ROWS OF THIS SEAT. 10 by the template 'for every input the law returns true; each argument reads behind the call as it read before'; 0 by the template 'total and deterministic' (their statements: YtmlgkefbkklacaaTotals.lean).
  GIVEN WITH THE SEED: the statements are not yours to turn. If you find one false, say at which input.
  Laid BY PROGRAM, IN A SANDBOX (cutbox-rows.mjs): the forced cells as the released guide's own fill.sh prints them over the translation 70889c84de11cec5… (all of the seat's roots in one cut). By AI agents, Wed Nov 11 2026. No macro, syntax, notation, axiom, sorry.
-/
import Derived.Test.YtmlgkefbkklacaaChecked
import GoSem.Claim
import GoSem.ClaimJoined
import GoSem.ClaimMapViews
import Derived.JoinedTies
import Derived.KernelRfl
namespace Go.Proofs.Ytmlgkefbkklacaa
/- THE CELL 'sum', in the pinned program and in every row, IS THE sha256 OF THE DUMP (.gsa) THAT YtmlgkefbkklacaaProg.lean LOADS. Nothing in Lean hashes anything: it is a label: what it is worth is what the hold of that sum in a sandbox is worth. -/
noncomputable def Try.pinned : Pinned := { name := "ytmlgkefbkklacaa", sum := "70889c84de11cec50136f487a7581ff1ed8c8ef37c719a48ecf1fecabe9fb794", checked := Try.checked }
namespace Rows
def none {H : Type} : Left H := { results := [], args := [] }

/-- 'laws.FnExactNextCode': WHATEVER THE INPUT: true; the input reads as it did. -/
def fnExactNextCodeSpec : ChangeSpec := { name := "fnExactNextCode", fn := fun _ => fun
  | [d1, d2] => { results := [.lit (.bool true)], args := [d1, d2] }
  | _ => none }
def fnExactNextCodeRow : OpenClaim := { program := "ytmlgkefbkklacaa", sum := "70889c84de11cec50136f487a7581ff1ed8c8ef37c719a48ecf1fecabe9fb794", func := "loop.example/sortingoffice/laws.FnExactNextCode", spec := "fnExactNextCode", apart := false }
def FnExactNextCodeSaid : Prop := fnExactNextCodeRow.holds Try.pinned (OpenSpec.ofChange fnExactNextCodeSpec)

/-- ITS FALSE NEIGHBOUR: 'it returns false'. Refute it at one input. -/
def fnExactNextCodeWrong : ChangeSpec := { name := "fnExactNextCode", fn := fun _ => fun
  | [d1, d2] => { results := [.lit (.bool false)], args := [d1, d2] }
  | _ => none }
def FnExactNextCodeWrongFalsely : Prop := fnExactNextCodeRow.holds Try.pinned (OpenSpec.ofChange fnExactNextCodeWrong)

/-- 'laws.FnExactResolveCode': WHATEVER THE INPUT: true; the input reads as it did. -/
def fnExactResolveCodeSpec : ChangeSpec := { name := "fnExactResolveCode", fn := fun _ => fun
  | [d1, d2] => { results := [.lit (.bool true)], args := [d1, d2] }
  | _ => none }
def fnExactResolveCodeRow : OpenClaim := { program := "ytmlgkefbkklacaa", sum := "70889c84de11cec50136f487a7581ff1ed8c8ef37c719a48ecf1fecabe9fb794", func := "loop.example/sortingoffice/laws.FnExactResolveCode", spec := "fnExactResolveCode", apart := false }
def FnExactResolveCodeSaid : Prop := fnExactResolveCodeRow.holds Try.pinned (OpenSpec.ofChange fnExactResolveCodeSpec)

/-- ITS FALSE NEIGHBOUR: 'it returns false'. Refute it at one input. -/
def fnExactResolveCodeWrong : ChangeSpec := { name := "fnExactResolveCode", fn := fun _ => fun
  | [d1, d2] => { results := [.lit (.bool false)], args := [d1, d2] }
  | _ => none }
def FnExactResolveCodeWrongFalsely : Prop := fnExactResolveCodeRow.holds Try.pinned (OpenSpec.ofChange fnExactResolveCodeWrong)

/-- 'laws.FnExactEndlessCodes': WHATEVER THE INPUT: true; the input reads as it did. -/
def fnExactEndlessCodesSpec : ChangeSpec := { name := "fnExactEndlessCodes", fn := fun _ => fun
  | [d] => { results := [.lit (.bool true)], args := [d] }
  | _ => none }
def fnExactEndlessCodesRow : OpenClaim := { program := "ytmlgkefbkklacaa", sum := "70889c84de11cec50136f487a7581ff1ed8c8ef37c719a48ecf1fecabe9fb794", func := "loop.example/sortingoffice/laws.FnExactEndlessCodes", spec := "fnExactEndlessCodes", recurses := true, apart := false }
def FnExactEndlessCodesSaid : Prop := fnExactEndlessCodesRow.holds Try.pinned (OpenSpec.ofChange fnExactEndlessCodesSpec)

/-- ITS FALSE NEIGHBOUR: 'it returns false'. Refute it at one input. -/
def fnExactEndlessCodesWrong : ChangeSpec := { name := "fnExactEndlessCodes", fn := fun _ => fun
  | [d] => { results := [.lit (.bool false)], args := [d] }
  | _ => none }
def FnExactEndlessCodesWrongFalsely : Prop := fnExactEndlessCodesRow.holds Try.pinned (OpenSpec.ofChange fnExactEndlessCodesWrong)

/-- 'laws.FnExactAddForward': WHATEVER THE INPUT: true; the input reads as it did. -/
def fnExactAddForwardSpec : ChangeSpec := { name := "fnExactAddForward", fn := fun _ => fun
  | [d1, d2, d3] => { results := [.lit (.bool true)], args := [d1, d2, d3] }
  | _ => none }
def fnExactAddForwardRow : OpenClaim := { program := "ytmlgkefbkklacaa", sum := "70889c84de11cec50136f487a7581ff1ed8c8ef37c719a48ecf1fecabe9fb794", func := "loop.example/sortingoffice/laws.FnExactAddForward", spec := "fnExactAddForward", unfollowed := true, recurses := true, apart := false }
def FnExactAddForwardSaid : Prop := fnExactAddForwardRow.holds Try.pinned (OpenSpec.ofChange fnExactAddForwardSpec)

/-- ITS FALSE NEIGHBOUR: 'it returns false'. Refute it at one input. -/
def fnExactAddForwardWrong : ChangeSpec := { name := "fnExactAddForward", fn := fun _ => fun
  | [d1, d2, d3] => { results := [.lit (.bool false)], args := [d1, d2, d3] }
  | _ => none }
def FnExactAddForwardWrongFalsely : Prop := fnExactAddForwardRow.holds Try.pinned (OpenSpec.ofChange fnExactAddForwardWrong)

/-- 'laws.FnExactRemoveForward': WHATEVER THE INPUT: true; the input reads as it did. -/
def fnExactRemoveForwardSpec : ChangeSpec := { name := "fnExactRemoveForward", fn := fun _ => fun
  | [d1, d2] => { results := [.lit (.bool true)], args := [d1, d2] }
  | _ => none }
def fnExactRemoveForwardRow : OpenClaim := { program := "ytmlgkefbkklacaa", sum := "70889c84de11cec50136f487a7581ff1ed8c8ef37c719a48ecf1fecabe9fb794", func := "loop.example/sortingoffice/laws.FnExactRemoveForward", spec := "fnExactRemoveForward", unfollowed := true, recurses := true, apart := false }
def FnExactRemoveForwardSaid : Prop := fnExactRemoveForwardRow.holds Try.pinned (OpenSpec.ofChange fnExactRemoveForwardSpec)

/-- ITS FALSE NEIGHBOUR: 'it returns false'. Refute it at one input. -/
def fnExactRemoveForwardWrong : ChangeSpec := { name := "fnExactRemoveForward", fn := fun _ => fun
  | [d1, d2] => { results := [.lit (.bool false)], args := [d1, d2] }
  | _ => none }
def FnExactRemoveForwardWrongFalsely : Prop := fnExactRemoveForwardRow.holds Try.pinned (OpenSpec.ofChange fnExactRemoveForwardWrong)

/-- 'laws.FnExactDirectForwards': WHATEVER THE INPUT: true; the input reads as it did. -/
def fnExactDirectForwardsSpec : ChangeSpec := { name := "fnExactDirectForwards", fn := fun _ => fun
  | [d] => { results := [.lit (.bool true)], args := [d] }
  | _ => none }
def fnExactDirectForwardsRow : OpenClaim := { program := "ytmlgkefbkklacaa", sum := "70889c84de11cec50136f487a7581ff1ed8c8ef37c719a48ecf1fecabe9fb794", func := "loop.example/sortingoffice/laws.FnExactDirectForwards", spec := "fnExactDirectForwards", unfollowed := true, recurses := true, apart := false }
def FnExactDirectForwardsSaid : Prop := fnExactDirectForwardsRow.holds Try.pinned (OpenSpec.ofChange fnExactDirectForwardsSpec)

/-- ITS FALSE NEIGHBOUR: 'it returns false'. Refute it at one input. -/
def fnExactDirectForwardsWrong : ChangeSpec := { name := "fnExactDirectForwards", fn := fun _ => fun
  | [d] => { results := [.lit (.bool false)], args := [d] }
  | _ => none }
def FnExactDirectForwardsWrongFalsely : Prop := fnExactDirectForwardsRow.holds Try.pinned (OpenSpec.ofChange fnExactDirectForwardsWrong)

/-- 'laws.FnExactSourcesOf': WHATEVER THE INPUT: true; the input reads as it did. -/
def fnExactSourcesOfSpec : ChangeSpec := { name := "fnExactSourcesOf", fn := fun _ => fun
  | [d1, d2] => { results := [.lit (.bool true)], args := [d1, d2] }
  | _ => none }
def fnExactSourcesOfRow : OpenClaim := { program := "ytmlgkefbkklacaa", sum := "70889c84de11cec50136f487a7581ff1ed8c8ef37c719a48ecf1fecabe9fb794", func := "loop.example/sortingoffice/laws.FnExactSourcesOf", spec := "fnExactSourcesOf", unfollowed := true, recurses := true, apart := false }
def FnExactSourcesOfSaid : Prop := fnExactSourcesOfRow.holds Try.pinned (OpenSpec.ofChange fnExactSourcesOfSpec)

/-- ITS FALSE NEIGHBOUR: 'it returns false'. Refute it at one input. -/
def fnExactSourcesOfWrong : ChangeSpec := { name := "fnExactSourcesOf", fn := fun _ => fun
  | [d1, d2] => { results := [.lit (.bool false)], args := [d1, d2] }
  | _ => none }
def FnExactSourcesOfWrongFalsely : Prop := fnExactSourcesOfRow.holds Try.pinned (OpenSpec.ofChange fnExactSourcesOfWrong)

/-- 'laws.FnExactLongestChain': WHATEVER THE INPUT: true; the input reads as it did. -/
def fnExactLongestChainSpec : ChangeSpec := { name := "fnExactLongestChain", fn := fun _ => fun
  | [d] => { results := [.lit (.bool true)], args := [d] }
  | _ => none }
def fnExactLongestChainRow : OpenClaim := { program := "ytmlgkefbkklacaa", sum := "70889c84de11cec50136f487a7581ff1ed8c8ef37c719a48ecf1fecabe9fb794", func := "loop.example/sortingoffice/laws.FnExactLongestChain", spec := "fnExactLongestChain", apart := false }
def FnExactLongestChainSaid : Prop := fnExactLongestChainRow.holds Try.pinned (OpenSpec.ofChange fnExactLongestChainSpec)

/-- ITS FALSE NEIGHBOUR: 'it returns false'. Refute it at one input. -/
def fnExactLongestChainWrong : ChangeSpec := { name := "fnExactLongestChain", fn := fun _ => fun
  | [d] => { results := [.lit (.bool false)], args := [d] }
  | _ => none }
def FnExactLongestChainWrongFalsely : Prop := fnExactLongestChainRow.holds Try.pinned (OpenSpec.ofChange fnExactLongestChainWrong)

/-- 'laws.FnExactForwardBatch': WHATEVER THE INPUT: true; the input reads as it did. -/
def fnExactForwardBatchSpec : ChangeSpec := { name := "fnExactForwardBatch", fn := fun _ => fun
  | [d1, d2] => { results := [.lit (.bool true)], args := [d1, d2] }
  | _ => none }
def fnExactForwardBatchRow : OpenClaim := { program := "ytmlgkefbkklacaa", sum := "70889c84de11cec50136f487a7581ff1ed8c8ef37c719a48ecf1fecabe9fb794", func := "loop.example/sortingoffice/laws.FnExactForwardBatch", spec := "fnExactForwardBatch", apart := false }
def FnExactForwardBatchSaid : Prop := fnExactForwardBatchRow.holds Try.pinned (OpenSpec.ofChange fnExactForwardBatchSpec)

/-- ITS FALSE NEIGHBOUR: 'it returns false'. Refute it at one input. -/
def fnExactForwardBatchWrong : ChangeSpec := { name := "fnExactForwardBatch", fn := fun _ => fun
  | [d1, d2] => { results := [.lit (.bool false)], args := [d1, d2] }
  | _ => none }
def FnExactForwardBatchWrongFalsely : Prop := fnExactForwardBatchRow.holds Try.pinned (OpenSpec.ofChange fnExactForwardBatchWrong)

/-- 'laws.FnExactSameForwards': WHATEVER THE INPUT: true; the input reads as it did. -/
def fnExactSameForwardsSpec : ChangeSpec := { name := "fnExactSameForwards", fn := fun _ => fun
  | [d1, d2] => { results := [.lit (.bool true)], args := [d1, d2] }
  | _ => none }
def fnExactSameForwardsRow : OpenClaim := { program := "ytmlgkefbkklacaa", sum := "70889c84de11cec50136f487a7581ff1ed8c8ef37c719a48ecf1fecabe9fb794", func := "loop.example/sortingoffice/laws.FnExactSameForwards", spec := "fnExactSameForwards", apart := false }
def FnExactSameForwardsSaid : Prop := fnExactSameForwardsRow.holds Try.pinned (OpenSpec.ofChange fnExactSameForwardsSpec)

/-- ITS FALSE NEIGHBOUR: 'it returns false'. Refute it at one input. -/
def fnExactSameForwardsWrong : ChangeSpec := { name := "fnExactSameForwards", fn := fun _ => fun
  | [d1, d2] => { results := [.lit (.bool false)], args := [d1, d2] }
  | _ => none }
def FnExactSameForwardsWrongFalsely : Prop := fnExactSameForwardsRow.holds Try.pinned (OpenSpec.ofChange fnExactSameForwardsWrong)

/- THE SECOND FORM. 'bulk': how many values and letters a reading holds, each counted each time it is reached (what is shared counts as often as it is met; a slice's spare places count too). A statement '..UptoSaid' is the law's where the arguments, and the package variables that the reading takes, are together of bulk at most 1048576: NARROWER than '..Said'. Prove '..Said' where nothing that the law and all that it calls make is longer than what came in: it says more and counts as full. Else prove '..UptoSaid'. A law counts once. -/
mutual
def uptoBulk {H : Type} : DataW H → Nat
  | .lit (.string bytes) => bytes.length + 1
  | .lit _ => 1
  | .nil => 1
  | .ptr d => uptoBulk d + 1
  | .slice elems spare => uptoBulkAll elems + uptoBulkAll spare + 1
  | .agg parts => uptoBulkAll parts + 1
  | .iface _ d => uptoBulk d + 1
  | .map entries => uptoBulkEntries entries + 1
  | .held _ => 1
def uptoBulkAll {H : Type} : List (DataW H) → Nat
  | [] => 0
  | d :: r => uptoBulk d + uptoBulkAll r
def uptoBulkEntries {H : Type} : List (Lit × DataW H) → Nat
  | [] => 0
  | x :: r => uptoBulkEntry x + uptoBulkEntries r
def uptoBulkEntry {H : Type} : Lit × DataW H → Nat
  | (.string bytes, d) => bytes.length + uptoBulk d + 1
  | (_, d) => uptoBulk d + 1
 end
def uptoSmall : (H : Type) → List (DataW H) → Bool := fun _ ds => decide (uptoBulkAll ds ≤ 1048576)
def OpenSpec.upto (s : _root_.Go.ChangeSpec) : _root_.Go.OpenSpec := { _root_.Go.OpenSpec.ofChange s with cond := some uptoSmall }

/-- 'laws.FnExactNextCode', WHERE WHAT IT READS IS OF BULK AT MOST 1048576: true; the input reads as it did. -/
def fnExactNextCodeUptoRow : OpenClaim := { program := "ytmlgkefbkklacaa", sum := "70889c84de11cec50136f487a7581ff1ed8c8ef37c719a48ecf1fecabe9fb794", func := "loop.example/sortingoffice/laws.FnExactNextCode", spec := "fnExactNextCode", apart := false, narrowed := true }
def FnExactNextCodeUptoSaid : Prop := fnExactNextCodeUptoRow.holds Try.pinned (OpenSpec.upto fnExactNextCodeSpec)

/-- 'laws.FnExactResolveCode', WHERE WHAT IT READS IS OF BULK AT MOST 1048576: true; the input reads as it did. -/
def fnExactResolveCodeUptoRow : OpenClaim := { program := "ytmlgkefbkklacaa", sum := "70889c84de11cec50136f487a7581ff1ed8c8ef37c719a48ecf1fecabe9fb794", func := "loop.example/sortingoffice/laws.FnExactResolveCode", spec := "fnExactResolveCode", apart := false, narrowed := true }
def FnExactResolveCodeUptoSaid : Prop := fnExactResolveCodeUptoRow.holds Try.pinned (OpenSpec.upto fnExactResolveCodeSpec)

/-- 'laws.FnExactEndlessCodes', WHERE WHAT IT READS IS OF BULK AT MOST 1048576: true; the input reads as it did. -/
def fnExactEndlessCodesUptoRow : OpenClaim := { program := "ytmlgkefbkklacaa", sum := "70889c84de11cec50136f487a7581ff1ed8c8ef37c719a48ecf1fecabe9fb794", func := "loop.example/sortingoffice/laws.FnExactEndlessCodes", spec := "fnExactEndlessCodes", recurses := true, apart := false, narrowed := true }
def FnExactEndlessCodesUptoSaid : Prop := fnExactEndlessCodesUptoRow.holds Try.pinned (OpenSpec.upto fnExactEndlessCodesSpec)

/-- 'laws.FnExactAddForward', WHERE WHAT IT READS IS OF BULK AT MOST 1048576: true; the input reads as it did. -/
def fnExactAddForwardUptoRow : OpenClaim := { program := "ytmlgkefbkklacaa", sum := "70889c84de11cec50136f487a7581ff1ed8c8ef37c719a48ecf1fecabe9fb794", func := "loop.example/sortingoffice/laws.FnExactAddForward", spec := "fnExactAddForward", unfollowed := true, recurses := true, apart := false, narrowed := true }
def FnExactAddForwardUptoSaid : Prop := fnExactAddForwardUptoRow.holds Try.pinned (OpenSpec.upto fnExactAddForwardSpec)

/-- 'laws.FnExactRemoveForward', WHERE WHAT IT READS IS OF BULK AT MOST 1048576: true; the input reads as it did. -/
def fnExactRemoveForwardUptoRow : OpenClaim := { program := "ytmlgkefbkklacaa", sum := "70889c84de11cec50136f487a7581ff1ed8c8ef37c719a48ecf1fecabe9fb794", func := "loop.example/sortingoffice/laws.FnExactRemoveForward", spec := "fnExactRemoveForward", unfollowed := true, recurses := true, apart := false, narrowed := true }
def FnExactRemoveForwardUptoSaid : Prop := fnExactRemoveForwardUptoRow.holds Try.pinned (OpenSpec.upto fnExactRemoveForwardSpec)

/-- 'laws.FnExactDirectForwards', WHERE WHAT IT READS IS OF BULK AT MOST 1048576: true; the input reads as it did. -/
def fnExactDirectForwardsUptoRow : OpenClaim := { program := "ytmlgkefbkklacaa", sum := "70889c84de11cec50136f487a7581ff1ed8c8ef37c719a48ecf1fecabe9fb794", func := "loop.example/sortingoffice/laws.FnExactDirectForwards", spec := "fnExactDirectForwards", unfollowed := true, recurses := true, apart := false, narrowed := true }
def FnExactDirectForwardsUptoSaid : Prop := fnExactDirectForwardsUptoRow.holds Try.pinned (OpenSpec.upto fnExactDirectForwardsSpec)

/-- 'laws.FnExactSourcesOf', WHERE WHAT IT READS IS OF BULK AT MOST 1048576: true; the input reads as it did. -/
def fnExactSourcesOfUptoRow : OpenClaim := { program := "ytmlgkefbkklacaa", sum := "70889c84de11cec50136f487a7581ff1ed8c8ef37c719a48ecf1fecabe9fb794", func := "loop.example/sortingoffice/laws.FnExactSourcesOf", spec := "fnExactSourcesOf", unfollowed := true, recurses := true, apart := false, narrowed := true }
def FnExactSourcesOfUptoSaid : Prop := fnExactSourcesOfUptoRow.holds Try.pinned (OpenSpec.upto fnExactSourcesOfSpec)

/-- 'laws.FnExactLongestChain', WHERE WHAT IT READS IS OF BULK AT MOST 1048576: true; the input reads as it did. -/
def fnExactLongestChainUptoRow : OpenClaim := { program := "ytmlgkefbkklacaa", sum := "70889c84de11cec50136f487a7581ff1ed8c8ef37c719a48ecf1fecabe9fb794", func := "loop.example/sortingoffice/laws.FnExactLongestChain", spec := "fnExactLongestChain", apart := false, narrowed := true }
def FnExactLongestChainUptoSaid : Prop := fnExactLongestChainUptoRow.holds Try.pinned (OpenSpec.upto fnExactLongestChainSpec)

/-- 'laws.FnExactForwardBatch', WHERE WHAT IT READS IS OF BULK AT MOST 1048576: true; the input reads as it did. -/
def fnExactForwardBatchUptoRow : OpenClaim := { program := "ytmlgkefbkklacaa", sum := "70889c84de11cec50136f487a7581ff1ed8c8ef37c719a48ecf1fecabe9fb794", func := "loop.example/sortingoffice/laws.FnExactForwardBatch", spec := "fnExactForwardBatch", apart := false, narrowed := true }
def FnExactForwardBatchUptoSaid : Prop := fnExactForwardBatchUptoRow.holds Try.pinned (OpenSpec.upto fnExactForwardBatchSpec)

/-- 'laws.FnExactSameForwards', WHERE WHAT IT READS IS OF BULK AT MOST 1048576: true; the input reads as it did. -/
def fnExactSameForwardsUptoRow : OpenClaim := { program := "ytmlgkefbkklacaa", sum := "70889c84de11cec50136f487a7581ff1ed8c8ef37c719a48ecf1fecabe9fb794", func := "loop.example/sortingoffice/laws.FnExactSameForwards", spec := "fnExactSameForwards", apart := false, narrowed := true }
def FnExactSameForwardsUptoSaid : Prop := fnExactSameForwardsUptoRow.holds Try.pinned (OpenSpec.upto fnExactSameForwardsSpec)

end Rows
end Go.Proofs.Ytmlgkefbkklacaa
