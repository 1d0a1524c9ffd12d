/-
  No cell of these rows narrows 'for every input' (looked for: loops, veiled, ifaces, maps, wideKeys, modest, calm, conditions, laid).
  DERIVED. THE GIVEN ROWS OF THIS SEAT. 12 by the template 'for every input the law returns true; each argument reads behind the call as it read before'; 0 by the template 'total and deterministic' (their statements: YtbfbbpmddgfeiaaTotals.lean).
  GIVEN WITH THE SEED: the statements are not yours to turn. If you find one false, say at which input.
  Laid BY PROGRAM, IN A SANDBOX (cutbox-rows.mjs): the forced cells as the released guide's own fill.sh prints them over the translation 497cc71effbac2fc… (all of the seat's roots in one cut). By AI agents, Wed Nov 11 2026. No macro, syntax, notation, axiom, sorry.
-/
import Derived.Test.YtbfbbpmddgfeiaaChecked
import GoSem.Claim
import GoSem.ClaimJoined
import GoSem.ClaimMapViews
import Derived.JoinedTies
import Derived.KernelRfl
namespace Go.Proofs.Ytbfbbpmddgfeiaa
/- THE CELL 'sum', in the pinned program and in every row, IS THE sha256 OF THE DUMP (.gsa) THAT YtbfbbpmddgfeiaaProg.lean LOADS. Nothing in Lean hashes anything: it is a label: what it is worth is what the hold of that sum in a sandbox is worth. -/
noncomputable def Try.pinned : Pinned := { name := "ytbfbbpmddgfeiaa", sum := "497cc71effbac2fce68d8b845a0f151cc82a35a081e3d988a0f6134b6b1f666e", checked := Try.checked }
namespace Rows
def none {H : Type} : Left H := { results := [], args := [] }

/-- 'laws.FnNextCode': WHATEVER THE INPUT: true; the input reads as it did. -/
def fnNextCodeSpec : ChangeSpec := { name := "fnNextCode", fn := fun _ => fun
  | [d] => { results := [.lit (.bool true)], args := [d] }
  | _ => none }
def fnNextCodeRow : OpenClaim := { program := "ytbfbbpmddgfeiaa", sum := "497cc71effbac2fce68d8b845a0f151cc82a35a081e3d988a0f6134b6b1f666e", func := "loop.example/sortingoffice/laws.FnNextCode", spec := "fnNextCode", recurses := true, apart := false }
def FnNextCodeSaid : Prop := fnNextCodeRow.holds Try.pinned (OpenSpec.ofChange fnNextCodeSpec)

/-- ITS FALSE NEIGHBOUR: 'it returns false'. Refute it at one input. -/
def fnNextCodeWrong : ChangeSpec := { name := "fnNextCode", fn := fun _ => fun
  | [d] => { results := [.lit (.bool false)], args := [d] }
  | _ => none }
def FnNextCodeWrongFalsely : Prop := fnNextCodeRow.holds Try.pinned (OpenSpec.ofChange fnNextCodeWrong)

/-- 'laws.FnResolve': WHATEVER THE INPUT: true; the input reads as it did. -/
def fnResolveSpec : ChangeSpec := { name := "fnResolve", fn := fun _ => fun
  | [d] => { results := [.lit (.bool true)], args := [d] }
  | _ => none }
def fnResolveRow : OpenClaim := { program := "ytbfbbpmddgfeiaa", sum := "497cc71effbac2fce68d8b845a0f151cc82a35a081e3d988a0f6134b6b1f666e", func := "loop.example/sortingoffice/laws.FnResolve", spec := "fnResolve", recurses := true, apart := false }
def FnResolveSaid : Prop := fnResolveRow.holds Try.pinned (OpenSpec.ofChange fnResolveSpec)

/-- ITS FALSE NEIGHBOUR: 'it returns false'. Refute it at one input. -/
def fnResolveWrong : ChangeSpec := { name := "fnResolve", fn := fun _ => fun
  | [d] => { results := [.lit (.bool false)], args := [d] }
  | _ => none }
def FnResolveWrongFalsely : Prop := fnResolveRow.holds Try.pinned (OpenSpec.ofChange fnResolveWrong)

/-- 'laws.FnResolveStep': WHATEVER THE INPUT: true; the input reads as it did. -/
def fnResolveStepSpec : ChangeSpec := { name := "fnResolveStep", fn := fun _ => fun
  | [d] => { results := [.lit (.bool true)], args := [d] }
  | _ => none }
def fnResolveStepRow : OpenClaim := { program := "ytbfbbpmddgfeiaa", sum := "497cc71effbac2fce68d8b845a0f151cc82a35a081e3d988a0f6134b6b1f666e", func := "loop.example/sortingoffice/laws.FnResolveStep", spec := "fnResolveStep", recurses := true, apart := false }
def FnResolveStepSaid : Prop := fnResolveStepRow.holds Try.pinned (OpenSpec.ofChange fnResolveStepSpec)

/-- ITS FALSE NEIGHBOUR: 'it returns false'. Refute it at one input. -/
def fnResolveStepWrong : ChangeSpec := { name := "fnResolveStep", fn := fun _ => fun
  | [d] => { results := [.lit (.bool false)], args := [d] }
  | _ => none }
def FnResolveStepWrongFalsely : Prop := fnResolveStepRow.holds Try.pinned (OpenSpec.ofChange fnResolveStepWrong)

/-- 'laws.FnEndless': WHATEVER THE INPUT: true; the input reads as it did. -/
def fnEndlessSpec : ChangeSpec := { name := "fnEndless", fn := fun _ => fun
  | [d] => { results := [.lit (.bool true)], args := [d] }
  | _ => none }
def fnEndlessRow : OpenClaim := { program := "ytbfbbpmddgfeiaa", sum := "497cc71effbac2fce68d8b845a0f151cc82a35a081e3d988a0f6134b6b1f666e", func := "loop.example/sortingoffice/laws.FnEndless", spec := "fnEndless", recurses := true, apart := false }
def FnEndlessSaid : Prop := fnEndlessRow.holds Try.pinned (OpenSpec.ofChange fnEndlessSpec)

/-- ITS FALSE NEIGHBOUR: 'it returns false'. Refute it at one input. -/
def fnEndlessWrong : ChangeSpec := { name := "fnEndless", fn := fun _ => fun
  | [d] => { results := [.lit (.bool false)], args := [d] }
  | _ => none }
def FnEndlessWrongFalsely : Prop := fnEndlessRow.holds Try.pinned (OpenSpec.ofChange fnEndlessWrong)

/-- 'laws.FnAdd': WHATEVER THE INPUT: true; the input reads as it did. -/
def fnAddSpec : ChangeSpec := { name := "fnAdd", fn := fun _ => fun
  | [d] => { results := [.lit (.bool true)], args := [d] }
  | _ => none }
def fnAddRow : OpenClaim := { program := "ytbfbbpmddgfeiaa", sum := "497cc71effbac2fce68d8b845a0f151cc82a35a081e3d988a0f6134b6b1f666e", func := "loop.example/sortingoffice/laws.FnAdd", spec := "fnAdd", unfollowed := true, recurses := true, apart := false }
def FnAddSaid : Prop := fnAddRow.holds Try.pinned (OpenSpec.ofChange fnAddSpec)

/-- ITS FALSE NEIGHBOUR: 'it returns false'. Refute it at one input. -/
def fnAddWrong : ChangeSpec := { name := "fnAdd", fn := fun _ => fun
  | [d] => { results := [.lit (.bool false)], args := [d] }
  | _ => none }
def FnAddWrongFalsely : Prop := fnAddRow.holds Try.pinned (OpenSpec.ofChange fnAddWrong)

/-- 'laws.FnAddRefused': WHATEVER THE INPUT: true; the input reads as it did. -/
def fnAddRefusedSpec : ChangeSpec := { name := "fnAddRefused", fn := fun _ => fun
  | [d] => { results := [.lit (.bool true)], args := [d] }
  | _ => none }
def fnAddRefusedRow : OpenClaim := { program := "ytbfbbpmddgfeiaa", sum := "497cc71effbac2fce68d8b845a0f151cc82a35a081e3d988a0f6134b6b1f666e", func := "loop.example/sortingoffice/laws.FnAddRefused", spec := "fnAddRefused", unfollowed := true, recurses := true, apart := false }
def FnAddRefusedSaid : Prop := fnAddRefusedRow.holds Try.pinned (OpenSpec.ofChange fnAddRefusedSpec)

/-- ITS FALSE NEIGHBOUR: 'it returns false'. Refute it at one input. -/
def fnAddRefusedWrong : ChangeSpec := { name := "fnAddRefused", fn := fun _ => fun
  | [d] => { results := [.lit (.bool false)], args := [d] }
  | _ => none }
def FnAddRefusedWrongFalsely : Prop := fnAddRefusedRow.holds Try.pinned (OpenSpec.ofChange fnAddRefusedWrong)

/-- 'laws.FnRemove': WHATEVER THE INPUT: true; the input reads as it did. -/
def fnRemoveSpec : ChangeSpec := { name := "fnRemove", fn := fun _ => fun
  | [d] => { results := [.lit (.bool true)], args := [d] }
  | _ => none }
def fnRemoveRow : OpenClaim := { program := "ytbfbbpmddgfeiaa", sum := "497cc71effbac2fce68d8b845a0f151cc82a35a081e3d988a0f6134b6b1f666e", func := "loop.example/sortingoffice/laws.FnRemove", spec := "fnRemove", unfollowed := true, recurses := true, apart := false }
def FnRemoveSaid : Prop := fnRemoveRow.holds Try.pinned (OpenSpec.ofChange fnRemoveSpec)

/-- ITS FALSE NEIGHBOUR: 'it returns false'. Refute it at one input. -/
def fnRemoveWrong : ChangeSpec := { name := "fnRemove", fn := fun _ => fun
  | [d] => { results := [.lit (.bool false)], args := [d] }
  | _ => none }
def FnRemoveWrongFalsely : Prop := fnRemoveRow.holds Try.pinned (OpenSpec.ofChange fnRemoveWrong)

/-- 'laws.FnDirect': WHATEVER THE INPUT: true; the input reads as it did. -/
def fnDirectSpec : ChangeSpec := { name := "fnDirect", fn := fun _ => fun
  | [d] => { results := [.lit (.bool true)], args := [d] }
  | _ => none }
def fnDirectRow : OpenClaim := { program := "ytbfbbpmddgfeiaa", sum := "497cc71effbac2fce68d8b845a0f151cc82a35a081e3d988a0f6134b6b1f666e", func := "loop.example/sortingoffice/laws.FnDirect", spec := "fnDirect", unfollowed := true, recurses := true, apart := false }
def FnDirectSaid : Prop := fnDirectRow.holds Try.pinned (OpenSpec.ofChange fnDirectSpec)

/-- ITS FALSE NEIGHBOUR: 'it returns false'. Refute it at one input. -/
def fnDirectWrong : ChangeSpec := { name := "fnDirect", fn := fun _ => fun
  | [d] => { results := [.lit (.bool false)], args := [d] }
  | _ => none }
def FnDirectWrongFalsely : Prop := fnDirectRow.holds Try.pinned (OpenSpec.ofChange fnDirectWrong)

/-- 'laws.FnSources': WHATEVER THE INPUT: true; the input reads as it did. -/
def fnSourcesSpec : ChangeSpec := { name := "fnSources", fn := fun _ => fun
  | [d] => { results := [.lit (.bool true)], args := [d] }
  | _ => none }
def fnSourcesRow : OpenClaim := { program := "ytbfbbpmddgfeiaa", sum := "497cc71effbac2fce68d8b845a0f151cc82a35a081e3d988a0f6134b6b1f666e", func := "loop.example/sortingoffice/laws.FnSources", spec := "fnSources", unfollowed := true, recurses := true, apart := false }
def FnSourcesSaid : Prop := fnSourcesRow.holds Try.pinned (OpenSpec.ofChange fnSourcesSpec)

/-- ITS FALSE NEIGHBOUR: 'it returns false'. Refute it at one input. -/
def fnSourcesWrong : ChangeSpec := { name := "fnSources", fn := fun _ => fun
  | [d] => { results := [.lit (.bool false)], args := [d] }
  | _ => none }
def FnSourcesWrongFalsely : Prop := fnSourcesRow.holds Try.pinned (OpenSpec.ofChange fnSourcesWrong)

/-- 'laws.FnChain': WHATEVER THE INPUT: true; the input reads as it did. -/
def fnChainSpec : ChangeSpec := { name := "fnChain", fn := fun _ => fun
  | [d] => { results := [.lit (.bool true)], args := [d] }
  | _ => none }
def fnChainRow : OpenClaim := { program := "ytbfbbpmddgfeiaa", sum := "497cc71effbac2fce68d8b845a0f151cc82a35a081e3d988a0f6134b6b1f666e", func := "loop.example/sortingoffice/laws.FnChain", spec := "fnChain", recurses := true, apart := false }
def FnChainSaid : Prop := fnChainRow.holds Try.pinned (OpenSpec.ofChange fnChainSpec)

/-- ITS FALSE NEIGHBOUR: 'it returns false'. Refute it at one input. -/
def fnChainWrong : ChangeSpec := { name := "fnChain", fn := fun _ => fun
  | [d] => { results := [.lit (.bool false)], args := [d] }
  | _ => none }
def FnChainWrongFalsely : Prop := fnChainRow.holds Try.pinned (OpenSpec.ofChange fnChainWrong)

/-- 'laws.FnForwardBatch': WHATEVER THE INPUT: true; the input reads as it did. -/
def fnForwardBatchSpec : ChangeSpec := { name := "fnForwardBatch", fn := fun _ => fun
  | [d] => { results := [.lit (.bool true)], args := [d] }
  | _ => none }
def fnForwardBatchRow : OpenClaim := { program := "ytbfbbpmddgfeiaa", sum := "497cc71effbac2fce68d8b845a0f151cc82a35a081e3d988a0f6134b6b1f666e", func := "loop.example/sortingoffice/laws.FnForwardBatch", spec := "fnForwardBatch", unfollowed := true, recurses := true, apart := false }
def FnForwardBatchSaid : Prop := fnForwardBatchRow.holds Try.pinned (OpenSpec.ofChange fnForwardBatchSpec)

/-- ITS FALSE NEIGHBOUR: 'it returns false'. Refute it at one input. -/
def fnForwardBatchWrong : ChangeSpec := { name := "fnForwardBatch", fn := fun _ => fun
  | [d] => { results := [.lit (.bool false)], args := [d] }
  | _ => none }
def FnForwardBatchWrongFalsely : Prop := fnForwardBatchRow.holds Try.pinned (OpenSpec.ofChange fnForwardBatchWrong)

/-- 'laws.FnSame': WHATEVER THE INPUT: true; the input reads as it did. -/
def fnSameSpec : ChangeSpec := { name := "fnSame", fn := fun _ => fun
  | [d] => { results := [.lit (.bool true)], args := [d] }
  | _ => none }
def fnSameRow : OpenClaim := { program := "ytbfbbpmddgfeiaa", sum := "497cc71effbac2fce68d8b845a0f151cc82a35a081e3d988a0f6134b6b1f666e", func := "loop.example/sortingoffice/laws.FnSame", spec := "fnSame", recurses := true, apart := false }
def FnSameSaid : Prop := fnSameRow.holds Try.pinned (OpenSpec.ofChange fnSameSpec)

/-- ITS FALSE NEIGHBOUR: 'it returns false'. Refute it at one input. -/
def fnSameWrong : ChangeSpec := { name := "fnSame", fn := fun _ => fun
  | [d] => { results := [.lit (.bool false)], args := [d] }
  | _ => none }
def FnSameWrongFalsely : Prop := fnSameRow.holds Try.pinned (OpenSpec.ofChange fnSameWrong)

/- THE SECOND FORM. 'bulk': how many values and letters a reading holds, each counted each time it is reached (what is shared counts as often as it is met; a slice's spare places count too). A statement '..UptoSaid' is the law's where the arguments, and the package variables that the reading takes, are together of bulk at most 1048576: NARROWER than '..Said'. Prove '..Said' where nothing that the law and all that it calls make is longer than what came in: it says more and counts as full. Else prove '..UptoSaid'. A law counts once. -/
mutual
def uptoBulk {H : Type} : DataW H → Nat
  | .lit (.string bytes) => bytes.length + 1
  | .lit _ => 1
  | .nil => 1
  | .ptr d => uptoBulk d + 1
  | .slice elems spare => uptoBulkAll elems + uptoBulkAll spare + 1
  | .agg parts => uptoBulkAll parts + 1
  | .iface _ d => uptoBulk d + 1
  | .map entries => uptoBulkEntries entries + 1
  | .held _ => 1
def uptoBulkAll {H : Type} : List (DataW H) → Nat
  | [] => 0
  | d :: r => uptoBulk d + uptoBulkAll r
def uptoBulkEntries {H : Type} : List (Lit × DataW H) → Nat
  | [] => 0
  | x :: r => uptoBulkEntry x + uptoBulkEntries r
def uptoBulkEntry {H : Type} : Lit × DataW H → Nat
  | (.string bytes, d) => bytes.length + uptoBulk d + 1
  | (_, d) => uptoBulk d + 1
 end
def uptoSmall : (H : Type) → List (DataW H) → Bool := fun _ ds => decide (uptoBulkAll ds ≤ 1048576)
def OpenSpec.upto (s : _root_.Go.ChangeSpec) : _root_.Go.OpenSpec := { _root_.Go.OpenSpec.ofChange s with cond := some uptoSmall }

/-- 'laws.FnNextCode', WHERE WHAT IT READS IS OF BULK AT MOST 1048576: true; the input reads as it did. -/
def fnNextCodeUptoRow : OpenClaim := { program := "ytbfbbpmddgfeiaa", sum := "497cc71effbac2fce68d8b845a0f151cc82a35a081e3d988a0f6134b6b1f666e", func := "loop.example/sortingoffice/laws.FnNextCode", spec := "fnNextCode", recurses := true, apart := false, narrowed := true }
def FnNextCodeUptoSaid : Prop := fnNextCodeUptoRow.holds Try.pinned (OpenSpec.upto fnNextCodeSpec)

/-- 'laws.FnResolve', WHERE WHAT IT READS IS OF BULK AT MOST 1048576: true; the input reads as it did. -/
def fnResolveUptoRow : OpenClaim := { program := "ytbfbbpmddgfeiaa", sum := "497cc71effbac2fce68d8b845a0f151cc82a35a081e3d988a0f6134b6b1f666e", func := "loop.example/sortingoffice/laws.FnResolve", spec := "fnResolve", recurses := true, apart := false, narrowed := true }
def FnResolveUptoSaid : Prop := fnResolveUptoRow.holds Try.pinned (OpenSpec.upto fnResolveSpec)

/-- 'laws.FnResolveStep', WHERE WHAT IT READS IS OF BULK AT MOST 1048576: true; the input reads as it did. -/
def fnResolveStepUptoRow : OpenClaim := { program := "ytbfbbpmddgfeiaa", sum := "497cc71effbac2fce68d8b845a0f151cc82a35a081e3d988a0f6134b6b1f666e", func := "loop.example/sortingoffice/laws.FnResolveStep", spec := "fnResolveStep", recurses := true, apart := false, narrowed := true }
def FnResolveStepUptoSaid : Prop := fnResolveStepUptoRow.holds Try.pinned (OpenSpec.upto fnResolveStepSpec)

/-- 'laws.FnEndless', WHERE WHAT IT READS IS OF BULK AT MOST 1048576: true; the input reads as it did. -/
def fnEndlessUptoRow : OpenClaim := { program := "ytbfbbpmddgfeiaa", sum := "497cc71effbac2fce68d8b845a0f151cc82a35a081e3d988a0f6134b6b1f666e", func := "loop.example/sortingoffice/laws.FnEndless", spec := "fnEndless", recurses := true, apart := false, narrowed := true }
def FnEndlessUptoSaid : Prop := fnEndlessUptoRow.holds Try.pinned (OpenSpec.upto fnEndlessSpec)

/-- 'laws.FnAdd', WHERE WHAT IT READS IS OF BULK AT MOST 1048576: true; the input reads as it did. -/
def fnAddUptoRow : OpenClaim := { program := "ytbfbbpmddgfeiaa", sum := "497cc71effbac2fce68d8b845a0f151cc82a35a081e3d988a0f6134b6b1f666e", func := "loop.example/sortingoffice/laws.FnAdd", spec := "fnAdd", unfollowed := true, recurses := true, apart := false, narrowed := true }
def FnAddUptoSaid : Prop := fnAddUptoRow.holds Try.pinned (OpenSpec.upto fnAddSpec)

/-- 'laws.FnAddRefused', WHERE WHAT IT READS IS OF BULK AT MOST 1048576: true; the input reads as it did. -/
def fnAddRefusedUptoRow : OpenClaim := { program := "ytbfbbpmddgfeiaa", sum := "497cc71effbac2fce68d8b845a0f151cc82a35a081e3d988a0f6134b6b1f666e", func := "loop.example/sortingoffice/laws.FnAddRefused", spec := "fnAddRefused", unfollowed := true, recurses := true, apart := false, narrowed := true }
def FnAddRefusedUptoSaid : Prop := fnAddRefusedUptoRow.holds Try.pinned (OpenSpec.upto fnAddRefusedSpec)

/-- 'laws.FnRemove', WHERE WHAT IT READS IS OF BULK AT MOST 1048576: true; the input reads as it did. -/
def fnRemoveUptoRow : OpenClaim := { program := "ytbfbbpmddgfeiaa", sum := "497cc71effbac2fce68d8b845a0f151cc82a35a081e3d988a0f6134b6b1f666e", func := "loop.example/sortingoffice/laws.FnRemove", spec := "fnRemove", unfollowed := true, recurses := true, apart := false, narrowed := true }
def FnRemoveUptoSaid : Prop := fnRemoveUptoRow.holds Try.pinned (OpenSpec.upto fnRemoveSpec)

/-- 'laws.FnDirect', WHERE WHAT IT READS IS OF BULK AT MOST 1048576: true; the input reads as it did. -/
def fnDirectUptoRow : OpenClaim := { program := "ytbfbbpmddgfeiaa", sum := "497cc71effbac2fce68d8b845a0f151cc82a35a081e3d988a0f6134b6b1f666e", func := "loop.example/sortingoffice/laws.FnDirect", spec := "fnDirect", unfollowed := true, recurses := true, apart := false, narrowed := true }
def FnDirectUptoSaid : Prop := fnDirectUptoRow.holds Try.pinned (OpenSpec.upto fnDirectSpec)

/-- 'laws.FnSources', WHERE WHAT IT READS IS OF BULK AT MOST 1048576: true; the input reads as it did. -/
def fnSourcesUptoRow : OpenClaim := { program := "ytbfbbpmddgfeiaa", sum := "497cc71effbac2fce68d8b845a0f151cc82a35a081e3d988a0f6134b6b1f666e", func := "loop.example/sortingoffice/laws.FnSources", spec := "fnSources", unfollowed := true, recurses := true, apart := false, narrowed := true }
def FnSourcesUptoSaid : Prop := fnSourcesUptoRow.holds Try.pinned (OpenSpec.upto fnSourcesSpec)

/-- 'laws.FnChain', WHERE WHAT IT READS IS OF BULK AT MOST 1048576: true; the input reads as it did. -/
def fnChainUptoRow : OpenClaim := { program := "ytbfbbpmddgfeiaa", sum := "497cc71effbac2fce68d8b845a0f151cc82a35a081e3d988a0f6134b6b1f666e", func := "loop.example/sortingoffice/laws.FnChain", spec := "fnChain", recurses := true, apart := false, narrowed := true }
def FnChainUptoSaid : Prop := fnChainUptoRow.holds Try.pinned (OpenSpec.upto fnChainSpec)

/-- 'laws.FnForwardBatch', WHERE WHAT IT READS IS OF BULK AT MOST 1048576: true; the input reads as it did. -/
def fnForwardBatchUptoRow : OpenClaim := { program := "ytbfbbpmddgfeiaa", sum := "497cc71effbac2fce68d8b845a0f151cc82a35a081e3d988a0f6134b6b1f666e", func := "loop.example/sortingoffice/laws.FnForwardBatch", spec := "fnForwardBatch", unfollowed := true, recurses := true, apart := false, narrowed := true }
def FnForwardBatchUptoSaid : Prop := fnForwardBatchUptoRow.holds Try.pinned (OpenSpec.upto fnForwardBatchSpec)

/-- 'laws.FnSame', WHERE WHAT IT READS IS OF BULK AT MOST 1048576: true; the input reads as it did. -/
def fnSameUptoRow : OpenClaim := { program := "ytbfbbpmddgfeiaa", sum := "497cc71effbac2fce68d8b845a0f151cc82a35a081e3d988a0f6134b6b1f666e", func := "loop.example/sortingoffice/laws.FnSame", spec := "fnSame", recurses := true, apart := false, narrowed := true }
def FnSameUptoSaid : Prop := fnSameUptoRow.holds Try.pinned (OpenSpec.upto fnSameSpec)

end Rows
end Go.Proofs.Ytbfbbpmddgfeiaa
