/-
  A string is appended to a slice that the call itself has made.
-/
import Derived.Test.YtihbpalhbbingaaStr
import Derived.Maps.AppendAt
import Derived.OwnWalk
import Derived.Laws.OwnMore
namespace Go.Proofs.Ytihbpalhbbingaa
open Go.RowKit

theorem sone_empty (w : World) : SRow (w.alloc (.cells #[] 9)) w.heap.size (.slice (some ⟨w.heap.size, 0, none⟩) 0 0) [] :=
  World.ownsRow_lit (base := w.heap.size) (e := 9) (size := 1) w #[] 0 (Nat.le_refl _) (by unfold maxLen; omega) rfl
theorem SRow.alloc {w : World} {base : Nat} {v : Value} {L : List ByteArray} (h : SRow w base v L) (o : Obj) : SRow (w.alloc o) base v L := World.ownsRow.alloc h o
theorem info_string : (Try.prog.info? 9).map (fun i => (i.zero, i.size, i.bytes)) = some (some (.string ⟨#[]⟩), 1, 16) := by kernel_rfl
end Go.Proofs.Ytihbpalhbbingaa
