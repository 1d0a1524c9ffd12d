/-
  A string of one byte, as a conversion makes it; strings of digits. 
-/
import Derived.Test.YtkbebpadbdhnhaaChecked
import Derived.Test.YtkbebpadbdhnhaaShow
import Derived.WalkKit
import Derived.Laws.IdiomStrings
namespace Go.Proofs.Ytkbebpadbdhnhaa
open Go.RowKit

theorem byte_string (w : World) (x : Int) (x0 : 0 ≤ x) (x1 : x ≤ 255) (T : TypeId) : (convert 22 9 (.slice (some ⟨w.heap.size, 0, none⟩) 1 1)).run Try.prog (w.alloc (.cells #[.int .u8 x] T)) = .ok (.string ⟨#[UInt8.ofNat x.toNat]⟩) (w.alloc (.cells #[.int .u8 x] T)) := by
  have hb : (UInt8.ofNat x.toNat).toNat = x.toNat := by
    rw [UInt8.toNat_ofNat']
    omega
  exact run_convert_bytes_back (P := Try.prog) (w.alloc (.cells #[.int .u8 x] T)) 22 9 5 ⟨w.heap.size, 0, none⟩ 1 [UInt8.ofNat x.toNat] Try.underlying22 Try.underlying5 Try.underlying9 (by
    intro j hj
    have hj0 : j = 0 := by simp at hj; omega
    subst hj0
    show (w.alloc (.cells #[.int .u8 x] T)).cell? ⟨w.heap.size, 0, none⟩ = _
    have hx : ((x.toNat : Nat) : Int) = x := by omega
    simp [hb, hx])
end Go.Proofs.Ytkbebpadbdhnhaa
