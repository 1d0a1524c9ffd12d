/-
  What soPut returns. For every string, place and byte.
-/
import Derived.Test.YtagbnfccagdlkaaDoorChecked
import Derived.Test.YtagbnfccagdlkaaDoorDig
import Derived.Test.YtagbnfccagdlkaaDoorConv
import Derived.Lib.ConvBytes
import Derived.Laws.IdiomStrings
import Derived.WalkKit
import Derived.Below
import Derived.Handy
import Derived.Test.YtagbnfccagdlkaaDoorCheck
import Derived.Lib.Hide
namespace Go.Proofs.YtagbnfccagdlkaaDoor
open Go.RowKit

theorem put_back (s : ByteArray) (k : Nat) (n : Int) (w : World) (cap : Nat) (hk : k < s.size) (n0 : 0 ≤ n) (n1 : n ≤ 255) :
    (convert 22 9 (.slice (some ⟨w.heap.size, 0, none⟩) s.size cap)).run Tryd.prog ((Lib.bytesWorld w 5 s).setCell ⟨w.heap.size, k, none⟩ (.int .u8 n)) = .ok (.string (M.put s k n)) ((Lib.bytesWorld w 5 s).setCell ⟨w.heap.size, k, none⟩ (.int .u8 n)) := by
  have hl : (s.data.toList.set k (UInt8.ofNat n.toNat)).length = s.size := by simp
  have hb : (UInt8.ofNat n.toNat).toNat = n.toNat := by
    rw [UInt8.toNat_ofNat']
    omega
  have h := run_convert_bytes_back (P := Tryd.prog) ((Lib.bytesWorld w 5 s).setCell ⟨w.heap.size, k, none⟩ (.int .u8 n)) 22 9 5 ⟨w.heap.size, 0, none⟩ cap (s.data.toList.set k (UInt8.ofNat n.toNat)) Tryd.underlying22 Tryd.underlying5 Tryd.underlying9 (by
    intro j hj
    have hj' : j < s.size := by omega
    have ea : (⟨w.heap.size, 0, none⟩ : Addr).add j = ⟨w.heap.size, j, none⟩ := by
      by_cases e : j = 0
      · subst e; rfl
      · simp [Addr.add, e]
    rw [ea]
    by_cases e : j = k
    · subst e
      rw [World.cell?_setCell_same (h := Lib.bytesWorld_cell w 5 s j hj')]
      rw [List.getElem_set_self, hb]
      congr 2
      omega
    · rw [World.cell?_setCell_other (h := by intro h; injection h with _ h2; exact e h2.symm), Lib.bytesWorld_cell w 5 s j hj', List.getElem_set_ne (Ne.symm e)]
      simp [List.getD, hj'])
  rw [hl] at h
  exact h

set_option maxHeartbeats 1000000 in
theorem soPut_any (s : ByteArray) (k : Nat) (n : Int) (w : World) (hk : k < s.size) (n0 : 0 ≤ n) (n1 : n ≤ 255) :
    Calls Tryd.prog 8 #[.string s, .int .i64 k, .int .u8 n] w fun e w' => e = .returned (.string (M.put s k n)) ∧ Below w.heap.size w w' := by
  have hconv := Lib.run_convert_string_bytes (P := Tryd.prog) w 9 22 5 s Tryd.underlying9 Tryd.underlying22 Tryd.underlying5
  have hcell := Lib.bytesWorld_cell w 5 s k hk
  have hfr : (Lib.bytesWorld w 5 s).frozen? ⟨w.heap.size, k, none⟩ = false := bytesWorld_frozen w _ s k hk
  obtain ⟨cap, hcap⟩ : ∃ cap, grownCap w s.size 0 5 = cap := ⟨_, rfl⟩
  rw [hcap] at hconv
  have hB := Lib.hid (below_bytesWorld w 5 s)
  have hback := put_back s k n w cap hk n0 n1
  generalize Lib.bytesWorld w 5 s = w1 at hconv hcell hfr hB hback
  clear hcap
  go_enter Tryd.func8, Tryd.ntmps8
  go_wp2
  go_ret
  exact ⟨rfl, hB.out.setCell (Nat.le_refl _) _⟩
end Go.Proofs.YtagbnfccagdlkaaDoor
