/-
  Numbers written in decimal, in the program and in the model of the document.
-/
import Derived.Test.YtjabpidmfgcamaaDoorMgP3
import Derived.Test.YtjabpidmfgcamaaDoorVars
import Derived.Test.YtjabpidmfgcamaaDoorChecked
import Derived.Test.YtjabpidmfgcamaaDoorShelf
import Derived.WalkKit
import Derived.Laws.IdiomStrings
import Derived.Lib.LaidTab
import Derived.Lib.AppendIntMem
import Derived.Below
import Derived.Handy
import Derived.Lib.Hide
namespace Go.Proofs.YtjabpidmfgcamaaDoor
open Go.RowKit
set_option linter.unusedVariables false

theorem one_byte (w : World) (x : Int) (x0 : 0 ≤ x) (x1 : x ≤ 255) (T : TypeId) : (convert 22 9 (.slice (some ⟨w.heap.size, 0, none⟩) 1 1)).run Tryd.prog (w.alloc (.cells #[.int .u8 x] T)) = .ok (.string ⟨#[UInt8.ofNat x.toNat]⟩) (w.alloc (.cells #[.int .u8 x] T)) := by
  have hb : (UInt8.ofNat x.toNat).toNat = x.toNat := by
    rw [UInt8.toNat_ofNat']
    omega
  exact run_convert_bytes_back (P := Tryd.prog) (w.alloc (.cells #[.int .u8 x] T)) 22 9 5 ⟨w.heap.size, 0, none⟩ 1 [UInt8.ofNat x.toNat] Tryd.underlying22 Tryd.underlying5 Tryd.underlying9 (by
    intro j hj
    have hj0 : j = 0 := by simp at hj; omega
    subst hj0
    show (w.alloc (.cells #[.int .u8 x] T)).cell? ⟨w.heap.size, 0, none⟩ = _
    have hx : ((x.toNat : Nat) : Int) = x := by omega
    simp [hb, hx])

set_option maxHeartbeats 1000000 in
theorem spec_dec (n : Int) (w : World) (n0 : 0 ≤ n) (n1 : n ≤ 9999) :
    Calls Tryd.prog 17 #[.int .i64 n] w fun e w' => e = .returned (.string (M.decT n)) ∧ Below w.heap.size w w' := by
  have hln : (Lib.decDigits n.toNat).length ≤ 4 := (M.decT_len 3 n.toNat (by omega)).2
  have g0 : ¬ n < -9223372036854775807 := by omega
  have g1 : ¬ n < 0 := by omega
  go_enter Tryd.func17, Tryd.ntmps17
  go_wp2
  go_loopw [0, 3] (fun a o wr => ∃ (v : Int) (s : ByteArray), a = .int .i64 v ∧ o = .string s ∧ 0 ≤ v ∧ v ≤ n ∧ Hid (Lib.decDigits v.toNat ++ s.data.toList = Lib.decDigits n.toNat) ∧ Below w.heap.size w wr) (fun a _ _ => (intOf a).toNat)
  case atStart => exact ⟨n, ⟨#[]⟩, rfl, rfl, n0, Int.le_refl _, List.append_nil _, Below.refl _ _⟩
  case round =>
    obtain ⟨v, s, rfl, rfl, v0, vn, hinv, hb⟩ := hrel
    have hss : s.size ≤ 4 := by
      have := congrArg List.length hinv.out
      rw [List.length_append] at this
      have e : s.data.toList.length = s.size := Array.length_toList
      omega
    have hz := hb.size
    by_cases h9 : 9 < v
    · have ha := one_byte wr (48 + v % 10) (by omega) (by omega)
      have q0 : 0 ≤ v % 10 := by omega
      have q1 : v % 10 ≤ 9 := by omega
      have HS := Lib.hid ((M.decT_step (s := s) h9).symm.trans hinv.out)
      go_wp2
      go_roundw
      case rel => exact ⟨v / 10, _, by go_num, rfl, by omega, by omega, HS, by go_grown⟩
      case measure => simp [intOf]; omega
    · have ha := one_byte wr (48 + v) (by omega) (by omega)
      have HE := Lib.hid (M.decT_last v0 h9 hinv.out)
      go_wp2
      go_ret
      exact ⟨congrArg (fun s => Ending.returned (.string s)) HE.out, by go_grown⟩

/-- The listed table of powers of ten. -/
def PowT (w : World) : Prop := Lib.TabIs Tryd.prog w "internal/strconv.uint64pow10" .u64 Lib.pow10Tab
theorem PowT.below {w w' : World} (h : PowT w) (hb : Below w.heap.size w w') : PowT w' := by
  have hg : Tryd.prog.globalNamed "internal/strconv.uint64pow10" = some 2 := by kernel_rfl
  unfold PowT Lib.TabIs at h ⊢
  exact Go.var?_below hb hg (Vars.var?_lt hg h) h
theorem itoa_dec (n : Int) (h0 : 0 ≤ n) (h1 : n ≤ 9999) (w : World) (hT : PowT w) :
    Calls Tryd.prog 13 #[.int .i64 n] w fun e w' => e = .returned (.string (M.decT n)) ∧ Below w.heap.size w w' :=
  (Tryd.strconv_Itoa n (by omega) (by omega) w hT).mono fun e w' h => by
    obtain ⟨he, k, os, rfl⟩ := h
    exact ⟨he.trans (congrArg (fun s => Ending.returned (.string s)) (M.itoa_decT h0)), Lib.below_grow _ _ (Nat.le_refl _) _ _⟩
end Go.Proofs.YtjabpidmfgcamaaDoor
