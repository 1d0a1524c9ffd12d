/-
  The least number of trucks as the program finds it: LeastTrucks.
-/
import Derived.Test.YtmoghfgfdbdioaaPackI
namespace Go.Proofs.Ytmoghfgfdbdioaa
open Go.RowKit
set_option linter.unusedVariables false

set_option maxHeartbeats 2000000 in
theorem impl_LeastTrucks (w : World) (a : Option Addr) (n c : Nat) (L : List Int) (h : Nums w a L) (hL : L.length = n) (hn : n ≤ 1048576) (hc : n ≤ c) (q : Int) :
    Calls Try.prog 15 #[.slice a n c, .int .i64 q] w (NumIs w (MW.leastTrucks L q)) := by
  have HL := Lib.hid h
  have HN := Lib.hid hL
  clear h hL
  have HV := Lib.hid (impl_WeightsValid w a n c L HL.out HN.out hn q)
  cases hw : MW.wOk L q
  · have HR := Lib.hid (MW.leastTrucks_no hw)
    go_enter Try.func15, Try.ntmps15
    go_wp2_with (go_at_call 12; refine HV.out.mono ?_; rw [hw]; rintro e w1 ⟨rfl, k1⟩)
    go_ret
    exact ⟨by rw [HR.out]; rfl, k1⟩
  · obtain ⟨hq, hn8, hx⟩ := (MW.wOk_iff L q).1 hw
    have HR := Lib.hid (MW.leastTrucks_yes hw)
    have HI : Hid (∀ W, Below w.heap.size w W → Calls Try.prog 37 #[.agg #[.int .i64 0, .int .i64 0, .int .i64 0, .int .i64 0, .int .i64 0, .int .i64 0, .int .i64 0, .int .i64 0], .int .i64 0, .slice a n c, .int .i64 q] W (NumIs W (MW.lw q L (List.replicate 8 0) 0 : Int))) := fun W hW =>
      impl_leastWith q hq L hn8 (fun x hx1 => by
        obtain ⟨i, hi, e⟩ := MW.mem_gz hx1
        rw [← e]; exact hx i hi) W a n c (HL.out.on hW) HN.out hc (List.replicate 8 0) 0 (by simp) (fun k => by rw [MW.gz_replicate]; omega) (by rw [HN.out] at hn8; omega)
    clear hx
    go_enter Try.func15, Try.ntmps15
    go_wp2_with (first | (go_at_call 12; refine HV.out.mono ?_; rw [hw]; rintro e w1 ⟨rfl, k1⟩) | (go_at_call 37; refine (HI.out _ k1).mono ?_; rintro e w2 ⟨rfl, k2⟩))
    go_ret
    exact ⟨by rw [HR.out]; rfl, sstep k1 k2⟩
end Go.Proofs.Ytmoghfgfdbdioaa
