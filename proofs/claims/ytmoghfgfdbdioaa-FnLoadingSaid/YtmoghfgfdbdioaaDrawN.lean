/-
  Drawn weights, a capacity and a loading.
-/
import Derived.Test.YtmoghfgfdbdioaaDrawL
import Derived.Test.YtmoghfgfdbdioaaTrkD
import Derived.Test.YtmoghfgfdbdioaaLoadN
import Derived.OwnWalk
namespace Go.Proofs.Ytmoghfgfdbdioaa
open Go.RowKit
set_option linter.unusedVariables false

def LoadOut (w : World) (e : Ending) (w' : World) : Prop := ∃ (a : Option Addr) (c : Nat) (W : List Int) (q : Int) (a2 : Option Addr) (c2 : Nat) (G : List Int), e = .returned (.tuple #[.slice a W.length c, .int .i64 q, .slice a2 G.length c2]) ∧ Nums w' a W ∧ W.length ≤ 9 ∧ W.length ≤ c ∧ Nums w' a2 G ∧ G.length ≤ 10 ∧ Below w.heap.size w w'
set_option maxHeartbeats 2000000 in
theorem DrawLoadingValid_any (a : Option Addr) (l k : Nat) (z : List Int) (w : World) (h : IsRow .u8 w a l k z) :
    Calls Try.prog 24 #[.slice a l k] w (LoadOut w) := by
  go_enter Try.func24, Try.ntmps24
  go_wp2_with fail
  refine (open_any a l k z w h).mono ?_
  rintro e w1 ⟨r, rfl, rd1, b1, hwr⟩
  have hr1 := rd1.lt
  go_wp2_with fail
  refine (l5Weights_any _ r _ rd1 (by omega)).mono ?_
  rintro e w2 ⟨v, W, q, rfl, R2, l2, sg2⟩
  obtain ⟨a2, c2, rfl, hc2, _⟩ := R2.form
  have hr2 := sg2.1.lt
  have B2 := Lib.hid (b1.trans ((sg2.below_r hr1).mono hwr))
  have RD2 := Lib.hid sg2.1
  have HR2 := Lib.hid R2
  clear b1 rd1 h sg2 R2
  go_wp2_with fail
  refine (pick_sg _ _ _ r _ (Sg.start RD2.out) (by omega) (by omega) (by omega)).mono ?_
  rintro e w3 ⟨t, rfl, t0, t1, sg3⟩
  have hr3 := sg3.1.lt
  have B3 := Lib.hid (B2.out.trans ((sg3.below_r hr2).mono hwr))
  have RD3 := Lib.hid sg3.1
  have HR3 := Lib.hid (HR2.out.isg sg3 hr1)
  clear sg3 RD2 HR2 B2
  cases ht : (t == 0)
  · go_wp2_with fail
    refine (l5Trucks_any _ r _ W.length RD3.out (by omega) l2).mono ?_
    rintro e w4 ⟨a3, c3, G, rfl, N3, l3, sg4⟩
    have B4 := B3.out.trans ((sg4.below_r hr3).mono hwr)
    have R4 := (HR3.out.isg sg4 hr1).nums
    have HN3 := Lib.hid N3
    clear sg4 RD3 HR3 B3 N3
    go_wp2
    go_ret3
    exact ⟨_, _, W, _, _, _, G, rfl, R4, l2, hc2, HN3.out, l3, B4⟩
  · go_wp2_with fail
    refine (spec_FirstFit w3 a2 W.length c2 W HR3.out.nums rfl (by omega) q).mono ?_
    rintro e w4 ⟨v4, rfl, R4, b4⟩
    obtain ⟨a3, c3, rfl, _, _⟩ := R4.form
    have l4 := MW.firstFit_le W q
    have N4 := Lib.hid R4.nums
    have B4 := sstep B3.out b4
    have R5 := (HR3.out.on b4).nums
    clear R4 b4 RD3 HR3 B3
    go_wp2
    go_ret3
    exact ⟨_, _, W, _, _, _, _, rfl, R5, l2, hc2, N4.out, by omega, B4⟩
/-- Whether the first k loads fit. -/
def fitsTo (R : List Int) (q : Int) (k : Nat) : Bool := (R.take k).all fun x => decide (x ≤ q)
theorem fitsTo_succ {R : List Int} {q : Int} {k : Nat} (h : k < R.length) : fitsTo R q (k + 1) = (fitsTo R q k && decide (R[k] ≤ q)) := by
  unfold fitsTo
  rw [List.take_add_one, List.getElem?_eq_getElem h, List.all_append]
  simp
/-- What the law of loadings asks. -/
theorem loading_law {W G : List Int} {q : Int} (h1 : MW.wOk W q = true) (h2 : MW.gOk G = true) (h3 : W.length = G.length) {R : List Int} (hR : MW.truckLoads W G = R) {o : Bool} (ho : MW.fine W q G = o) :
    fitsTo R q R.length = o ∧ (o = true → MW.leastTrucks W q ≤ MW.cnt G) := by
  obtain ⟨m1, m2, m3, _, _, _⟩ := MW.load_law (MW.wOk_up h1) h2 h3 hR
  have e1 : MW.fine W q G = (MW.loads W G).all fun x => decide (x ≤ q) := MW.fine_yes (MW.ldOk_4 h1 h2 h3)
  have e2 : MW.loads W G = R := by rw [← hR, MW.truckLoads_yes (MW.ldOk_4 (MW.wOk_up h1) h2 h3)]
  rw [e2] at e1
  refine ⟨by unfold fitsTo; rw [List.take_length, ← e1, ho], fun hot => MW.fine_least h1 h2 h3 fun k hk => ?_⟩
  have hkl : k < R.length := by omega
  rw [← m3 k hkl]
  rw [e1, hot] at ho
  exact of_decide_eq_true (List.all_eq_true.1 ho _ (List.getElem_mem hkl))
end Go.Proofs.Ytmoghfgfdbdioaa
