/-
  Named package-level variables read behind a call as they read before it, where the call makes memory alone. Over any program.
-/
import Derived.WalkKit
import Derived.ProofKit
import Derived.WalkSmall
import Derived.ChangeOld
import Derived.Carry
namespace Go.Proofs.YtccfjeijnadjfaaDoor.Vars
open Go.ChangeShapes Go.WideShapes Go.ChangeAt Go.RowKit Go.WideElems

theorem var?_lt {P : Program} {W : World} {n : String} {g : Nat} {cs : Array Value} (hg : P.globalNamed n = some g) (hv : W.var? P n = some cs) : g < W.heap.size := by
  apply Classical.byContradiction
  intro hn
  have e : W.heap[g]? = none := Array.getElem?_eq_none (by omega)
  simp [World.var?, hg, e] at hv

theorem trodVars_below {H : Type} {enc : TypeId × Value → H} {P : Program} (hl : laidOutB P = true) {w w' : World} (hb : Below w.heap.size w w') :
    ∀ {ns : List String} {ds : List (DataW H)} {ps : List MemPlace}, (∀ n ∈ ns, ∀ g t, P.globalNamed n = some g → (P.globals[g]?).map (·.type) = some t → P.readableRec t = true ∧ t < P.types.size) →
      DataW.TrodVars enc P w (fun _ => true) ns ds ps → (∀ x ∈ ps, x.block < w.heap.size) → DataW.TrodVars enc P w' (fun b => decide (b < w.heap.size)) ns ds ps
  | [], [], _, _, h, _ => h
  | [], _ :: _, _, _, h, _ => absurd h (by intro h; cases h)
  | _ :: _, [], _, _, h, _ => absurd h (by intro h; cases h)
  | n :: ns, d :: ds, ps, hr, h, hlt => by
    obtain ⟨g, t, cs, fuel, p, q, h1, h2, h3, h4, h5, rfl⟩ := h
    obtain ⟨hr1, hr2⟩ := hr n (by simp) g t h1 h2
    refine ⟨g, t, cs, fuel, p, q, h1, h2, Go.var?_below hb h1 (var?_lt h1 h3) h3, ?_, ?_, rfl⟩
    · exact DataW.trod_stays (kids_book hl hr1) (book_sized hr1) (fun h => by cases h) ⟨hr2, book_self t⟩ h4 (fun x hx => hb.same (hlt x (by simp [hx]))) (fun x hx => by simpa using hlt x (by simp [hx]))
    · exact trodVars_below hl hb (fun m hm => hr m (by simp [hm])) h5 (fun x hx => hlt x (by simp [hx]))
theorem gs_1 {H : Type} {enc : TypeId × Value → H} {P : Program} {w : World} {sp : Nat → Bool} {n : String} {gs : List (DataW H)} {ps : List MemPlace} (h : DataW.TrodVars enc P w sp [n] gs ps) : ∃ e0, gs = [e0] := by
  match gs, h with
  | [e0], _ => exact ⟨e0, rfl⟩
  | [], h => exact absurd h (by intro h; cases h)
  | _ :: _ :: _, h => obtain ⟨_, _, _, _, _, _, _, _, _, _, h5, _⟩ := h; exact absurd h5 (by intro h; cases h)
theorem gs_2 {H : Type} {enc : TypeId × Value → H} {P : Program} {w : World} {sp : Nat → Bool} {n m : String} {gs : List (DataW H)} {ps : List MemPlace} (h : DataW.TrodVars enc P w sp [n, m] gs ps) : ∃ e0 e1, gs = [e0, e1] := by
  match gs, h with
  | [], h => exact absurd h (by intro h; cases h)
  | e0 :: r, h =>
    obtain ⟨_, _, _, _, _, _, _, _, _, _, h5, _⟩ := h
    obtain ⟨e1, rfl⟩ := gs_1 h5
    exact ⟨e0, e1, rfl⟩
end Go.Proofs.YtccfjeijnadjfaaDoor.Vars
