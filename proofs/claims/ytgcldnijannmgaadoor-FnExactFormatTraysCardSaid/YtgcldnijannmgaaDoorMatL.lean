/-
  What the law's own text does with slices of letters in a slice: it compares them, marks them, and reads the marks.
-/
import Derived.Test.YtgcldnijannmgaaDoorMat
import Derived.Test.YtgcldnijannmgaaDoorMark
import Derived.Test.YtgcldnijannmgaaDoorBinM
import Derived.Deep.RegionHeld3
namespace Go.Proofs.YtgcldnijannmgaaDoor
open Go.RowKit

/-- How many letters the first n lists have. -/
def tot (M : Nat → List (Int × ByteArray)) : Nat → Nat
  | 0 => 0
  | n + 1 => tot M n + (M n).length
theorem tot_mono (M : Nat → List (Int × ByteArray)) {i : Nat} : ∀ {n : Nat}, i ≤ n → tot M i ≤ tot M n
  | 0, h => by have : i = 0 := by omega
               subst this; exact Nat.le_refl _
  | n + 1, h => by
    by_cases e : i = n + 1
    · subst e; exact Nat.le_refl _
    · have := tot_mono M (i := i) (n := n) (by omega)
      show tot M i ≤ tot M n + (M n).length
      omega
theorem tot_congr {M M' : Nat → List (Int × ByteArray)} : ∀ {n : Nat}, (∀ i, i < n → M i = M' i) → tot M n = tot M' n
  | 0, _ => rfl
  | n + 1, h => by show tot M n + _ = tot M' n + _; rw [tot_congr fun i hi => h i (by omega), h n (by omega)]
theorem tot_add (F : Nat → List (Int × ByteArray)) (d : Nat) (x : Int × ByteArray) : ∀ n, tot (fun i => if i = d then F d ++ [x] else F i) n ≤ tot F n + 1
  | 0 => Nat.zero_le _
  | n + 1 => by
    by_cases e : n = d
    · subst e
      have h1 : tot (fun i => if i = n then F n ++ [x] else F i) n = tot F n := tot_congr fun i hi => if_neg (by omega)
      show tot _ n + (if n = n then F n ++ [x] else F n).length ≤ tot F n + (F n).length + 1
      rw [h1, if_pos rfl, List.length_append]
      exact Nat.le_refl _
    · have := tot_add F d x n
      show tot _ n + (if n = d then F d ++ [x] else F n).length ≤ tot F n + (F n).length + 1
      rw [if_neg e]
      omega
theorem tot_binTo (key : Nat → Option Nat) (I : Nat → Int) (C : Nat → ByteArray) (N : Nat) : ∀ k, tot (M.binTo key I C k) N ≤ k
  | 0 => by
    have : ∀ N, tot (fun _ => ([] : List (Int × ByteArray))) N = 0 := fun N => by
      induction N with
      | zero => rfl
      | succ N ih => show tot _ N + 0 = 0; rw [ih]
    show tot (fun _ => []) N ≤ 0
    rw [this]
    exact Nat.le_refl 0
  | k + 1 => by
    have ih := tot_binTo key I C N k
    cases h : key k with
    | none => rw [M.binTo_none h]; omega
    | some d =>
      rw [M.binTo_some h]
      have := tot_add (M.binTo key I C k) d (I k, C k) N
      omega
abbrev mkRow (k n : Nat) : List (Int × ByteArray) := M.marks k n
theorem mkRow_length (k n : Nat) : (mkRow k n).length = n := M.marks_length k n
def mmarks (k : Nat) (M : Nat → List (Int × ByteArray)) : Nat → List (Int × ByteArray) := fun i => mkRow (k + 2 * tot M i) (M i).length
theorem mmarks_len (k : Nat) (M : Nat → List (Int × ByteArray)) (i : Nat) : (mmarks k M i).length = (M i).length := mkRow_length _ _
def mmTo (k : Nat) (M : Nat → List (Int × ByteArray)) (j : Nat) : Nat → List (Int × ByteArray) := fun i => if i < j then mmarks k M i else M i
theorem Mat.sub {w w' : World} {base n : Nat} {v : Value} {V : Nat → Value} {M : Nat → List (Int × ByteArray)} (h : Mat w base v n V M) {j : Nat} (hj : j < n) {L : List (Int × ByteArray)} (hr : Row w' base (V j) L) (ho : Only w w' (fun k => (V j).ownBlock = some k)) : Mat w' base v n V (upd M j L) := by
  refine ⟨ownsRow_block h.1 fun g hg => ho.block g (h.lt (Or.inl hg)).2 (h.outer hj hg), fun i hi => ?_, h.2.2⟩
  by_cases e : i = j
  · subst e; rw [upd_same]; exact hr
  · rw [upd_other _ _ e]; exact (h.2.1 i hi).only ho fun b hb hk => h.2.2 i j hi hj e b hb hk

set_option maxHeartbeats 2000000 in
theorem eqLetterSS_mat (w : World) (b1 b2 n : Nat) (v v' : Value) (V V' : Nat → Value) (M : Nat → List (Int × ByteArray)) (h : Mat w b1 v n V M) (h' : Mat w b2 v' n V' M) (hn : n ≤ 1048576) (hl : ∀ i, i < n → (M i).length ≤ 1048576) :
    Calls Tryd.prog 30 #[v, v'] w fun e w' => e = .returned (.bool true) ∧ Below w.heap.size w w' := by
  obtain ⟨u, c, hv⟩ : ∃ u c, v = .slice u n c := by
    rcases h.form with ⟨rfl, rfl⟩ | ⟨g, c, rfl, _⟩
    · exact ⟨_, _, rfl⟩
    · exact ⟨_, _, rfl⟩
  obtain ⟨u', c', hv'⟩ : ∃ u c, v' = .slice u n c := by
    rcases h'.form with ⟨rfl, rfl⟩ | ⟨g, c, rfl, _⟩
    · exact ⟨_, _, rfl⟩
    · exact ⟨_, _, rfl⟩
  subst hv hv'
  have HM := Lib.hid h
  have HM' := Lib.hid h'
  have HLn := Lib.hid hl
  clear h h' hl
  go_enter Tryd.func30, Tryd.ntmps30
  go_wp2
  go_loopw [5] (fun i wr => ∃ k : Nat, k ≤ n ∧ i = .int .i64 k ∧ Hid (Below w.heap.size w wr)) (fun i _ => n - (intOf i).toNat)
  case atStart => exact ⟨0, Nat.zero_le _, rfl, Below.refl _ _⟩
  case round =>
    obtain ⟨k, hk, rfl, hb⟩ := hrel
    by_cases hlt : k < n
    · have hm := Lib.hid (HM.out.on hb.out)
      have hm' := Lib.hid (HM'.out.on hb.out)
      obtain ⟨G, c2, e1, g0, _⟩ := hm.out.cell hlt
      cases e1
      obtain ⟨G', c2', e1, g0', _⟩ := hm'.out.cell hlt
      cases e1
      obtain ⟨a1, d1, hv1, _, _⟩ := (hm.out.2.1 k hlt).form
      obtain ⟨a2, d2, hv2, _, _⟩ := (hm'.out.2.1 k hlt).form
      have R1 := Lib.hid (hm.out.2.1 k hlt)
      have R2 := Lib.hid (hm'.out.2.1 k hlt)
      rw [hv1] at g0 R1
      rw [hv2] at g0' R2
      have hll := HLn.out k hlt
      have hgl := (hm.out.lt (k := G) (Or.inl rfl)).2
      have hgl' := (hm'.out.lt (k := G') (Or.inl rfl)).2
      have hki : (k : Int) < (n : Int) := by omega
      have hk0 : (0 : Int) ≤ (k : Int) := by omega
      clear hv1 hv2
      go_wp2
      go_region_held3 (fun w' => w'.cell? ⟨G, k, none⟩ = some (.slice a1 (M k).length d1) ∧ w'.cell? ⟨G', k, none⟩ = some (.slice a2 (M k).length d2)) (go_keep)
        (first | (go_at_call 12; refine (eqLetterS_row _ _ _ _ _ (M k) (R1.out.on (by go_grown)) (R2.out.on (by go_grown)) hll).mono ?_; rintro e w1 ⟨rfl, k1⟩; have kk : Below wr.heap.size wr w1 := (by first | exact k1 | exact step (by go_grown) k1); have s0 : w1.cell? ⟨G, k, none⟩ = some (.slice a1 (M k).length d1) := (kk.cell (p := ⟨G, k, none⟩) hgl).trans g0; have s1 : w1.cell? ⟨G', k, none⟩ = some (.slice a2 (M k).length d2) := (kk.cell (p := ⟨G', k, none⟩) hgl').trans g0'; have KK := Lib.hid (step hb.out kk); clear kk k1))
      all_goals
        go_wp2
        go_roundw
        case rel => exact ⟨k + 1, by omega, by go_num, by first | exact KK | exact KK.out.drew⟩
        case measure => simp [intOf]; omega
    · obtain rfl : k = n := by omega
      go_wp2
      go_ret
      exact ⟨rfl, hb.out⟩

end Go.Proofs.YtgcldnijannmgaaDoor
