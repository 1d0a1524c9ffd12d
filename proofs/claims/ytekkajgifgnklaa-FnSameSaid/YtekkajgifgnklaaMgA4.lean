/-
  Orders without those for one code, as plain functions. No program is named here.
-/
import Derived.Test.YtekkajgifgnklaaFRow
import Derived.Test.YtekkajgifgnklaaBookM
import Derived.Test.YtekkajgifgnklaaBook
import Derived.WalkMore
namespace Go.Proofs.Ytekkajgifgnklaa.M
set_option linter.unusedVariables false

/-- The orders but those from one code. -/
def wo (x : ByteArray) (L : List (ByteArray × ByteArray)) : List (ByteArray × ByteArray) := L.filter fun p => !decide (p.1 = x)
theorem wo_le (x : ByteArray) (L : List (ByteArray × ByteArray)) : (wo x L).length ≤ L.length := List.length_filter_le _ _
theorem wo_take {x : ByteArray} {L : List (ByteArray × ByteArray)} {j : Nat} {p : ByteArray × ByteArray} (h : L[j]? = some p) : wo x (L.take (j + 1)) = if p.1 = x then wo x (L.take j) else wo x (L.take j) ++ [p] := by
  rw [List.take_add_one, h]
  unfold wo
  rw [List.filter_append]
  by_cases e : p.1 = x
  · rw [if_pos e]
    simp [e]
  · rw [if_neg e]
    simp [e]
theorem wo_all {x : ByteArray} {L : List (ByteArray × ByteArray)} (h : ∀ j (hj : j < L.length), L[j].1 ≠ x) : wo x L = L := by
  unfold wo
  rw [List.filter_eq_self]
  intro p hp
  obtain ⟨j, hj, rfl⟩ := List.getElem_of_mem hp
  simp [h j hj]
/-- What stands in the row after j orders have been looked at, of which i stay. -/
def Kept (x : ByteArray) (L A : List (ByteArray × ByteArray)) (i j : Nat) : Prop := A.length = L.length ∧ i < j ∧ A.take i = wo x (L.take j) ∧ A.drop j = L.drop j
theorem Kept.start {x : ByteArray} {L : List (ByteArray × ByteArray)} {i : Nat} (hi : i < L.length) (he : L[i].1 = x) (hno : ∀ j (hj : j < L.length), j < i → L[j].1 ≠ x) : Kept x L L i (i + 1) := by
  refine ⟨rfl, Nat.lt_succ_self i, ?_, rfl⟩
  rw [wo_take (List.getElem?_eq_getElem hi), if_pos he, wo_all]
  intro j hj
  rw [List.length_take] at hj
  rw [List.getElem_take]
  exact hno j (by omega) (by omega)
theorem Kept.at {x : ByteArray} {L A : List (ByteArray × ByteArray)} {i j : Nat} (h : Kept x L A i j) (hj : j < L.length) : A[j]? = L[j]? := by
  have e := congrArg (fun M => M[0]?) h.2.2.2
  simpa using e
theorem Kept.skip {x : ByteArray} {L A : List (ByteArray × ByteArray)} {i j : Nat} {p : ByteArray × ByteArray} (h : Kept x L A i j) (hp : L[j]? = some p) (he : p.1 = x) : Kept x L A i (j + 1) := by
  obtain ⟨h1, h2, h3, h4⟩ := h
  refine ⟨h1, by omega, ?_, ?_⟩
  · rw [wo_take hp, if_pos he]; exact h3
  · have := congrArg (List.drop 1) h4
    rw [List.drop_drop, List.drop_drop] at this
    exact this
theorem Kept.keep {x : ByteArray} {L A : List (ByteArray × ByteArray)} {i j : Nat} {p : ByteArray × ByteArray} (h : Kept x L A i j) (hj : j < L.length) (hp : L[j]? = some p) (he : p.1 ≠ x) : Kept x L (A.set i p) (i + 1) (j + 1) := by
  obtain ⟨h1, h2, h3, h4⟩ := h
  refine ⟨by rw [List.length_set]; exact h1, by omega, ?_, ?_⟩
  · rw [wo_take hp, if_neg he, ← h3, List.take_add_one, List.getElem?_set_self (by omega), List.take_set_of_le (Nat.le_refl i)]
    rfl
  · rw [List.drop_set_of_lt (by omega)]
    have := congrArg (List.drop 1) h4
    rw [List.drop_drop, List.drop_drop] at this
    exact this
theorem Kept.done {x : ByteArray} {L A : List (ByteArray × ByteArray)} {i : Nat} (h : Kept x L A i L.length) : A.take i = wo x L ∧ (wo x L).length = i := by
  obtain ⟨h1, h2, h3, _⟩ := h
  rw [List.take_length] at h3
  exact ⟨h3, by rw [← h3, List.length_take]; omega⟩
/-- The orders but the one at an index. -/
def woAt (F T : Nat → ByteArray) (k : Int) : Nat → List (ByteArray × ByteArray)
  | 0 => []
  | j + 1 => if (j : Int) = k then woAt F T k j else woAt F T k j ++ [(F j, T j)]
theorem woAt_le (F T : Nat → ByteArray) (k : Int) : ∀ n, (woAt F T k n).length ≤ n
  | 0 => Nat.le_refl 0
  | j + 1 => by
    have := woAt_le F T k j
    unfold woAt
    split
    · omega
    · rw [List.length_append]
      show _ + 1 ≤ j + 1
      omega
theorem wo_flst (x : ByteArray) (F T : Nat → ByteArray) (j : Nat) : wo x (flst F T (j + 1)) = if F j = x then wo x (flst F T j) else wo x (flst F T j) ++ [(F j, T j)] := by
  rw [flst_succ]
  unfold wo
  rw [List.filter_append]
  by_cases e : F j = x
  · rw [if_pos e]
    simp [e]
  · rw [if_neg e]
    simp [e]
theorem woAt_eq {F T : Nat → ByteArray} {k : Int} {x : ByteArray} : ∀ {n : Nat}, (∀ j, j < n → ((j : Int) = k ↔ F j = x)) → woAt F T k n = wo x (flst F T n)
  | 0, _ => rfl
  | j + 1, h => by
    rw [wo_flst]
    unfold woAt
    have ih := woAt_eq (T := T) (n := j) (fun i hi => h i (by omega))
    have hj := h j (by omega)
    by_cases e : F j = x
    · rw [if_pos e, if_pos (hj.2 e)]; exact ih
    · rw [if_neg e, if_neg (fun e2 => e (hj.1 e2)), ih]
/-- Where the codes are all different, the order for a code is one. -/
theorem rank_only {F : Nat → ByteArray} {n : Nat} (hd : ∀ k, k < n → ∀ j, j < k → F j ≠ F k) (x : ByteArray) : ∀ j, j < n → ((j : Int) = rankTo F x n ↔ F j = x) := by
  intro j hj
  rcases rank_cases F x n with ⟨h1, h2⟩ | ⟨k, hk, h1, h2, h3⟩
  · rw [h1]
    exact ⟨fun e => absurd e (by omega), fun e => absurd e (h2 j hj)⟩
  · rw [h3]
    refine ⟨fun e => ?_, fun e => ?_⟩
    · have : j = k := by omega
      rw [this]; exact h1
    · have : j = k := by
        rcases Nat.lt_trichotomy j k with h | h | h
        · exact absurd e (h2 j h)
        · exact h
        · exact absurd (h1.trans e.symm) (hd j hj k h)
      omega
/-- A list has a string. -/
def has (s : ByteArray) (L : List ByteArray) : Bool := L.any fun x => decide (x = s)
theorem has_iff {s : ByteArray} {L : List ByteArray} : has s L = true ↔ s ∈ L := by
  unfold has
  rw [List.any_eq_true]
  constructor
  · rintro ⟨x, hx, e⟩
    rw [← of_decide_eq_true e]; exact hx
  · exact fun h => ⟨s, h, decide_eq_true rfl⟩
theorem has_no {s : ByteArray} {L : List ByteArray} (h : ¬ s ∈ L) : has s L = false := by
  cases e : has s L
  · rfl
  · exact absurd (has_iff.1 e) h
end Go.Proofs.Ytekkajgifgnklaa.M

/-
  The book of a list of orders, and where an address leads.
-/
namespace Go.Proofs.Ytekkajgifgnklaa
open Go.RowKit Go.Maps
open Go.PlainAid (bt get_bt bt_nonneg bt_le)
set_option linter.unusedVariables false

theorem drewB (w : World) : Below w.heap.size w w.drew := (Below.refl _ _).drew
set_option maxHeartbeats 1000000 in
theorem bookOf_no (w : World) (a : Option Addr) (n c : Nat) (F T : Nat → ByteArray) (h : Fws w a n F T) (hf : FFits n F T) (hok : M.fwd n F T = false) :
    Calls Try.prog 22 #[.slice a n c] w fun e w' => e = .returned (.map none) ∧ Below w.heap.size w w' := by
  have HL := Lib.hid h
  have HF := Lib.hid hf
  have HO := Lib.hid hok
  clear h hf hok
  go_enter Try.func22, Try.ntmps22
  go_wp2_with fail
  refine (impl_ForwardsValid _ _ _ _ _ _ HL.out HF.out).mono ?_
  rw [HO.out]
  rintro e w1 ⟨rfl, hb1⟩
  go_wp2
  go_ret
  exact ⟨rfl, hb1⟩
/-- A book of orders. -/
def BookRes (w : World) (n : Nat) (F T : Nat → ByteArray) (e : Ending) (w' : World) : Prop :=
  ∃ (g m : Nat) (f : ByteArray → Option Nat), e = .returned (.map (some g)) ∧ m ≤ 60 ∧ Book w' w.heap.size g m f (M.nextOf F T n) ∧ Below w.heap.size w w'

set_option maxHeartbeats 4000000 in
set_option maxRecDepth 100000 in
theorem bookOf_yes (w : World) (a : Option Addr) (n c : Nat) (F T : Nat → ByteArray) (h : Fws w a n F T) (hf : FFits n F T) (hok : M.fwd n F T = true) :
    Calls Try.prog 22 #[.slice a n c] w (BookRes w n F T) := by
  have HL := Lib.hid h
  have HF := Lib.hid hf
  have HO := Lib.hid hok
  obtain ⟨hn, hall⟩ := M.fwd_yes hok
  have HA := Lib.hid hall
  have hmm := @run_makeMap Try.prog
  clear h hf hok hall
  go_enter Try.func22, Try.ntmps22
  go_wp2_with fail
  refine (impl_ForwardsValid _ _ _ _ _ _ HL.out HF.out).mono ?_
  rw [HO.out]
  rintro e w1 ⟨rfl, hb1⟩
  have BK := Lib.hid (book_made w1 w.heap.size hb1.size)
  have hbm : Below w.heap.size w (w1.alloc (.map #[] 0)) := hb1.alloc hb1.size _
  have BM := Lib.hid hbm
  have hg1 := hb1.size
  clear hb1 hbm
  go_wp2
  go_loopw [12] (fun i wr => ∃ (k : Nat) (f : ByteArray → Option Nat), k ≤ n ∧ i = .int .i64 k ∧ Hid (Book wr w.heap.size w1.heap.size (2 * k) f (M.nextOf F T k)) ∧ Hid (Below w.heap.size w wr)) (fun i _ => n - (intOf i).toNat)
  case atStart => exact ⟨0, _, Nat.zero_le _, rfl, (show M.nextOf F T 0 = fun _ => none from funext fun c => M.nextOf_zero F T c) ▸ BK.out, BM.out⟩
  case round =>
    obtain ⟨k, f, hk, rfl, hbk, hbw⟩ := hrel
    by_cases hlt : k < n
    · obtain ⟨b, o, rfl, c0, c1⟩ := (HL.out.on hbw.out) k hlt
      obtain ⟨s0, s1⟩ := HF.out k hlt
      have hgl := hbk.out.lt
      have hnx : Hid (setF (M.nextOf F T k) (F k) (some (T k)) = M.nextOf F T (k + 1)) := funext fun x => (M.nextOf_succ (HA.out k hlt).2.2 x).symm
      go_wp2
      go_region_with (first
        | (go_at_call 44; refine (at_any _ w.heap.size w1.heap.size (2 * k + 1) f1 (M.nextOf F T k) (by first | exact HB1.out | exact HB1.out.on (drewB _)) (T k) s1 (by omega)).mono ?_; rintro e wb ⟨f2, b2, rfl, hB2, hf2, hm2, ho2⟩; have hf12 := hm2 _ _ HF1.out; have HB2 := Lib.hid hB2; have HF2 := Lib.hid hf2; have HF12 := Lib.hid hf12; obtain ⟨_, n0, n1, nf, _⟩ := hB2.node hf12; have O2 : Hid (Only wr wb (fun k => k = w1.heap.size)) := (by first | exact O1.out.trans ho2 (fun _ _ h => h) | exact O1.out.trans ((Only.new (drewB _)).trans ho2 (fun _ _ h => h)) (fun _ _ h => h)); have hlb1 := hB2.node_lt hf12; clear hB2 hf2 hm2 ho2 hf12)
        | (go_at_call 44; refine (at_any _ w.heap.size w1.heap.size (2 * k) f (M.nextOf F T k) (hbk.out.on (by go_grown)) (F k) s0 (by omega)).mono ?_; rintro e wa ⟨f1, b1, rfl, hB1, hf1, hm1, ho1⟩; have hx : Only wr wa (fun k => k = w1.heap.size) := (Only.new (by go_grown)).trans ho1 (fun _ _ h => h); have q0 : wa.cell? ⟨wr.heap.size, 0, none⟩ = some (.string (F k)) := (World.cell?_of_block (a := ⟨wr.heap.size, 0, none⟩) (ho1.block wr.heap.size (by simp) (by omega))).trans (by simp); have q1 : wa.cell? ⟨wr.heap.size, 1, none⟩ = some (.string (T k)) := (World.cell?_of_block (a := ⟨wr.heap.size, 1, none⟩) (ho1.block wr.heap.size (by simp) (by omega))).trans (by simp); have HB1 := Lib.hid hB1; have HF1 := Lib.hid hf1; have O1 := Lib.hid hx; clear hB1 hf1 hm1 ho1 hx))
      all_goals
        have BL := Lib.hid (HB2.out.link HF12.out HF2.out)
        rw [hnx.out] at BL
        have hz := hbw.out.size
        have hb1g := (HB2.out.node HF12.out).1.1
        have OL : Hid (Only wr (wb.setCell ⟨b1, 1, none⟩ (.pointer (some ⟨b2, 0, none⟩))) (fun k => w.heap.size ≤ k)) := (O2.out.mono (fun k _ e => by omega)).trans (Only.set wb ⟨b1, 1, none⟩ _ (S := fun k => w.heap.size ≤ k) hb1g) (fun _ _ h => h)
        have BW : Hid (Below w.heap.size w (wb.setCell ⟨b1, 1, none⟩ (.pointer (some ⟨b2, 0, none⟩)))) := hbw.out.trans (OL.out.below (B := w.heap.size) (fun k hk _ h => by omega) hz)
        go_wp2
        go_roundw
        case rel => exact ⟨k + 1, f2, by omega, by go_num, BL.out.mono (by omega), BW⟩
        case measure => simp [intOf]; omega
    · obtain rfl : k = n := by omega
      go_wp2
      go_ret
      exact ⟨_, _, f, rfl, by omega, hbk.out, hbw.out⟩
end Go.Proofs.Ytekkajgifgnklaa
