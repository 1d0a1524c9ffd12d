/-
  Letters in another order are a batch as before.
-/
import Derived.Test.YtccfjeijnadjfaaDoorMgT8
import Derived.Test.YtccfjeijnadjfaaDoorMgT3
import Derived.Test.YtccfjeijnadjfaaDoorMatL
import Derived.Test.YtccfjeijnadjfaaDoorConcat
import Derived.Test.YtccfjeijnadjfaaDoorMgT10
import Derived.Test.YtccfjeijnadjfaaDoorVars
import Derived.Test.YtccfjeijnadjfaaDoorChecked
import Derived.Test.YtccfjeijnadjfaaDoorShelf
import Derived.WalkKit
import Derived.Laws.IdiomStrings
import Derived.Lib.LaidTab
import Derived.Lib.AppendIntMem
import Derived.Below
import Derived.Handy
import Derived.Lib.Hide
namespace Go.Proofs.YtccfjeijnadjfaaDoor

/-- Letters are a batch, said of a list. -/
def BatchL (L : List (Int × ByteArray)) : Prop := (∀ x ∈ L, M.code x.2 = true ∧ 1 ≤ x.1 ∧ x.1 ≤ 9999) ∧ (L.map Prod.fst).Pairwise (· ≠ ·) ∧ L.length ≤ 60
theorem batchL_iff (n : Nat) (I : Nat → Int) (C : Nat → ByteArray) : M.batch n I C = true ↔ BatchL (M.lst I C n) := by
  unfold BatchL
  rw [List.pairwise_map, List.pairwise_iff_getElem]
  constructor
  · intro h
    obtain ⟨hn, hg⟩ := M.batch_yes h
    refine ⟨fun x hx => ?_, fun i j hi hj hij => ?_, by rw [lst_len]; exact hn⟩
    · unfold M.lst at hx
      obtain ⟨i, hi, rfl⟩ := List.mem_map.1 hx
      obtain ⟨h1, h2, _⟩ := hg i (List.mem_range.1 hi)
      exact ⟨h1, h2⟩
    · rw [lst_get, lst_get]
      rw [lst_len] at hj
      exact (hg j hj).2.2 i hij
  · rintro ⟨h1, h2, h3⟩
    have hg : M.goodTo I C n = true := (M.goodTo_iff I C n).2 fun i hi => by
      have hm : (I i, C i) ∈ M.lst I C n := by unfold M.lst; exact List.mem_map.2 ⟨i, List.mem_range.2 hi, rfl⟩
      refine ⟨(h1 _ hm).1, (h1 _ hm).2, fun k hk => ?_⟩
      have := h2 k i (by rw [lst_len]; omega) (by rw [lst_len]; exact hi) hk
      rw [lst_get, lst_get] at this
      exact this
    rw [M.batch_end hg]
    rw [lst_len] at h3
    exact decide_eq_true h3
theorem batchL_list (L : List (Int × ByteArray)) : M.batch L.length (nI L) (nC L) = true ↔ BatchL L := by
  rw [batchL_iff, lst_nI]
theorem BatchL.perm {L R : List (Int × ByteArray)} (h : BatchL L) (p : L.Perm R) : BatchL R :=
  ⟨fun x hx => h.1 x (p.mem_iff.2 hx), (p.map Prod.fst).pairwise h.2.1 (fun h e => h e.symm), by rw [← p.length_eq]; exact h.2.2⟩
theorem flat_upd (F : Nat → List (Int × ByteArray)) (d : Nat) (x : Int × ByteArray) : ∀ n, d < n → (M.flat (fun i => if i = d then F d ++ [x] else F i) n).Perm (M.flat F n ++ [x])
  | 0, h => absurd h (by omega)
  | n + 1, h => by
    by_cases e : d = n
    · subst e
      have h1 : M.flat (fun i => if i = d then F d ++ [x] else F i) d = M.flat F d := M.flat_congr fun i hi => if_neg (by omega)
      show (M.flat (fun i => if i = d then F d ++ [x] else F i) d ++ (if d = d then F d ++ [x] else F d)).Perm (M.flat F d ++ F d ++ [x])
      rw [h1, if_pos rfl, List.append_assoc]
    · have ih := flat_upd F d x n (by omega)
      show (M.flat (fun i => if i = d then F d ++ [x] else F i) n ++ (if n = d then F d ++ [x] else F n)).Perm (M.flat F n ++ F n ++ [x])
      rw [if_neg (fun e2 => e e2.symm)]
      refine (ih.append_right (F n)).trans ?_
      rw [List.append_assoc, List.append_assoc]
      exact (List.perm_append_comm).append_left _
theorem flat_nil : ∀ n, M.flat (fun _ => []) n = []
  | 0 => rfl
  | n + 1 => by show M.flat (fun _ => []) n ++ [] = []; rw [flat_nil n]; rfl
theorem flat_bins (key : Nat → Option Nat) (I : Nat → Int) (C : Nat → ByteArray) (N : Nat) : ∀ k, (∀ i, i < k → ∃ d, key i = some d ∧ d < N) → (M.flat (M.binTo key I C k) N).Perm (M.lst I C k)
  | 0, _ => by rw [show M.binTo key I C 0 = fun _ => [] from rfl, flat_nil]; exact List.Perm.refl _
  | k + 1, h => by
    obtain ⟨d, hd, hdN⟩ := h k (by omega)
    rw [M.binTo_some hd, M.lst_succ]
    exact (flat_upd (M.binTo key I C k) d (I k, C k) N hdN).trans ((flat_bins key I C N k fun i hi => h i (by omega)).append_right _)
theorem dig1_bd {n : Nat} {I : Nat → Int} {C : Nat → ByteArray} (h : M.batch n I C = true) {x : Nat} (hx : x ≤ 6) : ∀ i, i < n → ∃ d, M.dig1 C x i = some d ∧ d < 10 := fun i hi => by
  have hc := M.code_yes ((M.batch_yes h).2 i hi).1
  have := M.digs_bt hc.1 x (by rw [hc.2]; omega)
  exact ⟨_, rfl, by omega⟩
theorem pass_perm {n : Nat} {I : Nat → Int} {C : Nat → ByteArray} (h : M.batch n I C = true) {x : Nat} (hx : x ≤ 6) : (M.flat (M.bins I C x n) 10).Perm (M.lst I C n) := flat_bins _ _ _ _ _ (dig1_bd h hx)
theorem pass_batch {n : Nat} {I : Nat → Int} {C : Nat → ByteArray} (h : M.batch n I C = true) {x : Nat} (hx : x ≤ 6) : BatchL (M.flat (M.bins I C x n) 10) := ((batchL_iff n I C).1 h).perm (pass_perm h hx).symm
theorem BatchL.fits {L : List (Int × ByteArray)} (h : BatchL L) : Fits L.length (nI L) (nC L) := fun i hi => by
  obtain ⟨h1, h2, h3⟩ := h.1 _ (List.getElem_mem hi)
  rw [nI_at hi, nC_at hi]
  have := (M.code_yes h1).2
  refine ⟨by omega, ?_⟩
  rw [this]; unfold maxLen; omega
end Go.Proofs.YtccfjeijnadjfaaDoor

/-
  Slices of slices of letters that came in: where they lie, their size, their copy.
-/
namespace Go.Proofs.YtccfjeijnadjfaaDoor
open Go.RowKit
set_option linter.unusedVariables false

/-- n slices of letters, in a slice of slices. -/
def Lss (w : World) (a : Option Addr) (n : Nat) (MM : Nat → List (Int × ByteArray)) : Prop :=
  ∀ i, i < n → ∃ b o a' c, a = some ⟨b, o, none⟩ ∧ w.cell? ⟨b, o + i, none⟩ = some (.slice a' (MM i).length c) ∧ Lts w a' (MM i).length (nI (MM i)) (nC (MM i)) ∧ Fits (MM i).length (nI (MM i)) (nC (MM i)) ∧ (MM i).length ≤ maxLen
theorem Lss.on {w w' : World} {a : Option Addr} {n : Nat} {MM : Nat → List (Int × ByteArray)} (h : Lss w a n MM) (hb : Below w.heap.size w w') : Lss w' a n MM := by
  intro i hi
  obtain ⟨b, o, a', c, e, h1, h2, h3, h4⟩ := h i hi
  have hl := World.block_lt_of_cell? _ _ h1
  exact ⟨b, o, a', c, e, (hb.cell (p := ⟨b, o + i, none⟩) hl).trans h1, h2.on hb, h3, h4⟩
theorem tot_flat (MM : Nat → List (Int × ByteArray)) : ∀ n, (M.flat MM n).length = tot MM n
  | 0 => rfl
  | n + 1 => by show (M.flat MM n ++ MM n).length = tot MM n + _; rw [List.length_append, tot_flat MM n]

theorem upd_if {M : Nat → List (Int × ByteArray)} {k : Nat} : ∀ i, upd (fun i => if i < k then M i else []) k (M k) i = if i < k + 1 then M i else [] := by
  intro i
  show (if i = k then M k else if i < k then M i else []) = _
  by_cases e : i = k
  · subst e; rw [if_pos rfl, if_pos (by omega)]
  · rw [if_neg e]
    by_cases e2 : i < k
    · rw [if_pos e2, if_pos (by omega)]
    · rw [if_neg e2, if_neg (by omega)]

end Go.Proofs.YtccfjeijnadjfaaDoor

/-
  Numbers written in decimal, in the program and in the model of the document.
-/
namespace Go.Proofs.YtccfjeijnadjfaaDoor
open Go.RowKit
set_option linter.unusedVariables false

theorem one_byte (w : World) (x : Int) (x0 : 0 ≤ x) (x1 : x ≤ 255) (T : TypeId) : (convert 22 9 (.slice (some ⟨w.heap.size, 0, none⟩) 1 1)).run Tryd.prog (w.alloc (.cells #[.int .u8 x] T)) = .ok (.string ⟨#[UInt8.ofNat x.toNat]⟩) (w.alloc (.cells #[.int .u8 x] T)) := by
  have hb : (UInt8.ofNat x.toNat).toNat = x.toNat := by
    rw [UInt8.toNat_ofNat']
    omega
  exact run_convert_bytes_back (P := Tryd.prog) (w.alloc (.cells #[.int .u8 x] T)) 22 9 5 ⟨w.heap.size, 0, none⟩ 1 [UInt8.ofNat x.toNat] Tryd.underlying22 Tryd.underlying5 Tryd.underlying9 (by
    intro j hj
    have hj0 : j = 0 := by simp at hj; omega
    subst hj0
    show (w.alloc (.cells #[.int .u8 x] T)).cell? ⟨w.heap.size, 0, none⟩ = _
    have hx : ((x.toNat : Nat) : Int) = x := by omega
    simp [hb, hx])

set_option maxHeartbeats 1000000 in
theorem spec_dec (n : Int) (w : World) (n0 : 0 ≤ n) (n1 : n ≤ 9999) :
    Calls Tryd.prog 14 #[.int .i64 n] w fun e w' => e = .returned (.string (M.decT n)) ∧ Below w.heap.size w w' := by
  have hln : (Lib.decDigits n.toNat).length ≤ 4 := (M.decT_len 3 n.toNat (by omega)).2
  have g0 : ¬ n < -9223372036854775807 := by omega
  have g1 : ¬ n < 0 := by omega
  go_enter Tryd.func14, Tryd.ntmps14
  go_wp2
  go_loopw [0, 3] (fun a o wr => ∃ (v : Int) (s : ByteArray), a = .int .i64 v ∧ o = .string s ∧ 0 ≤ v ∧ v ≤ n ∧ Hid (Lib.decDigits v.toNat ++ s.data.toList = Lib.decDigits n.toNat) ∧ Below w.heap.size w wr) (fun a _ _ => (intOf a).toNat)
  case atStart => exact ⟨n, ⟨#[]⟩, rfl, rfl, n0, Int.le_refl _, List.append_nil _, Below.refl _ _⟩
  case round =>
    obtain ⟨v, s, rfl, rfl, v0, vn, hinv, hb⟩ := hrel
    have hss : s.size ≤ 4 := by
      have := congrArg List.length hinv.out
      rw [List.length_append] at this
      have e : s.data.toList.length = s.size := Array.length_toList
      omega
    have hz := hb.size
    by_cases h9 : 9 < v
    · have ha := one_byte wr (48 + v % 10) (by omega) (by omega)
      have q0 : 0 ≤ v % 10 := by omega
      have q1 : v % 10 ≤ 9 := by omega
      have HS := Lib.hid ((M.decT_step (s := s) h9).symm.trans hinv.out)
      go_wp2
      go_roundw
      case rel => exact ⟨v / 10, _, by go_num, rfl, by omega, by omega, HS, by go_grown⟩
      case measure => simp [intOf]; omega
    · have ha := one_byte wr (48 + v) (by omega) (by omega)
      have HE := Lib.hid (M.decT_last v0 h9 hinv.out)
      go_wp2
      go_ret
      exact ⟨congrArg (fun s => Ending.returned (.string s)) HE.out, by go_grown⟩

/-- The listed table of powers of ten. -/
def PowT (w : World) : Prop := Lib.TabIs Tryd.prog w "internal/strconv.uint64pow10" .u64 Lib.pow10Tab
theorem PowT.below {w w' : World} (h : PowT w) (hb : Below w.heap.size w w') : PowT w' := by
  have hg : Tryd.prog.globalNamed "internal/strconv.uint64pow10" = some 0 := by kernel_rfl
  unfold PowT Lib.TabIs at h ⊢
  exact Go.var?_below hb hg (Vars.var?_lt hg h) h
theorem itoa_dec (n : Int) (h0 : 0 ≤ n) (h1 : n ≤ 9999) (w : World) (hT : PowT w) :
    Calls Tryd.prog 10 #[.int .i64 n] w fun e w' => e = .returned (.string (M.decT n)) ∧ Below w.heap.size w w' :=
  (Tryd.strconv_Itoa n (by omega) (by omega) w hT).mono fun e w' h => by
    obtain ⟨he, k, os, rfl⟩ := h
    exact ⟨he.trans (congrArg (fun s => Ending.returned (.string s)) (M.itoa_decT h0)), Lib.below_grow _ _ (Nat.le_refl _) _ _⟩
end Go.Proofs.YtccfjeijnadjfaaDoor
