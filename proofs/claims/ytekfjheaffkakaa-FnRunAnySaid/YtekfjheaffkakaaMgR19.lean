/-
  SortBatch, in the program and in the model: the same stable order.
-/
import Derived.Test.YtekfjheaffkakaaStbE
import Derived.Test.YtekfjheaffkakaaMgR17
namespace Go.Proofs.Ytekfjheaffkakaa
open Go.RowKit
set_option linter.unusedVariables false

theorem make_letterRow (n : Nat) (hn : n ≤ 1048576) (w : World) :
    (Instr.makeSlice 67 (.int .i64 (n : Int)) (.int .i64 (n : Int))).run Try.prog w = .ok (.slice (some ⟨w.heap.size, 0, none⟩) n n) (w.alloc (.cells (madeCells #[.int .i64 0, .string ⟨#[]⟩] (n * 2)) 33)) := by
  have hinfo : (Try.prog.info? 33).map (fun i => (i.zero, i.size, i.bytes)) = some (some (.agg #[.int .i64 0, .string ⟨#[]⟩]), 2, 24) := by kernel_rfl
  obtain ⟨i, hi, hzz⟩ := Option.map_eq_some_iff.1 hinfo
  simp only [Prod.mk.injEq] at hzz
  obtain ⟨hz, hs, hb⟩ := hzz
  have hr := run_make (P := Try.prog) w 67 33 i _ Try.underlying67 hi hz .i64 .i64 n n (by omega) (Int.le_refl _) (by rw [hb]; omega) (by omega)
  simp only [Int.toNat_natCast, hs] at hr
  exact hr
/-- A made row holds some cells. -/
theorem made_row (w : World) (n : Nat) (hn : n ≤ 1048576) : ∃ xs, (w.alloc (.cells (madeCells #[.int .i64 0, .string ⟨#[]⟩] (n * 2)) 33)).ownsRow w.heap.size 33 2 (.slice (some ⟨w.heap.size, 0, none⟩) n n) n xs ∧ xs.length = n * 2 := by
  obtain ⟨f, cur, hh, hs, hc⟩ := own_made w n
  refine ⟨cur.toList, ⟨by simpa using hs, Or.inr ⟨w.heap.size, n, cur, rfl, Nat.le_refl _, hh, Nat.le_refl _, by unfold maxLen; omega, hs, ?_⟩⟩, by simpa using hs⟩
  exact List.take_of_length_le (by rw [Array.length_toList]; omega)
theorem run_copy_letters (w : World) (sT ty : TypeId) (base g n : Nat) (xs : List Value) (hrow : w.ownsRow base 33 2 (.slice (some ⟨g, 0, none⟩) n n) n xs) (hx : xs.length = n * 2) (a : Option Addr) (c : Nat) (I : Nat → Int) (C : Nat → ByteArray) (h : Lts w a n I C) :
    (Builtin.copy_ #[67, sT] ty #[.slice (some ⟨g, 0, none⟩) n n, .slice a n c]).run Try.prog w = .ok (goInt n) (w.setCells g 0 (lcells (M.lst I C n))) := by
  have hinfo : (Try.prog.info? 33).map (fun i => i.size) = some 2 := by kernel_rfl
  obtain ⟨i, hi, hsz⟩ := Option.map_eq_some_iff.1 hinfo
  have hu : Try.prog.underlying 67 = some (.slice 33) := Try.underlying67
  have hlen : (lcells (M.lst I C n)).length = n * 2 := by rw [lcells_length, M.lst_length]
  have hone : ∀ v ∈ lcells (M.lst I C n), v.oneCell' = true := fun v hv => by
    obtain ⟨j, hj, rfl⟩ := List.getElem_of_mem hv
    rw [hlen] at hj
    have hq : j / 2 < n := by omega
    obtain ⟨p0, p1⟩ := lcells_lst I C n hq
    have hm : j = j / 2 * 2 ∨ j = j / 2 * 2 + 1 := by omega
    rcases hm with e | e
    · have : (lcells (M.lst I C n))[j]? = some (.int .i64 (I (j / 2))) := by rw [← p0]; congr 1
      rw [(List.getElem?_eq_some_iff.1 this).2]; rfl
    · have : (lcells (M.lst I C n))[j]? = some (.string (C (j / 2))) := by rw [← p1]; congr 1
      rw [(List.getElem?_eq_some_iff.1 this).2]; rfl
  have hst := run_storeCells_cells (P := Try.prog) g 0 (lcells (M.lst I C n)) 0 w (fun j hj => by
    rw [hlen] at hj
    have := World.ownsRow.cellAt hrow j (by omega)
    simp only [Nat.zero_add]
    rw [this]
    rw [List.getElem?_eq_getElem (by omega)]; rfl) (fun j hj => by simp only [Nat.zero_add]; exact World.ownsRow.frozenAt hrow j) hone
  rcases Nat.eq_zero_or_pos n with h0 | h0
  · subst h0
    have hl : ∀ (x : Addr), (loadCells x 0).run Try.prog w = .ok #[] w := fun x => by simpa using run_loadCells_list (P := Try.prog) w x [] (by simp)
    have e : lcells (M.lst I C 0) = [] := rfl
    rw [e] at hst ⊢
    cases a <;> simp [Builtin.copy_, run_underlying hu, Builtin.lenOf, Builtin.firstCells, sizeOf, typeInfo, hi, storeCells, hl, goInt, World.setCells]
  · obtain ⟨b, o, rfl, _⟩ := h 0 h0
    have hsrc : ∀ j v, (lcells (M.lst I C n))[j]? = some v → w.cell? ((⟨b, o, none⟩ : Addr).add j) = some v := fun j v hv => by
      have hj : j < n * 2 := by rw [← hlen]; exact (List.getElem?_eq_some_iff.1 hv).1
      have hadd : (⟨b, o, none⟩ : Addr).add j = ⟨b, o + j, none⟩ := by unfold Addr.add; split <;> simp_all
      rw [hadd]
      obtain ⟨q, hq⟩ : ∃ q, j = q * 2 ∨ j = q * 2 + 1 := ⟨j / 2, by omega⟩
      have hqn : q < n := by omega
      obtain ⟨p0, p1⟩ := lcells_lst I C n hqn
      obtain ⟨b', o', e', c0, c1⟩ := h q hqn
      cases e'
      rcases hq with rfl | rfl
      · rw [p0] at hv
        rw [← hv]; exact c0
      · rw [p1] at hv
        rw [← hv]; exact c1
    have hl := run_loadCells_list (P := Try.prog) w ⟨b, o, none⟩ _ hsrc
    rw [hlen] at hl
    simp [Builtin.copy_, run_underlying hu, Builtin.lenOf, Builtin.firstCells, sizeOf, typeInfo, hi, hsz, hl, hst, goInt]
theorem copied_row (w : World) (base g n : Nat) (xs : List Value) (hrow : w.ownsRow base 33 2 (.slice (some ⟨g, 0, none⟩) n n) n xs) (hx : xs.length = n * 2) (I : Nat → Int) (C : Nat → ByteArray) :
    Row (w.setCells g 0 (lcells (M.lst I C n))) base (.slice (some ⟨g, 0, none⟩) n n) (M.lst I C n) ∧ w.grownBy (w.setCells g 0 (lcells (M.lst I C n))) (some g) := by
  have hlen : (lcells (M.lst I C n)).length = n * 2 := by rw [lcells_length, M.lst_length]
  obtain ⟨h1, g1⟩ := owns_setCells (lcells (M.lst I C n)) 0 w xs hrow (by omega)
  have e : xs.take 0 ++ lcells (M.lst I C n) ++ xs.drop (0 + (lcells (M.lst I C n)).length) = lcells (M.lst I C n) := by
    rw [List.drop_eq_nil_of_le (by omega)]; simp
  rw [e] at h1
  refine ⟨?_, g1⟩
  unfold Row
  rw [M.lst_length]
  exact h1
/-- The letters in their stable order, or none if they are no batch. -/
def M.sortL (n : Nat) (I : Nat → Int) (C : Nat → ByteArray) : List (Int × ByteArray) := if M.batch n I C = true then sortS (M.lst I C n) else []
theorem sortL_yes {n : Nat} {I : Nat → Int} {C : Nat → ByteArray} (h : M.batch n I C = true) : M.sortL n I C = sortS (M.lst I C n) := if_pos h
theorem sortL_no {n : Nat} {I : Nat → Int} {C : Nat → ByteArray} (h : M.batch n I C = false) : M.sortL n I C = [] := if_neg (by rw [h]; decide)
theorem sortL_len (n : Nat) (I : Nat → Int) (C : Nat → ByteArray) : (M.sortL n I C).length ≤ 60 := by
  cases h : M.batch n I C
  · rw [sortL_no h]; exact Nat.zero_le _
  · rw [sortL_yes h, (sortS_perm ((batchL_iff n I C).1 h)).length_eq, M.lst_length]; exact (M.batch_yes h).1
/-- A sorted row of letters. -/
theorem row_sorted {w : World} {base g : Nat} {n c : Nat} {I : Nat → Int} {C : Nat → ByteArray} (h : M.batch n I C = true) {pos : Int × ByteArray → Nat} (hp : (M.lst I C n).Pairwise fun x y => pos x < pos y) {F : Nat → Int × ByteArray} (hr : RF w base g n c F) (hs : Sy.Srt ltL pos F 0 n) (ht : Sy.Stay (fun i => (I i, C i)) F 0 n) : Row w base (.slice (some ⟨g, 0, none⟩) n c) (sortS (M.lst I C n)) := by
  have hb := (batchL_iff n I C).1 h
  have hl := M.lst_length I C n
  have := lf_sorted hb hp (F := F) (by rw [hl]; exact hs) (fun k hk => by
    obtain ⟨j, _, hj, e⟩ := ht k (Nat.zero_le _) (by omega)
    rw [e]
    unfold M.lst
    exact List.mem_map.2 ⟨j, List.mem_range.2 hj, rfl⟩)
  rw [hl] at this
  rw [← this]
  exact hr
set_option maxHeartbeats 2000000 in
set_option maxRecDepth 100000 in
theorem impl_SortBatch (w : World) (a : Option Addr) (n c : Nat) (I : Nat → Int) (C : Nat → ByteArray) (h : Lts w a n I C) (hf : Fits n I C) :
    Calls Try.prog 17 #[.slice a n c] w (RowRes w (M.batch n I C) (M.sortL n I C)) := by
  have HL := Lib.hid h
  have HF := Lib.hid hf
  have HV := Lib.hid (impl_BatchValid w a n c I C h hf)
  clear h hf
  cases hv : M.batch n I C
  · rw [hv] at HV
    have HN := Lib.hid (sortL_no hv)
    clear hv
    go_enter Try.func17, Try.ntmps17
    go_wp2_with fail
    refine HV.out.mono ?_
    rintro e w1 ⟨rfl, b1⟩
    go_wp2
    go_ret2
    exact ⟨_, rfl, by rw [HN.out]; exact Row.nil _ _, b1⟩
  · rw [hv] at HV
    have HY := Lib.hid (sortL_yes hv)
    have HB := Lib.hid hv
    have hn := (M.batch_yes hv).1
    have hn6 : n ≤ 1048576 := by omega
    have hmk := fun w => make_letterRow n hn6 w
    obtain ⟨pos, hpos, hpw⟩ := exists_pos ((batchL_iff n I C).1 hv)
    have HPW := Lib.hid hpw
    have HPO : Hid (∀ i j, i < j → j < n → pos (I i, C i) < pos (I j, C j)) := fun i j hij hj => by
      have := List.pairwise_iff_getElem.1 hpw i j (by rw [M.lst_length]; omega) (by rw [M.lst_length]; exact hj) hij
      rw [lst_get, lst_get] at this
      exact this
    clear hv hpos hpw
    go_enter Try.func17, Try.ntmps17
    go_wp2_with fail
    refine HV.out.mono ?_
    rintro e w1 ⟨rfl, b1⟩
    have K1 := Lib.hid b1
    obtain ⟨xs, hrow, hxs⟩ := made_row w1 n hn6
    have HR := Lib.hid hrow
    have HL1 := Lib.hid ((HL.out.on b1).on (below_alloc0 w1 (.cells (madeCells #[.int .i64 0, .string ⟨#[]⟩] (n * 2)) 33)))
    have K2 := Lib.hid (sstep b1 (below_alloc0 w1 (.cells (madeCells #[.int .i64 0, .string ⟨#[]⟩] (n * 2)) 33)))
    clear hrow b1
    obtain ⟨r2, g2⟩ := copied_row _ _ _ n xs HR.out hxs I C
    obtain ⟨w2, hw2⟩ : ∃ w2, (w1.alloc (.cells (madeCells #[.int .i64 0, .string ⟨#[]⟩] (n * 2)) 33)).setCells w1.heap.size 0 (lcells (M.lst I C n)) = w2 := ⟨_, rfl⟩
    have HCP := Lib.hid (fun sT ty => run_copy_letters _ sT ty w1.heap.size w1.heap.size n xs HR.out hxs a c I C HL1.out)
    rw [hw2] at r2 g2 HCP
    clear hw2
    go_wp2_with fail
    rw [HCP.out]
    simp only [Result.andThen]
    rw [Oper.upon_value]
    have R2 : Hid (RF w2 w1.heap.size w1.heap.size n n (fun i => (I i, C i))) := r2
    have z1 := K1.out.size
    have K3 : Hid (Below w.heap.size w w2) := K2.out.grown g2 K2.out.size (fun q e => by injection e with e; omega)
    clear r2 g2
    go_wp2_with fail
    refine (sliceStable_any w1.heap.size w1.heap.size n n pos w2 _ R2.out HPO.out hn).mono ?_
    rintro e w3 ⟨F', ⟨rfl, r3, o3⟩, s3, t3⟩
    have hr := row_sorted HB.out HPW.out r3 s3 t3
    have K4 : Below w.heap.size w w3 := K3.out.trans (o3.below (B := w.heap.size) (fun k hk _ e => by omega) (by have := K3.out.size; omega))
    go_wp2
    go_ret2
    exact ⟨_, rfl, by rw [HY.out]; exact Row.lower hr z1, K4⟩
end Go.Proofs.Ytekfjheaffkakaa

/-
  l2Sort and SortBatch in the model of the document: passes from the last of some digits to the first.
-/
namespace Go.Proofs.Ytekfjheaffkakaa
open Go.RowKit
set_option linter.unusedVariables false

/-- Passes by some digits, from the last one to the first one. -/
def sortBy (ds : List Nat) (L : List (Int × ByteArray)) : List (Int × ByteArray) := ds.foldr stepS L
theorem sortBy_all (L : List (Int × ByteArray)) : sortBy [0, 1, 2, 3, 4, 5, 6] L = sortS L := rfl
theorem sortBy_drop (ds : List Nat) {j : Nat} (hj : j < ds.length) (L : List (Int × ByteArray)) : sortBy (ds.drop j) L = stepS ds[j] (sortBy (ds.drop (j + 1)) L) := by
  rw [List.drop_eq_getElem_cons hj]; rfl
theorem sortBy_batch {L : List (Int × ByteArray)} (h : BatchL L) : ∀ ds : List Nat, (∀ d ∈ ds, d ≤ 6) → BatchL (sortBy ds L) ∧ (sortBy ds L).Perm L
  | [], _ => ⟨h, List.Perm.refl _⟩
  | d :: ds, hd => by
    obtain ⟨h1, h2⟩ := sortBy_batch h ds (fun x hx => hd x (List.mem_cons_of_mem _ hx))
    obtain ⟨h3, h4⟩ := step_batch h1 (hd d (List.mem_cons_self ..))
    exact ⟨h3, h4.trans h2⟩
/-- Numbers of digits in memory. -/
def Digs (w : World) (a : Option Addr) (ds : List Nat) : Prop := ∀ i (hi : i < ds.length), ∃ b o, a = some ⟨b, o, none⟩ ∧ w.cell? ⟨b, o + i, none⟩ = some (.int .i64 (ds[i] : Nat))
theorem Digs.on {w w' : World} {a : Option Addr} {ds : List Nat} (h : Digs w a ds) (hb : Below w.heap.size w w') : Digs w' a ds := fun i hi => by
  obtain ⟨b, o, e, c⟩ := h i hi
  exact ⟨b, o, e, (hb.cell (p := ⟨b, o + i, none⟩) (World.block_lt_of_cell? _ _ c)).trans c⟩
end Go.Proofs.Ytekfjheaffkakaa
