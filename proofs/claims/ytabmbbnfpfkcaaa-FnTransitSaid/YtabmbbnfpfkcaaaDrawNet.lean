/-
  Drawn networks: rows of offices with rows of rules.
-/
import Derived.Test.YtabmbbnfpfkcaaaDrawRm
import Derived.Test.YtabmbbnfpfkcaaaNetA
import Derived.Test.YtabmbbnfpfkcaaaStrA
import Derived.Test.YtabmbbnfpfkcaaaFCat
import Derived.Test.YtabmbbnfpfkcaaaRRow
import Derived.Maps.AppendAt
import Derived.Test.YtabmbbnfpfkcaaaHomeA
import Derived.Test.YtabmbbnfpfkcaaaBookA
import Derived.Laws.Slices
namespace Go.Proofs.Ytabmbbnfpfkcaaa
open Go.RowKit
open Go.PlainAid (bt get_bt bt_nonneg bt_le)
set_option linter.unusedVariables false

def ocells : List (ByteArray × Value) → List Value
  | [] => []
  | x :: K => .string x.1 :: x.2 :: ocells K
theorem ocells_length : ∀ K, (ocells K).length = K.length * 2
  | [] => rfl
  | x :: K => by show (ocells K).length + 1 + 1 = (K.length + 1) * 2; rw [ocells_length K]; omega
theorem ocells_append : ∀ K K', ocells (K ++ K') = ocells K ++ ocells K'
  | [], _ => rfl
  | x :: K, K' => by show _ :: _ :: ocells (K ++ K') = _; rw [ocells_append K K']; rfl
theorem ocells_at : ∀ (K : List (ByteArray × Value)) (i : Nat) (h : i < K.length), (ocells K)[i * 2]? = some (.string (K[i].1)) ∧ (ocells K)[i * 2 + 1]? = some (K[i].2)
  | [], i, h => absurd h (by simp)
  | x :: K, 0, _ => ⟨rfl, rfl⟩
  | x :: K, i + 1, h => by
    have ih := ocells_at K i (by simpa using h)
    rw [show (i + 1) * 2 = i * 2 + 1 + 1 by omega]
    exact ih
theorem ocells_set : ∀ (K : List (ByteArray × Value)) (j : Nat) (s : ByteArray) (u : Value), ((ocells K).set (j * 2) (.string s)).set (j * 2 + 1) u = ocells (K.set j (s, u))
  | [], j, s, u => by simp [ocells]
  | x :: K, 0, s, u => rfl
  | x :: K, j + 1, s, u => by
    have ih := ocells_set K j s u
    rw [show (j + 1) * 2 = j * 2 + 1 + 1 by omega]
    show _ :: _ :: _ = _ :: _ :: _
    exact congrArg (fun l => Value.string x.1 :: x.2 :: l) ih
theorem ocells_fst (K : List (ByteArray × Value)) (k : Nat) (hk : k < K.length) (s : ByteArray) : (ocells K).set (k * 2) (.string s) = ocells (K.set k (s, K[k].2)) := by
  rw [← ocells_set]
  refine (set_same ?_).symm
  rw [List.getElem?_set_ne (by omega)]
  exact (ocells_at K k hk).2
theorem ocells_snd (K : List (ByteArray × Value)) (k : Nat) (hk : k < K.length) (u : Value) : (ocells K).set (k * 2 + 1) u = ocells (K.set k (K[k].1, u)) := by
  rw [← ocells_set]
  congr 1
  exact (set_same (ocells_at K k hk).1).symm
/-- A row of cells with offices, nobody's but the call's, and rows with their rules; none of these is the row of offices itself. -/
structure NetR (w : World) (base : Nat) (v : Value) (K : List (ByteArray × Value)) (RL : Nat → List (ByteArray × ByteArray)) : Prop where
  row : w.ownsRow base 49 2 v K.length (ocells K)
  inn : ∀ i (h : i < K.length), RRow w base K[i].2 (RL i) ∧ ∀ b, K[i].2.ownBlock = some b → v.ownBlock ≠ some b
theorem NetR.lt {w : World} {base : Nat} {v : Value} {K : List (ByteArray × Value)} {RL : Nat → List (ByteArray × ByteArray)} (h : NetR w base v K RL) : ∀ k, v.ownBlock = some k → base ≤ k ∧ k < w.heap.size := World.ownsRow.lt h.row
theorem NetR.sg {w w' : World} {base r N : Nat} {v : Value} {K : List (ByteArray × Value)} {RL : Nat → List (ByteArray × ByteArray)} (h : NetR w base v K RL) (hs : Sg w w' r N) (hr : r < base) : NetR w' base v K RL :=
  ⟨World.ownsRow.kept h.row hs.2 (by
    cases hv : v.ownBlock with
    | none => exact Or.inl rfl
    | some b => exact Or.inr (by have := (h.lt b hv).1; intro e; injection e with e; omega)),
  fun i hi => ⟨(h.inn i hi).1.rsg hs hr, (h.inn i hi).2⟩⟩
theorem NetR.on {w w' : World} {base : Nat} {v : Value} {K : List (ByteArray × Value)} {RL : Nat → List (ByteArray × ByteArray)} (h : NetR w base v K RL) (hb : Below w.heap.size w w') : NetR w' base v K RL :=
  ⟨World.ownsRow.kept h.row (grown_of_below hb) (by
    cases hv : v.ownBlock with
    | none => exact Or.inl rfl
    | some b => exact Or.inr (fun e => by cases e)),
  fun i hi => ⟨(h.inn i hi).1.on hb, (h.inn i hi).2⟩⟩
theorem NetR.owned {w w' : World} {base g : Nat} {v : Value} {K : List (ByteArray × Value)} {RL : Nat → List (ByteArray × ByteArray)} (h : NetR w base v K RL) (hg : w.grownBy w' (some g)) (hgw : w.heap.size ≤ g) : NetR w' base v K RL :=
  ⟨World.ownsRow.kept h.row hg (by
    cases hv : v.ownBlock with
    | none => exact Or.inl rfl
    | some b => exact Or.inr (by have := (h.lt b hv).2; intro e; injection e with e; omega)),
  fun i hi => ⟨(h.inn i hi).1.kept hg (fun b hb e => by have := ((h.inn i hi).1.lt b hb).2; injection e with e; omega), (h.inn i hi).2⟩⟩
/-- What writes into blocks from a later base on leaves the offices as they were. -/
theorem netR_other {w w' : World} {base B' : Nat} {v : Value} {K : List (ByteArray × Value)} {RL : Nat → List (ByteArray × ByteArray)} {row : Option Nat} (h : NetR w base v K RL) (hg : w.grownBy w' row) (hrow : ∀ b, row = some b → B' ≤ b) (hv : ∀ b, v.ownBlock = some b → b < B') (hin : ∀ i (h : i < K.length), ∀ b, K[i].2.ownBlock = some b → b < B') : NetR w' base v K RL :=
  ⟨World.ownsRow.kept h.row hg (by
    cases hq : v.ownBlock with
    | none => exact Or.inl rfl
    | some b => exact Or.inr (fun e => by have h1 := hv b hq; have h2 := hrow b e.symm; omega)),
  fun i hi => ⟨(h.inn i hi).1.kept hg (fun b hb e => by have h1 := hin i hi b hb; have h2 := hrow b e; omega), (h.inn i hi).2⟩⟩
theorem info_office : (Try.prog.info? 49).map (fun i => (i.zero, i.size, i.bytes)) = some (some (.agg #[.string ⟨#[]⟩, .slice none 0 0]), 2, 40) := by kernel_rfl
theorem wpList_append_office {ops : Array Oper} {rest : List Oper} {o : Oper} {a : Act} {Q : Exit → Act → World → Prop} (w : World) (hgd : o.guard = none) (s x : Operand)
    (ho : o.op = .call { callee := .builtin .append, args := #[s, x], argTypes := #[42, 42] })
    (base : Nat) (v : Value) (K : List (ByteArray × Value)) (RL : Nat → List (ByteArray × ByteArray)) (hs : a.eval s = v) (hrow : NetR w base v K RL) (b : Nat) (i : ByteArray) (rv : Value) (Z : List (ByteArray × ByteArray)) (hx : a.eval x = .slice (some ⟨b, 0, none⟩) 1 1)
    (hc : w.cell? ⟨b, 0, none⟩ = some (.string i) ∧ w.cell? ⟨b, 1, none⟩ = some rv) (hl : K.length ≤ 1048576) (hbase : base ≤ w.heap.size) (hz : RRow w base rv Z) (hap : ∀ b, rv.ownBlock = some b → v.ownBlock ≠ some b)
    (C : ∀ v' w', NetR w' base v' (K ++ [(i, rv)]) (fun j => if j = K.length then Z else RL j) → w.grownBy w' v.ownBlock → (v'.ownBlock = v.ownBlock ∨ v'.ownBlock = some w.heap.size) → wpList Try.prog ops Q rest (a.put o.dst v') w') :
    wpList Try.prog ops Q (o :: rest) a w := by
  obtain ⟨i0, hi, hz0, hz1, hz2⟩ := info_parts info_office
  obtain ⟨ra, rc, hrv, _⟩ := hz.form
  refine wpList_append_own_at w hgd s x 42 ho base 49 i0 _ 2 40 Try.underlying42 hi hz0 hz1 hz2 rfl (by decide) v K.length (ocells K) hs hrow.row ⟨b, 0, none⟩ 1 1 [.string i, rv] hx rfl ?_ ?_ (by unfold maxLen; omega) (by omega) hbase ?_
  · intro j u hu
    match j, hu with
    | 0, hu => simp at hu; subst hu; simpa [Addr.add] using hc.1
    | 1, hu => simp at hu; subst hu; simpa [Addr.add] using hc.2
  · intro u hu
    simp at hu
    rcases hu with rfl | rfl
    · rfl
    · rw [hrv]; rfl
  · intro v' w' h1 h2 _ h3
    refine C v' w' ⟨?_, ?_⟩ h2 h3
    · rw [List.length_append, ocells_append]
      exact h1
    · intro j hj
      have hfr : ∀ (u : Value) (Y : List (ByteArray × ByteArray)), RRow w base u Y → (∀ b, u.ownBlock = some b → v.ownBlock ≠ some b) → RRow w' base u Y ∧ ∀ b, u.ownBlock = some b → v'.ownBlock ≠ some b := fun u Y hu ha =>
        ⟨hu.kept h2 fun b hb e => ha b hb e, fun b hb e => by
          rcases h3 with h3 | h3
          · exact ha b hb (h3.symm.trans e)
          · have := (hu.lt b hb).2
            rw [h3] at e
            injection e with e
            omega⟩
      by_cases e : j = K.length
      · subst e
        simp only [List.getElem_append_right (Nat.le_refl _), Nat.sub_self, List.getElem_cons_zero, if_true]
        exact hfr rv Z hz hap
      · have hjl : j < K.length := by rw [List.length_append] at hj; simp at hj; omega
        rw [if_neg e]
        simp only [List.getElem_append_left hjl]
        exact hfr _ _ (hrow.inn j hjl).1 (hrow.inn j hjl).2
/-- The store of a name, and of rules. -/
theorem NetR.cells {w : World} {base g c : Nat} {K : List (ByteArray × Value)} {RL : Nat → List (ByteArray × ByteArray)} (h : NetR w base (.slice (some ⟨g, 0, none⟩) K.length c) K RL) (k : Nat) (hk : k < K.length) :
    w.cell? ⟨g, k * 2, none⟩ = some (.string K[k].1) ∧ w.cell? ⟨g, k * 2 + 1, none⟩ = some K[k].2 ∧ w.frozen? ⟨g, k * 2, none⟩ = false ∧ w.frozen? ⟨g, k * 2 + 1, none⟩ = false := by
  have hat := ocells_at K k hk
  exact ⟨by rw [World.ownsRow.cellAt h.row (k * 2) (by omega)]; exact hat.1, by rw [World.ownsRow.cellAt h.row (k * 2 + 1) (by omega)]; exact hat.2, World.ownsRow.frozenAt h.row _, World.ownsRow.frozenAt h.row _⟩
theorem NetR.name {w : World} {base g c : Nat} {K : List (ByteArray × Value)} {RL : Nat → List (ByteArray × ByteArray)} (h : NetR w base (.slice (some ⟨g, 0, none⟩) K.length c) K RL) (k : Nat) (hk : k < K.length) (s : ByteArray) :
    NetR (w.setCell ⟨g, k * 2, none⟩ (.string s)) base (.slice (some ⟨g, 0, none⟩) K.length c) (K.set k (s, K[k].2)) RL := by
  obtain ⟨h1, h2⟩ := World.ownsRow.stored h.row (k * 2) (.string s)
  rw [ocells_fst K k hk s] at h1
  refine ⟨by rw [List.length_set]; exact h1, fun i hi => ?_⟩
  have hil : i < K.length := by rw [List.length_set] at hi; exact hi
  have he : (K.set k (s, K[k].2))[i].2 = K[i].2 := by
    rw [List.getElem_set]
    split
    · rename_i e; subst e; rfl
    · rfl
  rw [he]
  exact ⟨(h.inn i hil).1.kept h2 fun b hb e => (h.inn i hil).2 b hb e, (h.inn i hil).2⟩
theorem NetR.rules {w : World} {base g c : Nat} {K : List (ByteArray × Value)} {RL : Nat → List (ByteArray × ByteArray)} (h : NetR w base (.slice (some ⟨g, 0, none⟩) K.length c) K RL) (k : Nat) (hk : k < K.length) (u : Value) (Z : List (ByteArray × ByteArray)) (hz : RRow w base u Z) (ha : ∀ b, u.ownBlock = some b → g ≠ b) :
    NetR (w.setCell ⟨g, k * 2 + 1, none⟩ u) base (.slice (some ⟨g, 0, none⟩) K.length c) (K.set k (K[k].1, u)) (fun i => if i = k then Z else RL i) := by
  obtain ⟨h1, h2⟩ := World.ownsRow.stored h.row (k * 2 + 1) u
  rw [ocells_snd K k hk u] at h1
  refine ⟨by rw [List.length_set]; exact h1, fun i hi => ?_⟩
  have hil : i < K.length := by rw [List.length_set] at hi; exact hi
  by_cases e : i = k
  · subst e
    rw [List.getElem_set_self, if_pos rfl]
    exact ⟨hz.kept h2 fun b hb e => ha b hb (by injection e), fun b hb e => ha b hb (by injection e)⟩
  · rw [List.getElem_set_ne (fun e2 => e e2.symm), if_neg e]
    exact ⟨(h.inn i hil).1.kept h2 fun b hb e => (h.inn i hil).2 b hb e, (h.inn i hil).2⟩
def nN (K : List (ByteArray × Value)) (i : Nat) : ByteArray := (K.getD i (⟨#[]⟩, .slice none 0 0)).1
theorem nN_at {K : List (ByteArray × Value)} {i : Nat} (hi : i < K.length) : nN K i = K[i].1 := by
  unfold nN
  rw [List.getD_eq_getElem?_getD, List.getElem?_eq_getElem hi]
  rfl
/-- Small names and rules. -/
def SmallN (z m : Nat) (K : List (ByteArray × Value)) (RL : Nat → List (ByteArray × ByteArray)) : Prop := ∀ i (h : i < K.length), K[i].1.size ≤ z ∧ (RL i).length ≤ m ∧ SmallR z (RL i)
/-- Offices that the law may read. -/
def NtsOut (w w' : World) (v : Value) : Prop := ∃ (a : Option Addr) (n c : Nat) (NM : Nat → ByteArray) (RL : Nat → List (ByteArray × ByteArray)), v = .slice a n c ∧ Nts w' a n NM RL ∧ NFits n NM RL ∧ n ≤ 8 ∧ (∀ i, i < n → (RL i).length ≤ 40) ∧ Below w.heap.size w w'
theorem nts_of {w w' : World} {base : Nat} {v : Value} {K : List (ByteArray × Value)} {RL : Nat → List (ByteArray × ByteArray)} (h : NetR w' base v K RL) (hl : K.length ≤ 8) (hs : SmallN 30 40 K RL) (hb : Below w.heap.size w w') : NtsOut w w' v := by
  rcases h.row.2 with ⟨rfl, hn⟩ | ⟨g, cap, cur, rfl, hb0, hg, hc, hrest⟩
  · exact ⟨none, 0, 0, fun _ => ⟨#[]⟩, RL, rfl, fun i hi => absurd hi (by omega), fun i hi => absurd hi (by omega), by omega, fun i hi => absurd hi (by omega), hb⟩
  · refine ⟨_, K.length, _, nN K, RL, rfl, fun i hi => ?_, fun i hi => ?_, hl, fun i hi => (hs i hi).2.1, hb⟩
    · have hat := ocells_at K i hi
      obtain ⟨ra, rc, hrv, _, hfw⟩ := (h.inn i hi).1.form
      refine ⟨g, 0, ra, rc, rfl, ?_, ?_, hfw⟩
      · rw [Nat.zero_add, World.ownsRow.cellAt h.row (i * 2) (by omega), hat.1, nN_at hi]
      · rw [Nat.zero_add, World.ownsRow.cellAt h.row (i * 2 + 1) (by omega), hat.2, hrv]
    · obtain ⟨h1, h2, h3⟩ := hs i hi
      refine ⟨?_, h3.fits (by omega), by unfold maxLen; omega⟩
      rw [nN_at hi]
      unfold maxLen; omega
theorem one_net (w : World) : NetR (w.alloc (.cells #[] 49)) w.heap.size (.slice (some ⟨w.heap.size, 0, none⟩) 0 0) [] (fun _ => []) :=
  ⟨World.ownsRow_lit (base := w.heap.size) (e := 49) (size := 2) w #[] 0 (Nat.le_refl _) (by unfold maxLen; omega) rfl, fun i hi => absurd hi (by simp)⟩
theorem smallN_more {z m : Nat} {K : List (ByteArray × Value)} {RL : Nat → List (ByteArray × ByteArray)} (h : SmallN z m K RL) {nm : ByteArray} {rv : Value} {Z : List (ByteArray × ByteArray)} (h1 : nm.size ≤ z) (h2 : Z.length ≤ m) (h3 : SmallR z Z) :
    SmallN z m (K ++ [(nm, rv)]) (fun i => if i = K.length then Z else RL i) := by
  intro i hi
  by_cases e : i = K.length
  · subst e
    simp only [List.getElem_append_right (Nat.le_refl _), Nat.sub_self, List.getElem_cons_zero, if_true]
    exact ⟨h1, h2, h3⟩
  · have hil : i < K.length := by rw [List.length_append] at hi; simp at hi; omega
    simp only [List.getElem_append_left hil, if_neg e]
    exact h i hil
theorem nm_of {w : World} {v : Value} {L : List ByteArray} {b0 r : Nat} (h : SRow w b0 v L) (h1 : 1 ≤ L.length) (h2 : L.length ≤ 100) (hr : r < b0) (hs : ∀ x ∈ L, x.size ≤ 8) : NmIs w v r w.heap.size := by
  rcases h.cases with ⟨_, hn⟩ | ⟨g, c, rfl, hg, hgl, _⟩
  · rw [hn] at h1; exact absurd h1 (by decide)
  · exact ⟨g, c, L, rfl, h1, h2, by omega, hgl, hs, fun i hi => by
      rw [(h.cellAt i hi).1, List.getD_eq_getElem?_getD, List.getElem?_eq_getElem hi]; rfl⟩
def S4 : List ByteArray := [⟨#[97]⟩, ⟨#[98]⟩, ⟨#[99]⟩, ⟨#[100]⟩]
theorem S4_small (x : Nat) : (S4.getD x ⟨#[]⟩).size ≤ 1 := by
  match x with
  | 0 => decide
  | 1 => decide
  | 2 => decide
  | 3 => decide
  | x + 4 => exact Nat.zero_le _
def NetSg (W : World) (B0 r N : Nat) (e : Ending) (w' : World) : Prop := ∃ (v : Value) (K : List (ByteArray × Value)) (RL : Nat → List (ByteArray × ByteArray)) (B : Nat), e = .returned v ∧ NetR w' B v K RL ∧ B0 ≤ B ∧ K.length ≤ 4 ∧ 2 ≤ K.length ∧ SmallN 8 6 K RL ∧ Sg W w' r N
set_option maxHeartbeats 8000000 in
set_option maxRecDepth 100000 in
theorem l6Net_any (w : World) (r N : Nat) (h : Rd w r N) (hN : N ≤ 70000) :
    Calls Try.prog 51 #[.pointer (some ⟨r, 0, none⟩)] w (NetSg w w.heap.size r (N + 300)) := by
  have hr := h.lt
  have RD := Lib.hid h
  clear h
  go_enter Try.func51, Try.ntmps51
  go_wp2_with fail
  refine (pick_sg _ _ _ r _ (Sg.start (RD.out.below (below_alloc0 w _))) (by omega) (by omega) (by omega)).mono ?_
  rintro e w1 ⟨t0, rfl, ta, tb, sg1⟩
  obtain ⟨t, rfl⟩ := Int.eq_ofNat_of_zero_le ta
  obtain ⟨m, hm⟩ : ∃ m : Nat, m = 2 + t := ⟨_, rfl⟩
  have hm4 : m ≤ 4 := by omega
  have hm2 : 2 ≤ m := by omega
  have hm4i : (m : Int) ≤ 4 := by omega
  have e1 : (2 : Int) + (t : Int) = (m : Int) := by omega
  have SG1 := Lib.hid (((Sg.start RD.out).alloc (.cells #[.string ⟨#[97]⟩, .string ⟨#[98]⟩, .string ⟨#[99]⟩, .string ⟨#[100]⟩] 9)).trans sg1)
  have z1 := sg1.2.size
  simp at z1
  have ST1 : Hid (∀ x, x < 4 → w1.cell? ⟨w.heap.size, x, none⟩ = some (.string (S4.getD x ⟨#[]⟩))) := fun x hx => by
    exact (sg_cells sg1 w.heap.size x (by simp) (by omega)).trans (cells_str [⟨#[97]⟩, ⟨#[98]⟩, ⟨#[99]⟩, ⟨#[100]⟩] 9 w x hx)
  clear sg1 hm tb
  --LOOP
  have NR1 := Lib.hid (one_net w1)
  have SG2 := Lib.hid (SG1.out.alloc (.cells #[] 49))
  have ST2 : Hid (∀ x, x < 4 → (w1.alloc (.cells #[] 49)).cell? ⟨w.heap.size, x, none⟩ = some (.string (S4.getD x ⟨#[]⟩))) := fun x hx => ((below_alloc0 w1 _).cell (p := ⟨w.heap.size, x, none⟩) (show w.heap.size < _ by omega)).trans (ST1.out x hx)
  obtain ⟨B, hB⟩ : ∃ B, w1.heap.size = B := ⟨_, rfl⟩
  have hBw : w.heap.size < B := by omega
  have NR2 : Hid (NetR (w1.alloc (.cells #[] 49)) B (.slice (some ⟨w1.heap.size, 0, none⟩) 0 0) [] (fun _ => [])) := by rw [← hB]; exact NR1.out
  have hBs : B ≤ (w1.alloc (.cells #[] 49)).heap.size := by simp; omega
  have SN0 : Hid (SmallN 8 6 [] (fun _ => [])) := fun i hi => absurd hi (by simp)
  clear NR1 SG1 ST1 hB
  go_wp2
  clear e1
  go_loopw [4, 5] (fun u i wr => ∃ (j : Nat) (K : List (ByteArray × Value)) (RL : Nat → List (ByteArray × ByteArray)), j ≤ m ∧ i = .int .i64 j ∧ Hid (K.length = j) ∧ Hid (SmallN 8 6 K RL) ∧ Hid (NetR wr B u K RL) ∧ Hid (Sg w wr r (N + 1 + 60 * j)) ∧ Hid (∀ x, x < 4 → wr.cell? ⟨w.heap.size, x, none⟩ = some (.string (S4.getD x ⟨#[]⟩))) ∧ B ≤ wr.heap.size) (fun _ i _ => m - (intOf i).toNat)
  case atStart => exact ⟨0, [], fun _ => [], Nat.zero_le _, rfl, rfl, SN0, NR2, SG2, ST2, hBs⟩
  case round =>
    obtain ⟨j, K, RL, hj, rfl, hKl, hsm, hnr, hsg, hst, hBr⟩ := hrel
    by_cases hlt : j < m
    · have hlti : (j : Int) < (m : Int) := by omega
      have hj4 : j < 4 := by omega
      have HVB0 : Hid (∀ b, u4.ownBlock = some b → b < wr.heap.size) := fun b e => (hnr.out.lt b e).2
      have HIN0 : Hid (∀ i (h : i < K.length), ∀ b, K[i].2.ownBlock = some b → b < wr.heap.size) := fun i h b e => ((hnr.out.inn i h).1.lt b e).2
      have HVL : Hid (∀ b, u4.ownBlock = some b → B ≤ b) := fun b e => (hnr.out.lt b e).1
      have HU : Hid (Strs (wr.alloc (.cells #[.string ⟨#[104, 101, 114, 101]⟩, .string ⟨#[104, 101, 114, 101]⟩] 9)) (some ⟨w.heap.size, 0, none⟩) m (fun x => S4.getD x ⟨#[]⟩)) := fun x hx => ⟨w.heap.size, 0, rfl, by rw [Nat.zero_add]; exact ((below_alloc0 wr _).cell (p := ⟨w.heap.size, x, none⟩) (show w.heap.size < _ by omega)).trans (hst.out x (by omega))⟩
      have HL : Hid (SRow (wr.alloc (.cells #[.string ⟨#[104, 101, 114, 101]⟩, .string ⟨#[104, 101, 114, 101]⟩] 9)) wr.heap.size (.slice (some ⟨wr.heap.size, 0, none⟩) 2 2) [⟨#[104, 101, 114, 101]⟩, ⟨#[104, 101, 114, 101]⟩]) := World.ownsRow_lit (base := wr.heap.size) (e := 9) (size := 1) wr #[.string ⟨#[104, 101, 114, 101]⟩, .string ⟨#[104, 101, 114, 101]⟩] 2 (Nat.le_refl _) (by unfold maxLen; omega) rfl
      go_wp2_with (at_builtin; refine wpList_append_strs _ rfl _ _ rfl wr.heap.size _ [⟨#[104, 101, 114, 101]⟩, ⟨#[104, 101, 114, 101]⟩] rfl HL.out _ m 4 (fun x => S4.getD x ⟨#[]⟩) rfl HU.out (by simp; omega) (by simp) ?_)
      intro v6 w4 hr4 hg4 ho4
      have B4 := Lib.hid ((below_alloc0 wr (.cells #[.string ⟨#[104, 101, 114, 101]⟩, .string ⟨#[104, 101, 114, 101]⟩] 9)).trans (grown_r hg4 (fun j e => by have e' : some wr.heap.size = some j := e; injection e' with e'; omega) (by simp)))
      have NM4 := Lib.hid (nm_of (r := r) hr4 (by simp) (by simp [sst]; omega) (by omega) (fun x hx => by
        rcases List.mem_cons.1 hx with rfl | hx
        · decide
        · rcases List.mem_cons.1 hx with rfl | hx
          · decide
          · simp [sst] at hx
            obtain ⟨i, _, rfl⟩ := hx
            have := S4_small i
            simp at this
            omega))
      have NR4 := Lib.hid (hnr.out.on B4.out)
      have SG4 := Lib.hid (hsg.out.below B4.out)
      have ST4 : Hid (∀ x, x < 4 → w4.cell? ⟨w.heap.size, x, none⟩ = some (.string (S4.getD x ⟨#[]⟩))) := fun x hx => (B4.out.cell (p := ⟨w.heap.size, x, none⟩) (show w.heap.size < _ by omega)).trans (hst.out x hx)
      have hz4 := B4.out.size
      have HVB : Hid (∀ b, u4.ownBlock = some b → b < w4.heap.size) := fun b e => by have := HVB0.out b e; omega
      have HIN : Hid (∀ i (h : i < K.length), ∀ b, K[i].2.ownBlock = some b → b < w4.heap.size) := fun i h b e => by have := HIN0.out i h b e; omega
      clear hr4 hg4 ho4 HU HL hnr hsg hst B4 HVB0 HIN0
      go_wp2_with fail
      refine (l6Rules_any _ v6 r _ SG4.out.1 (by omega) NM4.out).mono ?_
      rintro e w5 ⟨rv, Z, rfl, RZ, lz, SZ, sg5⟩
      have RZ5 := Lib.hid RZ
      have SZ5 := Lib.hid SZ
      have NR5 := Lib.hid (NR4.out.sg sg5 (by omega))
      have SG5 := Lib.hid (SG4.out.trans sg5)
      have ST5 : Hid (∀ x, x < 4 → w5.cell? ⟨w.heap.size, x, none⟩ = some (.string (S4.getD x ⟨#[]⟩))) := fun x hx => (sg_cells sg5 w.heap.size x (by omega) (by omega)).trans (ST4.out x hx)
      have NM5 := Lib.hid (NM4.out.sg sg5)
      have hz5 := sg5.2.size
      clear RZ SZ sg5 NR4 SG4 ST4 NM4
      go_wp2_with fail
      refine (pick_sg _ _ _ r _ (Sg.start SG5.out.1) (by omega) (by omega) (by omega)).mono ?_
      rintro e w6 ⟨t2, rfl, t20, t21, sg6⟩
      have RZ6 := Lib.hid (RZ5.out.rsg sg6 (by omega))
      have NR6 := Lib.hid (NR5.out.sg sg6 (by omega))
      have SG6 := Lib.hid (SG5.out.trans sg6)
      have ST6 : Hid (∀ x, x < 4 → w6.cell? ⟨w.heap.size, x, none⟩ = some (.string (S4.getD x ⟨#[]⟩))) := fun x hx => (sg_cells sg6 w.heap.size x (by omega) (by omega)).trans (ST5.out x hx)
      have NM6 := Lib.hid (NM5.out.sg sg6)
      have hz6 := sg6.2.size
      clear RZ5 NR5 SG5 ST5 NM5 sg6
      obtain ⟨ra, rc, hrv, hrc, hfw⟩ := RZ6.out.form
      subst hrv
      have HX := Lib.hid (spec_l6Index w6 ra Z.length rc (nF Z) (nT Z) hfw (by omega) ⟨#[]⟩)
      have hrk := M.rank_bd (nF Z) ⟨#[]⟩ Z.length
      obtain ⟨q, hq⟩ : ∃ q, M.rankTo (nF Z) ⟨#[]⟩ Z.length = q := ⟨_, rfl⟩
      rw [hq] at hrk HX
      clear hq hfw
      have SZ7 := Lib.hid (SZ5.out.mono (z' := 8) (Nat.le_refl _))
      by_cases hp : 0 < t2
      · have hpd : decide (0 < t2) = true := decide_eq_true hp
        go_wp2_with fail
        refine HX.out.mono ?_
        rintro e w7 ⟨rfl, rfl⟩
        by_cases hneg : q < 0
        · have hnd : decide (q < 0) = true := decide_eq_true hneg
          go_wp2_with fail
          refine (of_nm _ _ v6 r _ _ (Sg.start SG6.out.1) (by omega) NM6.out).mono ?_
          rintro e w8 ⟨s8, rfl, s80, s81, sg8⟩
          have RZ8 := Lib.hid (RZ6.out.rsg sg8 (by omega))
          have NR8 := Lib.hid (NR6.out.sg sg8 (by omega))
          have SG8 := Lib.hid (SG6.out.trans sg8)
          have ST8 : Hid (∀ x, x < 4 → w8.cell? ⟨w.heap.size, x, none⟩ = some (.string (S4.getD x ⟨#[]⟩))) := fun x hx => (sg_cells sg8 w.heap.size x (by omega) (by omega)).trans (ST6.out x hx)
          have hz8 := sg8.2.size
          have HZB : Hid (∀ b, (Value.slice ra Z.length rc).ownBlock = some b → w4.heap.size ≤ b) := fun b e => (RZ8.out.lt b e).1
          clear RZ6 NR6 SG6 ST6 NM6 sg8 HX
          go_wp2_with (at_builtin; refine wpList_append_rule _ rfl _ _ rfl w4.heap.size _ Z rfl (RZ8.out.alloc _) _ ⟨#[]⟩ s8 rfl ?_ (by omega) (by simp; omega) ?_)
          · simp [go_sem]
          intro va wa hra hga hoa
          have RZA := Lib.hid hra
          have SGA := Lib.hid ((SG8.out.alloc (.cells #[.string ⟨#[]⟩, .string s8] 31)).owned (fun b e => by have := HZB.out b e; omega) hga)
          have NRA : Hid (NetR wa B u4 K RL) := by
            have hb := (below_alloc0 w8 (.cells #[.string ⟨#[]⟩, .string s8] 31))
            exact netR_other (NetR.on NR8.out hb) hga (fun b e => HZB.out b e) HVB.out HIN.out
          have STA : Hid (∀ x, x < 4 → wa.cell? ⟨w.heap.size, x, none⟩ = some (.string (S4.getD x ⟨#[]⟩))) := fun x hx => hga.cell (((below_alloc0 w8 _).cell (p := ⟨w.heap.size, x, none⟩) (show w.heap.size < _ by omega)).trans (ST8.out x hx)) (by intro e; have h9 : w4.heap.size ≤ w.heap.size := HZB.out _ e.symm; omega)
          have hza := hga.size
          simp at hza
          have SZA := Lib.hid (SZ7.out.more (x := ⟨#[]⟩) (y := s8) (by decide) s81)
          have lza : (Z ++ [((⟨#[]⟩ : ByteArray), s8)]).length ≤ 6 := by simp; omega
          clear hra hga hoa RZ8 NR8 SG8 ST8
          generalize Z ++ [((⟨#[]⟩ : ByteArray), s8)] = ZA at RZA SZA lza
          obtain ⟨rA, cA, hvA, _, _⟩ := RZA.out.form
          subst hvA
          have cn := STA.out j hj4
          obtain ⟨nm, hnm⟩ : ∃ s, S4.getD j ⟨#[]⟩ = s := ⟨_, rfl⟩
          rw [hnm] at cn
          have hnm8 : nm.size ≤ 8 := by rw [← hnm]; have := S4_small j; omega
          clear hnm
          have RZ8 := Lib.hid (RZA.out.lower (base' := B) (by omega))
          go_wp2_with (at_builtin; refine wpList_append_office _ rfl _ _ rfl B _ K RL rfl (NetR.on NRA.out (below_alloc0 wa _)) _ nm (Value.slice rA ZA.length cA) (ZA) rfl ?_ (by have := hKl.out; omega) (by simp; omega) (RZ8.out.alloc _) (fun b hb e => by have h1 := HVB.out b e; have h2 := (RZA.out.lt b hb).1; omega) ?_)
          · simp [go_sem]
          intro v9 w9 hr9 hg9 ho9
          have SG9 := Lib.hid ((SGA.out.alloc (.cells #[.string nm, (Value.slice rA ZA.length cA)] 49)).owned (fun b e => by have h1 := HVL.out b e; omega) hg9)
          have NR9 := Lib.hid hr9
          have ST9 : Hid (∀ x, x < 4 → w9.cell? ⟨w.heap.size, x, none⟩ = some (.string (S4.getD x ⟨#[]⟩))) := fun x hx => hg9.cell (((below_alloc0 wa _).cell (p := ⟨w.heap.size, x, none⟩) (show w.heap.size < _ by omega)).trans (STA.out x hx)) (by intro e; have h1 : B ≤ w.heap.size := HVL.out _ e.symm; omega)
          have hK9 : Hid ((K ++ [(nm, (Value.slice rA ZA.length cA))]).length = j + 1) := by rw [Hid, List.length_append, hKl.out]; rfl
          have SM9 : Hid (SmallN 8 6 (K ++ [(nm, (Value.slice rA ZA.length cA))]) (fun i => if i = K.length then ZA else RL i)) := smallN_more hsm.out hnm8 lza SZA.out
          have hz9 := hg9.size
          simp at hz9
          clear hr9 hg9 ho9
          go_wp2
          go_roundw
          case rel => exact ⟨j + 1, K ++ [(nm, (Value.slice rA ZA.length cA))], _, by omega, by go_num, hK9, SM9, NR9, SG9.out.mono (by omega) (by omega), ST9, by omega⟩
          case measure => simp [intOf]; omega
        · have hnd : decide (q < 0) = false := decide_eq_false hneg
          have cn := ST6.out j hj4
          obtain ⟨nm, hnm⟩ : ∃ s, S4.getD j ⟨#[]⟩ = s := ⟨_, rfl⟩
          rw [hnm] at cn
          have hnm8 : nm.size ≤ 8 := by rw [← hnm]; have := S4_small j; omega
          clear hnm
          have RZ8 := Lib.hid (RZ6.out.lower (base' := B) (by omega))
          go_wp2_with (at_builtin; refine wpList_append_office _ rfl _ _ rfl B _ K RL rfl (NetR.on NR6.out (below_alloc0 w6 _)) _ nm (Value.slice ra Z.length rc) (Z) rfl ?_ (by have := hKl.out; omega) (by simp; omega) (RZ8.out.alloc _) (fun b hb e => by have h1 := HVB.out b e; have h2 := (RZ6.out.lt b hb).1; omega) ?_)
          · simp [go_sem]
          intro v9 w9 hr9 hg9 ho9
          have SG9 := Lib.hid ((SG6.out.alloc (.cells #[.string nm, (Value.slice ra Z.length rc)] 49)).owned (fun b e => by have h1 := HVL.out b e; omega) hg9)
          have NR9 := Lib.hid hr9
          have ST9 : Hid (∀ x, x < 4 → w9.cell? ⟨w.heap.size, x, none⟩ = some (.string (S4.getD x ⟨#[]⟩))) := fun x hx => hg9.cell (((below_alloc0 w6 _).cell (p := ⟨w.heap.size, x, none⟩) (show w.heap.size < _ by omega)).trans (ST6.out x hx)) (by intro e; have h1 : B ≤ w.heap.size := HVL.out _ e.symm; omega)
          have hK9 : Hid ((K ++ [(nm, (Value.slice ra Z.length rc))]).length = j + 1) := by rw [Hid, List.length_append, hKl.out]; rfl
          have SM9 : Hid (SmallN 8 6 (K ++ [(nm, (Value.slice ra Z.length rc))]) (fun i => if i = K.length then Z else RL i)) := smallN_more hsm.out hnm8 (by omega) SZ7.out
          have hz9 := hg9.size
          simp at hz9
          clear hr9 hg9 ho9
          go_wp2
          go_roundw
          case rel => exact ⟨j + 1, K ++ [(nm, (Value.slice ra Z.length rc))], _, by omega, by go_num, hK9, SM9, NR9, SG9.out.mono (by omega) (by omega), ST9, by omega⟩
          case measure => simp [intOf]; omega
      · have hpd : decide (0 < t2) = false := decide_eq_false hp
        have cn := ST6.out j hj4
        obtain ⟨nm, hnm⟩ : ∃ s, S4.getD j ⟨#[]⟩ = s := ⟨_, rfl⟩
        rw [hnm] at cn
        have hnm8 : nm.size ≤ 8 := by rw [← hnm]; have := S4_small j; omega
        clear hnm
        have RZ8 := Lib.hid (RZ6.out.lower (base' := B) (by omega))
        go_wp2_with (at_builtin; refine wpList_append_office _ rfl _ _ rfl B _ K RL rfl (NetR.on NR6.out (below_alloc0 w6 _)) _ nm (Value.slice ra Z.length rc) (Z) rfl ?_ (by have := hKl.out; omega) (by simp; omega) (RZ8.out.alloc _) (fun b hb e => by have h1 := HVB.out b e; have h2 := (RZ6.out.lt b hb).1; omega) ?_)
        · simp [go_sem]
        intro v9 w9 hr9 hg9 ho9
        have SG9 := Lib.hid ((SG6.out.alloc (.cells #[.string nm, (Value.slice ra Z.length rc)] 49)).owned (fun b e => by have h1 := HVL.out b e; omega) hg9)
        have NR9 := Lib.hid hr9
        have ST9 : Hid (∀ x, x < 4 → w9.cell? ⟨w.heap.size, x, none⟩ = some (.string (S4.getD x ⟨#[]⟩))) := fun x hx => hg9.cell (((below_alloc0 w6 _).cell (p := ⟨w.heap.size, x, none⟩) (show w.heap.size < _ by omega)).trans (ST6.out x hx)) (by intro e; have h1 : B ≤ w.heap.size := HVL.out _ e.symm; omega)
        have hK9 : Hid ((K ++ [(nm, (Value.slice ra Z.length rc))]).length = j + 1) := by rw [Hid, List.length_append, hKl.out]; rfl
        have SM9 : Hid (SmallN 8 6 (K ++ [(nm, (Value.slice ra Z.length rc))]) (fun i => if i = K.length then Z else RL i)) := smallN_more hsm.out hnm8 (by omega) SZ7.out
        have hz9 := hg9.size
        simp at hz9
        clear hr9 hg9 ho9
        go_wp2
        go_roundw
        case rel => exact ⟨j + 1, K ++ [(nm, (Value.slice ra Z.length rc))], _, by omega, by go_num, hK9, SM9, NR9, SG9.out.mono (by omega) (by omega), ST9, by omega⟩
        case measure => simp [intOf]; omega
    · have hlti : ¬ (j : Int) < (m : Int) := by omega
      obtain rfl : j = m := by omega
      go_wp2
      go_ret
      exact ⟨_, K, RL, B, rfl, hnr.out, by omega, by have := hKl.out; omega, by have := hKl.out; omega, hsm.out, hsg.out.mono (by omega) (by omega)⟩
end Go.Proofs.Ytabmbbnfpfkcaaa

/-
  Rules in memory: what XFCat says of orders, said of rules.
-/
namespace Go.Proofs.Ytabmbbnfpfkcaaa
open Go.RowKit

theorem rwpList_append_fws {ops : Array Oper} {rest : List Oper} {o : Oper} {a : Act} {Q : Exit → Act → World → Prop} (w : World) (hgd : o.guard = none) (s x : Operand)
    (ho : o.op = .call { callee := .builtin .append, args := #[s, x], argTypes := #[23, 23] })
    (base : Nat) (v : Value) (L : List (ByteArray × ByteArray)) (hs : a.eval s = v) (hrow : RRow w base v L) (a2 : Option Addr) (m c2 : Nat) (I : Nat → ByteArray) (C : Nat → ByteArray) (hx : a.eval x = .slice a2 m c2) (hu : Fws w a2 m I C) (hl : L.length + m ≤ 4194304) (hbase : base ≤ w.heap.size)
    (K : ∀ v' w', RRow w' base v' (L ++ M.flst I C m) → w.grownBy w' v.ownBlock → (v'.ownBlock = v.ownBlock ∨ v'.ownBlock = some w.heap.size) → wpList Try.prog ops Q rest (a.put o.dst v') w') :
    wpList Try.prog ops Q (o :: rest) a w := by
  obtain ⟨i0, hi, hz0, hz1, hz2⟩ := info_parts info_rule
  by_cases h0 : m = 0
  · subst h0
    have hnil : M.flst I C 0 = [] := rfl
    rw [hnil, List.append_nil] at K
    cases a2 with
    | none =>
      refine wpList_plain hgd fun K' hK => ?_
      have hrun := fappend_nil_src (P := Try.prog) w base 23 o.type 31 i0 2 Try.underlying23 hi v L.length (fcells L) hrow c2
      unfold Oper.wp
      simp [execOp, ho, resolve, invoke, builtin, hs, hx, hrun, Result.andThen]
      exact hK _ _ (K v w hrow (World.grownBy.refl w _) (Or.inl rfl))
    | some ad =>
      refine wpList_append_own_at w hgd s x 23 ho base 31 i0 _ 2 32 Try.underlying23 hi hz0 hz1 hz2 rfl (by decide) v L.length (fcells L) hs hrow ad 0 c2 [] hx rfl (fun j u hu => by simp at hu) (fun u hu => by cases hu) (by unfold maxLen; omega) (by omega) hbase ?_
      intro v' w' h1 h2 _ h3
      exact K v' w' (by unfold RRow; simpa using h1) h2 h3
  · obtain ⟨b, o', e, _⟩ := hu 0 (by omega)
    subst e
    refine wpList_append_own_at w hgd s x 23 ho base 31 i0 _ 2 32 Try.underlying23 hi hz0 hz1 hz2 rfl (by decide) v L.length (fcells L) hs hrow ⟨b, o', none⟩ m c2 (fcells (M.flst I C m)) hx (by rw [fcells_length, flst_len]) ?_ (fcells_one _) (by unfold maxLen; omega) (by omega) hbase ?_
    · intro j u hj
      have hjl : j < m * 2 := by
        have := (List.getElem?_eq_some_iff.1 hj).1
        rw [fcells_length, flst_len] at this
        exact this
      have hadd : (⟨b, o', none⟩ : Addr).add j = ⟨b, o' + j, none⟩ := by unfold Addr.add; split <;> simp_all
      rw [hadd]
      obtain ⟨q, hq⟩ : ∃ q, j = q * 2 ∨ j = q * 2 + 1 := ⟨j / 2, by omega⟩
      rcases hq with rfl | rfl
      · obtain ⟨b', o2, e2, c0, c1⟩ := hu q (by omega)
        cases e2
        have hat := fcells_lst' I C m q (by omega)
        rw [← Option.some.inj (hat.1.symm.trans hj)]
        exact c0
      · obtain ⟨b', o2, e2, c0, c1⟩ := hu q (by omega)
        cases e2
        have hat := fcells_lst' I C m q (by omega)
        rw [← Option.some.inj (hat.2.symm.trans hj)]
        exact c1
    · intro v' w' h1 h2 _ h3
      refine K v' w' ?_ h2 h3
      unfold RRow
      rw [List.length_append, flst_len, fcells_append]
      exact h1
end Go.Proofs.Ytabmbbnfpfkcaaa

/-
  Drawn networks that are sometimes none, and what is drawn beside them.
-/
namespace Go.Proofs.Ytabmbbnfpfkcaaa
open Go.RowKit
open Go.PlainAid (bt get_bt bt_nonneg bt_le)
set_option linter.unusedVariables false

theorem SmallN.mono {z z' m m' : Nat} {K : List (ByteArray × Value)} {RL : Nat → List (ByteArray × ByteArray)} (h : SmallN z m K RL) (hz : z ≤ z') (hm : m ≤ m') : SmallN z' m' K RL := fun i hi => by
  obtain ⟨h1, h2, h3⟩ := h i hi
  exact ⟨by omega, by omega, h3.mono hz⟩
theorem SmallN.name {z m : Nat} {K : List (ByteArray × Value)} {RL : Nat → List (ByteArray × ByteArray)} (h : SmallN z m K RL) (k : Nat) (s : ByteArray) (u : Value) (hs : s.size ≤ z) : SmallN z m (K.set k (s, u)) RL := fun i hi => by
  have hil : i < K.length := by rw [List.length_set] at hi; exact hi
  obtain ⟨h1, h2, h3⟩ := h i hil
  refine ⟨?_, h2, h3⟩
  rw [List.getElem_set]
  split
  · exact hs
  · exact h1
theorem SmallN.rules {z m : Nat} {K : List (ByteArray × Value)} {RL : Nat → List (ByteArray × ByteArray)} (h : SmallN z m K RL) (k : Nat) (s : ByteArray) (u : Value) (Z : List (ByteArray × ByteArray)) (hs : s.size ≤ z) (hl : Z.length ≤ m) (hz : SmallR z Z) : SmallN z m (K.set k (s, u)) (fun i => if i = k then Z else RL i) := fun i hi => by
  have hil : i < K.length := by rw [List.length_set] at hi; exact hi
  obtain ⟨h1, h2, h3⟩ := h i hil
  by_cases e : i = k
  · subst e
    rw [List.getElem_set_self]
    simp only [if_true]
    exact ⟨hs, hl, hz⟩
  · rw [List.getElem_set_ne (fun e2 => e e2.symm)]
    simp only [if_neg e]
    exact ⟨h1, h2, h3⟩
theorem NetR.none {w : World} {base g c : Nat} {K : List (ByteArray × Value)} {RL : Nat → List (ByteArray × ByteArray)} (h : NetR w base (.slice (some ⟨g, 0, none⟩) K.length c) K RL) : NetR w base (.slice (some ⟨g, 0, none⟩) 0 c) [] RL := by
  refine ⟨?_, fun i hi => absurd hi (by simp)⟩
  rcases h.row.2 with ⟨e, _⟩ | ⟨g', cap, cur, e, h1, h2, h3, h4, h5, h6⟩
  · cases e
  · injection e with e1 e2 e3
    injection e1 with e1
    injection e1 with e1 _ _
    subst e1; subst e3
    exact ⟨rfl, Or.inr ⟨g, c, cur, rfl, h1, h2, Nat.zero_le _, h4, h5, by simp [ocells]⟩⟩
def NetBad (W : World) (B r N : Nat) (e : Ending) (w' : World) : Prop := ∃ (v : Value) (K : List (ByteArray × Value)) (RL : Nat → List (ByteArray × ByteArray)), e = .returned v ∧ NetR w' B v K RL ∧ K.length ≤ 8 ∧ SmallN 30 40 K RL ∧ Sg W w' r N
set_option maxHeartbeats 8000000 in
set_option maxRecDepth 100000 in
theorem l6Bad_sg (W w : World) (r N B : Nat) (v : Value) (K : List (ByteArray × Value)) (RL : Nat → List (ByteArray × ByteArray)) (h : Sg W w r N) (hN : N ≤ 75000) (hnr : NetR w B v K RL) (hrB : r < B) (hBW : W.heap.size ≤ B) (hl : 1 ≤ K.length) (hl4 : K.length ≤ 8) (hs : SmallN 8 6 K RL) :
    Calls Try.prog 50 #[.pointer (some ⟨r, 0, none⟩), v] w (NetBad W B r (N + 20)) := by
  have hr := h.1.lt
  have HSW := Lib.hid (hs.mono (z' := 30) (m' := 40) (by omega) (by omega))
  have HS := Lib.hid hs
  have hfm : ∃ g c, v = .slice (some ⟨g, 0, none⟩) K.length c ∧ B ≤ g := by
    rcases hnr.row.2 with ⟨_, hn⟩ | ⟨g, cap, cur, e, h1, _⟩
    · omega
    · exact ⟨g, cap, e, h1⟩
  obtain ⟨g, c, rfl, hg⟩ := hfm
  have NR := Lib.hid hnr
  have SG := Lib.hid h
  clear hnr h hs
  go_enter Try.func50, Try.ntmps50
  go_wp2_with fail
  refine (pick_sg _ _ _ r _ (Sg.start SG.out.1) (by omega) (by omega) (by omega)).mono ?_
  rintro e w2 ⟨k0, rfl, k0a, k0b, sg2⟩
  obtain ⟨k, rfl⟩ := Int.eq_ofNat_of_zero_le k0a
  have hk : k < K.length := by omega
  have NR2 := Lib.hid (NR.out.sg sg2 hrB)
  have SG2 := Lib.hid (SG.out.trans sg2)
  clear sg2 SG NR
  go_wp2_with fail
  refine (pick_sg _ _ _ r _ (Sg.start SG2.out.1) (by omega) (by omega) (by omega)).mono ?_
  rintro e w3 ⟨t, rfl, t0, t1, sg3⟩
  have NR3 := Lib.hid (NR2.out.sg sg3 hrB)
  have SG3 := Lib.hid (SG2.out.trans sg3)
  have hr3 := sg3.1.lt
  have hg3 : g < w3.heap.size := (NR3.out.lt g rfl).2
  have hgB : B ≤ w3.heap.size := by omega
  clear sg3 SG2 NR2
  cases e0 : (t == 0)
  · cases e1 : (t == 1)
    · cases e2 : (t == 2)
      · go_wp2
        go_ret
        exact ⟨_, K, RL, rfl, NR3.out, hl4, HSW.out, SG3.out.mono (by omega) (by omega)⟩
      · go_wp2
        go_ret
        exact ⟨_, [], RL, rfl, NR3.out.none, by simp, fun i hi => absurd hi (by simp), SG3.out.mono (by omega) (by omega)⟩
    · have HB0 := Lib.hid (below_alloc0 w3 (.cells #[.string ⟨#[57]⟩, .string ⟨#[122]⟩] 31))
      have HL : Hid (RRow (w3.alloc (.cells #[.string ⟨#[57]⟩, .string ⟨#[122]⟩] 31)) w3.heap.size (.slice (some ⟨w3.heap.size, 0, none⟩) 1 1) [(⟨#[57]⟩, ⟨#[122]⟩)]) := World.ownsRow_lit (base := w3.heap.size) (e := 31) (size := 2) w3 #[.string ⟨#[57]⟩, .string ⟨#[122]⟩] 1 (Nat.le_refl _) (by unfold maxLen; omega) rfl
      have NRA := Lib.hid (NR3.out.on HB0.out)
      obtain ⟨_, d1, _, _⟩ := NRA.out.cells k hk
      obtain ⟨ra, rc, hrv, _, hfw⟩ := (NRA.out.inn k hk).1.form
      rw [hrv] at d1
      have HFW := Lib.hid hfw
      obtain ⟨s1, s2, s3⟩ := HS.out k hk
      have hZ7 : ([((⟨#[57]⟩ : ByteArray), (⟨#[122]⟩ : ByteArray))] ++ M.flst (nF (RL k)) (nT (RL k)) (RL k).length).length ≤ 7 := by rw [flst_nI]; simp; omega
      have SZ7 := Lib.hid (show SmallR 8 ([((⟨#[57]⟩ : ByteArray), (⟨#[122]⟩ : ByteArray))] ++ M.flst (nF (RL k)) (nT (RL k)) (RL k).length) from fun p hp => by
        rw [flst_nI] at hp
        rcases List.mem_append.1 hp with hp | hp
        · rw [List.mem_singleton.1 hp]; exact ⟨by decide, by decide⟩
        · exact s3 p hp)
      clear hfw hrv s1 s3
      go_wp2_with (at_builtin; refine rwpList_append_fws _ rfl _ _ rfl w3.heap.size _ [(⟨#[57]⟩, ⟨#[122]⟩)] rfl HL.out ra (RL k).length rc (nF (RL k)) (nT (RL k)) rfl HFW.out (by simp; omega) (by simp) ?_)
      intro v4 w4 hr4 hg4 ho4
      have B4 := Lib.hid (HB0.out.trans (grown_r hg4 (fun j e => by have e' : some w3.heap.size = some j := e; injection e' with e'; omega) (by simp)))
      have R4 : Hid (RRow w4 w3.heap.size v4 ([((⟨#[57]⟩ : ByteArray), (⟨#[122]⟩ : ByteArray))] ++ M.flst (nF (RL k)) (nT (RL k)) (RL k).length)) := hr4
      have NR3b := NR3
      have S4' := Lib.hid ((Sg.start SG3.out.1).below B4.out)
      have hz4 := B4.out.size
      clear hr4 hg4 ho4 HL NRA d1 HFW
      generalize [((⟨#[57]⟩ : ByteArray), (⟨#[122]⟩ : ByteArray))] ++ M.flst (nF (RL k)) (nT (RL k)) (RL k).length = Z7 at R4 hZ7 SZ7
      go_wp2_with fail
      refine (l6BadRules_sg w3 _ r _ w3.heap.size v4 Z7 S4'.out (by omega) R4.out hr3 (Nat.le_refl _) (by omega) SZ7.out).mono ?_
      rintro e w5 ⟨v5, L5, rfl, R5, l5, S5, sg5⟩
      obtain ⟨r5, c5, hv5, _, _⟩ := R5.form
      subst hv5
      have R5 := Lib.hid R5
      have NR5 := Lib.hid (NR3b.out.sg sg5 hrB)
      have SG5 := Lib.hid (SG3.out.trans sg5)
      obtain ⟨d0, d1, f0, f1⟩ := NR5.out.cells k hk
      have NR6 := Lib.hid (NR5.out.rules k hk _ L5 (R5.out.lower (base' := B) (by omega)) (fun b hb e => by have := (R5.out.lt b hb).1; omega))
      have SG6 := Lib.hid (SG5.out.put ⟨g, k * 2 + 1, none⟩ (.slice r5 L5.length c5) (by show r < g; omega) (by show W.heap.size ≤ g; omega))
      have SM := Lib.hid (HSW.out.rules k K[k].1 (.slice r5 L5.length c5) L5 (HSW.out k hk).1 (by omega) S5)
      have hgl5 : g < w5.heap.size := (NR5.out.lt g rfl).2
      generalize K[k] = P at d0 d1 NR6 SM
      clear sg5 S5 SG5 R4 S4'
      go_wp2
      go_ret
      exact ⟨_, _, _, rfl, NR6.out, by rw [List.length_set]; omega, SM.out, SG6.out.mono (by omega) (by omega)⟩
  · go_wp2_with fail
    refine (of_sg _ [⟨#[]⟩, ⟨#[65]⟩, ⟨#[104, 101, 114, 101]⟩, ⟨#[97]⟩, ⟨#[122]⟩] w3.heap.size _ r _ (Sg.start (SG3.out.1.below (below_alloc0 w3 _))) (by omega) (by decide) (by decide) (by omega) (cells_str [⟨#[]⟩, ⟨#[65]⟩, ⟨#[104, 101, 114, 101]⟩, ⟨#[97]⟩, ⟨#[122]⟩] _ w3)).mono ?_
    rintro e w4 ⟨s, rfl, hm, sg4⟩
    have hs9 := (show ∀ x ∈ [(⟨#[]⟩ : ByteArray), ⟨#[65]⟩, ⟨#[104, 101, 114, 101]⟩, ⟨#[97]⟩, ⟨#[122]⟩], x.size ≤ 30 from by decide) s hm
    have NR4 := Lib.hid ((NR3.out.on (below_alloc0 w3 (.cells #[.string ⟨#[]⟩, .string ⟨#[65]⟩, .string ⟨#[104, 101, 114, 101]⟩, .string ⟨#[97]⟩, .string ⟨#[122]⟩] 9))).sg sg4 hrB)
    have SG4 := Lib.hid ((SG3.out.alloc (.cells #[.string ⟨#[]⟩, .string ⟨#[65]⟩, .string ⟨#[104, 101, 114, 101]⟩, .string ⟨#[97]⟩, .string ⟨#[122]⟩] 9)).trans sg4)
    obtain ⟨d0, d1, f0, f1⟩ := NR4.out.cells k hk
    have NR5 := Lib.hid (NR4.out.name k hk s)
    have SG5 := Lib.hid (SG4.out.put ⟨g, k * 2, none⟩ (.string s) (by show r < g; omega) (by show W.heap.size ≤ g; omega))
    have SM := Lib.hid (HSW.out.name k s K[k].2 hs9)
    have hgl4 : g < w4.heap.size := (NR4.out.lt g rfl).2
    generalize K[k] = P at d0 d1 NR5 SM
    clear sg4 hm
    go_wp2
    go_ret
    exact ⟨_, _, _, rfl, NR5.out, by rw [List.length_set]; omega, SM.out, SG5.out.mono (by omega) (by omega)⟩
def NtsStr2 (w : World) (e : Ending) (w' : World) : Prop := ∃ (v : Value) (s t : ByteArray), e = .returned (.tuple #[v, .string s, .string t]) ∧ s.size ≤ 30 ∧ t.size ≤ 30 ∧ NtsOut w w' v
/-- The same, with the row of offices itself. -/
def NetStr2 (w : World) (e : Ending) (w' : World) : Prop := ∃ (v : Value) (s t : ByteArray) (K : List (ByteArray × Value)) (RL : Nat → List (ByteArray × ByteArray)) (B : Nat), e = .returned (.tuple #[v, .string s, .string t]) ∧ s.size ≤ 30 ∧ t.size ≤ 30 ∧ NetR w' B v K RL ∧ w.heap.size ≤ B ∧ K.length ≤ 8 ∧ SmallN 30 40 K RL ∧ Below w.heap.size w w'
set_option maxHeartbeats 4000000 in
theorem DrawRoutePath_row (a : Option Addr) (l k : Nat) (z : List Int) (w : World) (h : IsRow .u8 w a l k z) :
    Calls Try.prog 21 #[.slice a l k] w (NetStr2 w) := by
  go_enter Try.func21, Try.ntmps21
  go_wp2_with fail
  refine (open_any a l k z w h).mono ?_
  rintro e w1 ⟨r, rfl, rd1, b1, hwr⟩
  have hr1 := rd1.lt
  have B1 := Lib.hid b1
  have RD1 := Lib.hid rd1
  clear b1 rd1 h
  go_wp2_with fail
  refine (l6Net_any _ r _ RD1.out (by omega)).mono ?_
  rintro e w2 ⟨v, K, RL, B, rfl, nr2, hB, k4, k2, sm2, sg2⟩
  have NR2 := Lib.hid nr2
  have SM2 := Lib.hid sm2
  have SG2 := Lib.hid sg2
  clear nr2 sm2 sg2
  go_wp2_with fail
  refine (l6Bad_sg w1 _ r _ B v K RL SG2.out (by omega) NR2.out (by omega) hB (by omega) (by omega) SM2.out).mono ?_
  rintro e w3 ⟨v3, K3, RL3, rfl, nr3, k8, sm3, sg3⟩
  have NR3 := Lib.hid nr3
  have SM3 := Lib.hid sm3
  have SG3 := Lib.hid sg3
  clear nr3 sm3 sg3 NR2 SM2 SG2
  go_wp2_with fail
  refine (of_sg _ [⟨#[97]⟩, ⟨#[97]⟩, ⟨#[98]⟩, ⟨#[97]⟩, ⟨#[99]⟩, ⟨#[122]⟩] w3.heap.size _ r _ (Sg.start (SG3.out.1.below (below_alloc0 w3 _))) (by omega) (by decide) (by decide) (by have := SG3.out.1.lt; omega) (cells_str [⟨#[97]⟩, ⟨#[97]⟩, ⟨#[98]⟩, ⟨#[97]⟩, ⟨#[99]⟩, ⟨#[122]⟩] _ w3)).mono ?_
  rintro e w4 ⟨s, rfl, hm, sg4⟩
  have hs9 := (show ∀ x ∈ [(⟨#[97]⟩ : ByteArray), ⟨#[97]⟩, ⟨#[98]⟩, ⟨#[97]⟩, ⟨#[99]⟩, ⟨#[122]⟩], x.size ≤ 30 from by decide) s hm
  have NR4 := Lib.hid ((NR3.out.on (below_alloc0 w3 (.cells #[.string ⟨#[97]⟩, .string ⟨#[97]⟩, .string ⟨#[98]⟩, .string ⟨#[97]⟩, .string ⟨#[99]⟩, .string ⟨#[122]⟩] 9))).sg sg4 (by omega))
  have SG4 := Lib.hid ((SG3.out.alloc (.cells #[.string ⟨#[97]⟩, .string ⟨#[97]⟩, .string ⟨#[98]⟩, .string ⟨#[97]⟩, .string ⟨#[99]⟩, .string ⟨#[122]⟩] 9)).trans sg4)
  clear NR3 SG3 sg4 hm
  go_wp2_with fail
  refine (l6Head_sg _ _ r _ (Sg.start SG4.out.1) (by omega)).mono ?_
  rintro e w5 ⟨s5, rfl, s50, s51, sg5⟩
  have NR5 := Lib.hid (NR4.out.sg sg5 (by omega))
  have SG5 := Lib.hid (SG4.out.trans sg5)
  clear sg5 NR4 SG4
  go_wp2_with fail
  refine (l1Bad_sg _ _ r _ _ (Sg.start SG5.out.1) (by omega) (by omega) (by omega)).mono ?_
  rintro e w6 ⟨s6, rfl, q0, q1, sg6⟩
  have NR6 := Lib.hid (NR5.out.sg sg6 (by omega))
  have SG6 := Lib.hid (SG5.out.trans sg6)
  clear sg6 NR5 SG5
  have B6 := Lib.hid (B1.out.trans ((SG6.out.below_r hr1).mono hwr))
  go_wp2
  go_ret3
  exact ⟨_, _, _, _, _, B, rfl, hs9, by omega, NR6.out, by omega, k8, SM3.out, B6.out⟩
theorem DrawRoutePath_any (a : Option Addr) (l k : Nat) (z : List Int) (w : World) (h : IsRow .u8 w a l k z) :
    Calls Try.prog 21 #[.slice a l k] w (NtsStr2 w) :=
  (DrawRoutePath_row a l k z w h).mono fun e w' hp => by
    obtain ⟨v, s, t, K, RL, B, he, hs, ht, hn, _, hk, hm, hb⟩ := hp
    exact ⟨v, s, t, he, hs, ht, nts_of hn hk hm hb⟩
set_option maxHeartbeats 1000000 in
theorem DrawHomeOf_any (a : Option Addr) (l k : Nat) (z : List Int) (w : World) (h : IsRow .u8 w a l k z) :
    Calls Try.prog 26 #[.slice a l k] w (NtsStr2 w) := by
  go_enter Try.func26, Try.ntmps26
  go_wp2_with fail
  refine (DrawRoutePath_any a l k z w h).mono ?_
  rintro e w1 ⟨v, s, t, rfl, hs, ht, ho⟩
  have HO := Lib.hid ho
  clear h ho
  go_wp2
  go_ret3
  exact ⟨_, _, _, rfl, hs, ht, HO.out⟩
end Go.Proofs.Ytabmbbnfpfkcaaa

/-
  Paths as rows: their offices, their last one; what the laws of paths ask.
-/
namespace Go.Proofs.Ytabmbbnfpfkcaaa
open Go.RowKit
open Go.PlainAid (bt get_bt bt_nonneg bt_le)
set_option linter.unusedVariables false

theorem lkV_none : lkV none = .tuple #[.string ⟨#[]⟩, .bool false] := rfl
theorem lkV_some (x : ByteArray) : lkV (some x) = .tuple #[.string x, .bool true] := rfl
theorem SRow.ond {w w' : World} {base : Nat} {v : Value} {L : List ByteArray} (h : SRow w base v L) (hb : Below w.heap.size w w') : SRow w' base v L := h.below hb
structure SR (w : World) (base : Nat) (v : Value) (L : List ByteArray) : Prop where
  row : SRow w base v L
theorem SR.on {w w' : World} {base : Nat} {v : Value} {L : List ByteArray} (h : SR w base v L) (hb : Below w.heap.size w w') : SR w' base v L := ⟨h.row.below hb⟩
def PathIs (w : World) (P : List ByteArray) (q : Int) (e : Ending) (w' : World) : Prop := ∃ v, e = .returned (.tuple #[v, .int .i64 q]) ∧ SRow w' w.heap.size v P ∧ Below w.heap.size w w'
theorem M.homeOf_ok {n : Nat} {NM : Nat → ByteArray} {RL : Nat → List (ByteArray × ByteArray)} {start c x : ByteArray} (h : M.homeOf n NM RL start c = some x) : M.routeOk n NM RL start = true ∧ M.code c = true := by
  unfold M.homeOf at h
  split at h
  · rename_i h0
    have hr : (M.routeOk n NM RL start && M.code c) = true := by
      cases hb : (M.routeOk n NM RL start && M.code c)
      · unfold M.routeP at h0
        rw [if_neg (by rw [hb]; decide)] at h0
        exact absurd (show (3 : Int) = 0 from h0) (by decide)
      · rfl
    rw [Bool.and_eq_true] at hr
    exact hr
  · cases h
theorem M.routeOk_name {n : Nat} {NM : Nat → ByteArray} {RL : Nat → List (ByteArray × ByteArray)} {x : ByteArray} (h : M.routeOk n NM RL x = true) : ∃ i, i < n ∧ NM i = x := by
  unfold M.routeOk at h
  rw [Bool.and_eq_true, decide_eq_true_eq] at h
  obtain ⟨i, hi⟩ := Int.eq_ofNat_of_zero_le h.2
  exact ⟨i, rank_is hi⟩
theorem M.home_law {n : Nat} {NM : Nat → ByteArray} {RL : Nat → List (ByteArray × ByteArray)} {start c x : ByteArray} {P : List ByteArray} {q : Int} (h : M.homeOf n NM RL start c = some x) (hR : M.routeP n NM RL start c = (P, q)) (hf : NFits n NM RL) :
    q = 0 ∧ x = M.lastS P ∧ 1 ≤ P.length ∧ P.length ≤ 20 ∧ M.homeOf n NM RL x c = some x ∧ x.size ≤ maxLen := by
  obtain ⟨h0, h1, h2⟩ := M.homeOf_again h
  obtain ⟨i, hi, hix⟩ := M.routeOk_name (M.homeOf_ok h2).1
  have hl := (M.routeP_len n NM RL start c).1 h0
  have h20 := M.routeP_len20 n NM RL start c
  rw [hR] at h0 h1 hl h20
  exact ⟨h0, h1, hl, h20, h2, by rw [← hix]; exact (hf i hi).1⟩
theorem SRow.last {w : World} {base : Nat} {v : Value} {P : List ByteArray} (h : SRow w base v P) {j : Nat} (hj : j + 1 = P.length) : ∃ b k, v = .slice (some ⟨b, 0, none⟩) P.length k ∧ w.cell? ⟨b, j, none⟩ = some (.string (M.lastS P)) := by
  rcases h.cases with ⟨_, hn⟩ | ⟨g, c, rfl, _, _⟩
  · rw [hn] at hj; cases hj
  · refine ⟨g, c, rfl, ?_⟩
    rw [(h.cellAt j (by omega)).1]
    unfold M.lastS
    rw [List.getD_eq_getElem?_getD, show P.length - 1 = j by omega, List.getElem?_eq_getElem (by omega : j < P.length)]
    rfl
theorem SRow.nth {w : World} {base : Nat} {v : Value} {P : List ByteArray} (h : SRow w base v P) {j : Nat} (hj : j < P.length) : ∃ b k, v = .slice (some ⟨b, 0, none⟩) P.length k ∧ w.cell? ⟨b, j, none⟩ = some (.string (P.getD j ⟨#[]⟩)) := by
  rcases h.cases with ⟨_, hn⟩ | ⟨g, c, rfl, _, _⟩
  · rw [hn] at hj; exact absurd hj (by simp)
  · refine ⟨g, c, rfl, ?_⟩
    rw [(h.cellAt j hj).1, List.getD_eq_getElem?_getD, List.getElem?_eq_getElem hj]
    rfl
theorem SRow.tail {w : World} {base b c : Nat} {P : List ByteArray} (h : SRow w base (.slice (some ⟨b, 0, none⟩) P.length c) P) (k : Nat) : Strs w (some ⟨b, k, none⟩) (P.length - k) (sC (P.drop k)) := fun i hi => by
  refine ⟨b, k, rfl, ?_⟩
  rw [(h.cellAt (k + i) (by omega)).1, sC_at (by rw [List.length_drop]; exact hi), List.getElem_drop]
theorem SRow.cap {w : World} {base b c : Nat} {P : List ByteArray} (h : SRow w base (.slice (some ⟨b, 0, none⟩) P.length c) P) : P.length ≤ c := by
  rcases h.cases with ⟨e, _⟩ | ⟨g, c', e, _, _, hc⟩
  · cases e
  · injection e with _ _ e3
    rw [e3]; exact hc
theorem M.routeP_end {n : Nat} {NM : Nat → ByteArray} {RL : Nat → List (ByteArray × ByteArray)} {start c : ByteArray} {P : List ByteArray} {q : Int} (hR : M.routeP n NM RL start c = (P, q)) (hf : NFits n NM RL) (hq : q ≠ 3) :
    M.routeOk n NM RL start = true ∧ M.code c = true ∧ 1 ≤ P.length ∧ P.length ≤ 20 ∧ P.length ≤ n + 1 ∧ ∀ k, k < P.length → (P.getD k ⟨#[]⟩).size ≤ maxLen ∧ (M.routeP n NM RL (P.getD k ⟨#[]⟩) c).2 = q ∧ (q ≠ 2 → (M.routeP n NM RL (P.getD k ⟨#[]⟩) c).1 = P.drop k) := by
  have hr : (M.routeOk n NM RL start && M.code c) = true := by
    cases hb : (M.routeOk n NM RL start && M.code c)
    · unfold M.routeP at hR
      rw [if_neg (by rw [hb]; decide)] at hR
      injection hR with _ h2
      exact absurd h2.symm hq
    · rfl
  rw [Bool.and_eq_true] at hr
  obtain ⟨h1, h2, h3, h4, h5⟩ := M.route_law hr.1 hr.2
  have h20 := M.routeP_len20 n NM RL start c
  rw [hR] at h1 h2 h3 h4 h5 h20
  refine ⟨hr.1, hr.2, h2, h20, h3, fun k hk => ⟨?_, h5 k hk⟩⟩
  have hm : P.getD k ⟨#[]⟩ ∈ P := by
    rw [List.getD_eq_getElem?_getD, List.getElem?_eq_getElem hk]
    exact List.getElem_mem hk
  obtain ⟨i, hi, hix⟩ := h4 _ hm
  rw [← hix]; exact (hf i hi).1
end Go.Proofs.Ytabmbbnfpfkcaaa

/-
  Paths as plain lists: no office twice but the last one of a loop; where each office sends.
-/
namespace Go.Proofs.Ytabmbbnfpfkcaaa
open Go.RowKit
set_option linter.unusedVariables false

theorem M.hasS_not {x : ByteArray} {P : List ByteArray} (h : M.hasS x P = false) : x ∉ P := fun hm => by rw [M.hasS_iff.2 hm] at h; cases h
/-- No office stands twice before the end. -/
theorem M.rt_once (nx : ByteArray → Option ByteArray) : ∀ (f : Nat) (P : List ByteArray) (x : ByteArray) (Q : List ByteArray) (e : Int), M.rt nx f P x = (P ++ Q, e) →
    ∀ i, i < Q.length → (i + 1 < Q.length ∨ e ≠ 2) → Q.getD i ⟨#[]⟩ ∉ P ++ Q.take i
  | 0, P, x, Q, e, h => by
    have h1 : P ++ [x] = P ++ Q := by injection h
    have h2 : (2 : Int) = e := by injection h
    have := List.append_cancel_left h1
    subst this; subst h2
    intro i hi hc
    rcases hc with hc | hc
    · simp at hc
    · exact absurd rfl hc
  | f + 1, P, x, Q, e, h => by
    cases hh : M.hasS x P
    · have one : ∀ z : Int, (P ++ [x], z) = (P ++ Q, e) → ∀ i, i < Q.length → (i + 1 < Q.length ∨ e ≠ 2) → Q.getD i ⟨#[]⟩ ∉ P ++ Q.take i := fun z h => by
        have h1 : P ++ [x] = P ++ Q := by injection h
        have := List.append_cancel_left h1
        subst this
        intro i hi _
        have : i = 0 := by simp at hi; omega
        subst this
        show x ∉ P ++ []
        rw [List.append_nil]
        exact M.hasS_not hh
      cases hn : nx x with
      | none => rw [M.rt_lost hh hn] at h; exact one _ h
      | some y =>
        by_cases hy : y = M.here
        · subst hy
          rw [M.rt_home hh hn] at h; exact one _ h
        · rw [M.rt_next hh hn hy] at h
          obtain ⟨Q', e', h'⟩ := M.rt_app nx f (P ++ [x]) y
          rw [h', List.append_assoc] at h
          injection h with h1 h2
          have h3 := List.append_cancel_left h1
          subst h3; subst h2
          have ih := M.rt_once nx f (P ++ [x]) y (y :: Q') e' h'
          intro i hi hc
          match i, hi, hc with
          | 0, _, _ =>
            show x ∉ P ++ []
            rw [List.append_nil]
            exact M.hasS_not hh
          | i + 1, hi, hc =>
            have := ih i (by simpa using hi) (by rcases hc with hc | hc; exact Or.inl (by simpa using hc); exact Or.inr hc)
            rw [List.append_assoc] at this
            exact this
    · rw [M.rt_loop hh] at h
      injection h with h1 h2
      have := List.append_cancel_left h1
      subst this; subst h2
      intro i hi hc
      rcases hc with hc | hc
      · simp at hc
      · exact absurd rfl hc
/-- How the last office ends a path. -/
theorem M.rt_stop (nx : ByteArray → Option ByteArray) : ∀ (f : Nat) (P : List ByteArray) (x : ByteArray), ((M.rt nx f P x).2 = 0 → nx (M.lastS (M.rt nx f P x).1) = some M.here) ∧ ((M.rt nx f P x).2 = 1 → nx (M.lastS (M.rt nx f P x).1) = none)
  | 0, P, x => ⟨fun h => absurd (show (2 : Int) = 0 from h) (by decide), fun h => absurd (show (2 : Int) = 1 from h) (by decide)⟩
  | f + 1, P, x => by
    cases hh : M.hasS x P
    · cases hn : nx x with
      | none => rw [M.rt_lost hh hn]; exact ⟨fun h => absurd (show (1 : Int) = 0 from h) (by decide), fun _ => by rw [M.lastS_snoc]; exact hn⟩
      | some y =>
        by_cases hy : y = M.here
        · subst hy
          rw [M.rt_home hh hn]; exact ⟨fun _ => by rw [M.lastS_snoc]; exact hn, fun h => absurd (show (0 : Int) = 1 from h) (by decide)⟩
        · rw [M.rt_next hh hn hy]
          exact M.rt_stop nx f _ _
    · rw [M.rt_loop hh]; exact ⟨fun h => absurd (show (2 : Int) = 0 from h) (by decide), fun h => absurd (show (2 : Int) = 1 from h) (by decide)⟩
theorem M.rt_kinds (nx : ByteArray → Option ByteArray) : ∀ (f : Nat) (P : List ByteArray) (x : ByteArray), (M.rt nx f P x).2 = 0 ∨ (M.rt nx f P x).2 = 1 ∨ (M.rt nx f P x).2 = 2
  | 0, P, x => Or.inr (Or.inr rfl)
  | f + 1, P, x => by
    cases hh : M.hasS x P
    · cases hn : nx x with
      | none => rw [M.rt_lost hh hn]; exact Or.inr (Or.inl rfl)
      | some y =>
        by_cases hy : y = M.here
        · subst hy
          rw [M.rt_home hh hn]; exact Or.inl rfl
        · rw [M.rt_next hh hn hy]
          exact M.rt_kinds nx f _ _
    · rw [M.rt_loop hh]; exact Or.inr (Or.inr rfl)
theorem M.lastS_at {P : List ByteArray} {i : Nat} (h : i + 1 = P.length) : M.lastS P = P.getD i ⟨#[]⟩ := by
  unfold M.lastS
  rw [show P.length - 1 = i by omega]
/-- Where the office with a name sends letters, as a string. -/
def M.nxs (NM : Nat → ByteArray) (RL : Nat → List (ByteArray × ByteArray)) (n : Nat) (c x : ByteArray) : ByteArray := (M.nxo NM RL n c x).getD ⟨#[]⟩
/-- All that the law of paths asks. -/
theorem M.route_all {NM : Nat → ByteArray} {RL : Nat → List (ByteArray × ByteArray)} {n : Nat} {start c : ByteArray} {P : List ByteArray} {q : Int} (hR : M.routeP n NM RL start c = (P, q)) (hq : q ≠ 3) :
    1 ≤ P.length ∧ P.length ≤ n + 1 ∧ P.getD 0 ⟨#[]⟩ = start ∧ (q = 0 ∨ q = 1 ∨ q = 2) ∧
    (∀ i, i + 1 < P.length → M.nxs NM RL n c (P.getD i ⟨#[]⟩) = P.getD (i + 1) ⟨#[]⟩) ∧
    (∀ i, i + 1 = P.length → (q = 0 → M.nxs NM RL n c (P.getD i ⟨#[]⟩) = M.here) ∧ (q = 1 → M.nxs NM RL n c (P.getD i ⟨#[]⟩) = ⟨#[]⟩)) ∧
    (∀ i, i < P.length → (P.getD i ⟨#[]⟩ ∈ P.take i ↔ i + 1 = P.length ∧ q = 2)) ∧ (∀ i, i < P.length → ∃ k, k < n ∧ NM k = P.getD i ⟨#[]⟩) ∧ M.net n NM RL = true ∧ M.code c = true := by
  have hr : (M.routeOk n NM RL start && M.code c) = true := by
    cases hb : (M.routeOk n NM RL start && M.code c)
    · unfold M.routeP at hR
      rw [if_neg (by rw [hb]; decide)] at hR
      injection hR with _ h2
      exact absurd h2.symm hq
    · rfl
  rw [Bool.and_eq_true] at hr
  obtain ⟨ho, hc⟩ := hr
  obtain ⟨_, l1, l2, l3, _⟩ := M.route_law ho hc
  rw [M.routeP_yes ho hc] at hR
  rw [M.routeP_yes ho hc] at l1 l2 l3
  rw [hR] at l1 l2 l3
  have ho2 := ho
  unfold M.routeOk at ho2
  rw [Bool.and_eq_true, decide_eq_true_eq] at ho2
  obtain ⟨hnet, hrk⟩ := ho2
  obtain ⟨j, hj⟩ := Int.eq_ofNat_of_zero_le hrk
  have hnx : ∀ x y, M.nxo NM RL n c x = some y → y ≠ M.here → ∃ i, i < n ∧ NM i = y := fun x y h hy => M.nxo_office hnet h hy
  have hE := (M.rt_ends NM n _ hnx (n + 1) [] start ⟨j, rank_is hj⟩ (fun y h => by cases h) (by rw [M.unv_nil]; exact Nat.le_refl _)).1
  have hS := M.rt_stop (M.nxo NM RL n c) (n + 1) [] start
  have hK := M.rt_kinds (M.nxo NM RL n c) (n + 1) [] start
  have hP : M.rt (M.nxo NM RL n c) (n + 1) [] start = ([] ++ P, q) := hR
  have hC := M.rt_chain _ _ _ _ _ _ hP
  have hO := M.rt_once _ _ _ _ _ _ hP
  rw [hP] at hE hS hK
  simp only [List.nil_append] at hE hS hK hO
  refine ⟨l1, l2, hC.1, hK, fun i hi => ?_, fun i hi => ⟨fun h0 => ?_, fun h1 => ?_⟩, fun i hi => ⟨fun hm => ?_, fun hm => ?_⟩, fun i hi => ?_, hnet, hc⟩
  · unfold M.nxs; rw [(hC.2 i hi).1]; rfl
  · unfold M.nxs; rw [← M.lastS_at hi, hS.1 h0]; rfl
  · unfold M.nxs; rw [← M.lastS_at hi, hS.2 h1]; rfl
  · by_cases h1 : i + 1 < P.length
    · exact absurd hm (hO i hi (Or.inl h1))
    · by_cases h2 : q = 2
      · exact ⟨by omega, h2⟩
      · exact absurd hm (hO i hi (Or.inr h2))
  · obtain ⟨h1, h2⟩ := hm
    obtain ⟨R, y, hRy, hy⟩ := hE h2
    have hlen : P.length = R.length + 1 := by rw [hRy]; simp
    have hi2 : i = R.length := by omega
    subst hi2
    rw [hRy, List.take_left, List.getD_eq_getElem?_getD, List.getElem?_append_right (Nat.le_refl _), Nat.sub_self]
    exact hy
  · have : P.getD i ⟨#[]⟩ ∈ P := by
      rw [List.getD_eq_getElem?_getD, List.getElem?_eq_getElem hi]
      exact List.getElem_mem hi
    exact l3 _ this
/-- The rules of the office with a name tell where it sends. -/
theorem M.nxs_at {NM : Nat → ByteArray} {RL : Nat → List (ByteArray × ByteArray)} {n : Nat} {c x : ByteArray} (hnet : M.net n NM RL = true) (hc : M.code c = true) {k : Nat} (hk : k < n) (hx : NM k = x) :
    M.nxs NM RL n c x = (M.lookUp (nF (RL k)) (nT (RL k)) (RL k).length c).getD ⟨#[]⟩ := by
  obtain ⟨_, h2, h3⟩ := M.net_yes hnet
  have hd := (M.nameTo_iff NM n).1 h2
  have hrk : M.rankTo NM x n = (k : Int) := M.rank_hit hk hx fun j hj e => (hd k hk).2.2 j hj (e.trans hx.symm)
  unfold M.nxs
  rw [M.nxo_at hrk, M.lookUp_yes (M.ruleOk_is (h3 k hk)).1 hc]
theorem M.name_one {NM : Nat → ByteArray} {RL : Nat → List (ByteArray × ByteArray)} {n : Nat} (hnet : M.net n NM RL = true) {j k : Nat} (hj : j < n) (hk : k < n) (h : NM j = NM k) : j = k := by
  obtain ⟨_, h2, _⟩ := M.net_yes hnet
  have hd := (M.nameTo_iff NM n).1 h2
  rcases Nat.lt_trichotomy j k with e | e | e
  · exact absurd h ((hd k hk).2.2 j e)
  · exact e
  · exact absurd h.symm ((hd j hj).2.2 k e)
theorem SRow.pre {w : World} {base b c : Nat} {P : List ByteArray} (h : SRow w base (.slice (some ⟨b, 0, none⟩) P.length c) P) {i : Nat} (hi : i ≤ P.length) : SRow w base (.slice (some ⟨b, 0, none⟩) i c) (P.take i) := by
  have hl : (P.take i).length = i := by rw [List.length_take]; omega
  refine ⟨by rw [scells_length, Nat.mul_one], ?_⟩
  rcases h.2 with ⟨e, _⟩ | ⟨g', cap, cur, e, h1, h2, h3, h4, h5, h6⟩
  · cases e
  · injection e with e1 e2 e3
    injection e1 with e1
    injection e1 with e1 _ _
    subst e1; subst e3
    refine Or.inr ⟨b, c, cur, by rw [hl], h1, h2, by rw [hl]; omega, h4, h5, ?_⟩
    rw [hl, Nat.mul_one]
    rw [Nat.mul_one] at h6
    have h7 : (cur.toList.take P.length).take i = (scells P).take i := by rw [h6]
    rw [List.take_take, show min i P.length = i by omega] at h7
    rw [h7]
    simp [scells, List.map_take]
set_option maxHeartbeats 1000000 in
theorem soNext_any (w : World) (a : Option Addr) (n cap : Nat) (F T : Nat → ByteArray) (h : Fws w a n F T) (hf : FFits n F T) (c : ByteArray) (hc : c.size ≤ maxLen) :
    Calls Try.prog 20 #[.slice a n cap, .string c] w fun e w' => e = .returned (.string ((M.lookUp F T n c).getD ⟨#[]⟩)) ∧ Below w.heap.size w w' := by
  have HX := Lib.hid (impl_LookUp w a n cap F T h hf c hc)
  clear h hf
  go_enter Try.func20, Try.ntmps20
  cases hl : M.lookUp F T n c with
  | none =>
    rw [hl] at HX
    go_wp2_with fail
    refine HX.out.mono ?_
    rw [lkV_none]
    rintro e w1 ⟨rfl, k1⟩
    have K1 := Lib.hid k1
    clear k1 hl
    go_wp2
    go_ret
    exact ⟨rfl, K1.out⟩
  | some x =>
    rw [hl] at HX
    go_wp2_with fail
    refine HX.out.mono ?_
    rw [lkV_some]
    rintro e w1 ⟨rfl, k1⟩
    have K1 := Lib.hid k1
    clear k1 hl
    go_wp2
    go_ret
    exact ⟨rfl, K1.out⟩
end Go.Proofs.Ytabmbbnfpfkcaaa
