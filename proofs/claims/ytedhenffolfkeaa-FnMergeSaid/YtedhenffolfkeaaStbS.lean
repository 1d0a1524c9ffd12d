/-
  sort.SliceStable over a named slice of letters, and SortBatch in the program.
-/
import Derived.Test.YtedhenffolfkeaaStbW
import Derived.Test.YtedhenffolfkeaaPass
import Derived.Lib.ReflectliteSlice
import Derived.Laws.IdiomCopy
import Derived.Test.YtedhenffolfkeaaDrawT
namespace Go.Proofs.Ytedhenffolfkeaa
open Go.RowKit Go.Lib Go.Extern Go.Extern.Rtype
set_option linter.unusedVariables false

section
variable {P : Program}
theorem nk_under (t u e : TypeId) (i j : TypeInfo) (nm : String) (hi : P.info? t = some i) (hd : i.desc = .named nm u) (hj : P.info? u = some j) (w : World) : (under t).run P w = .ok (u, j) w := by
  simp [under, rl_info t i hi, hd, rl_info u j hj, Result.andThen]
theorem nk_kind (t u e : TypeId) (i j : TypeInfo) (nm : String) (hi : P.info? t = some i) (hd : i.desc = .named nm u) (hj : P.info? u = some j) (hs : j.desc = .slice e) (w : World) : (kind t).run P w = .ok 23 w := by
  simp [kind, nk_under t u e i j nm hi hd hj, hs, Result.andThen]
theorem nk_elem (t u e : TypeId) (i j : TypeInfo) (nm : String) (hi : P.info? t = some i) (hd : i.desc = .named nm u) (hj : P.info? u = some j) (hs : j.desc = .slice e) (w : World) : (elem? t).run P w = .ok (some e) w := by
  simp [elem?, nk_under t u e i j nm hi hd hj, hs, Result.andThen]
theorem nk_valueOf (t u e : TypeId) (i j : TypeInfo) (nm : String) (hi : P.info? t = some i) (hd : i.desc = .named nm u) (hj : P.info? u = some j) (hs : j.desc = .slice e) (p : Option Addr) (n c : Nat) (w : World) :
    (ReflectliteValue.unpack (.iface t (.slice p n c))).run P w = .ok (.agg #[typeHandle P t, .pointer (some ⟨w.heap.size, 0, none⟩), .int .u64 151]) (w.alloc (.cells #[.slice p n c] t)) := by
  simp [ReflectliteValue.unpack, ReflectliteValue.mk, newVar, newRow, handle, nk_kind t u e i j nm hi hd hj hs, Result.andThen, Value.cells, ReflectliteValue.flagIndir]
theorem nk_len (t u e : TypeId) (i j : TypeInfo) (nm : String) (hi : P.info? t = some i) (hd : i.desc = .named nm u) (hj : P.info? u = some j) (hs : j.desc = .slice e) (hu : P.underlying t = some (.slice e)) (hpk : P.packed t = false) (a : Addr) (p : Option Addr) (n c : Nat) (w : World) (ha : w.cell? a = some (.slice p n c)) :
    (ReflectliteValue.method (ReflectliteValue.valueError "reflectlite.Value.Len" 0) ReflectliteValue.len #[.agg #[typeHandle P t, .pointer (some a), .int .u64 151]]).run P w = .ok (.int .i64 n) w := by
  rw [rl_method]
  simp only [Sem.run_bind, run_parts t a hpk w, Result.andThen]
  simp [ReflectliteValue.len, nk_under t u e i j nm hi hd hj, hs, loadVar, isAgg, underlying, hu, ha, Builtin.len_, goInt, Result.andThen]
theorem nk_swapper (t u e : TypeId) (i j ie : TypeInfo) (nm : String) (hi : P.info? t = some i) (hd : i.desc = .named nm u) (hj : P.info? u = some j) (hs : j.desc = .slice e) (hie : P.info? e = some ie) (ke : Nat) (hke : ∀ w, (kind e).run P w = .ok ke w)
    (p : Option Addr) (n c : Nat) (f : Nat) (hf : P.funcs.findIdx? (·.name == "internal/reflectlite" ++ ".Swapper$" ++ toString (swapperK n ie ke)) = some f) (w : World) :
    (ReflectliteSwapper.swapper "internal/reflectlite" (ReflectliteValue.valueError "Swapper") #[.iface t (.slice p n c)]).run P w
      = .ok (.func (.func f) #[] (if swapperK n ie ke ≤ 2 then #[] else #[.slice p n c, typeHandle P e])) w := by
  rw [rl_swapper]
  simp only [Sem.run_bind, nk_elem t u e i j nm hi hd hj hs, Result.andThen, rl_info e ie hie, hke, handle, Sem.run_pure]
  change Sem.run P (ReflectliteSwapper.literal "internal/reflectlite" (swapperK n ie ke) (if swapperK n ie ke ≤ 2 then #[] else #[.slice p n c, typeHandle P e])) w = _
  simp at hf
  simp [ReflectliteSwapper.literal, hf, Result.andThen]
end

noncomputable def lrT : TypeInfo := (Try.prog.info? 52).get (by kernel_rfl)
noncomputable def lrU : TypeInfo := (Try.prog.info? 23).get (by kernel_rfl)
noncomputable def lrE : TypeInfo := (Try.prog.info? 29).get (by kernel_rfl)
def namedOf : TypeDesc → Option TypeId
  | .named _ u => some u
  | _ => none
theorem lr_named : ∃ nm, lrT.desc = .named nm 23 := by
  have h : namedOf lrT.desc = some 23 := by kernel_rfl
  cases e : lrT.desc <;> rw [e] at h <;> first | cases h | skip
  exact ⟨_, rfl⟩
theorem lr_k (n : Nat) (h2 : 2 ≤ n) : Lib.swapperK n lrE 25 = 9 := by
  have a : lrE.hasPointers = true := by kernel_rfl
  have b : (lrE.bytes == 8) = false := by kernel_rfl
  have c : (n == 0) = false := by simp; omega
  have d : (n == 1) = false := by simp; omega
  simp [Lib.swapperK, a, c, d] <;> simp_all
/-- The library's swapper exchanges two letters. -/
theorem swap_ok (base g n c : Nat) : SwapOk base g n c 87 #[.slice (some ⟨g, 0, none⟩) n c, typeHandle Try.prog 29] := by
  intro W F h i j hi hj _
  have hx := fun args W => run_callFunc_extern Try.func87 (by kernel_rfl) (by kernel_rfl) (by kernel_rfl) (e := Extern.ReflectliteSwapper.swap false) (by kernel_rfl) args W
  have hsz : lrE.size = 2 := by kernel_rfl
  have cc : ∀ x, x < n → ∀ u v, ([Value.int .i64 (F x).1, Value.string (F x).2] : List Value)[u]? = some v → W.cell? ⟨g, 0 + x * lrE.size + u, none⟩ = some v := fun x hx u v hv => by
    obtain ⟨h1, h2⟩ := h.at hx
    rw [hsz, Nat.zero_add]
    match u, hv with
    | 0, hv => simp at hv; subst hv; exact h1
    | 1, hv => simp at hv; subst hv; exact h2
    | u + 2, hv => simp at hv
  have one : ∀ x, ∀ v ∈ ([Value.int .i64 (F x).1, Value.string (F x).2] : List Value), v.oneCell' = true := fun x v hv => by
    simp at hv
    rcases hv with rfl | rfl <;> rfl
  have hr := run_swap_cells (P := Try.prog) false 29 lrE (by kernel_rfl) (fun _ => by kernel_rfl) g 0 n c i j hi hj [.int .i64 (F i).1, .string (F i).2] [.int .i64 (F j).1, .string (F j).2] hsz.symm hsz.symm (one i) (one j) W (cc i hi) (cc j hj) (fun u _ => h.frozen _) (fun u _ => h.frozen _)
  obtain ⟨r1, r2⟩ := h.swap hi hj
  rw [hsz] at hr
  refine ⟨_, ?_, r1, r2⟩
  rw [hx, show (#[Value.int .i64 (i : Int), Value.int .i64 (j : Int)] ++ #[Value.slice (some ⟨g, 0, none⟩) n c, typeHandle Try.prog 29]) = #[.int .i64 i, .int .i64 j, .slice (some ⟨g, 0, none⟩) n c, typeHandle Try.prog 29] from rfl, hr]
  rfl
/-- Nothing is exchanged where there are no two letters. -/
theorem swap_none (base g n c sf : Nat) (sb : Array Value) (hn : n ≤ 1) : SwapOk base g n c sf sb := fun _ _ _ i j hi hj hne => by omega

set_option maxHeartbeats 2000000 in
set_option maxRecDepth 100000 in
theorem sliceStable_of (base g n c : Nat) (pos : Int × ByteArray → Nat) (W : World) (F : Nat → Int × ByteArray) (h : RF W base g n c F) (hF : ∀ i j, i < j → j < n → pos (F i) < pos (F j)) (hn : n ≤ 60) (f : Nat) (hf : Try.prog.funcs.findIdx? (·.name == "internal/reflectlite" ++ ".Swapper$" ++ toString (swapperK n lrE 25)) = some f)
    (HS : SwapOk base g n c f (if swapperK n lrE 25 ≤ 2 then #[] else #[.slice (some ⟨g, 0, none⟩) n c, typeHandle Try.prog 29])) :
    Calls Try.prog 38 #[.iface 52 (.slice (some ⟨g, 0, none⟩) n c), .func (.func 39) #[.slice (some ⟨g, 0, none⟩) n c] #[]] W (Stabled W base g n c pos F) := by
  obtain ⟨nm, hnm⟩ := lr_named
  have hu : Try.prog.underlying 52 = some (.slice 29) := Try.underlying52
  have hv := nk_valueOf (P := Try.prog) 52 23 29 lrT lrU nm (by kernel_rfl) hnm (by kernel_rfl) (by kernel_rfl) (some ⟨g, 0, none⟩) n c W
  have hs := fun w => nk_swapper (P := Try.prog) 52 23 29 lrT lrU lrE nm (by kernel_rfl) hnm (by kernel_rfl) (by kernel_rfl) (by kernel_rfl) 25 (fun _ => by kernel_rfl) (some ⟨g, 0, none⟩) n c f hf w
  have hl := fun a w ha => nk_len (P := Try.prog) 52 23 29 lrT lrU nm (by kernel_rfl) hnm (by kernel_rfl) (by kernel_rfl) hu (by kernel_rfl) a (some ⟨g, 0, none⟩) n c w ha
  generalize (if swapperK n lrE 25 ≤ 2 then (#[] : Array Value) else #[.slice (some ⟨g, 0, none⟩) n c, typeHandle Try.prog 29]) = B at HS hs
  simp only [typeHandle] at hv hl
  first
    | simp only [show Try.prog.globals.size = 0 by kernel_rfl] at hl
    | simp only [show Try.prog.globals.size = 1 by kernel_rfl] at hl
    | simp only [show Try.prog.globals.size = 2 by kernel_rfl] at hl
    | simp only [show Try.prog.globals.size = 3 by kernel_rfl] at hl
    | simp only [show Try.prog.globals.size = 4 by kernel_rfl] at hl
    | skip
  have HST := Lib.hid (fun W' h' => stable_any base g n c f B HS pos W' F h' hF hn)
  unfold DAT at HST
  have HR := Lib.hid h
  have hg := h.lt
  clear h HS hf hF
  go_enter Try.func38, Try.ntmps38
  go_wp2
  rw [run_callFunc_extern Try.func57 (by kernel_rfl) (by kernel_rfl) (by kernel_rfl) (e := fun args => Extern.ReflectliteValue.unpack (args.getD 0 (.tuple #[]))) (by kernel_rfl),
    show Sem.run Try.prog ((fun args : Array Value => Extern.ReflectliteValue.unpack (args.getD 0 (.tuple #[]))) #[.iface 52 (.slice (some ⟨g, 0, none⟩) n c)]) W = _ from hv]
  simp only [Result.andThen]
  rw [Oper.upon_value]
  go_wp2
  rw [run_callFunc_extern Try.func58 (by kernel_rfl) (by kernel_rfl) (by kernel_rfl) (e := Extern.ReflectliteSwapper.swapper "internal/reflectlite" (Extern.ReflectliteValue.valueError "Swapper")) (by kernel_rfl), hs]
  simp only [Result.andThen]
  rw [Oper.upon_value]
  go_wp2
  rw [run_callFunc_extern Try.func60 (by kernel_rfl) (by kernel_rfl) (by kernel_rfl) (e := Extern.ReflectliteValue.method (Extern.ReflectliteValue.valueError "reflectlite.Value.Len" 0) Extern.ReflectliteValue.len) (by kernel_rfl),
    hl _ _ (by simp)]
  simp only [Result.andThen]
  rw [Oper.upon_value]
  have hb := fun (o1 o2 : Obj) => (sstep (below_alloc0 W o1) (below_alloc0 (W.alloc o1) o2))
  go_wp2_with fail
  refine (HST.out _ (HR.out.on (hb _ _))).mono ?_
  rintro e w' ⟨F', ⟨rfl, r, o⟩, s, t⟩
  go_wp2
  go_end0
  exact ⟨F', ⟨rfl, r, (Only.new (S := fun k => k = g) (hb _ _)).trans o fun _ _ h => h⟩, s, t⟩
/-- **sort.SliceStable sorts letters stably.** -/
theorem sliceStable_any (base g n c : Nat) (pos : Int × ByteArray → Nat) (W : World) (F : Nat → Int × ByteArray) (h : RF W base g n c F) (hF : ∀ i j, i < j → j < n → pos (F i) < pos (F j)) (hn : n ≤ 60) :
    Calls Try.prog 38 #[.iface 52 (.slice (some ⟨g, 0, none⟩) n c), .func (.func 39) #[.slice (some ⟨g, 0, none⟩) n c] #[]] W (Stabled W base g n c pos F) := by
  by_cases h2 : 2 ≤ n
  · have hk := lr_k n h2
    refine sliceStable_of base g n c pos W F h hF hn 87 (by rw [hk]; kernel_rfl) ?_
    rw [hk, if_neg (by decide)]
    exact swap_ok base g n c
  · by_cases h1 : n = 1
    · subst h1
      exact sliceStable_of base g 1 c pos W F h hF hn 80 (by kernel_rfl) (swap_none _ _ _ _ _ _ (by omega))
    · obtain rfl : n = 0 := by omega
      exact sliceStable_of base g 0 c pos W F h hF hn 79 (by kernel_rfl) (swap_none _ _ _ _ _ _ (by omega))

/-- Cells laid into a row of the call's own. -/
theorem owns_setCells {base g n cap : Nat} {e : TypeId} {size : Nat} : ∀ (vs : List Value) (o : Nat) (w : World) (xs : List Value), w.ownsRow base e size (.slice (some ⟨g, 0, none⟩) n cap) n xs → o + vs.length ≤ xs.length →
    (w.setCells g o vs).ownsRow base e size (.slice (some ⟨g, 0, none⟩) n cap) n (xs.take o ++ vs ++ xs.drop (o + vs.length)) ∧ w.grownBy (w.setCells g o vs) (some g)
  | [], o, w, xs, h, _ => by
    refine ⟨?_, World.grownBy.refl _ _⟩
    rw [List.append_nil, show o + ([] : List Value).length = o from rfl, List.take_append_drop]
    exact h
  | v :: r, o, w, xs, h, hl => by
    obtain ⟨h1, g1⟩ := World.ownsRow.stored h o v
    have hl' : o + (r.length + 1) ≤ xs.length := by simpa using hl
    obtain ⟨h2, g2⟩ := owns_setCells r (o + 1) (w.setCell ⟨g, o, none⟩ v) (xs.set o v) h1 (by rw [List.length_set]; omega)
    have e : (xs.set o v).take (o + 1) ++ r ++ (xs.set o v).drop (o + 1 + r.length) = xs.take o ++ (v :: r) ++ xs.drop (o + (v :: r).length) := by
      rw [List.drop_set_of_lt (by omega), List.take_set, List.take_add_one, List.set_append_right _ _ (by simp; omega)]
      have ho : o < xs.length := by omega
      simp [ho, Nat.min_eq_left (Nat.le_of_lt ho), List.append_assoc]
      congr 1
      omega
    rw [e] at h2
    exact ⟨h2, g1.andThen g2 (fun x hx => Or.inr hx)⟩
end Go.Proofs.Ytedhenffolfkeaa

/-
  SortBatch, in the program and in the model: the same stable order.
-/
namespace Go.Proofs.Ytedhenffolfkeaa
open Go.RowKit
set_option linter.unusedVariables false

theorem make_letterRow (n : Nat) (hn : n ≤ 1048576) (w : World) :
    (Instr.makeSlice 52 (.int .i64 (n : Int)) (.int .i64 (n : Int))).run Try.prog w = .ok (.slice (some ⟨w.heap.size, 0, none⟩) n n) (w.alloc (.cells (madeCells #[.int .i64 0, .string ⟨#[]⟩] (n * 2)) 29)) := by
  have hinfo : (Try.prog.info? 29).map (fun i => (i.zero, i.size, i.bytes)) = some (some (.agg #[.int .i64 0, .string ⟨#[]⟩]), 2, 24) := by kernel_rfl
  obtain ⟨i, hi, hzz⟩ := Option.map_eq_some_iff.1 hinfo
  simp only [Prod.mk.injEq] at hzz
  obtain ⟨hz, hs, hb⟩ := hzz
  have hr := run_make (P := Try.prog) w 52 29 i _ Try.underlying52 hi hz .i64 .i64 n n (by omega) (Int.le_refl _) (by rw [hb]; omega) (by omega)
  simp only [Int.toNat_natCast, hs] at hr
  exact hr
/-- A made row holds some cells. -/
theorem made_row (w : World) (n : Nat) (hn : n ≤ 1048576) : ∃ xs, (w.alloc (.cells (madeCells #[.int .i64 0, .string ⟨#[]⟩] (n * 2)) 29)).ownsRow w.heap.size 29 2 (.slice (some ⟨w.heap.size, 0, none⟩) n n) n xs ∧ xs.length = n * 2 := by
  obtain ⟨f, cur, hh, hs, hc⟩ := own_made w n
  refine ⟨cur.toList, ⟨by simpa using hs, Or.inr ⟨w.heap.size, n, cur, rfl, Nat.le_refl _, hh, Nat.le_refl _, by unfold maxLen; omega, hs, ?_⟩⟩, by simpa using hs⟩
  exact List.take_of_length_le (by rw [Array.length_toList]; omega)
theorem run_copy_letters (w : World) (sT ty : TypeId) (base g n : Nat) (xs : List Value) (hrow : w.ownsRow base 29 2 (.slice (some ⟨g, 0, none⟩) n n) n xs) (hx : xs.length = n * 2) (a : Option Addr) (c : Nat) (I : Nat → Int) (C : Nat → ByteArray) (h : Lts w a n I C) :
    (Builtin.copy_ #[52, sT] ty #[.slice (some ⟨g, 0, none⟩) n n, .slice a n c]).run Try.prog w = .ok (goInt n) (w.setCells g 0 (lcells (M.lst I C n))) := by
  have hinfo : (Try.prog.info? 29).map (fun i => i.size) = some 2 := by kernel_rfl
  obtain ⟨i, hi, hsz⟩ := Option.map_eq_some_iff.1 hinfo
  have hu : Try.prog.underlying 52 = some (.slice 29) := Try.underlying52
  have hlen : (lcells (M.lst I C n)).length = n * 2 := by rw [lcells_length, M.lst_length]
  have hone : ∀ v ∈ lcells (M.lst I C n), v.oneCell' = true := fun v hv => by
    obtain ⟨j, hj, rfl⟩ := List.getElem_of_mem hv
    rw [hlen] at hj
    have hq : j / 2 < n := by omega
    obtain ⟨p0, p1⟩ := lcells_lst I C n hq
    have hm : j = j / 2 * 2 ∨ j = j / 2 * 2 + 1 := by omega
    rcases hm with e | e
    · have : (lcells (M.lst I C n))[j]? = some (.int .i64 (I (j / 2))) := by rw [← p0]; congr 1
      rw [(List.getElem?_eq_some_iff.1 this).2]; rfl
    · have : (lcells (M.lst I C n))[j]? = some (.string (C (j / 2))) := by rw [← p1]; congr 1
      rw [(List.getElem?_eq_some_iff.1 this).2]; rfl
  have hst := run_storeCells_cells (P := Try.prog) g 0 (lcells (M.lst I C n)) 0 w (fun j hj => by
    rw [hlen] at hj
    have := World.ownsRow.cellAt hrow j (by omega)
    simp only [Nat.zero_add]
    rw [this]
    rw [List.getElem?_eq_getElem (by omega)]; rfl) (fun j hj => by simp only [Nat.zero_add]; exact World.ownsRow.frozenAt hrow j) hone
  rcases Nat.eq_zero_or_pos n with h0 | h0
  · subst h0
    have hl : ∀ (x : Addr), (loadCells x 0).run Try.prog w = .ok #[] w := fun x => by simpa using run_loadCells_list (P := Try.prog) w x [] (by simp)
    have e : lcells (M.lst I C 0) = [] := rfl
    rw [e] at hst ⊢
    cases a <;> simp [Builtin.copy_, run_underlying hu, Builtin.lenOf, Builtin.firstCells, sizeOf, typeInfo, hi, storeCells, hl, goInt, World.setCells]
  · obtain ⟨b, o, rfl, _⟩ := h 0 h0
    have hsrc : ∀ j v, (lcells (M.lst I C n))[j]? = some v → w.cell? ((⟨b, o, none⟩ : Addr).add j) = some v := fun j v hv => by
      have hj : j < n * 2 := by rw [← hlen]; exact (List.getElem?_eq_some_iff.1 hv).1
      have hadd : (⟨b, o, none⟩ : Addr).add j = ⟨b, o + j, none⟩ := by unfold Addr.add; split <;> simp_all
      rw [hadd]
      obtain ⟨q, hq⟩ : ∃ q, j = q * 2 ∨ j = q * 2 + 1 := ⟨j / 2, by omega⟩
      have hqn : q < n := by omega
      obtain ⟨p0, p1⟩ := lcells_lst I C n hqn
      obtain ⟨b', o', e', c0, c1⟩ := h q hqn
      cases e'
      rcases hq with rfl | rfl
      · rw [p0] at hv
        rw [← hv]; exact c0
      · rw [p1] at hv
        rw [← hv]; exact c1
    have hl := run_loadCells_list (P := Try.prog) w ⟨b, o, none⟩ _ hsrc
    rw [hlen] at hl
    simp [Builtin.copy_, run_underlying hu, Builtin.lenOf, Builtin.firstCells, sizeOf, typeInfo, hi, hsz, hl, hst, goInt]
theorem copied_row (w : World) (base g n : Nat) (xs : List Value) (hrow : w.ownsRow base 29 2 (.slice (some ⟨g, 0, none⟩) n n) n xs) (hx : xs.length = n * 2) (I : Nat → Int) (C : Nat → ByteArray) :
    Row (w.setCells g 0 (lcells (M.lst I C n))) base (.slice (some ⟨g, 0, none⟩) n n) (M.lst I C n) ∧ w.grownBy (w.setCells g 0 (lcells (M.lst I C n))) (some g) := by
  have hlen : (lcells (M.lst I C n)).length = n * 2 := by rw [lcells_length, M.lst_length]
  obtain ⟨h1, g1⟩ := owns_setCells (lcells (M.lst I C n)) 0 w xs hrow (by omega)
  have e : xs.take 0 ++ lcells (M.lst I C n) ++ xs.drop (0 + (lcells (M.lst I C n)).length) = lcells (M.lst I C n) := by
    rw [List.drop_eq_nil_of_le (by omega)]; simp
  rw [e] at h1
  refine ⟨?_, g1⟩
  unfold Row
  rw [M.lst_length]
  exact h1
/-- The letters in their stable order, or none if they are no batch. -/
def M.sortL (n : Nat) (I : Nat → Int) (C : Nat → ByteArray) : List (Int × ByteArray) := if M.batch n I C = true then sortS (M.lst I C n) else []
theorem sortL_yes {n : Nat} {I : Nat → Int} {C : Nat → ByteArray} (h : M.batch n I C = true) : M.sortL n I C = sortS (M.lst I C n) := if_pos h
theorem sortL_no {n : Nat} {I : Nat → Int} {C : Nat → ByteArray} (h : M.batch n I C = false) : M.sortL n I C = [] := if_neg (by rw [h]; decide)
theorem sortL_len (n : Nat) (I : Nat → Int) (C : Nat → ByteArray) : (M.sortL n I C).length ≤ 60 := by
  cases h : M.batch n I C
  · rw [sortL_no h]; exact Nat.zero_le _
  · rw [sortL_yes h, (sortS_perm ((batchL_iff n I C).1 h)).length_eq, M.lst_length]; exact (M.batch_yes h).1
/-- A sorted row of letters. -/
theorem row_sorted {w : World} {base g : Nat} {n c : Nat} {I : Nat → Int} {C : Nat → ByteArray} (h : M.batch n I C = true) {pos : Int × ByteArray → Nat} (hp : (M.lst I C n).Pairwise fun x y => pos x < pos y) {F : Nat → Int × ByteArray} (hr : RF w base g n c F) (hs : Sy.Srt ltL pos F 0 n) (ht : Sy.Stay (fun i => (I i, C i)) F 0 n) : Row w base (.slice (some ⟨g, 0, none⟩) n c) (sortS (M.lst I C n)) := by
  have hb := (batchL_iff n I C).1 h
  have hl := M.lst_length I C n
  have := lf_sorted hb hp (F := F) (by rw [hl]; exact hs) (fun k hk => by
    obtain ⟨j, _, hj, e⟩ := ht k (Nat.zero_le _) (by omega)
    rw [e]
    unfold M.lst
    exact List.mem_map.2 ⟨j, List.mem_range.2 hj, rfl⟩)
  rw [hl] at this
  rw [← this]
  exact hr
set_option maxHeartbeats 2000000 in
set_option maxRecDepth 100000 in
theorem impl_SortBatch (w : World) (a : Option Addr) (n c : Nat) (I : Nat → Int) (C : Nat → ByteArray) (h : Lts w a n I C) (hf : Fits n I C) :
    Calls Try.prog 12 #[.slice a n c] w (RowRes w (M.batch n I C) (M.sortL n I C)) := by
  have HL := Lib.hid h
  have HF := Lib.hid hf
  have HV := Lib.hid (impl_BatchValid w a n c I C h hf)
  clear h hf
  cases hv : M.batch n I C
  · rw [hv] at HV
    have HN := Lib.hid (sortL_no hv)
    clear hv
    go_enter Try.func12, Try.ntmps12
    go_wp2_with fail
    refine HV.out.mono ?_
    rintro e w1 ⟨rfl, b1⟩
    go_wp2
    go_ret2
    exact ⟨_, rfl, by rw [HN.out]; exact Row.nil _ _, b1⟩
  · rw [hv] at HV
    have HY := Lib.hid (sortL_yes hv)
    have HB := Lib.hid hv
    have hn := (M.batch_yes hv).1
    have hn6 : n ≤ 1048576 := by omega
    have hmk := fun w => make_letterRow n hn6 w
    obtain ⟨pos, hpos, hpw⟩ := exists_pos ((batchL_iff n I C).1 hv)
    have HPW := Lib.hid hpw
    have HPO : Hid (∀ i j, i < j → j < n → pos (I i, C i) < pos (I j, C j)) := fun i j hij hj => by
      have := List.pairwise_iff_getElem.1 hpw i j (by rw [M.lst_length]; omega) (by rw [M.lst_length]; exact hj) hij
      rw [lst_get, lst_get] at this
      exact this
    clear hv hpos hpw
    go_enter Try.func12, Try.ntmps12
    go_wp2_with fail
    refine HV.out.mono ?_
    rintro e w1 ⟨rfl, b1⟩
    have K1 := Lib.hid b1
    obtain ⟨xs, hrow, hxs⟩ := made_row w1 n hn6
    have HR := Lib.hid hrow
    have HL1 := Lib.hid ((HL.out.on b1).on (below_alloc0 w1 (.cells (madeCells #[.int .i64 0, .string ⟨#[]⟩] (n * 2)) 29)))
    have K2 := Lib.hid (sstep b1 (below_alloc0 w1 (.cells (madeCells #[.int .i64 0, .string ⟨#[]⟩] (n * 2)) 29)))
    clear hrow b1
    obtain ⟨r2, g2⟩ := copied_row _ _ _ n xs HR.out hxs I C
    obtain ⟨w2, hw2⟩ : ∃ w2, (w1.alloc (.cells (madeCells #[.int .i64 0, .string ⟨#[]⟩] (n * 2)) 29)).setCells w1.heap.size 0 (lcells (M.lst I C n)) = w2 := ⟨_, rfl⟩
    have HCP := Lib.hid (fun sT ty => run_copy_letters _ sT ty w1.heap.size w1.heap.size n xs HR.out hxs a c I C HL1.out)
    rw [hw2] at r2 g2 HCP
    clear hw2
    go_wp2_with fail
    rw [HCP.out]
    simp only [Result.andThen]
    rw [Oper.upon_value]
    have R2 : Hid (RF w2 w1.heap.size w1.heap.size n n (fun i => (I i, C i))) := r2
    have z1 := K1.out.size
    have K3 : Hid (Below w.heap.size w w2) := K2.out.grown g2 K2.out.size (fun q e => by injection e with e; omega)
    clear r2 g2
    go_wp2_with fail
    refine (sliceStable_any w1.heap.size w1.heap.size n n pos w2 _ R2.out HPO.out hn).mono ?_
    rintro e w3 ⟨F', ⟨rfl, r3, o3⟩, s3, t3⟩
    have hr := row_sorted HB.out HPW.out r3 s3 t3
    have K4 : Below w.heap.size w w3 := K3.out.trans (o3.below (B := w.heap.size) (fun k hk _ e => by omega) (by have := K3.out.size; omega))
    go_wp2
    go_ret2
    exact ⟨_, rfl, by rw [HY.out]; exact Row.lower hr z1, K4⟩
end Go.Proofs.Ytedhenffolfkeaa

/-
  l2Sort and SortBatch in the model of the document: passes from the last of some digits to the first.
-/
namespace Go.Proofs.Ytedhenffolfkeaa
open Go.RowKit
set_option linter.unusedVariables false

/-- Passes by some digits, from the last one to the first one. -/
def sortBy (ds : List Nat) (L : List (Int × ByteArray)) : List (Int × ByteArray) := ds.foldr stepS L
theorem sortBy_all (L : List (Int × ByteArray)) : sortBy [0, 1, 2, 3, 4, 5, 6] L = sortS L := rfl
theorem sortBy_drop (ds : List Nat) {j : Nat} (hj : j < ds.length) (L : List (Int × ByteArray)) : sortBy (ds.drop j) L = stepS ds[j] (sortBy (ds.drop (j + 1)) L) := by
  rw [List.drop_eq_getElem_cons hj]; rfl
theorem sortBy_batch {L : List (Int × ByteArray)} (h : BatchL L) : ∀ ds : List Nat, (∀ d ∈ ds, d ≤ 6) → BatchL (sortBy ds L) ∧ (sortBy ds L).Perm L
  | [], _ => ⟨h, List.Perm.refl _⟩
  | d :: ds, hd => by
    obtain ⟨h1, h2⟩ := sortBy_batch h ds (fun x hx => hd x (List.mem_cons_of_mem _ hx))
    obtain ⟨h3, h4⟩ := step_batch h1 (hd d (List.mem_cons_self ..))
    exact ⟨h3, h4.trans h2⟩
/-- Numbers of digits in memory. -/
def Digs (w : World) (a : Option Addr) (ds : List Nat) : Prop := ∀ i (hi : i < ds.length), ∃ b o, a = some ⟨b, o, none⟩ ∧ w.cell? ⟨b, o + i, none⟩ = some (.int .i64 (ds[i] : Nat))
theorem Digs.on {w w' : World} {a : Option Addr} {ds : List Nat} (h : Digs w a ds) (hb : Below w.heap.size w w') : Digs w' a ds := fun i hi => by
  obtain ⟨b, o, e, c⟩ := h i hi
  exact ⟨b, o, e, (hb.cell (p := ⟨b, o + i, none⟩) (World.block_lt_of_cell? _ _ c)).trans c⟩
set_option maxHeartbeats 1000000 in
set_option maxRecDepth 100000 in
theorem spec_l2SortBy (w : World) (a : Option Addr) (n c : Nat) (I : Nat → Int) (C : Nat → ByteArray) (h : Lts w a n I C) (hb : M.batch n I C = true) (ad : Option Addr) (m k : Nat) (ds : List Nat) (hm : ds.length = m) (hm7 : m ≤ 7) (hd6 : ∀ d ∈ ds, d ≤ 6) (hd : Digs w ad ds) :
    Calls Try.prog 41 #[.slice a n c, .slice ad m k] w (RowOut w (sortBy ds (M.lst I C n))) := by
  have HL := Lib.hid h
  have HD := Lib.hid hd
  have hn := (M.batch_yes hb).1
  have HB := Lib.hid ((batchL_iff n I C).1 hb)
  have R0 := Lib.hid (one_row w)
  have HK : Hid (∀ j (hj : j < m), ∃ (q : Nat) (R : List (Int × ByteArray)), q ≤ 6 ∧ sortBy (ds.drop (j + 1)) (M.lst I C n) = R ∧ R.length ≤ 60 ∧ (∀ t, t < R.length → M.code (nC R t) = true) ∧ M.flat (M.bins (nI R) (nC R) q R.length) 10 = sortBy (ds.drop j) (M.lst I C n) ∧ (M.flat (M.bins (nI R) (nC R) q R.length) 10).length ≤ 60 ∧ ∀ W, Below w.heap.size w W → ∃ b o, ad = some ⟨b, o, none⟩ ∧ W.cell? ⟨b, o + j, none⟩ = some (.int .i64 (q : Nat))) := fun j hj => by
    have hj' : j < ds.length := by omega
    have hb1 := sortBy_batch HB.out (ds.drop (j + 1)) (fun d hdd => hd6 d (List.mem_of_mem_drop hdd))
    have hb0 := sortBy_batch HB.out (ds.drop j) (fun d hdd => hd6 d (List.mem_of_mem_drop hdd))
    have e := sortBy_drop ds hj' (M.lst I C n)
    refine ⟨ds[j], _, hd6 _ (List.getElem_mem hj'), rfl, hb1.1.2.2, fun t ht => ((M.batch_yes ((batchL_list _).2 hb1.1)).2 t ht).1, e.symm, ?_, fun W hW => ?_⟩
    · have := hb0.1.2.2
      rw [e] at this
      exact this
    · exact (HD.out.on hW) j hj'
  have HM := Lib.hid hm
  have h1 : 1 ≤ 60 := by omega
  clear h hd hb hd6 hm h1
  go_enter Try.func41, Try.ntmps41
  go_wp2_with (at_builtin; refine wpList_append_lts _ rfl _ _ rfl w.heap.size (.slice (some ⟨w.heap.size, 0, none⟩) 0 0) [] rfl R0.out a n c I C rfl (HL.out.on (below_alloc0 w _)) (by simp; omega) (by simp) ?_)
  intro v1 w1 r1 gr1 ho1
  try rw [List.nil_append] at r1
  have R1 := Lib.hid r1
  have B1 : Hid (Below w.heap.size w w1) := (below_alloc0 w _).grown gr1 (by simp) (fun q e => by have := (R0.out.lt q e).1; omega)
  clear r1 gr1 ho1
  go_wp2
  go_loopw [5, 6] (fun v i wr => ∃ (j : Nat), j ≤ m ∧ i = .int .i64 ((j : Int) - 1) ∧ Hid (Row wr w.heap.size v (sortBy (ds.drop j) (M.lst I C n))) ∧ Hid (Below w.heap.size w wr)) (fun _ i _ => (intOf i + 1).toNat)
  case atStart => exact ⟨m, Nat.le_refl _, rfl, by rw [Hid, ← HM.out, List.drop_length]; exact R1.out, B1⟩
  case round =>
    obtain ⟨j, hj, rfl, hr, hbw⟩ := hrel
    cases j with
    | zero =>
      go_wp2
      go_ret
      exact ⟨_, rfl, hr.out, hbw.out⟩
    | succ j =>
      have e1 : (((j + 1 : Nat) : Int) - 1) = (j : Int) := by omega
      rw [e1]
      obtain ⟨q, R, hq, hR, k60, hcode, hnext, hlen, hcell⟩ := HK.out j (by omega)
      obtain ⟨bb, oo, rfl, c0⟩ := hcell wr hbw.out
      rw [hR] at hr
      have hz := hbw.out.size
      obtain ⟨a2, c2, rfl, _, hl2⟩ := hr.out.form
      have HL2 := Lib.hid hl2
      have HCO := Lib.hid hcode
      have HNX := Lib.hid hnext
      have HLN := Lib.hid hlen
      have s1 : IntKind.i64.wrap ((j : Int) - 1) = (j : Int) - 1 := IntWalk.i64_in _ (by omega)
      have j0 : (0 : Int) ≤ (j : Int) := by omega
      have j7 : (j : Int) < m := by omega
      have HSB := Lib.hid (fun (W : World) hl => spec_l2Bins W a2 R.length c2 (nI R) (nC R) hl HCO.out (by omega) q hq)
      obtain ⟨M10, hM⟩ : ∃ M10, M.bins (nI R) (nC R) q R.length = M10 := ⟨_, rfl⟩
      rw [hM] at HSB HNX HLN
      obtain ⟨mm, hmm⟩ : ∃ mm, R.length = mm := ⟨_, rfl⟩
      rw [hmm] at HSB HL2 k60 ⊢
      clear hcode hl2 hmm hM hnext hlen hcell hR hr
      go_wp2_with fail
      refine (HSB.out _ HL2.out).mono ?_
      rintro e w2 ⟨G, cc, V, rfl, hmat, b2⟩
      have HMT := Lib.hid hmat
      have K2 := Lib.hid (sstep hbw.out b2)
      clear hmat b2
      go_wp2_with fail
      refine (spec_l2Collect _ _ _ 10 V _ HMT.out (by omega) (by have := HLN.out; omega)).mono ?_
      rintro e w3 ⟨v3, rfl, r3, b3⟩
      rw [HNX.out] at r3
      have R3 := Lib.hid (r3.lower K2.out.size)
      have K3 := Lib.hid (sstep K2.out b3)
      clear r3 b3
      go_wp2
      go_roundw
      case rel => exact ⟨j, by omega, by go_num, R3, K3⟩
      case measure => first | (simp [intOf]; done) | (simp [intOf]; omega)
set_option maxHeartbeats 1000000 in
set_option maxRecDepth 100000 in
theorem spec_SortBatch_all (w : World) (a : Option Addr) (n c : Nat) (I : Nat → Int) (C : Nat → ByteArray) (h : Lts w a n I C) (hf : Fits n I C) (hn : n ≤ 1048576) :
    Calls Try.prog 13 #[.slice a n c] w (RowRes w (M.batch n I C) (M.sortL n I C)) := by
  have HL := Lib.hid h
  have HV := Lib.hid (spec_BatchValid w a n c I C h hf hn)
  clear h hf
  cases hb : M.batch n I C
  · rw [hb] at HV
    have HN := Lib.hid (sortL_no hb)
    clear hb
    go_enter Try.func13, Try.ntmps13
    go_wp2_with fail
    refine HV.out.mono ?_
    rintro e w1 ⟨rfl, b1⟩
    have hz := b1.size
    have ro := (one_row w1).lower hz
    go_wp2
    go_ret2
    exact ⟨_, rfl, by rw [HN.out]; exact ro, by go_grown⟩
  · have HB := Lib.hid hb
    have HY := Lib.hid (sortL_yes hb)
    rw [hb] at HV
    clear hb
    go_enter Try.func13, Try.ntmps13
    go_wp2_with fail
    refine HV.out.mono ?_
    rintro e w1 ⟨rfl, b1⟩
    have HL2 := Lib.hid ((HL.out.on b1).on (below_alloc0 w1 (.cells #[.int .i64 0, .int .i64 1, .int .i64 2, .int .i64 3, .int .i64 4, .int .i64 5, .int .i64 6] 3)))
    have B2 := Lib.hid (sstep b1 (below_alloc0 w1 (.cells #[.int .i64 0, .int .i64 1, .int .i64 2, .int .i64 3, .int .i64 4, .int .i64 5, .int .i64 6] 3)))
    clear b1
    go_wp2_with fail
    refine (spec_l2SortBy _ a n c I C HL2.out HB.out _ 7 _ [0, 1, 2, 3, 4, 5, 6] rfl (by omega) (by intro d hd; simp at hd; omega) ?_).mono ?_
    · intro i hi
      refine ⟨_, 0, rfl, ?_⟩
      match i, hi with
      | 0, _ => simp [go_sem]
      | 1, _ => simp [go_sem]
      | 2, _ => simp [go_sem]
      | 3, _ => simp [go_sem]
      | 4, _ => simp [go_sem]
      | 5, _ => simp [go_sem]
      | 6, _ => simp [go_sem]
    · rintro e w3 ⟨v3, rfl, r3, b3⟩
      rw [sortBy_all] at r3
      have R3 := Lib.hid (r3.lower B2.out.size)
      have B3 := Lib.hid (sstep B2.out b3)
      clear r3 b3
      go_wp2
      go_ret2
      exact ⟨_, rfl, by rw [HY.out]; exact R3.out, B3.out⟩
end Go.Proofs.Ytedhenffolfkeaa
