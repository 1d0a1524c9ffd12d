/-
  sort.SliceStable over a named slice of letters, and SortBatch in the program.
-/
import Derived.Test.YtekfjheaffkakaaStbD
import Derived.Test.YtekfjheaffkakaaMgR11
import Derived.Lib.ReflectliteSlice
import Derived.Laws.IdiomCopy
namespace Go.Proofs.Ytekfjheaffkakaa
open Go.RowKit Go.Lib Go.Extern Go.Extern.Rtype
set_option linter.unusedVariables false

section
variable {P : Program}
theorem nk_under (t u e : TypeId) (i j : TypeInfo) (nm : String) (hi : P.info? t = some i) (hd : i.desc = .named nm u) (hj : P.info? u = some j) (w : World) : (under t).run P w = .ok (u, j) w := by
  simp [under, rl_info t i hi, hd, rl_info u j hj, Result.andThen]
theorem nk_kind (t u e : TypeId) (i j : TypeInfo) (nm : String) (hi : P.info? t = some i) (hd : i.desc = .named nm u) (hj : P.info? u = some j) (hs : j.desc = .slice e) (w : World) : (kind t).run P w = .ok 23 w := by
  simp [kind, nk_under t u e i j nm hi hd hj, hs, Result.andThen]
theorem nk_elem (t u e : TypeId) (i j : TypeInfo) (nm : String) (hi : P.info? t = some i) (hd : i.desc = .named nm u) (hj : P.info? u = some j) (hs : j.desc = .slice e) (w : World) : (elem? t).run P w = .ok (some e) w := by
  simp [elem?, nk_under t u e i j nm hi hd hj, hs, Result.andThen]
theorem nk_valueOf (t u e : TypeId) (i j : TypeInfo) (nm : String) (hi : P.info? t = some i) (hd : i.desc = .named nm u) (hj : P.info? u = some j) (hs : j.desc = .slice e) (p : Option Addr) (n c : Nat) (w : World) :
    (ReflectliteValue.unpack (.iface t (.slice p n c))).run P w = .ok (.agg #[typeHandle P t, .pointer (some ⟨w.heap.size, 0, none⟩), .int .u64 151]) (w.alloc (.cells #[.slice p n c] t)) := by
  simp [ReflectliteValue.unpack, ReflectliteValue.mk, newVar, newRow, handle, nk_kind t u e i j nm hi hd hj hs, Result.andThen, Value.cells, ReflectliteValue.flagIndir]
theorem nk_len (t u e : TypeId) (i j : TypeInfo) (nm : String) (hi : P.info? t = some i) (hd : i.desc = .named nm u) (hj : P.info? u = some j) (hs : j.desc = .slice e) (hu : P.underlying t = some (.slice e)) (hpk : P.packed t = false) (a : Addr) (p : Option Addr) (n c : Nat) (w : World) (ha : w.cell? a = some (.slice p n c)) :
    (ReflectliteValue.method (ReflectliteValue.valueError "reflectlite.Value.Len" 0) ReflectliteValue.len #[.agg #[typeHandle P t, .pointer (some a), .int .u64 151]]).run P w = .ok (.int .i64 n) w := by
  rw [rl_method]
  simp only [Sem.run_bind, run_parts t a hpk w, Result.andThen]
  simp [ReflectliteValue.len, nk_under t u e i j nm hi hd hj, hs, loadVar, isAgg, underlying, hu, ha, Builtin.len_, goInt, Result.andThen]
theorem nk_swapper (t u e : TypeId) (i j ie : TypeInfo) (nm : String) (hi : P.info? t = some i) (hd : i.desc = .named nm u) (hj : P.info? u = some j) (hs : j.desc = .slice e) (hie : P.info? e = some ie) (ke : Nat) (hke : ∀ w, (kind e).run P w = .ok ke w)
    (p : Option Addr) (n c : Nat) (f : Nat) (hf : P.funcs.findIdx? (·.name == "internal/reflectlite" ++ ".Swapper$" ++ toString (swapperK n ie ke)) = some f) (w : World) :
    (ReflectliteSwapper.swapper "internal/reflectlite" (ReflectliteValue.valueError "Swapper") #[.iface t (.slice p n c)]).run P w
      = .ok (.func (.func f) #[] (if swapperK n ie ke ≤ 2 then #[] else #[.slice p n c, typeHandle P e])) w := by
  rw [rl_swapper]
  simp only [Sem.run_bind, nk_elem t u e i j nm hi hd hj hs, Result.andThen, rl_info e ie hie, hke, handle, Sem.run_pure]
  change Sem.run P (ReflectliteSwapper.literal "internal/reflectlite" (swapperK n ie ke) (if swapperK n ie ke ≤ 2 then #[] else #[.slice p n c, typeHandle P e])) w = _
  simp at hf
  simp [ReflectliteSwapper.literal, hf, Result.andThen]
end

noncomputable def lrT : TypeInfo := (Try.prog.info? 67).get (by kernel_rfl)
noncomputable def lrU : TypeInfo := (Try.prog.info? 26).get (by kernel_rfl)
noncomputable def lrE : TypeInfo := (Try.prog.info? 33).get (by kernel_rfl)
def namedOf : TypeDesc → Option TypeId
  | .named _ u => some u
  | _ => none
theorem lr_named : ∃ nm, lrT.desc = .named nm 26 := by
  have h : namedOf lrT.desc = some 26 := by kernel_rfl
  cases e : lrT.desc <;> rw [e] at h <;> first | cases h | skip
  exact ⟨_, rfl⟩
theorem lr_k (n : Nat) (h2 : 2 ≤ n) : Lib.swapperK n lrE 25 = 9 := by
  have a : lrE.hasPointers = true := by kernel_rfl
  have b : (lrE.bytes == 8) = false := by kernel_rfl
  have c : (n == 0) = false := by simp; omega
  have d : (n == 1) = false := by simp; omega
  simp [Lib.swapperK, a, c, d] <;> simp_all
/-- The library's swapper exchanges two letters. -/
theorem swap_ok (base g n c : Nat) : SwapOk base g n c 65 #[.slice (some ⟨g, 0, none⟩) n c, typeHandle Try.prog 33] := by
  intro W F h i j hi hj _
  have hx := fun args W => run_callFunc_extern Try.func65 (by kernel_rfl) (by kernel_rfl) (by kernel_rfl) (e := Extern.ReflectliteSwapper.swap false) (by kernel_rfl) args W
  have hsz : lrE.size = 2 := by kernel_rfl
  have cc : ∀ x, x < n → ∀ u v, ([Value.int .i64 (F x).1, Value.string (F x).2] : List Value)[u]? = some v → W.cell? ⟨g, 0 + x * lrE.size + u, none⟩ = some v := fun x hx u v hv => by
    obtain ⟨h1, h2⟩ := h.at hx
    rw [hsz, Nat.zero_add]
    match u, hv with
    | 0, hv => simp at hv; subst hv; exact h1
    | 1, hv => simp at hv; subst hv; exact h2
    | u + 2, hv => simp at hv
  have one : ∀ x, ∀ v ∈ ([Value.int .i64 (F x).1, Value.string (F x).2] : List Value), v.oneCell' = true := fun x v hv => by
    simp at hv
    rcases hv with rfl | rfl <;> rfl
  have hr := run_swap_cells (P := Try.prog) false 33 lrE (by kernel_rfl) (fun _ => by kernel_rfl) g 0 n c i j hi hj [.int .i64 (F i).1, .string (F i).2] [.int .i64 (F j).1, .string (F j).2] hsz.symm hsz.symm (one i) (one j) W (cc i hi) (cc j hj) (fun u _ => h.frozen _) (fun u _ => h.frozen _)
  obtain ⟨r1, r2⟩ := h.swap hi hj
  rw [hsz] at hr
  refine ⟨_, ?_, r1, r2⟩
  rw [hx, show (#[Value.int .i64 (i : Int), Value.int .i64 (j : Int)] ++ #[Value.slice (some ⟨g, 0, none⟩) n c, typeHandle Try.prog 33]) = #[.int .i64 i, .int .i64 j, .slice (some ⟨g, 0, none⟩) n c, typeHandle Try.prog 33] from rfl, hr]
  rfl
/-- Nothing is exchanged where there are no two letters. -/
theorem swap_none (base g n c sf : Nat) (sb : Array Value) (hn : n ≤ 1) : SwapOk base g n c sf sb := fun _ _ _ i j hi hj hne => by omega

set_option maxHeartbeats 2000000 in
set_option maxRecDepth 100000 in
theorem sliceStable_of (base g n c : Nat) (pos : Int × ByteArray → Nat) (W : World) (F : Nat → Int × ByteArray) (h : RF W base g n c F) (hF : ∀ i j, i < j → j < n → pos (F i) < pos (F j)) (hn : n ≤ 60) (f : Nat) (hf : Try.prog.funcs.findIdx? (·.name == "internal/reflectlite" ++ ".Swapper$" ++ toString (swapperK n lrE 25)) = some f)
    (HS : SwapOk base g n c f (if swapperK n lrE 25 ≤ 2 then #[] else #[.slice (some ⟨g, 0, none⟩) n c, typeHandle Try.prog 33])) :
    Calls Try.prog 34 #[.iface 67 (.slice (some ⟨g, 0, none⟩) n c), .func (.func 35) #[.slice (some ⟨g, 0, none⟩) n c] #[]] W (Stabled W base g n c pos F) := by
  obtain ⟨nm, hnm⟩ := lr_named
  have hu : Try.prog.underlying 67 = some (.slice 33) := Try.underlying67
  have hv := nk_valueOf (P := Try.prog) 67 26 33 lrT lrU nm (by kernel_rfl) hnm (by kernel_rfl) (by kernel_rfl) (some ⟨g, 0, none⟩) n c W
  have hs := fun w => nk_swapper (P := Try.prog) 67 26 33 lrT lrU lrE nm (by kernel_rfl) hnm (by kernel_rfl) (by kernel_rfl) (by kernel_rfl) 25 (fun _ => by kernel_rfl) (some ⟨g, 0, none⟩) n c f hf w
  have hl := fun a w ha => nk_len (P := Try.prog) 67 26 33 lrT lrU nm (by kernel_rfl) hnm (by kernel_rfl) (by kernel_rfl) hu (by kernel_rfl) a (some ⟨g, 0, none⟩) n c w ha
  generalize (if swapperK n lrE 25 ≤ 2 then (#[] : Array Value) else #[.slice (some ⟨g, 0, none⟩) n c, typeHandle Try.prog 33]) = B at HS hs
  simp only [typeHandle] at hv hl
  first
    | simp only [show Try.prog.globals.size = 0 by kernel_rfl] at hl
    | simp only [show Try.prog.globals.size = 1 by kernel_rfl] at hl
    | simp only [show Try.prog.globals.size = 2 by kernel_rfl] at hl
    | simp only [show Try.prog.globals.size = 3 by kernel_rfl] at hl
    | simp only [show Try.prog.globals.size = 4 by kernel_rfl] at hl
    | skip
  have HST := Lib.hid (fun W' h' => stable_any base g n c f B HS pos W' F h' hF hn)
  unfold DAT at HST
  have HR := Lib.hid h
  have hg := h.lt
  clear h HS hf hF
  go_enter Try.func34, Try.ntmps34
  go_wp2
  rw [run_callFunc_extern Try.func50 (by kernel_rfl) (by kernel_rfl) (by kernel_rfl) (e := fun args => Extern.ReflectliteValue.unpack (args.getD 0 (.tuple #[]))) (by kernel_rfl),
    show Sem.run Try.prog ((fun args : Array Value => Extern.ReflectliteValue.unpack (args.getD 0 (.tuple #[]))) #[.iface 67 (.slice (some ⟨g, 0, none⟩) n c)]) W = _ from hv]
  simp only [Result.andThen]
  rw [Oper.upon_value]
  go_wp2
  rw [run_callFunc_extern Try.func51 (by kernel_rfl) (by kernel_rfl) (by kernel_rfl) (e := Extern.ReflectliteSwapper.swapper "internal/reflectlite" (Extern.ReflectliteValue.valueError "Swapper")) (by kernel_rfl), hs]
  simp only [Result.andThen]
  rw [Oper.upon_value]
  go_wp2
  rw [run_callFunc_extern Try.func53 (by kernel_rfl) (by kernel_rfl) (by kernel_rfl) (e := Extern.ReflectliteValue.method (Extern.ReflectliteValue.valueError "reflectlite.Value.Len" 0) Extern.ReflectliteValue.len) (by kernel_rfl),
    hl _ _ (by simp)]
  simp only [Result.andThen]
  rw [Oper.upon_value]
  have hb := fun (o1 o2 : Obj) => (sstep (below_alloc0 W o1) (below_alloc0 (W.alloc o1) o2))
  go_wp2_with fail
  refine (HST.out _ (HR.out.on (hb _ _))).mono ?_
  rintro e w' ⟨F', ⟨rfl, r, o⟩, s, t⟩
  go_wp2
  go_end0
  exact ⟨F', ⟨rfl, r, (Only.new (S := fun k => k = g) (hb _ _)).trans o fun _ _ h => h⟩, s, t⟩
/-- **sort.SliceStable sorts letters stably.** -/
theorem sliceStable_any (base g n c : Nat) (pos : Int × ByteArray → Nat) (W : World) (F : Nat → Int × ByteArray) (h : RF W base g n c F) (hF : ∀ i j, i < j → j < n → pos (F i) < pos (F j)) (hn : n ≤ 60) :
    Calls Try.prog 34 #[.iface 67 (.slice (some ⟨g, 0, none⟩) n c), .func (.func 35) #[.slice (some ⟨g, 0, none⟩) n c] #[]] W (Stabled W base g n c pos F) := by
  by_cases h2 : 2 ≤ n
  · have hk := lr_k n h2
    refine sliceStable_of base g n c pos W F h hF hn 65 (by rw [hk]; kernel_rfl) ?_
    rw [hk, if_neg (by decide)]
    exact swap_ok base g n c
  · by_cases h1 : n = 1
    · subst h1
      exact sliceStable_of base g 1 c pos W F h hF hn 58 (by kernel_rfl) (swap_none _ _ _ _ _ _ (by omega))
    · obtain rfl : n = 0 := by omega
      exact sliceStable_of base g 0 c pos W F h hF hn 57 (by kernel_rfl) (swap_none _ _ _ _ _ _ (by omega))

/-- Cells laid into a row of the call's own. -/
theorem owns_setCells {base g n cap : Nat} {e : TypeId} {size : Nat} : ∀ (vs : List Value) (o : Nat) (w : World) (xs : List Value), w.ownsRow base e size (.slice (some ⟨g, 0, none⟩) n cap) n xs → o + vs.length ≤ xs.length →
    (w.setCells g o vs).ownsRow base e size (.slice (some ⟨g, 0, none⟩) n cap) n (xs.take o ++ vs ++ xs.drop (o + vs.length)) ∧ w.grownBy (w.setCells g o vs) (some g)
  | [], o, w, xs, h, _ => by
    refine ⟨?_, World.grownBy.refl _ _⟩
    rw [List.append_nil, show o + ([] : List Value).length = o from rfl, List.take_append_drop]
    exact h
  | v :: r, o, w, xs, h, hl => by
    obtain ⟨h1, g1⟩ := World.ownsRow.stored h o v
    have hl' : o + (r.length + 1) ≤ xs.length := by simpa using hl
    obtain ⟨h2, g2⟩ := owns_setCells r (o + 1) (w.setCell ⟨g, o, none⟩ v) (xs.set o v) h1 (by rw [List.length_set]; omega)
    have e : (xs.set o v).take (o + 1) ++ r ++ (xs.set o v).drop (o + 1 + r.length) = xs.take o ++ (v :: r) ++ xs.drop (o + (v :: r).length) := by
      rw [List.drop_set_of_lt (by omega), List.take_set, List.take_add_one, List.set_append_right _ _ (by simp; omega)]
      have ho : o < xs.length := by omega
      simp [ho, Nat.min_eq_left (Nat.le_of_lt ho), List.append_assoc]
      congr 1
      omega
    rw [e] at h2
    exact ⟨h2, g1.andThen g2 (fun x hx => Or.inr hx)⟩
end Go.Proofs.Ytekfjheaffkakaa
