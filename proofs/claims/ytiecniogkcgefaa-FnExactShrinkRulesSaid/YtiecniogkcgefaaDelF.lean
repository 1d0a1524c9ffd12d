/-
  DeleteFunc of rules, with the closure of ShrinkRules, whatever it decides.
-/
import Derived.Test.YtiecniogkcgefaaDelFM
import Derived.Test.YtiecniogkcgefaaAddR
namespace Go.Proofs.Ytiecniogkcgefaa
open Go.RowKit Go.Maps
open Go.PlainAid (bt get_bt bt_nonneg bt_le)
set_option linter.unusedVariables false

/-- What DeleteFunc leaves in the row that it is given. -/
def rDelRes (w : World) (base : Nat) (s : Option Nat) (L : List (ByteArray × ByteArray)) (e : Ending) (w' : World) : Prop := ∃ v, e = .returned v ∧ RRow w' base v L ∧ w.grownBy w' s ∧ v.ownBlock = s

set_option maxHeartbeats 1000000 in
set_option maxRecDepth 100000 in
theorem rindex_if (w : World) (a : Option Addr) (L : List (ByteArray × ByteArray)) (c : Nat) (h : Fws w a L.length (nF L) (nT L)) (hn : L.length ≤ 1048576) (B : Nat) (d : ByteArray × ByteArray → Bool) (Cl : World → Prop) (hcl : Cl w) (hst : ∀ W W', Cl W → Below W.heap.size W W' → Cl W')
    (hC : ∀ W p, p ∈ L → Cl W → Calls Try.prog 63 #[.agg #[.string p.1, .string p.2], .pointer (some ⟨B, 0, none⟩)] W fun e w' => e = .returned (.bool (d p)) ∧ Below W.heap.size W w') :
    Calls Try.prog 87 #[.slice a L.length c, .func (.func 63) #[] #[.pointer (some ⟨B, 0, none⟩)]] w fun e w' => e = .returned (.int .i64 (M.firstF d L)) ∧ Below w.heap.size w w' := by
  have HL := Lib.hid h
  have HCC := Lib.hid hC
  have HST := Lib.hid hst
  have HCL := Lib.hid hcl
  obtain ⟨N, hN⟩ : ∃ N, L.length = N := ⟨_, rfl⟩
  have HN := Lib.hid hN
  rw [hN] at hn HL ⊢
  clear h hC hst hcl hN
  go_enter Try.func87, Try.ntmps87
  go_wp2
  go_loopw [8] (fun i wr => ∃ k : Nat, k ≤ N ∧ i = .int .i64 k ∧ Hid (∀ j (hj : j < L.length), j < k → d L[j] = false) ∧ Below w.heap.size w wr) (fun i _ => N - (intOf i).toNat)
  case atStart => exact ⟨0, Nat.zero_le _, rfl, fun j _ hj => absurd hj (by omega), Below.refl _ _⟩
  case round =>
    obtain ⟨k, hk, rfl, hall, hb⟩ := hrel
    by_cases hlt : k < N
    · obtain ⟨b, o, rfl, c0, c1⟩ := (HL.out.on hb) k hlt
      have hkL : k < L.length := by rw [HN.out]; exact hlt
      rw [nF_at hkL] at c0
      rw [nT_at hkL] at c1
      have hmem := List.getElem_mem hkL
      have HLK := Lib.hid (show L[k]'hkL = L[k]'hkL from rfl)
      have HCALL : Hid (∀ W : World, Cl W → Calls Try.prog 63 #[.agg #[.string (L[k]'hkL).1, .string (L[k]'hkL).2], .pointer (some ⟨B, 0, none⟩)] W fun e w' => e = .returned (.bool (d (L[k]'hkL))) ∧ Below W.heap.size W w') := fun W hW => HCC.out W _ hmem hW
      have CLX : Hid (Cl wr) := HST.out _ _ HCL.out hb
      have HYES : Hid (d (L[k]'hkL) = true → M.firstF d L = (k : Int)) := fun he => M.firstF_hit hkL he hall.out
      have HNO : Hid (d (L[k]'hkL) = false → ∀ j (hj : j < L.length), j < k + 1 → d L[j] = false) := fun he j hj hjk => by
        by_cases e : j = k
        · subst e; exact he
        · exact hall.out j hj (by omega)
      clear hmem HLK
      generalize L[k]'hkL = P at *
      obtain ⟨f, t⟩ := P
      simp only at c0 c1
      cases he : d (f, t)
      · rw [he] at HCALL
        have HN2 := Lib.hid (HNO.out he)
        clear he HYES HNO
        go_wp2_with (go_at_call 63; refine (HCALL.out _ CLX.out).mono ?_; rintro e w1 ⟨rfl, hb1⟩)
        go_roundw
        case rel => exact ⟨k + 1, by omega, by go_num, HN2, sstep hb hb1⟩
        case measure => simp [intOf]; omega
      · rw [he] at HCALL
        have HE := Lib.hid (HYES.out he)
        clear he HYES HNO
        go_wp2_with (go_at_call 63; refine (HCALL.out _ CLX.out).mono ?_; rintro e w1 ⟨rfl, hb1⟩)
        go_ret
        exact ⟨by rw [HE.out]; rfl, sstep hb hb1⟩
    · obtain rfl : k = N := by omega
      have HE := Lib.hid (M.firstF_miss (d := d) (L := L) fun j hj => hall.out j hj (by rw [← HN.out]; exact hj))
      go_wp2
      go_ret
      exact ⟨by rw [HE.out]; rfl, hb⟩

set_option maxHeartbeats 2000000 in
set_option maxRecDepth 100000 in
theorem rdelete_if (w : World) (base : Nat) (v : Value) (L : List (ByteArray × ByteArray)) (h : RRow w base v L) (hn : L.length ≤ 1048576) (B : Nat) (d : ByteArray × ByteArray → Bool) (Cl : World → Prop) (hcl : Cl w) (hst : ∀ W W', Cl W → Only W W' (fun k => some k = v.ownBlock) → Cl W')
    (hC : ∀ W p, p ∈ L → Cl W → Calls Try.prog 63 #[.agg #[.string p.1, .string p.2], .pointer (some ⟨B, 0, none⟩)] W fun e w' => e = .returned (.bool (d p)) ∧ Below W.heap.size W w') :
    Calls Try.prog 64 #[v, .func (.func 63) #[] #[.pointer (some ⟨B, 0, none⟩)]] w (rDelRes w base v.ownBlock (M.wof d L)) := by
  have HCC := Lib.hid hC
  have HST := Lib.hid hst
  have HCL := Lib.hid hcl
  clear hC hst hcl
  obtain ⟨a, c, hv, hLc, hfw⟩ := h.form
  rcases M.firstF_cases d L with ⟨hr, hno⟩ | ⟨i, hi, hFi, hno, hr⟩
  · have hwo : M.wof d L = L := M.wof_all hno
    rw [hwo]
    have HX := Lib.hid (rindex_if w a L c hfw hn B d Cl HCL.out (fun W W' hc hb => HST.out W W' hc (Only.new hb)) HCC.out)
    rw [hr] at HX
    have HR := Lib.hid h
    subst hv
    clear h hfw hno hr hwo
    go_enter Try.func64, Try.ntmps64
    go_wp2_with fail
    refine HX.out.mono ?_
    rintro e w1 ⟨rfl, hb1⟩
    go_wp2
    go_ret
    exact ⟨_, rfl, HR.out.on hb1, grown_some hb1, rfl⟩
  · rcases h.cases with ⟨_, hnil⟩ | ⟨g, c', hv', hbg, hgl⟩
    · rw [hnil] at hi
      exact absurd hi (by simp)
    · have HX := Lib.hid (rindex_if w a L c hfw hn B d Cl HCL.out (fun W W' hc hb => HST.out W W' hc (Only.new hb)) HCC.out)
      rw [hr] at HX
      rw [hv] at hv'
      injection hv' with e1 _ e3
      subst e1 e3 hv
      have HR : Hid (w.ownsRow base 64 2 (.slice (some ⟨g, 0, none⟩) L.length c) L.length (fcells L)) := h
      have HK := Lib.hid (M.KeptF.start (d := d) (L := L) hi hFi hno)
      clear h hfw hno hr hFi
      obtain ⟨N, hN⟩ : ∃ N, L.length = N := ⟨_, rfl⟩
      have HN := Lib.hid hN
      rw [hN] at hi HX HR hn hLc ⊢
      clear hN
      go_enter Try.func64, Try.ntmps64
      go_wp2_with fail
      refine HX.out.mono ?_
      rintro e w1 ⟨rfl, hb1⟩
      have R1 := Lib.hid (World.ownsRow.kept HR.out (grown_of_below hb1) (Or.inr (by intro e; cases e)))
      have G1 : Hid (w.grownBy w1 (some g)) := grown_some hb1
      have B1 : Hid (Cl w1) := HST.out _ _ HCL.out (Only.new hb1)
      clear hb1 HX HR
      go_wp2
      go_loopw [5, 6, 7] (fun p q _ wr => ∃ (i j : Nat) (A : List (ByteArray × ByteArray)), p = .int .i64 i ∧ q = .int .i64 j ∧ j ≤ N ∧ i < j ∧ Hid (M.KeptF d L A i j) ∧ Hid (wr.ownsRow base 64 2 (.slice (some ⟨g, 0, none⟩) N c) N (fcells A)) ∧ Hid (w.grownBy wr (some g)) ∧ Hid (Cl wr)) (fun _ q _ _ => N - (intOf q).toNat)
      case atStart => exact ⟨i, i + 1, L, rfl, by go_num, by omega, by omega, HK, R1, G1, B1⟩
      case round =>
        obtain ⟨i, j, A, rfl, rfl, hj, hij, hk, hrow, hgr, hBr⟩ := hrel
        have hgw : g < wr.heap.size := (World.ownsRow.lt hrow.out g rfl).2
        by_cases hlt : j < N
        · have hjA : j < A.length := by rw [hk.out.1, HN.out]; exact hlt
          have hp : Hid (L[j]? = some A[j]) := by
            have := hk.out.at (by rw [HN.out]; exact hlt)
            rw [← this]; exact List.getElem?_eq_getElem hjA
          have hat := fcells_at A j hjA
          have c0 : wr.cell? ⟨g, j * 2, none⟩ = some (.string A[j].1) := by rw [World.ownsRow.cellAt hrow.out (j * 2) (by omega)]; exact hat.1
          have c1 : wr.cell? ⟨g, j * 2 + 1, none⟩ = some (.string A[j].2) := by rw [World.ownsRow.cellAt hrow.out (j * 2 + 1) (by omega)]; exact hat.2
          generalize hP : A[j] = P at *
          obtain ⟨f, t⟩ := P
          simp only at c0 c1
          have hiA : i < A.length := by rw [hk.out.1, HN.out]; omega
          clear hat hP
          have hmem : (f, t) ∈ L := List.mem_of_getElem? hp.out
          have HCALL : Hid (∀ W : World, Cl W → Calls Try.prog 63 #[.agg #[.string f, .string t], .pointer (some ⟨B, 0, none⟩)] W fun e w' => e = .returned (.bool (d (f, t))) ∧ Below W.heap.size W w') := fun W hW => HCC.out W (f, t) hmem hW
          have CLX : Hid (Cl (wr.alloc (.cells #[.string f, .string t] 64))) := HST.out _ _ hBr.out (Only.new (below_alloc0 _ _))
          clear hmem
          cases he : d (f, t)
          rotate_left
          · have hd := Lib.hid he
            have HK2 := Lib.hid (hk.out.skip hp.out he)
            clear he
            go_wp2_with (go_at_call 63; refine (HCALL.out _ CLX.out).mono ?_; rw [hd.out]; rintro e w2 ⟨rfl, hb2⟩; have hb3 : Below wr.heap.size wr w2 := (by go_grown : Below wr.heap.size wr _).trans (hb2.mono (by simp)); have R2 := Lib.hid (World.ownsRow.kept hrow.out (grown_of_below hb3) (Or.inr (by intro e; cases e))); have G2 : Hid (w.grownBy w2 (some g)) := grown_row hgr.out (grown_some hb3); have B2 : Hid (Cl w2) := HST.out _ _ hBr.out (Only.new hb3); clear hb2 hb3)
            go_roundw
            case rel =>
              refine ⟨_, _, _, _, _, _, _, _, _, _, _, _, _, _, _, _, _, _, _, _, _, _, _, ⟨i, j + 1, A, rfl, by go_num, by omega, by omega, HK2, R2, G2, B2⟩, rfl⟩
            case measure => simp [intOf]; omega
          · have hd := Lib.hid he
            have HK2 := Lib.hid (hk.out.keep (by rw [HN.out]; exact hlt) hp.out he)
            have hset := Lib.hid (fcells_set A i f t)
            have hatI := fcells_at A i hiA
            have i0 : wr.cell? ⟨g, i * 2, none⟩ = some (.string A[i].1) := by rw [World.ownsRow.cellAt hrow.out (i * 2) (by omega)]; exact hatI.1
            have i1 : wr.cell? ⟨g, i * 2 + 1, none⟩ = some (.string A[i].2) := by rw [World.ownsRow.cellAt hrow.out (i * 2 + 1) (by omega)]; exact hatI.2
            generalize A[i].1 = y0 at i0
            generalize A[i].2 = y1 at i1
            have I0 := Lib.hid i0
            have I1 := Lib.hid i1
            clear he hatI i0 i1
            go_wp2_with (go_at_call 63; go_loud (refine (HCALL.out _ CLX.out).mono ?_; rw [hd.out]; rintro e w2 ⟨rfl, hb2⟩; have q0 : w2.cell? ⟨wr.heap.size, 0, none⟩ = some (.string f) := (by rw [hb2.cell (p := ⟨wr.heap.size, 0, none⟩) (by simp)]; simp); have q1 : w2.cell? ⟨wr.heap.size, 1, none⟩ = some (.string t) := (by rw [hb2.cell (p := ⟨wr.heap.size, 1, none⟩) (by simp)]; simp); have hb3 : Below wr.heap.size wr w2 := (by go_grown : Below wr.heap.size wr _).trans (hb2.mono (by simp)); have R2 := World.ownsRow.kept hrow.out (grown_of_below hb3) (Or.inr (by intro e; cases e)); have G2 : Hid (w.grownBy w2 (some g)) := grown_row hgr.out (grown_some hb3); have B2 : Hid (Cl w2) := HST.out _ _ hBr.out (Only.new hb3); have d0 := (hb3.cell (p := ⟨g, i * 2, none⟩) hgw).trans I0.out; have d1 := (hb3.cell (p := ⟨g, i * 2 + 1, none⟩) hgw).trans I1.out; have f0 := World.ownsRow.frozenAt R2 (i * 2); have f1 := World.ownsRow.frozenAt R2 (i * 2 + 1); obtain ⟨s1, g1⟩ := World.ownsRow.stored R2 (i * 2) (.string f); obtain ⟨s2, g2⟩ := World.ownsRow.stored s1 (i * 2 + 1) (.string t); have G3 := Lib.hid (grown_row (grown_row G2.out g1) g2); rw [hset.out] at s2; have S2 := Lib.hid s2; have B3 : Hid (Cl ((w2.setCell ⟨g, i * 2, none⟩ (.string f)).setCell ⟨g, i * 2 + 1, none⟩ (.string t))) := HST.out _ _ (HST.out _ _ B2.out (Only.set _ ⟨g, i * 2, none⟩ _ (S := fun k => some k = some g) rfl)) (Only.set _ ⟨g, i * 2 + 1, none⟩ _ (S := fun k => some k = some g) rfl); clear hb2 hb3 R2 s1 g1 s2 g2))
            go_roundw
            case rel =>
              refine ⟨_, _, _, _, _, _, _, _, _, _, _, _, _, _, _, _, _, _, _, _, _, _, _, ⟨i + 1, j + 1, A.set i (f, t), by go_num, by go_num, by omega, by omega, HK2, S2, G3, B3⟩, rfl⟩
            case measure => simp [intOf]; omega
        · obtain rfl : j = N := by omega
          have hAl : A.length = j := hk.out.1.trans HN.out
          obtain ⟨w4, hcl, hrow4, hgr4⟩ := rclear_rest wr base g j c i A hrow.out hAl hij
          have hdone := hk.out
          rw [← HN.out] at hdone
          obtain ⟨e1, e2⟩ := hdone.done
          rw [e1] at hrow4
          have R4 := Lib.hid hrow4
          have G4 := Lib.hid (grown_row hgr.out hgr4)
          clear e1 hdone hrow4 hgr4 hk
          go_wp2
          go_ret
          exact ⟨_, rfl, R4.out, G4.out, rfl⟩
end Go.Proofs.Ytiecniogkcgefaa
