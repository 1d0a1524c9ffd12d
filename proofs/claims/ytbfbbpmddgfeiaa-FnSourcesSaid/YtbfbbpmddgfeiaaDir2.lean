/-
  Direct orders and sources, in the program.
-/
import Derived.Test.YtbfbbpmddgfeiaaSortF
namespace Go.Proofs.Ytbfbbpmddgfeiaa
open Go.RowKit Go.Maps
open Go.PlainAid (bt get_bt bt_nonneg bt_le)
set_option linter.unusedVariables false

/-- A row of orders lies in no block of a book. -/
theorem FRow.offBook {w : World} {base base' g n : Nat} {v : Value} {L : List (ByteArray × ByteArray)} {f : ByteArray → Option Nat} {nx : ByteArray → Option ByteArray} (h : FRow w base v L) (hB : Book w base' g n f nx) {k : Nat} (hv : v.ownBlock = some k) : k ≠ g ∧ ∀ c b, f c = some b → b ≠ k := by
  rcases h.2 with ⟨rfl, _⟩ | ⟨g', cap, cur, rfl, _, hg', _⟩
  · simp [Value.ownBlock] at hv
  · have e : g' = k := Option.some.inj hv
    subst e
    refine ⟨fun e => ?_, fun c b hb e => ?_⟩
    · obtain ⟨_, ⟨D, ⟨es, clock, hm, _⟩, _⟩, _⟩ := hB
      rw [← e, hg'] at hm
      cases Option.some.inj hm
    · obtain ⟨_, _, _, _, ca, hca⟩ := hB.node hb
      rw [e, hg'] at hca
      have h2 := Option.some.inj hca
      injection h2 with _ h3
      exact absurd h3 (by decide)
theorem Book.fgrown {w w' : World} {base base' g n : Nat} {v : Value} {L : List (ByteArray × ByteArray)} {f : ByteArray → Option Nat} {nx : ByteArray → Option ByteArray} (h : Book w base g n f nx) (hr : FRow w base' v L) (hg : w.grownBy w' v.ownBlock) : Book w' base g n f nx := h.keep fun k hlt hk => hg.block k hlt fun e => by
  obtain ⟨h1, h2⟩ := hr.offBook h e.symm
  rcases hk with rfl | ⟨c, hc⟩
  · exact h1 rfl
  · exact h2 c k hc rfl

set_option maxHeartbeats 2000000 in
set_option maxRecDepth 100000 in
theorem impl_DirectForwards (w : World) (a : Option Addr) (n cap : Nat) (F T : Nat → ByteArray) (h : Fws w a n F T) (hf : FFits n F T) :
    Calls Try.prog 37 #[.slice a n cap] w (FRowOut w (M.direct F T n)) := by
  have HL := Lib.hid h
  have HF := Lib.hid hf
  clear h hf
  go_enter Try.func37, Try.ntmps37
  cases hok : M.fwd n F T
  · have hv := Lib.hid (M.direct_no hok)
    go_wp2_with fail
    refine (bookOf_no _ _ _ _ _ _ HL.out HF.out hok).mono ?_
    rintro e w1 ⟨rfl, hb1⟩
    have hq := eql_nobook w1
    go_wp2
    go_ret
    exact ⟨_, rfl, by rw [hv.out]; exact FRow.nil _ _, hb1⟩
  · have hv := Lib.hid (M.direct_yes hok)
    have hN := (M.fwd_yes hok).1
    go_wp2_with fail
    refine (bookOf_yes _ _ _ _ _ _ HL.out HF.out hok).mono ?_
    rintro e w1 ⟨g, m, f, rfl, hm, hB, hb1⟩
    have hq := eql_book g w1
    have HB := Lib.hid hB
    have hbase := hB.1
    clear hB hok
    go_wp2
    go_loopw [4, 16] (fun v i wr => ∃ (k : Nat) (f : ByteArray → Option Nat), k ≤ n ∧ i = .int .i64 k ∧ Hid (FRow wr w.heap.size v (M.dirS F T n (sst F k))) ∧ Hid (Book wr w.heap.size g (m + k) f (M.nextOf F T n)) ∧ Below w.heap.size w wr) (fun _ i _ => n - (intOf i).toNat)
    case atStart => exact ⟨0, f, Nat.zero_le _, rfl, FRow.nil _ _, HB, hb1⟩
    case round =>
      obtain ⟨k, f, hk, rfl, hrow, hbk, hb⟩ := hrel
      have hz := hb.size
      have hgl := hbk.out.lt
      have hle := M.dirS_le F T n (sst F k)
      rw [sst_length] at hle
      by_cases hlt : k < n
      · obtain ⟨b, o, rfl, c0, c1⟩ := (HL.out.on hb) k hlt
        have s0 := (HF.out k hlt).1
        have OU : Hid (∀ b, u4.ownBlock = some b → ¬ b = g) := fun b hb' => (hrow.out.offBook hbk.out hb').1
        have hss := Lib.hid (sst_succ F k)
        cases hr0 : M.res F T n (F k) with
        | none =>
          have hr : Hid (resV (M.res F T n (F k)) = .tuple #[.string ⟨#[]⟩, .int .i64 0, .bool false]) := by rw [Hid, hr0]; rfl
          have E1 := Lib.hid (M.dirS_no (L := sst F k) (M.endOf_no hr0))
          clear hr0
          go_wp2_with (go_at_call 60; refine (resolve_any _ w.heap.size g (m + k) n f F T (hbk.out.on (by go_grown)) (F k) s0 (by omega) hN).mono ?_; rintro e w3 ⟨rfl, ⟨f', hB3⟩, ho⟩; rw [hr.out]; have q0 : w3.cell? ⟨wr.heap.size, 0, none⟩ = some (.string (F k)) := (World.cell?_of_block (a := ⟨wr.heap.size, 0, none⟩) (ho.block wr.heap.size (by simp) (by omega))).trans (by simp); have O3 : Only wr w3 (fun k => k = g) := (Only.new (by go_grown)).trans ho (fun _ _ h => h); have hb3 : Below w.heap.size w w3 := hb.trans (O3.below (B := w.heap.size) (fun k hk _ (e : k = g) => by omega) hz); have hz3 := hb3.size; have hz4 : wr.heap.size < w3.heap.size := World.block_lt_of_cell? _ _ q0; have U3 := Lib.hid (hrow.out.only O3 OU.out); have HB3 := Lib.hid hB3; clear hB3 ho O3)
          go_roundw
          case rel => exact ⟨k + 1, f', by omega, by go_num, by rw [hss.out, E1.out]; exact U3, HB3, hb3⟩
          case measure => simp [intOf]; omega
        | some p =>
          obtain ⟨d, t⟩ := p
          have hr : Hid (resV (M.res F T n (F k)) = .tuple #[.string d, .int .i64 t, .bool true]) := by rw [Hid, hr0]; rfl
          have E1 := Lib.hid (M.dirS_yes (L := sst F k) (M.endOf_yes hr0))
          clear hr0
          go_wp2_with (first
            | (go_at_call 60; refine (resolve_any _ w.heap.size g (m + k) n f F T (hbk.out.on (by go_grown)) (F k) s0 (by omega) hN).mono ?_; rintro e w3 ⟨rfl, ⟨f', hB3⟩, ho⟩; rw [hr.out]; have q0 : w3.cell? ⟨wr.heap.size, 0, none⟩ = some (.string (F k)) := (World.cell?_of_block (a := ⟨wr.heap.size, 0, none⟩) (ho.block wr.heap.size (by simp) (by omega))).trans (by simp); have O3 : Only wr w3 (fun k => k = g) := (Only.new (by go_grown)).trans ho (fun _ _ h => h); have hb3 : Below w.heap.size w w3 := hb.trans (O3.below (B := w.heap.size) (fun k hk _ (e : k = g) => by omega) hz); have hz3 := hb3.size; have hz4 : wr.heap.size < w3.heap.size := World.block_lt_of_cell? _ _ q0; have U3 := Lib.hid (hrow.out.only O3 OU.out); have HB3 := Lib.hid hB3; clear hB3 ho O3)
            | (at_builtin; refine wpList_append_forward _ rfl _ _ rfl w.heap.size _ _ rfl (U3.out.alloc _) _ (F k) d rfl ?_ (by omega) (by simp; omega) ?_))
          · simp [go_sem]
          · intro v' w4 hr3 hg3 ho3
            have q4 := fbelow_grown (W := w) (hb3.alloc hz3 _) (U3.out.alloc _) (Nat.le_refl _) hg3
            have Q5 := Lib.hid ((HB3.out.on (below_alloc0 _ _)).fgrown (U3.out.alloc _) hg3)
            have R3 := Lib.hid hr3
            clear hr3 hg3 ho3
            go_wp2
            go_roundw
            case rel => exact ⟨k + 1, f', by omega, by go_num, by rw [hss.out, E1.out]; exact R3, Q5, q4⟩
            case measure => simp [intOf]; omega
      · obtain rfl : k = n := by omega
        go_wp2_with (go_at_call 69; refine (sort_forwards _ w.heap.size _ _ hrow.out (by omega)).mono ?_; rintro e w3 ⟨rfl, L', hp, hu, r3, gr3⟩; have K3 : Hid (Below w.heap.size w w3) := hb.grown gr3 hz (fun q e => (hrow.out.lt q e).1); have R3 := Lib.hid r3; have E3 := Lib.hid (M.direct_only hp hu); clear r3 gr3 hp hu)
        go_ret
        exact ⟨_, rfl, by rw [hv.out, ← E3.out]; exact R3.out, K3.out⟩

set_option maxHeartbeats 2000000 in
set_option maxRecDepth 100000 in
theorem impl_SourcesOf (w : World) (a : Option Addr) (n cap : Nat) (F T : Nat → ByteArray) (h : Fws w a n F T) (hf : FFits n F T) (hn : n ≤ 1048576) (c : ByteArray) :
    Calls Try.prog 41 #[.slice a n cap, .string c] w (SRowOut w (M.srcs F T n c)) := by
  have HD := Lib.hid (impl_DirectForwards w a n cap F T h hf)
  have hv := Lib.hid (M.srcs_direct F T n c)
  have hl := M.direct_small F T n hn
  obtain ⟨L, hL⟩ : ∃ L, M.direct F T n = L := ⟨_, rfl⟩
  rw [hL] at HD hv hl
  clear h hf hL
  go_enter Try.func41, Try.ntmps41
  go_wp2_with fail
  refine HD.out.mono ?_
  rintro e w1 ⟨v1, rfl, r1, hb1⟩
  obtain ⟨N, hN⟩ : ∃ N, L.length = N := ⟨_, rfl⟩
  obtain ⟨a1, c1, hv1, _, hf1⟩ := r1.form
  rw [hN] at hv1 hf1 hl
  subst hv1
  have HF1 := Lib.hid hf1
  have HN := Lib.hid hN
  have hz1 := hb1.size
  have HK1 := Lib.hid hb1
  clear hf1 hN r1 hb1 HD
  go_wp2
  go_loopw [5, 11] (fun v i wr => ∃ k : Nat, k ≤ N ∧ i = .int .i64 k ∧ Hid (SRow wr w1.heap.size v (M.srcOf c (L.take k))) ∧ Below w1.heap.size w1 wr) (fun _ i _ => N - (intOf i).toNat)
  case atStart => exact ⟨0, Nat.zero_le _, rfl, SRow.nil _ _, Below.refl _ _⟩
  case round =>
    obtain ⟨k, hk, rfl, hrow, hb⟩ := hrel
    have hz := hb.size
    by_cases hlt : k < N
    · obtain ⟨b, o, rfl, d0, d1⟩ := (HF1.out.on hb) k hlt
      have hle := M.srcOf_le c (L.take k)
      rw [List.length_take] at hle
      have hkL : k < L.length := by rw [HN.out]; exact hlt
      have htk : L.take (k + 1) = L.take k ++ [L[k]] := by rw [List.take_add_one, List.getElem?_eq_getElem hkL]; rfl
      rw [nF_at hkL] at d0
      rw [nT_at hkL] at d1
      have hP : ∃ P, L[k] = P := ⟨_, rfl⟩
      obtain ⟨P, hP⟩ := hP
      rw [hP] at d0 d1 htk
      have HT := Lib.hid htk
      clear hP htk
      by_cases he : P.2 = c
      · have hd : (P.2.toList == c.toList) = true := by rw [he]; simp
        have E1 := Lib.hid (M.srcOf_yes (L := L.take k) he)
        clear he
        go_wp2_with (at_builtin; refine wpList_append_string _ rfl _ _ rfl w1.heap.size _ _ rfl ((hrow.out.alloc _).alloc _) _ P.1 rfl ?_ (by omega) (by simp; omega) ?_)
        · simp [go_sem]
        · intro v' w3 hr3 hg3 ho3
          have q3 := Lib.hid (sbelow_grown (W := w1) ((hb.alloc hz _).alloc (by simp; omega) _) ((hrow.out.alloc _).alloc _) (Nat.le_refl _) hg3)
          have R3 := Lib.hid hr3
          clear hr3 hg3 ho3
          go_wp2
          go_roundw
          case rel => exact ⟨k + 1, by omega, by go_num, by rw [HT.out, E1.out]; exact R3, q3.out⟩
          case measure => simp [intOf]; omega
      · have hd : (P.2.toList == c.toList) = false := neq_list0 he
        have E1 := Lib.hid (M.srcOf_no (L := L.take k) he)
        clear he
        go_wp2
        go_roundw
        case rel => exact ⟨k + 1, by omega, by go_num, by rw [HT.out, E1.out]; exact hrow.out.alloc _, by go_grown⟩
        case measure => simp [intOf]; omega
    · obtain rfl : k = N := by omega
      have hfull : Hid (L.take k = L) := by rw [Hid, ← HN.out, List.take_length]
      go_wp2
      go_ret
      exact ⟨_, rfl, by rw [← hv.out]; have := hrow.out; rw [hfull.out] at this; exact this.lower hz1, step HK1.out hb⟩
end Go.Proofs.Ytbfbbpmddgfeiaa
