/-
  What the drawn places and texts of places are. For every input.
-/
import Derived.Test.YtakadekgpfjonaaDoorDrawCode
import Derived.Test.YtakadekgpfjonaaDoorParse
import Derived.Deep.RegionWith
import Derived.IntWalk
namespace Go.Proofs.YtakadekgpfjonaaDoor
open Go.RowKit

/-- A string of at most n bytes, and new memory alone. -/
def SomeText (n : Nat) (w : World) (e : Ending) (w' : World) : Prop := ∃ s : ByteArray, e = .returned (.string s) ∧ s.size ≤ n ∧ Below w.heap.size w w'
/-- A place, and new memory alone. -/
def SomePlace (w : World) (e : Ending) (w' : World) : Prop := ∃ a b c : Int, e = .returned (.agg #[.int .i64 a, .int .i64 b, .int .i64 c]) ∧ Below w.heap.size w w'
def PlaceSt (W : World) (r N : Nat) (e : Ending) (w' : World) : Prop := ∃ (a b c : Int) (ok : Bool), e = .returned (.tuple #[.agg #[.int .i64 a, .int .i64 b, .int .i64 c], .bool ok]) ∧ St W w' r N

set_option maxHeartbeats 1000000 in
theorem drawn_code (a : Option Addr) (l k : Nat) (z : List Int) (w : World) (h : IsRow .u8 w a l k z) :
    Calls Tryd.prog 31 #[.slice a l k] w (SomeText 100 w) := by
  go_enter Tryd.func31, Tryd.ntmps31
  go_wp2_with fail
  refine (open_any a l k z w h).mono ?_
  rintro e w1 ⟨r, rfl, st1⟩
  go_wp2_with fail
  refine (l1Some_any w _ r 0 st1 (by omega)).mono ?_
  rintro e w2 ⟨s, rfl, s0, s1, st2⟩
  go_wp2_with fail
  refine (l1Bad_any w _ r _ s st2 (by omega) (by omega) (by omega)).mono ?_
  rintro e w3 ⟨t, rfl, t0, t1, st3⟩
  go_wp2
  go_ret
  exact ⟨_, rfl, by omega, st3.2.1⟩
set_option maxHeartbeats 1000000 in
theorem DrawPlaceOf_any (a : Option Addr) (l k : Nat) (z : List Int) (w : World) (h : IsRow .u8 w a l k z) :
    Calls Tryd.prog 16 #[.slice a l k] w (SomeText 100 w) := by
  go_enter Tryd.func16, Tryd.ntmps16
  go_wp2_with fail
  refine (drawn_code a l k z w h).mono ?_
  rintro e w1 ⟨s, rfl, s0, hb⟩
  go_wp2
  go_ret
  exact ⟨_, rfl, s0, hb⟩
theorem spec_PlaceOf_st (W w : World) (r N : Nat) (s : ByteArray) (h : St W w r N) (hs : s.size ≤ 7) :
    Calls Tryd.prog 17 #[.string s] w (PlaceSt W r N) := by
  cases hc : M.code s
  · exact (spec_PlaceOf_no s w (by unfold maxLen; omega) hc).mono fun e w' h' => ⟨0, 0, 0, false, h'.1, h.below h'.2⟩
  · exact (spec_PlaceOf_yes s w hc).mono fun e w' h' => ⟨_, _, _, true, h'.1, h.below h'.2⟩

theorem Box.grown {w w' : World} {b r : Nat} {x y z : Int} (h : Box w b x y z) (hg : w.grownBy w' (some r)) (hne : b ≠ r) : Box w' b x y z := by
  obtain ⟨⟨h0, h1, h2⟩, f0, f1, f2⟩ := h
  have hb := hg.block b (World.block_lt_of_cell? _ _ h0) (by intro e; injection e with e; exact hne e)
  have k : ∀ i, w'.cell? ⟨b, i, none⟩ = w.cell? ⟨b, i, none⟩ := fun i => World.cell?_of_block (a := ⟨b, i, none⟩) hb
  have q : ∀ i, w'.frozen? ⟨b, i, none⟩ = w.frozen? ⟨b, i, none⟩ := fun i => World.frozen?_of_block (a := ⟨b, i, none⟩) hb
  exact ⟨⟨by rw [k]; exact h0, by rw [k]; exact h1, by rw [k]; exact h2⟩, by rw [q]; exact f0, by rw [q]; exact f1, by rw [q]; exact f2⟩
def NumAny (w : World) (zs : List Int) (r N : Nat) (e : Ending) (w' : World) : Prop := ∃ v : Int, e = .returned (.int .i64 v) ∧ v ∈ zs ∧ Rd w' r (N + 1) ∧ w.grownBy w' (some r)
theorem Rd.alloc {w : World} {r N : Nat} (h : Rd w r N) (o : Obj) : Rd (w.alloc o) r N := h.below ((Below.refl _ _).alloc (Nat.le_refl _) _)
set_option maxHeartbeats 400000 in
theorem num_any (zs : List Int) (b : Nat) (w : World) (r N : Nat) (h : Rd w r N) (hN : N < 100000) (z1 : 1 ≤ zs.length) (z2 : zs.length ≤ 1000) (hb : b ≠ r) (hc : ∀ i, i < zs.length → w.cell? ⟨b, i, none⟩ = some (.int .i64 (zs.getD i 0))) :
    Calls Tryd.prog 38 #[.pointer (some ⟨r, 0, none⟩), .slice (some ⟨b, 0, none⟩) zs.length zs.length] w (NumAny w zs r N) := by
  have HC := Lib.hid hc
  clear hc
  go_enter Tryd.func38, Tryd.ntmps38
  go_wp2_with fail
  refine (pick_any _ _ r N h hN (by omega) (by omega)).mono ?_
  rintro e w1 ⟨v, rfl, v0, v1, hr, hg⟩
  obtain ⟨j, rfl⟩ := Int.eq_ofNat_of_zero_le v0
  have hj : j < zs.length := by omega
  have hcell := hg.cell (HC.out j hj) (by intro e; injection e with e; exact hb e)
  go_wp2
  go_ret
  exact ⟨_, rfl, List.getElem_mem hj, hr, hg⟩

set_option maxHeartbeats 4000000 in
theorem DrawPlaceValid_any (a : Option Addr) (l k : Nat) (z : List Int) (w : World) (h : IsRow .u8 w a l k z) :
    Calls Tryd.prog 24 #[.slice a l k] w (SomePlace w) := by
  have bx0 := Lib.hid (box_made w 0 0 0)
  have h' : IsRow .u8 (w.alloc (.cells #[.int .i64 0, .int .i64 0, .int .i64 0] 24)) a l k z := by
    rcases h with h | ⟨x, hx, h1, h2, h3, h4, h5⟩
    · exact Or.inl h
    · exact Or.inr ⟨x, hx, h1, h2, h3, fun i hi => ((below_alloc w _).cell (p := x.add i) (World.block_lt_of_cell? _ _ (h4 i hi))).trans (h4 i hi), h5⟩
  clear h
  go_enter Tryd.func24, Tryd.ntmps24
  go_wp2_with fail
  refine (open_any a l k z _ h').mono ?_
  rintro e w1 ⟨r, rfl, st1⟩
  go_wp2_with fail
  refine (l1Some_any _ _ r 0 st1 (by omega)).mono ?_
  rintro e w2 ⟨s, rfl, s0, s1, st2⟩
  go_wp2_with fail
  refine (spec_PlaceOf_st _ _ r _ s st2 s1).mono ?_
  rintro e w3 ⟨x, y, v, ok, rfl, st3⟩
  clear st1 st2 h'
  obtain ⟨hr3, hb3, hle⟩ := st3
  simp only [World.size_alloc] at hb3 hle
  have hr3l := hr3.lt
  have bz3 : Box w3 w.heap.size 0 0 0 := bx0.out.on (by simpa using hb3)
  have hbw3 : Below w.heap.size w w3 := (below_alloc w _).trans (hb3.mono (by omega))
  have hlt3 : w.heap.size < w3.heap.size := World.block_lt_of_cell? _ _ bz3.1.1
  have hne3 : w3.heap.size ≠ r := by omega
  have hne0 : w.heap.size ≠ r := by omega
  have hne : w3.heap.size ≠ w.heap.size := by omega
  have hne' : w.heap.size ≠ w3.heap.size := by omega
  have bx3 := Lib.hid (box_made w3 x y v)
  have bz3' := Lib.hid (bz3.on (below_alloc w3 (.cells #[.int .i64 x, .int .i64 y, .int .i64 v] 24)))
  have HB3 := Lib.hid (hbw3.alloc (by omega) (.cells #[.int .i64 x, .int .i64 y, .int .i64 v] 24))
  clear bx0 hb3 bz3 hbw3
  go_wp2_with fail
  refine (pick_any 30 _ r _ (hr3.alloc _) (by omega) (by omega) (by omega)).mono ?_
  rintro e w4 ⟨t, rfl, t0, t1, hr4, hg4⟩
  have bx4 := Lib.hid (bx3.out.grown hg4 hne3)
  have bz4 := Lib.hid (bz3'.out.grown hg4 hne0)
  have hb4 := Lib.hid (HB3.out.grown hg4 (by simp; omega) (fun k hk => by injection hk with e; omega))
  have hr4l := hr4.lt
  clear bx3 bz3' HB3 hr3 hg4
  cases c0 : (t == 0)
  · cases c1 : (t == 1)
    · cases c2 : (t == 2)
      · have bx5 := bx4
        have bz5 := bz4
        have hb5 := hb4
        have hc5 := hb5.out
        obtain ⟨⟨e0, e1, e2⟩, f0, f1, f2⟩ := bx5.out
        obtain ⟨⟨d0, d1, d2⟩, g0, g1, g2⟩ := bz5.out
        go_wp2
        refine bodyPost_ret (v := .agg #[.int .i64 x, .int .i64 y, .int .i64 v]) (by simp [results, Tryd.results24, go_sem, d0, d1, d2]) rfl ?_
        exact ⟨_, _, _, rfl, by have hz5 := hc5.size; go_grown⟩
      · go_wp2_with fail
        refine (num_any [-1, 100, -9223372036854775808] w4.heap.size _ r _ (hr4.alloc _) (by omega) (by decide) (by decide) (by omega) (cells_int [-1, 100, -9223372036854775808] _ w4)).mono ?_
        rintro e w5 ⟨q, rfl, _, hr5, hg5⟩
        have bx5 := Lib.hid ((bx4.out.on (below_alloc w4 _)).grown hg5 hne3)
        have bz5 := Lib.hid ((bz4.out.on (below_alloc w4 _)).grown hg5 hne0)
        have hb5 := Lib.hid ((hb4.out.alloc (by have := hb4.out.size; omega) (.cells ([-1, 100, -9223372036854775808].map (Value.int .i64)).toArray 3)).grown hg5 (by have := hb4.out.size; simp; omega) (fun k hk => by injection hk with e; omega))
        clear hr4 bx4 bz4 hb4 hg5
        have hc5 := hb5.out
        obtain ⟨⟨e0, e1, e2⟩, f0, f1, f2⟩ := bx5.out
        obtain ⟨⟨d0, d1, d2⟩, g0, g1, g2⟩ := bz5.out
        go_wp2
        refine bodyPost_ret (v := .agg #[.int .i64 x, .int .i64 y, .int .i64 q]) (by simp [results, Tryd.results24, go_sem, d0, d1, d2]) rfl ?_
        exact ⟨_, _, _, rfl, by have hz5 := hc5.size; go_grown⟩
    · go_wp2_with fail
      refine (num_any [-1, 100] w4.heap.size _ r _ (hr4.alloc _) (by omega) (by decide) (by decide) (by omega) (cells_int [-1, 100] _ w4)).mono ?_
      rintro e w5 ⟨q, rfl, _, hr5, hg5⟩
      have bx5 := Lib.hid ((bx4.out.on (below_alloc w4 _)).grown hg5 hne3)
      have bz5 := Lib.hid ((bz4.out.on (below_alloc w4 _)).grown hg5 hne0)
      have hb5 := Lib.hid ((hb4.out.alloc (by have := hb4.out.size; omega) (.cells ([-1, 100].map (Value.int .i64)).toArray 3)).grown hg5 (by have := hb4.out.size; simp; omega) (fun k hk => by injection hk with e; omega))
      clear hr4 bx4 bz4 hb4 hg5
      have hc5 := hb5.out
      obtain ⟨⟨e0, e1, e2⟩, f0, f1, f2⟩ := bx5.out
      obtain ⟨⟨d0, d1, d2⟩, g0, g1, g2⟩ := bz5.out
      go_wp2
      refine bodyPost_ret (v := .agg #[.int .i64 x, .int .i64 q, .int .i64 v]) (by simp [results, Tryd.results24, go_sem, d0, d1, d2]) rfl ?_
      exact ⟨_, _, _, rfl, by have hz5 := hc5.size; go_grown⟩
  · go_wp2_with fail
    refine (num_any [-1, 1000, 9223372036854775807] w4.heap.size _ r _ (hr4.alloc _) (by omega) (by decide) (by decide) (by omega) (cells_int [-1, 1000, 9223372036854775807] _ w4)).mono ?_
    rintro e w5 ⟨q, rfl, _, hr5, hg5⟩
    have bx5 := Lib.hid ((bx4.out.on (below_alloc w4 _)).grown hg5 hne3)
    have bz5 := Lib.hid ((bz4.out.on (below_alloc w4 _)).grown hg5 hne0)
    have hb5 := Lib.hid ((hb4.out.alloc (by have := hb4.out.size; omega) (.cells ([-1, 1000, 9223372036854775807].map (Value.int .i64)).toArray 3)).grown hg5 (by have := hb4.out.size; simp; omega) (fun k hk => by injection hk with e; omega))
    clear hr4 bx4 bz4 hb4 hg5
    have hc5 := hb5.out
    obtain ⟨⟨e0, e1, e2⟩, f0, f1, f2⟩ := bx5.out
    obtain ⟨⟨d0, d1, d2⟩, g0, g1, g2⟩ := bz5.out
    go_wp2
    refine bodyPost_ret (v := .agg #[.int .i64 q, .int .i64 y, .int .i64 v]) (by simp [results, Tryd.results24, go_sem, d0, d1, d2]) rfl ?_
    exact ⟨_, _, _, rfl, by have hz5 := hc5.size; go_grown⟩
set_option maxHeartbeats 1000000 in
theorem DrawCodeOf_any (a : Option Addr) (l k : Nat) (z : List Int) (w : World) (h : IsRow .u8 w a l k z) :
    Calls Tryd.prog 8 #[.slice a l k] w (SomePlace w) := by
  have h' : IsRow .u8 (w.alloc (.cells #[.int .i64 0, .int .i64 0, .int .i64 0] 24)) a l k z := by
    rcases h with h | ⟨x, hx, h1, h2, h3, h4, h5⟩
    · exact Or.inl h
    · exact Or.inr ⟨x, hx, h1, h2, h3, fun i hi => ((below_alloc w _).cell (p := x.add i) (World.block_lt_of_cell? _ _ (h4 i hi))).trans (h4 i hi), h5⟩
  have bx0 := box_made w 0 0 0
  have ha := below_alloc w (.cells #[.int .i64 0, .int .i64 0, .int .i64 0] 24)
  clear h
  go_enter Tryd.func8, Tryd.ntmps8
  go_wp2_with fail
  refine (DrawPlaceValid_any a l k z _ h').mono ?_
  rintro e w1 ⟨x, y, v, rfl, hb⟩
  have hh := stepB ha hb
  obtain ⟨⟨d0, d1, d2⟩, g0, g1, g2⟩ := bx0.on hb
  clear bx0 h' ha
  go_wp2
  refine bodyPost_ret (v := .agg #[.int .i64 x, .int .i64 y, .int .i64 v]) (by simp [results, Tryd.results8, go_sem, d0, d1, d2]) rfl ?_
  exact ⟨_, _, _, rfl, by have hz := hh.size; go_grown⟩
def GoodSt (W : World) (r N : Nat) (e : Ending) (w' : World) : Prop := ∃ (a b c : Int) (ok : Bool), e = .returned (.tuple #[.agg #[.int .i64 a, .int .i64 b, .int .i64 c], .bool ok]) ∧ M.placeOk a b c = true ∧ St W w' r N
theorem spec_PlaceOf_good (W w : World) (r N : Nat) (s : ByteArray) (h : St W w r N) (hs : s.size ≤ 7) :
    Calls Tryd.prog 17 #[.string s] w (GoodSt W r N) := by
  cases hc : M.code s
  · exact (spec_PlaceOf_no s w (by unfold maxLen; omega) hc).mono fun e w' h' => ⟨0, 0, 0, false, h'.1, rfl, h.below h'.2⟩
  · exact (spec_PlaceOf_yes s w hc).mono fun e w' h' => ⟨_, _, _, true, h'.1, M.place_of_code hc, h.below h'.2⟩
set_option maxHeartbeats 4000000 in
theorem DrawParsePlace_any (a : Option Addr) (l k : Nat) (z : List Int) (w : World) (h : IsRow .u8 w a l k z) :
    Calls Tryd.prog 18 #[.slice a l k] w (SomeText 100 w) := by
  go_enter Tryd.func18, Tryd.ntmps18
  go_wp2_with fail
  refine (open_any a l k z w h).mono ?_
  rintro e w1 ⟨r, rfl, st1⟩
  go_wp2_with fail
  refine (l1Some_any w _ r 0 st1 (by omega)).mono ?_
  rintro e w2 ⟨s, rfl, s0, s1, st2⟩
  go_wp2_with fail
  refine (spec_PlaceOf_good _ _ r _ s st2 s1).mono ?_
  rintro e w3 ⟨x, y, v, ok, rfl, hp, st3⟩
  go_wp2_with fail
  refine (spec_FormatPlace _ _ _ _).mono ?_
  rintro e w4 ⟨rfl, hb4⟩
  have st4 := (st3.alloc _).below hb4
  have t9 : (M.text x y v).size = 9 := by rw [text_yes hp]; exact M.fmt_size (M.codeOf_size _ _ _)
  clear st1 st2 st3 hb4 h hp
  generalize M.text x y v = t at *
  go_wp2_with fail
  refine (pick_st w _ _ r _ st4 (by omega) (by omega) (by omega)).mono ?_
  rintro e w5 ⟨q, rfl, q0, q1, st5⟩
  clear st4
  cases hv : (q == 0)
  · have u1 : (1 : Int) ≤ (t.size : Int) := by omega
    go_wp2_with fail
    refine (pick_st w _ _ r _ st5 (by omega) (by omega) (by omega)).mono ?_
    rintro e w6 ⟨j, rfl, j0, j1, st6⟩
    obtain ⟨j, rfl⟩ := Int.eq_ofNat_of_zero_le j0
    have hr := st6.1.lt
    have q1 : (j : Int) ≤ (t.size : Int) := by omega
    clear st5
    go_wp2
    go_region_with (first | (go_at_call 37; refine (of_st w [⟨#[]⟩, ⟨#[48]⟩, ⟨#[45]⟩, ⟨#[120]⟩, ⟨#[32]⟩] w6.heap.size _ r _ ((st6.alloc _).drew) (by omega) (by decide) (by decide) (by omega) (cells_str [⟨#[]⟩, ⟨#[48]⟩, ⟨#[45]⟩, ⟨#[120]⟩, ⟨#[32]⟩] _ w6)).mono ?_; rintro e w7 ⟨s, rfl, hs, st7⟩; have hz1 := (show ∀ x ∈ [(⟨#[]⟩ : ByteArray), ⟨#[48]⟩, ⟨#[45]⟩, ⟨#[120]⟩, ⟨#[32]⟩], x.size ≤ 1 from by decide) s hs; clear hs) | (go_at_call 36; refine (pick_st w _ _ r _ st7 (by omega) (by omega) (by omega)).mono ?_; rintro e w8 ⟨n, rfl, n0, n1, st8⟩; obtain ⟨n, rfl⟩ := Int.eq_ofNat_of_zero_le n0; have q3 : (0 : Int) ≤ (j : Int) + (n : Int) := (by omega); have q4 : (j : Int) + (n : Int) ≤ (t.size : Int) := (by omega); have sj : IntKind.i64.wrap ((j : Int) + (n : Int)) = (j : Int) + (n : Int) := IntWalk.i64_in _ (by omega); have tj : ((j : Int) + (n : Int)).toNat = j + n := (by omega)))
    all_goals
      go_wp2
      go_ret
      exact ⟨_, rfl, by simp only [ByteArray.size_append, ByteArray.size_extract]; omega, st8.2.1⟩
  · go_wp2
    go_ret
    exact ⟨_, rfl, by omega, st5.2.1⟩
end Go.Proofs.YtakadekgpfjonaaDoor
