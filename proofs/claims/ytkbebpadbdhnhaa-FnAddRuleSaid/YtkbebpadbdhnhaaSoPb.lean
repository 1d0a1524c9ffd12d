/-
  Codes near the prefixes of rules, and whether a string begins with another.
-/
import Derived.Test.YtkbebpadbdhnhaaSCat
import Derived.Test.YtkbebpadbdhnhaaSplit
import Derived.Test.YtkbebpadbdhnhaaFRow
import Derived.Test.YtkbebpadbdhnhaaByte
import Derived.Test.YtkbebpadbdhnhaaLookUp
namespace Go.Proofs.Ytkbebpadbdhnhaa
open Go.RowKit
set_option linter.unusedVariables false

set_option maxHeartbeats 400000 in
theorem soBegins_any (c p : ByteArray) (w : World) :
    Calls Try.prog 9 #[.string c, .string p] w fun e w' => e = .returned (.bool (M.begins c p)) ∧ w = w' := by
  by_cases h : p.size ≤ c.size
  · have hv := Lib.hid (M.begins_long h)
    have hl := Lib.hid (M.list_eq (c.extract 0 p.size) p)
    go_enter Try.func9, Try.ntmps9
    go_wp2
    go_ret
    exact ⟨ret_bool (by rw [hv.out, hl.out]), rfl⟩
  · have hv := Lib.hid (M.begins_short (c := c) (p := p) (by omega))
    go_enter Try.func9, Try.ntmps9
    go_wp2
    go_ret
    exact ⟨ret_bool hv.out.symm, rfl⟩
theorem grown_pb {w w' : World} {r : Nat} {row : Option Nat} (h : w.grownBy w' row) (hr : ∀ j, row = some j → r ≤ j) (hs : r ≤ w.heap.size) : Below r w w' := ⟨h.os, h.tape, h.output, h.size, fun k hk => h.block k (by omega) (by intro e; have := hr k e.symm; omega)⟩
def strLen : Value → Nat
  | .string s => s.size
  | _ => 0
theorem srow_lit3 (w : World) (x y z : ByteArray) : SRow (w.alloc (.cells #[.string x, .string y, .string z] 9)) w.heap.size (.slice (some ⟨w.heap.size, 0, none⟩) 3 3) [x, y, z] :=
  World.ownsRow_lit (base := w.heap.size) (e := 9) (size := 1) w #[.string x, .string y, .string z] 3 (Nat.le_refl _) (by unfold maxLen; omega) rfl

set_option maxHeartbeats 4000000 in
set_option maxRecDepth 100000 in
theorem soProbes_any (w : World) (a : Option Addr) (n cap : Nat) (F T : Nat → ByteArray) (h : Fws w a n F T) (hn : n ≤ 100) (hz : ∀ i, i < n → (F i).size ≤ 30) :
    Calls Try.prog 8 #[.slice a n cap] w fun e w' => ∃ (v : Value) (L : List ByteArray), e = .returned v ∧ SRow w' w.heap.size v L ∧ L.length ≤ 1000 ∧ (∀ x ∈ L, x.size ≤ 30) ∧ Below w.heap.size w w' := by
  have HL := Lib.hid h
  have HZ := Lib.hid hz
  have E0 := Lib.hid (srow_lit3 w ⟨#[48, 48, 48, 48, 48, 48, 48]⟩ ⟨#[57, 57, 57, 57, 57, 57, 57]⟩ ⟨#[49, 50, 48, 48, 49, 48, 49]⟩)
  have B0 := Lib.hid (below_alloc0 w (.cells #[.string ⟨#[48, 48, 48, 48, 48, 48, 48]⟩, .string ⟨#[57, 57, 57, 57, 57, 57, 57]⟩, .string ⟨#[49, 50, 48, 48, 49, 48, 49]⟩] 9))
  have S0 : Hid (∀ x ∈ [(⟨#[48, 48, 48, 48, 48, 48, 48]⟩ : ByteArray), ⟨#[57, 57, 57, 57, 57, 57, 57]⟩, ⟨#[49, 50, 48, 48, 49, 48, 49]⟩], x.size ≤ 30) := by unfold Hid; decide
  clear h hz
  go_enter Try.func8, Try.ntmps8
  go_wp2
  go_loopw [3, 4] (fun q i wr => ∃ (k : Nat) (L : List ByteArray), k ≤ n ∧ i = .int .i64 k ∧ L.length ≤ 3 + 4 * k ∧ Hid (∀ x ∈ L, x.size ≤ 30) ∧ Hid (SRow wr w.heap.size q L) ∧ Hid (Below w.heap.size w wr)) (fun _ i _ => n - (intOf i).toNat)
  case atStart => exact ⟨0, [(⟨#[48, 48, 48, 48, 48, 48, 48]⟩ : ByteArray), ⟨#[57, 57, 57, 57, 57, 57, 57]⟩, ⟨#[49, 50, 48, 48, 49, 48, 49]⟩], Nat.zero_le _, rfl, by simp, S0, E0, B0⟩
  case round =>
    obtain ⟨k, L, hk, rfl, hl, hsm, hrow, hb⟩ := hrel
    by_cases hlt : k < n
    · have HLr := Lib.hid (HL.out.on hb.out)
      obtain ⟨b, o, rfl, c0, c1⟩ := HLr.out k hlt
      have hp := HZ.out k hlt
      generalize F k = p at c0 hp
      have hki : (k : Int) < (n : Int) := by omega
      have hk0 : (0 : Int) ≤ (k : Int) := by omega
      go_wp2
      go_loopw [3, 6] (fun q2 d wr2 => ∃ (m : Nat) (L2 : List ByteArray), m ≤ 4 ∧ d = .int .i64 ((3 * m : Nat) : Int) ∧ L2.length ≤ 3 + 4 * k + m ∧ Hid (∀ x ∈ L2, x.size ≤ 30) ∧ Hid (SRow wr2 w.heap.size q2 L2) ∧ Hid (Below w.heap.size w wr2)) (fun _ d _ => 12 - (intOf d).toNat)
      case atStart => exact ⟨0, L, by omega, rfl, by omega, hsm, hrow, hb⟩
      case round =>
        obtain ⟨m, L2, hm, rfl, hl2, hsm2, hrow2, hb2⟩ := hrel
        by_cases hd : 3 * m < 10
        · have hdi : 3 * (m : Int) < 10 := by omega
          have HROW2 := hrow2
          have HB2 := hb2
          obtain ⟨a5, c5, hv5, _, _⟩ := hrow2.out.form
          subst hv5
          clear hrow2 hb2
          go_wp2
          go_loopw [7] (fun c wr3 => ∃ s : ByteArray, c = .string s ∧ s.size ≤ 30 ∧ Hid (SRow wr3 w.heap.size (.slice a5 L2.length c5) L2) ∧ Hid (Below w.heap.size w wr3)) (fun c _ => 7 - strLen c)
          case atStart => exact ⟨p, rfl, hp, HROW2, HB2⟩
          case round =>
            obtain ⟨s, rfl, hs, hrow3, hb3⟩ := hrel
            have hz3 := hb3.out.size
            by_cases h7 : s.size < 7
            · have h7i : (s.size : Int) < 7 := by omega
              have hbs := byte_string wr (48 + (3 * (m : Int) + (s.size : Int)) % 10) (by omega) (by omega)
              go_wp2
              go_roundw
              case rel => exact ⟨_, rfl, by rw [ByteArray.size_append]; show s.size + 1 ≤ 30; omega, hrow3.out.alloc _, sstep hb3.out (below_alloc0 _ _)⟩
              case measure =>
                simp only [strLen, ByteArray.size_append]
                show 7 - (s.size + 1) < 7 - s.size
                omega
            · go_wp2_with (at_builtin; refine wpList_append_string _ rfl _ _ rfl w.heap.size _ L2 rfl (hrow3.out.alloc _) _ s rfl ?_ (by omega) (by simp; omega) ?_)
              · simp [go_sem]
              · intro v' w5 hr5 hg5 ho5
                have R5 := Lib.hid hr5
                have B5 : Hid (Below w.heap.size w w5) := (sstep hb3.out (below_alloc0 wr _)).trans (grown_pb hg5 (fun j e => ((hrow3.out.alloc (.cells #[.string s] 9)).lt j e).1) (by simp; omega))
                have S5 : Hid (∀ x ∈ L2 ++ [s], x.size ≤ 30) := fun x hx => by
                  rcases List.mem_append.1 hx with hx | hx
                  · exact hsm2.out x hx
                  · obtain rfl := List.mem_singleton.1 hx
                    exact hs
                clear hr5 hg5 ho5
                go_wp2
                go_roundw
                case rel => exact ⟨m + 1, L2 ++ [s], by omega, by go_num, by simp; omega, S5, R5, B5⟩
                case measure => simp [intOf]; omega
        · have hdi : ¬ 3 * (m : Int) < 10 := by omega
          go_wp2
          go_roundw
          case rel => exact ⟨k + 1, L2, by omega, by go_num, by omega, hsm2, hrow2, hb2⟩
          case measure => simp [intOf]; omega
    · have hki : ¬ (k : Int) < (n : Int) := by omega
      go_wp2
      go_ret
      exact ⟨_, rfl, L, hrow.out, by omega, hsm.out, hb.out⟩
set_option maxHeartbeats 1000000 in
theorem soNext_ar (w : World) (a : Option Addr) (n cap : Nat) (F T : Nat → ByteArray) (h : Fws w a n F T) (hf : FFits n F T) (c : ByteArray) (hc : c.size ≤ maxLen) :
    Calls Try.prog 10 #[.slice a n cap, .string c] w fun e w' => e = .returned (.string ((M.lookUp F T n c).getD ⟨#[]⟩)) ∧ Below w.heap.size w w' := by
  have HX := Lib.hid (impl_LookUp w a n cap F T h hf c hc)
  clear h hf
  go_enter Try.func10, Try.ntmps10
  cases hl : M.lookUp F T n c with
  | none =>
    rw [hl] at HX
    go_wp2_with fail
    refine HX.out.mono ?_
    rw [show lkV none = .tuple #[.string ⟨#[]⟩, .bool false] from rfl]
    rintro e w1 ⟨rfl, k1⟩
    have K1 := Lib.hid k1
    clear k1 hl
    go_wp2
    go_ret
    exact ⟨rfl, K1.out⟩
  | some x =>
    rw [hl] at HX
    go_wp2_with fail
    refine HX.out.mono ?_
    rw [show lkV (some x) = .tuple #[.string x, .bool true] from rfl]
    rintro e w1 ⟨rfl, k1⟩
    have K1 := Lib.hid k1
    clear k1 hl
    go_wp2
    go_ret
    exact ⟨rfl, K1.out⟩
end Go.Proofs.Ytkbebpadbdhnhaa
