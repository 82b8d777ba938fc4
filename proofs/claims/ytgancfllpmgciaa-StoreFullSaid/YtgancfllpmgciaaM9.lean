/-
  StoreFull: as many maps as may be, and one more; one let go, and again.
-/
import Derived.Test.YtgancfllpmgciaaM8
namespace Go.Proofs.Ytgancfllpmgciaa
open Go.RowKit Go.Maps
set_option linter.unusedVariables false

/-- k maps were made, each under its number. -/
def FullI (w W : World) (b sb k : Nat) : Prop := ∃ A c L, Sto W w.heap.size b k A c L ∧ L.length = k ∧ (∀ i r, L[i]? = some r → r.h = i + 1) ∧ ¬ blkOf A sb ∧ sb ≠ b ∧ W.heap[sb]? = some (.cells #[.int .u8 1, .int .i64 4, .int .i64 1, .int .i64 1] 27 (0, 0)) ∧ Below w.heap.size w W
theorem FullI.spec {w W : World} {b sb k : Nat} (h : FullI w W b sb k) : W.heap[sb]? = some (.cells #[.int .u8 1, .int .i64 4, .int .i64 1, .int .i64 1] 27 (0, 0)) := by
  obtain ⟨A, c, L, _, _, _, _, _, h, _⟩ := h
  exact h
theorem FullI.make {w W : World} {b sb k : Nat} (h : FullI w W b sb k) (hk : k < 32) : Calls Try.prog 7 #[.pointer (some ⟨b, 0, none⟩), .agg #[.int .u8 1, .int .i64 4, .int .i64 1, .int .i64 1]] W fun e w' => e = .returned (.tuple #[.int .i64 ((k : Int) + 1), .int .i64 0]) ∧ FullI w w' b sb (k + 1) := by
  obtain ⟨A, c, L, h1, h2, h3, h4, h5, h6, h7⟩ := h
  refine (make_yes h1 (k := 1) (key := 4) (val := 1) (ent := 1) (by omega) (by decide) (by omega) (by omega) new_arr).mono ?_
  rintro e w' ⟨rfl, v, A', c', k1, k2, k3⟩
  have hsb := at_lt h6
  refine ⟨rfl, A', c', _, k1, by rw [List.length_append, h2]; rfl, fun i r hr => ?_, fun e => ?_, h5, (k2.block sb hsb ⟨h5, h4⟩).trans h6, h7.trans (h1.low_below k2)⟩
  · by_cases hi : i < L.length
    · rw [List.getElem?_append_left hi] at hr
      exact h3 i r hr
    · rw [List.getElem?_append_right (by omega)] at hr
      have h0 : i - L.length = 0 := by
        have := (List.getElem?_eq_some_iff.1 hr).1
        simpa using this
      rw [h0] at hr
      simp at hr
      subst hr
      show k + 1 = i + 1
      omega
  · rcases k3 sb e with h8 | h8
    · exact h4 h8
    · omega
theorem FullI.full {w W : World} {b sb : Nat} (h : FullI w W b sb 32) : Calls Try.prog 7 #[.pointer (some ⟨b, 0, none⟩), .agg #[.int .u8 1, .int .i64 4, .int .i64 1, .int .i64 1]] W fun e w' => e = .returned (.tuple #[.int .i64 0, .int .i64 8]) ∧ FullI w w' b sb 32 := by
  obtain ⟨A, c, L, h1, h2, h3, h4, h5, h6, h7⟩ := h
  refine (make_full h1 (k := 1) (key := 4) (val := 1) (ent := 1) (by omega) (by decide) h2).mono ?_
  rintro e w' ⟨rfl, hb⟩
  exact ⟨rfl, A, c, L, h1.below hb, h2, h3, h4, h5, (hb.block sb (at_lt h6)).trans h6, h7.trans (hb.mono h7.size)⟩
/-- One was let go. -/
def GoneI (w W : World) (b sb k n : Nat) (x : Int) : Prop := ∃ A c L, Sto W w.heap.size b k A c L ∧ L.length = n ∧ (∀ r ∈ L, (r.h : Int) ≠ x) ∧ W.heap[sb]? = some (.cells #[.int .u8 1, .int .i64 4, .int .i64 1, .int .i64 1] 27 (0, 0)) ∧ Below w.heap.size w W
theorem GoneI.spec {w W : World} {b sb k n : Nat} {x : Int} (h : GoneI w W b sb k n x) : W.heap[sb]? = some (.cells #[.int .u8 1, .int .i64 4, .int .i64 1, .int .i64 1] 27 (0, 0)) := by
  obtain ⟨A, c, L, _, _, _, h, _⟩ := h
  exact h
theorem FullI.free {w W : World} {b sb i : Nat} (x : Int) (h : FullI w W b sb 32) (hi : i < 32) (hx : x = ((i + 1 : Nat) : Int)) : Calls Try.prog 9 #[.pointer (some ⟨b, 0, none⟩), .int .i64 x] W fun e w' => e = .returned (.int .i64 0) ∧ GoneI w w' b sb 32 31 x := by
  obtain ⟨A, c, L, h1, h2, h3, h4, h5, h6, h7⟩ := h
  have hr : L[i]? = some L[i] := List.getElem?_eq_getElem (by omega)
  have hh := h3 i _ hr
  refine (free_yes x h1 hr (by omega)).mono ?_
  rintro e w' ⟨rfl, k1, k2⟩
  refine ⟨rfl, A, c, _, k1, by rw [List.length_eraseIdx_of_lt (by omega)]; omega, fun r hr2 e => ?_, (k2.block sb (at_lt h6) ⟨h5, h4⟩).trans h6, h7.trans (h1.low_below k2)⟩
  obtain ⟨j, hj, hji⟩ := List.mem_eraseIdx_iff_getElem?.1 hr2
  have := h3 j r hji
  omega
theorem GoneI.make {w W : World} {b sb : Nat} {x : Int} (h : GoneI w W b sb 32 31 x) (hx : x ≠ 33) : Calls Try.prog 7 #[.pointer (some ⟨b, 0, none⟩), .agg #[.int .u8 1, .int .i64 4, .int .i64 1, .int .i64 1]] W fun e w' => e = .returned (.tuple #[.int .i64 33, .int .i64 0]) ∧ ∃ A c L, Sto w' w.heap.size b 33 A c L ∧ L.length = 32 ∧ isAt L x = false ∧ Below w.heap.size w w' := by
  obtain ⟨A, c, L, h1, h2, h3, h6, h7⟩ := h
  refine (make_yes h1 (k := 1) (key := 4) (val := 1) (ent := 1) (by omega) (by decide) (by omega) (by omega) new_arr).mono ?_
  rintro e w' ⟨rfl, v, A', c', k1, k2, k3⟩
  refine ⟨rfl, A', c', _, k1, by rw [List.length_append, h2]; rfl, isAt_no (fun r hr e => ?_), h7.trans (h1.low_below k2)⟩
  rcases List.mem_append.1 hr with hr | hr
  · exact h3 r hr e
  · simp at hr
    subst hr
    exact hx e.symm
set_option maxRecDepth 100000 in
set_option maxHeartbeats 8000000 in
theorem law_storeFull (x : Int) (w : World) (h1 : -9223372036854775808 ≤ x) (h2 : x ≤ 9223372036854775807) : Calls Try.prog 3 #[.int .i64 x] w fun e w' => e = .returned (.bool true) ∧ Below w.heap.size w w' := by
  go_enter Try.func3, Try.ntmps3
  go_wp2_with fail
  refine (awake_any w).mono ?_
  rintro e w1 ⟨rfl, hb⟩
  have HB1 := hide hb
  clear hb
  go_wp2_with fail
  refine (new_any w1).mono ?_
  rintro e w2 ⟨b, rfl, ha, hb⟩
  have hx3 := World.alloc_heap_new w2 (.cells #[.int .u8 1, .int .i64 4, .int .i64 1, .int .i64 1] 27)
  have hb3 := below1 w2 (.cells #[.int .u8 1, .int .i64 4, .int .i64 1, .int .i64 1] 27)
  have hbl := at_lt ha.blk
  have HF0 : Hid (FullI w (w2.alloc (.cells #[.int .u8 1, .int .i64 4, .int .i64 1, .int .i64 1] 27)) b w2.heap.size 0) := hide
    ⟨none, 0, [], (ha.below hb3).from HB1.out.size, rfl, (fun i r hr => by simp at hr), (fun e => by cases e), by omega, hx3, HB1.out.trans ((hb.mono HB1.out.size).trans (hb3.mono (Nat.le_trans HB1.out.size hb.size)))⟩
  clear ha hb hx3 hb3 hbl
  go_wp2_with fail
  generalize w2.alloc (.cells #[.int .u8 1, .int .i64 4, .int .i64 1, .int .i64 1] 27) = W0 at *
  generalize w2.heap.size = sb at *
  go_loopw [5] (fun q wr => ∃ k : Nat, k ≤ 33 ∧ q = .int .i64 ((k : Int) + 1) ∧ FullI w wr b sb (min k 32)) (fun q _ => (35 - intOf q).toNat)
  case atStart => exact ⟨0, by omega, rfl, HF0.out⟩
  case round =>
    obtain ⟨k, hk, rfl, hF⟩ := hrel
    have hsp := hF.spec
    have c0 : wr.cell? ⟨sb, 0, none⟩ = some (.int .u8 1) := (blk_cell hsp 0).trans rfl
    have c1 : wr.cell? ⟨sb, 1, none⟩ = some (.int .i64 4) := (blk_cell hsp 1).trans rfl
    have c2 : wr.cell? ⟨sb, 2, none⟩ = some (.int .i64 1) := (blk_cell hsp 2).trans rfl
    have c3 : wr.cell? ⟨sb, 3, none⟩ = some (.int .i64 1) := (blk_cell hsp 3).trans rfl
    have HFF := hide hF
    clear hF hsp HF0
    by_cases hlt : k < 32
    · rw [show min k 32 = k by omega] at HFF
      have HM := hide (HFF.out.make hlt)
      have q1 : (k : Int) + 1 ≤ 32 := by omega
      have q2 : (k : Int) + 1 ≤ 33 := by omega
      have q3 : ((k : Int) + 1 == 33) = false := by simp; omega
      go_wp2_with (go_at_call 7; refine HM.out.mono ?_; rintro e w3 ⟨rfl, hF⟩; have HF3 := hide hF; clear hF)
      go_roundw
      case rel => exact ⟨k + 1, by omega, by go_num, by rw [show min (k + 1) 32 = k + 1 by omega]; exact HF3.out⟩
      case measure => simp [intOf]; omega
    · by_cases he : k = 32
      · subst he
        have HM := hide (FullI.full HFF.out)
        go_wp2_with (go_at_call 7; refine HM.out.mono ?_; rintro e w3 ⟨rfl, hF⟩; have HF3 := hide hF; clear hF)
        go_roundw
        case rel => exact ⟨33, by omega, by go_num, HF3.out⟩
        case measure => simp [intOf]
      · obtain rfl : k = 33 := by omega
        have HF4 : Hid (FullI w wr b sb 32) := HFF
        clear HFF c0 c1 c2 c3
        go_wp2_with fail
        refine (pick_any x 32 wr (by omega) (by omega) h1 h2).mono ?_
        rintro e w4 ⟨m, hm, rfl, rfl⟩
        have q4 : (m : Int) < 32 := by omega
        go_wp2_with fail
        refine (HF4.out.free (i := m) (1 + (m : Int)) hm (by omega)).mono ?_
        rintro e w5 ⟨rfl, hG⟩
        have hsp := hG.spec
        have c0 : w5.cell? ⟨sb, 0, none⟩ = some (.int .u8 1) := (blk_cell hsp 0).trans rfl
        have c1 : w5.cell? ⟨sb, 1, none⟩ = some (.int .i64 4) := (blk_cell hsp 1).trans rfl
        have c2 : w5.cell? ⟨sb, 2, none⟩ = some (.int .i64 1) := (blk_cell hsp 2).trans rfl
        have c3 : w5.cell? ⟨sb, 3, none⟩ = some (.int .i64 1) := (blk_cell hsp 3).trans rfl
        have HG := hide hG
        clear hG hsp HF4
        go_wp2_with fail
        refine (HG.out.make (by omega)).mono ?_
        rintro e w6 ⟨rfl, A, c, L, hS, hL, hA, hb⟩
        have HS := hide hS
        have HL := hide hL
        have HAT := hide hA
        have HB := hide hb
        clear hS hL hA hb HG c0 c1 c2 c3
        go_wp2_with fail
        refine (spec_no _ HS.out HAT.out).mono ?_
        rintro e w7 ⟨rfl, hb⟩
        have HS7 := hide ((HS.out.below hb).below (below1 w7 (.cells #[.int .u8 0, .int .i64 0, .int .i64 0, .int .i64 0] 27)))
        have HB7 := hide ((HB.out.trans (hb.mono HB.out.size)).alloc (Nat.le_trans HB.out.size hb.size) (.cells #[.int .u8 0, .int .i64 0, .int .i64 0, .int .i64 0] 27))
        clear hb HS HAT HB
        go_wp2_with fail
        refine (handles_any HS7.out).mono ?_
        rintro e w8 ⟨v, rfl, ho, _, hb⟩
        have HB8 := hide (HB7.out.trans (hb.mono HB7.out.size))
        obtain ⟨A2, c2, rfl, _⟩ := owns_slice ho
        rw [HL.out]
        clear ho hb HS7 HB7
        go_wp2
        go_ret
        exact ⟨rfl, HB8.out⟩
end Go.Proofs.Ytgancfllpmgciaa
