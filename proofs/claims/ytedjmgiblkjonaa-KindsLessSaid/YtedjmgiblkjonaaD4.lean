/-
  What all these laws begin with: the document's examples hold.
-/
import Derived.Test.YtedjmgiblkjonaaD3
namespace Go.Proofs.Ytedjmgiblkjonaa
open Go.RowKit Go.Maps
set_option linter.unusedVariables false

theorem four_rd {W : World} {g : Nat} {v0 v1 v2 v3 : Value} {t : TypeId} (h : W.heap[g]? = some (.cells #[v0, v1, v2, v3] t (0, 0))) : Rd W W.heap.size 4 (some ⟨g, 0, none⟩) 1 [v0, v1, v2, v3] :=
  ⟨rfl, fun _ => ⟨_, rfl, at_lt h, fun j u hu => by rw [cell_add, blk_cell h]; simpa using hu⟩⟩
set_option maxRecDepth 100000 in
set_option maxHeartbeats 1000000 in
theorem helper_key (g : Nat) (w : World) (hp : Rd w w.heap.size 4 (some ⟨g, 0, none⟩) 1 (xcells [keyX])) :
    Calls Try.prog 15 #[.agg #[.int .i64 1, .int .i64 0, .int .i64 0, .int .u8 0, .slice (some ⟨g, 0, none⟩) 1 1, .int .u8 1, .int .i64 0, .int .i64 0, .int .i64 0]] w fun e w' => e = .returned (.int .i64 35) ∧ Below w.heap.size w w' := by
  have hN : Hid (∀ w, Calls Try.prog 34 #[.int .i64 1, .int .i64 0, .int .i64 0] w fun e w' => e = .returned (.bool true) ∧ Below w.heap.size w w') := hide (fun w => numbered_any 1 0 0 w)
  have HP := hide hp
  clear hp
  go_enter Try.func15, Try.ntmps15
  go_wp2_with fail
  refine name_call (fun W1 hW1 => ?_)
  have hz := below1 w (.cells #[.int .i64 1, .int .i64 0, .int .i64 0, .int .u8 0, .slice (some ⟨g, 0, none⟩) 1 1, .int .u8 1, .int .i64 0, .int .i64 0, .int .i64 0] 32)
  have hx := World.alloc_heap_new w (.cells #[.int .i64 1, .int .i64 0, .int .i64 0, .int .u8 0, .slice (some ⟨g, 0, none⟩) 1 1, .int .u8 1, .int .i64 0, .int .i64 0, .int .i64 0] 32)
  rw [← hW1] at hz hx
  clear hW1
  (with_reducible refine (Later.calls0 hN.out).mono ?_)
  rintro e w1 ⟨rfl, x, rfl⟩
  have hc := blk_cell ((x.below.block _ (at_lt hx)).trans hx) 4
  simp at hc
  have HB := hide (hz.trans (x.below.mono hz.size))
  have hA := hide (argsError_key g x.w ((HP.out.below HB.out).mono HB.out.size))
  clear hz hx
  go_wp2_with (go_at_call 35; (with_reducible refine hA.out.mono ?_); rintro e w1 ⟨rfl, hb⟩; have HB2 := hide hb; clear hb)
  go_ret
  exact ⟨rfl, HB.out.trans (HB2.out.mono HB.out.size)⟩
set_option maxRecDepth 100000 in
set_option maxHeartbeats 2000000 in
theorem awake_any (w : World) : Calls Try.prog 7 #[] w fun e w' => e = .returned (.bool true) ∧ Below w.heap.size w w' := by
  have hY := hide (fun w => type_yes w)
  have hA1 : Hid (∀ w, Calls Try.prog 10 #[.string ⟨#[97, 95, 49, 46, 98]⟩] w fun e w' => e = .returned (.bool true) ∧ Below w.heap.size w w') := hide (fun w => name_any ⟨#[97, 95, 49, 46, 98]⟩ w (by unfold maxLen; decide))
  have hA2 : Hid (∀ w, Calls Try.prog 10 #[.string ⟨#[65]⟩] w fun e w' => e = .returned (.bool false) ∧ Below w.heap.size w w') := hide (fun w => name_any ⟨#[65]⟩ w (by unfold maxLen; decide))
  go_enter Try.func7, Try.ntmps7
  go_wp2_with fail
  refine name_call (fun W1 hW1 => ?_)
  have hz := below1 w (.cells #[.string ⟨#[116]⟩, .int .i64 8, .slice none 0 0, .slice none 0 0, .int .i64 0, .int .i64 1] 62)
  have hx := World.alloc_heap_new w (.cells #[.string ⟨#[116]⟩, .int .i64 8, .slice none 0 0, .slice none 0 0, .int .i64 0, .int .i64 1] 62)
  rw [← hW1] at hz hx
  clear hW1
  (with_reducible refine (Later.calls0 hY.out).mono ?_)
  rintro e w1 ⟨rfl, x, rfl⟩
  have hr := (x.below.block _ (at_lt hx)).trans hx
  have c0 := blk_cell hr 0
  have c1 := blk_cell hr 1
  have c2 := blk_cell hr 2
  have c3 := blk_cell hr 3
  have c4 := blk_cell hr 4
  have c5 := blk_cell hr 5
  have f2 := Joins.unfrozen_of_block hr 2
  simp at c0 c1 c2 c3 c4 c5
  have hlt := at_lt hr
  have HB := hide (hz.trans (x.below.mono hz.size))
  clear hz hx hr
  go_wp2_with fail
  refine name_call (fun W2 hW2 => ?_)
  have h2 : W2.heap[x.w.heap.size]? = some (.cells exF.cells.toArray 65 (0, 0)) := by
    rw [hW2]
    have := World.alloc_heap_new (x.w.setCell ⟨w.heap.size, 2, none⟩ (.slice (some ⟨x.w.heap.size, 0, none⟩) 1 1)) (.cells exF.cells.toArray 65)
    rw [World.size_setCell] at this
    exact this
  have hb2 : Below w.heap.size w W2 := by
    rw [hW2]
    have := HB.out.setCell (p := ⟨w.heap.size, 2, none⟩) (Nat.le_refl _) (.slice (some ⟨x.w.heap.size, 0, none⟩) 1 1)
    exact this.alloc this.size _
  clear hW2
  have HB2 := hide hb2
  refine (type_no (some ⟨x.w.heap.size, 0, none⟩) 1 W2 (four_rd h2) (by omega) (by unfold maxLen; omega)).mono ?_
  rintro e w1 ⟨rfl, hb3⟩
  have HB3 := hide (hb2.trans (hb3.mono hb2.size))
  clear hb2 hb3 h2 c0 c1 c2 c3 c4 c5 f2
  go_wp2_with fail
  refine name_call (fun W3 hW3 => ?_)
  have h3 : W3.heap[w1.heap.size]? = some (.cells keyX.cells.toArray 46 (0, 0)) := by rw [hW3]; exact World.alloc_heap_new w1 (.cells keyX.cells.toArray 46)
  have hb3 : Below w.heap.size w W3 := by rw [hW3]; exact HB3.out.alloc HB3.out.size _
  clear hW3
  have HK := hide (helper_key w1.heap.size W3 (four_rd h3))
  have HB4 := hide hb3
  clear h3 hb3
  (with_reducible refine HK.out.mono ?_)
  rintro e w2 ⟨rfl, hb4⟩
  have HB5 := hide (HB4.out.trans (hb4.mono HB4.out.size))
  clear hb4
  go_wp2_with fail
  (with_reducible refine (Later.calls0 hA1.out).mono ?_)
  rintro e w3 ⟨rfl, y, rfl⟩
  go_wp2_with fail
  (with_reducible refine (Later.calls y hA2.out).mono ?_)
  rintro e w3 ⟨rfl, y2, rfl⟩
  go_wp2
  go_ret
  exact ⟨rfl, HB5.out.trans (y2.below.mono HB5.out.size)⟩
end Go.Proofs.Ytedjmgiblkjonaa
