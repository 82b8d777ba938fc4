/-
  The document's New.
-/
import Derived.Test.YtflpifelamkagaaGreatY3
import Derived.Test.YtflpifelamkagaaGreatKI5
namespace Go.Proofs.YtflpifelamkagaaGreat
open Go.RowKit Go.Maps
set_option linter.unusedVariables false

set_option maxRecDepth 100000 in
set_option maxHeartbeats 1000000 in
theorem rnew_no (k key val ent : Int) (w : World) (hk : 0 ≤ k ∧ k < 256) (he : newE k key val ent ≠ 0) :
    Calls Tryz.prog 8 #[.agg #[.int .u8 k, .int .i64 key, .int .i64 val, .int .i64 ent]] w fun e w' => e = .returned (.tuple #[.pointer none, .int .i64 (newE k key val ent)]) ∧ Below w.heap.size w w' := by
  have hb1 := below1 w (.cells #[.int .u8 k, .int .i64 key, .int .i64 val, .int .i64 ent] 24)
  have hx := World.alloc_heap_new w (.cells #[.int .u8 k, .int .i64 key, .int .i64 val, .int .i64 ent] 24)
  have HS := hide (rspec_any k key val ent (w.alloc (.cells #[.int .u8 k, .int .i64 key, .int .i64 val, .int .i64 ent] 24)) hk)
  have HX := hide hx
  have HB1 := hide hb1
  have HE : Hid (newE k key val ent = if specM k key val ent = 0 then (if k = 5 ∨ k = 6 then 0 else 9) else specM k key val ent) := hide rfl
  clear hx hb1
  generalize newE k key val ent = ne at *
  generalize specM k key val ent = sm at *
  by_cases hs : sm = 0
  · subst hs
    have hk1 : ¬ (k = 5 ∨ k = 6) := fun h => he (by rw [HE.out, if_pos rfl, if_pos h])
    obtain rfl : ne = 9 := by rw [HE.out, if_pos rfl, if_neg hk1]
    have hkb : (k != 5) = true := by simp; omega
    have hkb2 : (k != 6) = true := by simp; omega
    clear he HE hk1
    go_enter Tryz.func8, Tryz.ntmps8
    go_wp2_with (go_at_call 26; refine HS.out.mono ?_; rintro e w1 ⟨rfl, hb⟩; have HB := hide (HB1.out.trans (hb.mono HB1.out.size)); have hxx := (hb.block _ (at_lt HX.out)).trans HX.out; have d0 : w1.cell? ⟨w.heap.size, 0, none⟩ = some (.int .u8 k) := (blk_cell hxx 0).trans rfl; clear hb hxx)
    go_ret2
    exact ⟨rfl, HB.out⟩
  · obtain rfl : ne = sm := by rw [HE.out, if_neg hs]
    have hkb : (ne == 0) = false := by simpa using hs
    have hkb2 : (ne != 0) = true := by simpa using hs
    clear he HE hs
    go_enter Tryz.func8, Tryz.ntmps8
    go_wp2_with (go_at_call 26; refine HS.out.mono ?_; rintro e w1 ⟨rfl, hb⟩; have HB := hide (HB1.out.trans (hb.mono HB1.out.size)); clear hb)
    go_ret2
    exact ⟨rfl, HB.out⟩
/-- What the document's New tells of a right make. -/
def RNewTold (st : Bool) (sz n : Nat) (w : World) (e : Ending) (w' : World) : Prop := ∃ x, e = .returned (.tuple #[.pointer (some ⟨x, 0, none⟩), .int .i64 0]) ∧ RQue w' w.heap.size x st sz n none 0 [] ∧ Below w.heap.size w w'
theorem RQue.made {w w1 : World} {st : Bool} {sz n : Nat} (hb : Below w.heap.size w w1) (hs : 1 ≤ sz ∧ sz ≤ 1024) (hn : 1 ≤ n ∧ n ≤ 1024) : RNewTold st sz n w (.returned (.tuple #[.pointer (some ⟨w1.heap.size, 0, none⟩), .int .i64 0])) (w1.alloc (.cells #[.int .u8 (kindI st), .int .i64 0, .int .i64 sz, .int .i64 n, .slice none 0 0] 49)) := by
  have h1 := World.alloc_heap_new w1 (.cells #[.int .u8 (kindI st), .int .i64 0, .int .i64 sz, .int .i64 n, .slice none 0 0] 49)
  refine ⟨_, rfl, ⟨h1, owns_nil _ _ _, nofun, ?_, hs, by simp; omega⟩, hb.alloc hb.size _⟩
  rintro g (rfl | h | ⟨r, hr, _⟩)
  · exact hb.size
  · cases h
  · cases hr
set_option maxRecDepth 100000 in
set_option maxHeartbeats 1000000 in
theorem rnew_yes (st : Bool) (sz n : Nat) (w : World) (hs : 1 ≤ sz ∧ sz ≤ 1024) (hn : 1 ≤ n ∧ n ≤ 1024) :
    Calls Tryz.prog 8 #[.agg #[.int .u8 (kindI st), .int .i64 0, .int .i64 sz, .int .i64 n]] w (RNewTold st sz n w) := by
  have hb1 := below1 w (.cells #[.int .u8 (kindI st), .int .i64 0, .int .i64 sz, .int .i64 n] 24)
  have hx := World.alloc_heap_new w (.cells #[.int .u8 (kindI st), .int .i64 0, .int .i64 sz, .int .i64 n] 24)
  have HS0 := rspec_any (kindI st) 0 sz n (w.alloc (.cells #[.int .u8 (kindI st), .int .i64 0, .int .i64 sz, .int .i64 n] 24)) (by cases st <;> decide)
  rw [specM_que hs hn] at HS0
  have HS := hide HS0
  have HX := hide hx
  have HB1 := hide hb1
  have HFIN : Hid (∀ w1, Below w.heap.size w w1 → RNewTold st sz n w _ _) := hide (fun w1 hb => RQue.made (w := w) (w1 := w1) (st := st) hb hs hn)
  clear hx hb1 HS0
  cases st
  all_goals
    simp only [kindI] at *
    go_enter Tryz.func8, Tryz.ntmps8
    go_wp2_with (go_at_call 26; refine HS.out.mono ?_; rintro e w1 ⟨rfl, hb⟩; have HB := hide (HB1.out.trans (hb.mono HB1.out.size)); have hxx := (hb.block _ (at_lt HX.out)).trans HX.out; have d0 := (blk_cell hxx 0); have d1 : w1.cell? ⟨w.heap.size, 1, none⟩ = some (.int .i64 0) := (blk_cell hxx 1).trans rfl; have d2 : w1.cell? ⟨w.heap.size, 2, none⟩ = some (.int .i64 sz) := (blk_cell hxx 2).trans rfl; have d3 : w1.cell? ⟨w.heap.size, 3, none⟩ = some (.int .i64 n) := (blk_cell hxx 3).trans rfl; simp at d0; have hlt : w.heap.size < w1.heap.size := at_lt hxx; clear hb hxx)
    go_ret2
    exact HFIN.out w1 HB.out
end Go.Proofs.YtflpifelamkagaaGreat
