/-
  What is told of a region that is live, or why it is not; a memory's table is turned.
-/
import Derived.Test.YtbllnjkagleenaaGreatP2
import Derived.Test.YtbllnjkagleenaaGreatAP3
import Derived.StillTailTactics
namespace Go.Proofs.YtbllnjkagleenaaGreat
open Go.RowKit
set_option linter.unusedVariables false

set_option maxRecDepth 100000 in
theorem live_of (b mm : Nat) (last n k err : Int) (f : Int → Option Value) (A : Option Addr) (m c : Nat) (M : Value) (w : World) (h : PM w b mm last f)
    (hf : ∀ W, Below w.heap.size w W → Calls Tryz.prog 40 #[.pointer (some ⟨b, 1, none⟩), .int .i64 n, M] W fun e w' => e = .returned (.tuple #[.agg #[.int .u8 k, .slice A m c], .int .i64 err]) ∧ Below W.heap.size W w') :
    Calls Tryz.prog 32 #[.pointer (some ⟨b, 0, none⟩), .int .i64 n, M] w fun e w' => e = .returned (.tuple #[.agg #[.int .u8 k, .slice A m c], .int .i64 err]) ∧ Below w.heap.size w w' := by
  have hz := below1 w (.cells #[.int .u8 0, .slice none 0 0] 56)
  have HM := hide (made_yes b _ _ _ (h.below hz).blk)
  have HF := hide (hf _ hz)
  have hx := World.alloc_heap_new w (.cells #[.int .u8 0, .slice none 0 0] 56)
  have HX := hide hx
  have hlt := at_lt h.blk
  clear hf h hx hz
  go_enter Tryz.func32, Tryz.ntmps32
  go_wp2_with (go_at_call 29; refine (HM.out).mono ?_; rintro e w1 ⟨rfl, rfl⟩)
  refine (HF.out).mono ?_
  rintro e w1 ⟨rfl, hb⟩
  have g0 := (hb.block _ (at_lt HX.out)).trans HX.out
  have f0 := blk_free' g0
  have HB := hide ((below1 w (.cells #[.int .u8 0, .slice none 0 0] 56)).trans (hb.mono (below1 w _).size))
  have d0 := blk_cell g0 0
  have d1 := blk_cell g0 1
  simp at d0 d1
  have hlt1 := at_lt g0
  clear hb g0
  go_wp2
  refine bodyPost_ret (v := .tuple #[.agg #[.int .u8 k, .slice A m c], .int .i64 err]) (by simp [results, Tryz.results32, go_sem, *]) rfl ⟨rfl, ?_⟩
  exact (HB.out.setCell (Nat.le_refl _) _).setCell (Nat.le_refl _) _
set_option maxRecDepth 100000 in
theorem live_not (p : Option Addr) (n : Int) (M : Value) (w : World) (h : ∀ W, Below w.heap.size w W → Calls Tryz.prog 29 #[.pointer p] W fun e w' => e = .returned (.bool false) ∧ W = w') :
    Calls Tryz.prog 32 #[.pointer p, .int .i64 n, M] w fun e w' => e = .returned (.tuple #[zr, .int .i64 1]) ∧ Below w.heap.size w w' := by
  have HM := hide (h _ (below1 w (.cells #[.int .u8 0, .slice none 0 0] 56)))
  clear h
  go_enter Tryz.func32, Tryz.ntmps32
  go_wp2_with (go_at_call 29; refine (HM.out).mono ?_; rintro e w1 ⟨rfl, rfl⟩)
  refine bodyPost_ret (v := .tuple #[zr, .int .i64 1]) (by simp [results, Tryz.results32, go_sem]) rfl ⟨rfl, ?_⟩
  exact below1 w _
theorem tableOf_any (w : World) : Calls Tryz.prog 28 #[] w fun e w' => e = .returned (.agg #[.int .i64 0, .map (some (w.heap.size + 1))]) ∧ Below w.heap.size w w' ∧ HasMap w' (w.heap.size + 1) (fun _ => none) := by
  have hmm := @run_makeMap Tryz.prog
  go_enter Tryz.func28, Tryz.ntmps28
  go_wp2
  refine bodyPost_ret (v := .agg #[.int .i64 0, .map (some (w.heap.size + 1))]) (by simp [results, Tryz.results28, go_sem]) rfl ⟨rfl, ?_⟩
  have hx := World.alloc_heap_new (w.alloc (.cells #[.int .i64 0, .map (some (w.heap.size + 1))] 53)) (.map #[] 0)
  simp only [World.size_alloc] at hx
  exact ⟨below2 w _ _, HasMap.made hx⟩
theorem setBlock_other (w : World) {b k : Nat} (o : Obj) (h : k ≠ b) : (ChangeMaps.setBlock w b o).heap[k]? = w.heap[k]? := by
  simp only [ChangeMaps.setBlock]
  rw [Array.getElem?_setIfInBounds_ne (fun e => h e.symm)]
theorem PM.ne {w : World} {b mm : Nat} {last : Int} {f : Int → Option Value} (h : PM w b mm last f) : b ≠ mm := fun e => by
  obtain ⟨es, c, hm⟩ := h.map
  have := h.blk
  rw [e, hm.at_] at this
  cases this
theorem drop_any (b mm : Nat) (last n : Int) (f : Int → Option Value) (w : World) (h : PM w b mm last f) (hw : wfI n) :
    Calls Tryz.prog 36 #[.pointer (some ⟨b, 1, none⟩), .int .i64 n] w fun e w' => e = .returned (.tuple #[]) ∧ PM w' b mm last (setAt f n none) ∧ Kept (fun j => j ≠ mm) w w' := by
  have hlt := at_lt h.blk
  have c2 := blk_cell h.blk 2
  simp at c2
  obtain ⟨o, hd, hm⟩ := h.map.drop (t := 51) (e := 56) Tryz.underlying51 Tryz.underlying3 hw 0
  go_enter Tryz.func36, Tryz.ntmps36
  go_wp2
  exact bodyPost_end (results_none rfl _ _ _) rfl ⟨rfl, ⟨(setBlock_other w o h.ne).trans h.blk, hm⟩, rfl, rfl, rfl, by simp [ChangeMaps.setBlock], fun j _ hj => setBlock_other w o hj⟩
theorem wf_nat {k : Nat} (h : k ≤ 1000000000) : wfI (k : Int) := WalkArith.wf_i64 (by omega)
set_option maxRecDepth 100000 in
theorem add_any (b mm k : Nat) (f : Int → Option Value) (q : Int) (A : Option Addr) (m c : Nat) (w : World) (h : PM w b mm k f) (hk : k + 1 ≤ 1000000000) (hf : f ((k : Int) + 1) = none) :
    Calls Tryz.prog 30 #[.pointer (some ⟨b, 1, none⟩), .agg #[.int .u8 q, .slice A m c]] w fun e w' => e = .returned (.int .i64 ((k : Int) + 1)) ∧ PM w' b mm ((k : Int) + 1) (setAt f ((k : Int) + 1) (some (.agg #[.int .u8 q, .slice A m c]))) ∧ Kept (fun j => j ≠ b ∧ j ≠ mm) w w' := by
  have hlt := at_lt h.blk
  have c1 := blk_cell h.blk 1
  have c2 := blk_cell h.blk 2
  have f1 := blk_free' h.blk
  simp at c1 c2
  have HH := hide h
  have HF := hide hf
  clear h hf
  go_enter Tryz.func30, Tryz.ntmps30
  go_wp2
  refine wp_region_still_tail 9 (by kernel_rfl) (by kernel_rfl) ?_
  simp only [List.take_succ_cons, List.take_zero, List.drop_succ_cons, List.drop_zero]
  generalize hW : ({ (w.setCell ⟨b, 1, none⟩ (.int .i64 ((k : Int) + 1))).alloc (.cells #[.int .u8 q, .slice A m c] 56) with drawn := _ } : World) = W2
  have hsw : (w.setCell ⟨b, 1, none⟩ (.int .i64 ((k : Int) + 1))).heap.size = w.heap.size := by simp [World.setCell]
  have hsz : W2.heap.size = w.heap.size + 1 := by rw [← hW]; simp [World.setCell]
  have hoth : ∀ j, j < w.heap.size → j ≠ b → W2.heap[j]? = w.heap[j]? := fun j hj hne => by
    rw [← hW]
    exact ((below1 (w.setCell ⟨b, 1, none⟩ (.int .i64 ((k : Int) + 1))) _).block j (by rw [hsw]; exact hj)).trans (Below.heap_setCell _ _ _ j (fun e => hne e))
  have hbb : W2.heap[b]? = some (.cells #[.pointer (some ⟨b, 0, none⟩), .int .i64 ((k : Int) + 1), .map (some mm)] 58 (0, 0)) := by
    rw [← hW]
    refine ((below1 (w.setCell ⟨b, 1, none⟩ (.int .i64 ((k : Int) + 1))) (.cells #[.int .u8 q, .slice A m c] 56)).block b (by rw [hsw]; exact hlt)).trans ?_
    have := HH.out.blk
    simp only [World.setCell, Array.getElem?_modify, this]
    simp
  have hbx : W2.heap[w.heap.size]? = some (.cells #[.int .u8 q, .slice A m c] 56 (0, 0)) := by
    rw [← hW]
    have := World.alloc_heap_new (w.setCell ⟨b, 1, none⟩ (.int .i64 ((k : Int) + 1))) (.cells #[.int .u8 q, .slice A m c] 56)
    rw [hsw] at this
    exact this
  clear hsw
  have hrun : W2.os = w.os ∧ W2.tape = w.tape ∧ W2.output = w.output := by rw [← hW]; exact ⟨rfl, rfl, rfl⟩
  have hmap : HasMap W2 mm f := HH.out.map.same (hoth mm HH.out.map.lt (fun e => HH.out.ne e.symm))
  clear hW
  obtain ⟨o, hput, hm2⟩ := hmap.put (t := 51) (e := 56) (n := (k : Int) + 1) (val := .agg #[.int .u8 q, .slice A m c]) Tryz.underlying51 Tryz.underlying3 (by exact wf_nat hk) HF.out
  replace c1 := blk_cell hbb 1
  replace c2 := blk_cell hbb 2
  have x0 := blk_cell hbx 0
  have x1 := blk_cell hbx 1
  simp at c1 c2 x0 x1
  have HO := hide hoth
  have HBB := hide hbb
  have HM2 := hide hm2
  have HZ := hide hsz
  have HR := hide hrun
  clear hoth hbb hbx hmap hm2 hsz hrun
  have c3 : (ChangeMaps.setBlock W2 mm o).cell? ⟨b, 1, none⟩ = some (.int .i64 ((k : Int) + 1)) := (World.cell?_of_block (setBlock_other W2 o HH.out.ne)).trans c1
  repeat still_step
  refine wpStill_nil ?_
  go_wp2
  go_ret
  refine ⟨rfl, ⟨(setBlock_other W2 o HH.out.ne).trans HBB.out, HM2.out⟩, ?_⟩
  exact ⟨HR.out.1, HR.out.2.1, HR.out.2.2, by simp [ChangeMaps.setBlock]; have := HZ.out; omega, fun j hj h => (setBlock_other W2 o h.2).trans (HO.out j hj h.1)⟩
end Go.Proofs.YtbllnjkagleenaaGreat
