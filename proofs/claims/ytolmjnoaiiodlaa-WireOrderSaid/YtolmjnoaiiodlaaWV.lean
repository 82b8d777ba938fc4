/-
  A tree's bytes: Size, Put.
-/
import Derived.Test.YtolmjnoaiiodlaaWT
namespace Go.Proofs.Ytolmjnoaiiodlaa
open Go.RowKit Go.Maps Forest
set_option linter.unusedVariables false

theorem TV.Is.wf_size {W : World} {B : Nat} {t : TV} (h : t.Is W B) (hB : B ≤ W.heap.size) (hw : Forest.Wf t.row) (hS : sizeF t.row ≤ 1000000000) : Calls Try.prog 25 #[t.val] W fun e w' => e = .returned (.int .i64 (sizeF t.row : Nat)) ∧ Below W.heap.size W w' :=
  size_all (t.kids.size + 1) t.k t.n t.bs t.kids t.bA t.bc t.kA t.kc B W (by omega) h.kids hB hw hS
set_option maxRecDepth 100000 in
theorem Size_any (t : TV) (B : Nat) (w : World) (h : t.Is w B) (hB : B ≤ w.heap.size) (hw : Forest.Wf t.row) (hS : sizeF t.row ≤ 1000000000) (hE : putE t = 0) : Calls Try.prog 11 #[t.val] w fun e w' => e = .returned (.int .i64 (sizeF t.row : Nat)) ∧ Below w.heap.size w w' := by
  obtain ⟨w1, hw1⟩ : ∃ w1, w1 = w.alloc (.cells #[.int .u8 t.k, .int .i64 t.n, .slice t.bA t.bs.length t.bc, .slice t.kA t.kids.len t.kc] 26) := ⟨_, rfl⟩
  have hb1 : Below w.heap.size w w1 := by rw [hw1]; exact below1 _ _
  have hx1 : w1.heap[w.heap.size]? = some (.cells #[.int .u8 t.k, .int .i64 t.n, .slice t.bA t.bs.length t.bc, .slice t.kA t.kids.len t.kc] 26 (0, 0)) := by rw [hw1]; exact World.alloc_heap_new _ _
  have HM := mayPut_any t B w1 (h.below (hb1.mono hB)) (Nat.le_trans hB hb1.size)
  rw [hE] at HM
  have HMP := hide HM
  have HSZ : Hid (∀ W, Below w1.heap.size w1 W → Calls Try.prog 25 #[t.val] W fun e w' => e = .returned (.int .i64 (sizeF t.row : Nat)) ∧ Below W.heap.size W w') := fun W hb => ((h.below (hb1.mono hB)).below (hb.mono (Nat.le_trans hB hb1.size))).wf_size (Nat.le_trans (Nat.le_trans hB hb1.size) hb.size) hw hS
  have HB1 := hide hb1
  have HX1 := hide hx1
  have HW1 := hide hw1
  generalize sizeF t.row = sz at HSZ ⊢
  clear hb1 hx1 hw1 h hw hS HM hE
  unfold TV.val at HMP HSZ ⊢
  go_enter Try.func11, Try.ntmps11
  go_wp2_with fail
  rw [show w.alloc (.cells #[.int .u8 t.k, .int .i64 t.n, .slice t.bA t.bs.length t.bc, .slice t.kA t.kids.len t.kc] 26) = w1 from HW1.out.symm]
  refine HMP.out.mono ?_
  rintro e w2 ⟨rfl, hb2⟩
  have hx2 : w2.heap[w.heap.size]? = some (.cells #[.int .u8 t.k, .int .i64 t.n, .slice t.bA t.bs.length t.bc, .slice t.kA t.kids.len t.kc] 26 (0, 0)) := (hb2.block _ (at_lt HX1.out)).trans HX1.out
  have d0 := (blk_cell hx2 0).trans rfl
  have d1 := (blk_cell hx2 1).trans rfl
  have d2 := (blk_cell hx2 2).trans rfl
  have d3 := (blk_cell hx2 3).trans rfl
  have HB2 := hide (HB1.out.trans (hb2.mono HB1.out.size))
  have HC := hide (HSZ.out w2 hb2)
  clear hb2 hx2
  go_wp2_with fail
  refine HC.out.mono ?_
  rintro e w3 ⟨rfl, hb3⟩
  have HB3 := hide (HB2.out.trans (hb3.mono HB2.out.size))
  clear hb3
  go_wp2_with fail
  go_ret
  exact ⟨rfl, HB3.out⟩
theorem made_bytes (c : Nat) (hc : c ≤ 4194304) : ∃ C : Array Value, C.size = c ∧ ∀ w : World, (Instr.makeSlice 23 (.int .i64 0) (.int .i64 (c : Int))).run Try.prog w = .ok (.slice (some ⟨w.heap.size, 0, none⟩) 0 c) (w.alloc (.cells C 5)) ∧
    Row (w.alloc (.cells C 5)) w.heap.size c 5 1 0 [] := by
  obtain ⟨i0, hi, hz0, hz1, hz2⟩ := info_parts u8info
  refine ⟨madeCells (Value.int .u8 0).cells (c * i0.size), by rw [size_madeCells, hz1]; omega, fun w => ⟨?_, ?_⟩⟩
  · have := run_make (P := Try.prog) w 23 5 i0 _ Try.underlying23 hi hz0 .i64 .i64 0 (c : Int) (Int.le_refl _) (by omega) (by rw [hz2]; omega) (by omega)
    simpa using this
  · exact World.ownsRow_made w _ c (Nat.zero_le _) (by simp only [maxLen]; omega) (by rw [size_madeCells, hz1])
theorem TV.Is.wf_put {W : World} {B : Nat} {t : TV} (h : t.Is W B) (hB : B ≤ W.heap.size) (hw : Forest.Wf t.row) (hS : sizeF t.row ≤ 1000000000) (g cc : Nat) (hg : B ≤ g) (ho : W.ownsRow 0 5 1 (.slice (some ⟨g, 0, none⟩) 0 cc) 0 []) : Calls Try.prog 24 #[.slice (some ⟨g, 0, none⟩) 0 cc, t.val] W fun e w' => ∃ u, e = .returned u ∧ w'.ownsRow 0 5 1 u (sizeF t.row) (u8s (putF t.row)) ∧ Grows W (.slice (some ⟨g, 0, none⟩) 0 cc) w' u := by
  have := put_all (t.kids.size + 1) t.k t.n t.bs t.kids t.bA t.bc t.kA t.kc (some ⟨g, 0, none⟩) cc 0 [] B W (by omega) h.rd h.nil h.kids (fun g' hg' => by cases hg'; exact hg) hB hw (by rw [Nat.zero_add]; exact hS) ho
  rw [Nat.zero_add, List.nil_append] at this
  exact this
theorem owns_cap {w : World} {e : TypeId} {sz n c : Nat} {A : Option Addr} {xs : List Value} (h : w.ownsRow 0 e sz (.slice A n c) n xs) : n ≤ c := by
  rcases h.2 with ⟨hv, h0⟩ | ⟨g', cap, cur, hv, _, _, hn, _⟩
  · omega
  · cases hv; exact hn
set_option maxRecDepth 100000 in
set_option maxHeartbeats 2000000 in
theorem Put_any (t : TV) (B : Nat) (w : World) (h : t.Is w B) (hB : B ≤ w.heap.size) (hw : Forest.Wf t.row) (hS : sizeF t.row ≤ 1000000) (hE : putE t = 0) : Calls Try.prog 9 #[t.val] w fun e w' => ∃ A c, e = .returned (.tuple #[.slice A (sizeF t.row) c, .int .i64 0]) ∧ Rd w' w'.heap.size 1 A (sizeF t.row) (u8s (putF t.row)) ∧ Below w.heap.size w w' ∧ sizeF t.row ≤ c := by
  obtain ⟨w1, hw1⟩ : ∃ w1, w1 = w.alloc (.cells #[.int .u8 t.k, .int .i64 t.n, .slice t.bA t.bs.length t.bc, .slice t.kA t.kids.len t.kc] 26) := ⟨_, rfl⟩
  have hb1 : Below w.heap.size w w1 := by rw [hw1]; exact below1 _ _
  have hx1 : w1.heap[w.heap.size]? = some (.cells #[.int .u8 t.k, .int .i64 t.n, .slice t.bA t.bs.length t.bc, .slice t.kA t.kids.len t.kc] 26 (0, 0)) := by rw [hw1]; exact World.alloc_heap_new _ _
  have HM := mayPut_any t B w1 (h.below (hb1.mono hB)) (Nat.le_trans hB hb1.size)
  rw [hE] at HM
  have HMP := hide HM
  have HSZ : Hid (∀ W, Below w1.heap.size w1 W → Calls Try.prog 25 #[t.val] W fun e w' => e = .returned (.int .i64 (sizeF t.row : Nat)) ∧ Below W.heap.size W w') := fun W hb => ((h.below (hb1.mono hB)).below (hb.mono (Nat.le_trans hB hb1.size))).wf_size (Nat.le_trans (Nat.le_trans hB hb1.size) hb.size) hw (by omega)
  have HPT : Hid (∀ W g, Below w1.heap.size w1 W → w1.heap.size ≤ g → W.ownsRow 0 5 1 (.slice (some ⟨g, 0, none⟩) 0 (sizeF t.row)) 0 [] → Calls Try.prog 24 #[.slice (some ⟨g, 0, none⟩) 0 (sizeF t.row), t.val] W fun e w' => ∃ u, e = .returned u ∧ w'.ownsRow 0 5 1 u (sizeF t.row) (u8s (putF t.row)) ∧ Grows W (.slice (some ⟨g, 0, none⟩) 0 (sizeF t.row)) w' u) := fun W g hb hg ho => ((h.below (hb1.mono hB)).below (hb.mono (Nat.le_trans hB hb1.size))).wf_put (Nat.le_trans (Nat.le_trans hB hb1.size) hb.size) hw (by omega) g _ (Nat.le_trans (Nat.le_trans hB hb1.size) hg) ho
  obtain ⟨C, hCs, hC⟩ := made_bytes (sizeF t.row) (by omega)
  have HB1 := hide hb1
  have HX1 := hide hx1
  have HW1 := hide hw1
  have HCO : Hid (∀ W : World, Row (W.alloc (.cells C 5)) W.heap.size (sizeF t.row) 5 1 0 []) := fun W => (hC W).2
  have hmk : ∀ W : World, (Instr.makeSlice 23 (.int .i64 0) (.int .i64 ((sizeF t.row : Nat) : Int))).run Try.prog W = .ok (.slice (some ⟨W.heap.size, 0, none⟩) 0 (sizeF t.row)) (W.alloc (.cells C 5)) := fun W => (hC W).1
  generalize sizeF t.row = sz at HSZ HPT HCO hmk ⊢
  generalize putF t.row = pl at HPT ⊢
  clear hb1 hx1 hw1 h hw hS HM hE hCs hC
  unfold TV.val at HMP HSZ HPT ⊢
  go_enter Try.func9, Try.ntmps9
  go_wp2_with fail
  rw [show w.alloc (.cells #[.int .u8 t.k, .int .i64 t.n, .slice t.bA t.bs.length t.bc, .slice t.kA t.kids.len t.kc] 26) = w1 from HW1.out.symm]
  refine HMP.out.mono ?_
  rintro e w2 ⟨rfl, hb2⟩
  have hx2 : w2.heap[w.heap.size]? = some (.cells #[.int .u8 t.k, .int .i64 t.n, .slice t.bA t.bs.length t.bc, .slice t.kA t.kids.len t.kc] 26 (0, 0)) := (hb2.block _ (at_lt HX1.out)).trans HX1.out
  have d0 := (blk_cell hx2 0).trans rfl
  have d1 := (blk_cell hx2 1).trans rfl
  have d2 := (blk_cell hx2 2).trans rfl
  have d3 := (blk_cell hx2 3).trans rfl
  have HX2 := hide hx2
  have HB2 := hide hb2
  clear hb2 hx2
  go_wp2_with fail
  go_region_with (first
    | (go_at_call 25; refine (HSZ.out _ (Below.drew HB2.out)).mono ?_; rintro e w3 ⟨rfl, hb3⟩
       have HB3 := hide ((Below.drew HB2.out).trans (hb3.mono (Below.drew HB2.out).size))
       have hx3 : w3.heap[w.heap.size]? = some (.cells #[.int .u8 t.k, .int .i64 t.n, .slice t.bA t.bs.length t.bc, .slice t.kA t.kids.len t.kc] 26 (0, 0)) := (hb3.block _ (at_lt HX2.out)).trans HX2.out
       have hx3a : (w3.alloc (.cells C 5)).heap[w.heap.size]? = some (.cells #[.int .u8 t.k, .int .i64 t.n, .slice t.bA t.bs.length t.bc, .slice t.kA t.kids.len t.kc] 26 (0, 0)) := ((below1 w3 _).block _ (at_lt hx3)).trans hx3
       have f0 := (blk_cell hx3 0).trans rfl
       have f1 := (blk_cell hx3 1).trans rfl
       have f2 := (blk_cell hx3 2).trans rfl
       have f3 := (blk_cell hx3 3).trans rfl
       have g0 := (blk_cell hx3a 0).trans rfl
       have g1 := (blk_cell hx3a 1).trans rfl
       have g2 := (blk_cell hx3a 2).trans rfl
       have g3 := (blk_cell hx3a 3).trans rfl
       clear hb3 hx3 hx3a d0 d1 d2 d3)
    | (go_at_call 24; refine (HPT.out _ _ (HB3.out.alloc HB3.out.size _) HB3.out.size (HCO.out _)).mono ?_; rintro e w4 ⟨u, rfl, ho4, hg4⟩
       have HO4 := hide ho4
       have HG4 := hide (((HB1.out.trans (HB3.out.mono HB1.out.size)).alloc (Nat.le_trans HB1.out.size HB3.out.size) (.cells C 5)).trans (hg4.below (B := w.heap.size) (fun g hg => by cases hg; exact Nat.le_trans HB1.out.size HB3.out.size) (Nat.le_trans (Nat.le_trans HB1.out.size HB3.out.size) (below1 w3 _).size)))
       clear ho4 hg4 f0 f1 f2 f3 g0 g1 g2 g3))
  all_goals
    obtain ⟨A4, c4, hu, hr⟩ := owns_slice HO4.out
    subst hu
    have HR := hide hr
    have HCP := hide (owns_cap HO4.out)
    clear hr
    go_wp2_with fail
    go_ret2
    exact ⟨A4, c4, rfl, HR.out, HG4.out, HCP.out⟩
