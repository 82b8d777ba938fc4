/-
  What stands at a number in a memory's table.
-/
import Derived.Test.YtbllnjkagleenaaGreatP1
namespace Go.Proofs.YtbllnjkagleenaaGreat
open Go.RowKit
set_option linter.unusedVariables false

def wfI (n : Int) : Prop := (Lit.int .i64 n).wf = true
abbrev zr : Value := .agg #[.int .u8 0, .slice none 0 0]
abbrev zrO : Obj := .cells #[.int .u8 0, .slice none 0 0] 56
theorem PM.lookN {w w' : World} {b mm : Nat} {last : Int} {f : Int → Option Value} {n : Int} (h : PM w b mm last f) (hb : Below w.heap.size w w') (hw : wfI n) (hf : f n = none) :
    (Instr.lookup 51 (.map (some mm)) (.int .i64 n) true).run Tryz.prog w' = .ok (.tuple #[zr, .bool false]) w' :=
  (h.below hb).map.look_none Tryz.underlying51 Tryz.underlying3 hw hf (zeroRow _)
theorem PM.lookY {w w' : World} {b mm : Nat} {last : Int} {f : Int → Option Value} {n : Int} {v : Value} (h : PM w b mm last f) (hb : Below w.heap.size w w') (hw : wfI n) (hf : f n = some v) :
    (Instr.lookup 51 (.map (some mm)) (.int .i64 n) true).run Tryz.prog w' = .ok (.tuple #[v, .bool true]) w' :=
  (h.below hb).map.look Tryz.underlying51 Tryz.underlying3 hw hf
theorem below3 (w : World) (o o' o2 : Obj) : Below w.heap.size w (((w.alloc o).alloc o').alloc o2) := (below2 w o o').alloc (by simp; omega) _
theorem blk_free' {W : World} {b : Nat} {cs : Array Value} {t : TypeId} (h : W.heap[b]? = some (.cells cs t (0, 0))) : ∀ i, W.frozen? ⟨b, i, none⟩ = false := fun i => by simp [World.frozen?, h]
theorem three_boxes (w : World) (o o' o2 : Obj) : (((w.alloc o).alloc o').alloc o2).heap[w.heap.size]? = some o ∧ (((w.alloc o).alloc o').alloc o2).heap[w.heap.size + 1]? = some o' ∧ (((w.alloc o).alloc o').alloc o2).heap[w.heap.size + 1 + 1]? = some o2 := by
  have h1 := World.alloc_heap_new (w.alloc o) o'
  have h2 := World.alloc_heap_new ((w.alloc o).alloc o') o2
  simp only [World.size_alloc] at h1 h2
  exact ⟨((below2 (w.alloc o) o' o2).block _ (by simp)).trans (World.alloc_heap_new w o), ((below1 ((w.alloc o).alloc o') o2).block _ (by simp)).trans h1, h2⟩
set_option maxRecDepth 100000 in
theorem find_none (b mm : Nat) (last n : Int) (f : Int → Option Value) (A : Option Addr) (m c : Nat) (w : World) (h : PM w b mm last f) (hw : wfI n) (hf : f n = none) :
    Calls Tryz.prog 40 #[.pointer (some ⟨b, 1, none⟩), .int .i64 n, .slice A m c] w fun e w' => e = .returned (.tuple #[zr, .int .i64 6]) ∧ Below w.heap.size w w' := by
  have hl := h.lookN (below2 w zrO zrO) hw hf
  have hlt := at_lt h.blk
  have c2 := blk_cell h.blk 2
  simp at c2
  clear h hf hw
  go_enter Tryz.func40, Tryz.ntmps40
  go_wp2
  refine bodyPost_ret (v := .tuple #[zr, .int .i64 6]) (by simp [results, Tryz.results40, go_sem]) rfl ⟨rfl, ?_⟩
  exact below3 w _ _ _
set_option maxRecDepth 100000 in
theorem find_nil (b mm : Nat) (last n k : Int) (f : Int → Option Value) (A : Option Addr) (m c : Nat) (w : World) (h : PM w b mm last f) (hw : wfI n) (hf : f n = some (.agg #[.int .u8 k, .slice A m c])) :
    Calls Tryz.prog 40 #[.pointer (some ⟨b, 1, none⟩), .int .i64 n, .slice none 0 0] w fun e w' => e = .returned (.tuple #[.agg #[.int .u8 k, .slice A m c], .int .i64 0]) ∧ Below w.heap.size w w' := by
  have hl := h.lookY (below2 w zrO zrO) hw hf
  have hlt := at_lt h.blk
  have c2 := blk_cell h.blk 2
  simp at c2
  clear h hf hw
  go_enter Tryz.func40, Tryz.ntmps40
  go_wp2
  refine wp_loop_rounds 1 ?_
  rw [rounds_succ]
  go_wp2
  refine bodyPost_ret (v := .tuple #[.agg #[.int .u8 k, .slice A m c], .int .i64 0]) (by simp [results, Tryz.results40, go_sem]) rfl ⟨rfl, ?_⟩
  exact below3 w _ _ _
set_option maxRecDepth 100000 in
theorem find_one (b mm p q r : Nat) (last n k off size : Int) (f : Int → Option Value) (A : Option Addr) (m c : Nat) (w : World) (h : PM w b mm last f) (hw : wfI n) (hf : f n = some (.agg #[.int .u8 k, .slice A m c]))
    (hr : w.cell? ⟨r, 0, none⟩ = some (.func (.func 42) #[] #[.pointer (some ⟨p, 0, none⟩), .pointer (some ⟨q, 0, none⟩)])) (hrl : r < w.heap.size) (hp : w.cell? ⟨p, 0, none⟩ = some (.int .i64 off)) (hq : w.cell? ⟨q, 0, none⟩ = some (.int .i64 size)) (hpl : p < w.heap.size) (hql : q < w.heap.size) (hn : m ≤ 1000000) (ho : off ≤ 9223372036854775807) (ho2 : -9223372036854775808 ≤ off) :
    Calls Tryz.prog 40 #[.pointer (some ⟨b, 1, none⟩), .int .i64 n, .slice (some ⟨r, 0, none⟩) 1 1] w fun e w' => (e = if fitsB m off size then .returned (.tuple #[.agg #[.int .u8 k, .slice A m c], .int .i64 0]) else .returned (.tuple #[zr, .int .i64 32])) ∧ Below w.heap.size w w' := by
  have hl := h.lookY (below2 w zrO zrO) hw hf
  have hlt := at_lt h.blk
  have c2 := blk_cell h.blk 2
  simp at c2
  clear h hf hw
  dsimp only [zrO, zr] at hl
  have hr1 := ((below2 w zrO zrO).cell hrl).trans hr
  have hr2 := ((below3 w zrO zrO (.cells #[.int .u8 k, .slice A m c] 56)).cell hrl).trans hr
  dsimp only [zrO, zr] at hr1 hr2
  have HB := hide (below3 w (.cells #[.int .u8 0, .slice none 0 0] 56) (.cells #[.int .u8 0, .slice none 0 0] 56) (.cells #[.int .u8 k, .slice A m c] 56))
  have HC := hide (ask_any k A m c p q off size _ ((HB.out.cell (p := ⟨p, 0, none⟩) hpl).trans hp) ((HB.out.cell (p := ⟨q, 0, none⟩) hql).trans hq) (Nat.lt_of_lt_of_le hpl HB.out.size) (Nat.lt_of_lt_of_le hql HB.out.size) hn ho ho2)
  clear hp hq
  have hr3 : ∀ w1, Below (((w.alloc (.cells #[.int .u8 0, .slice none 0 0] 56)).alloc (.cells #[.int .u8 0, .slice none 0 0] 56)).alloc (.cells #[.int .u8 k, .slice A m c] 56)).heap.size (((w.alloc (.cells #[.int .u8 0, .slice none 0 0] 56)).alloc (.cells #[.int .u8 0, .slice none 0 0] 56)).alloc (.cells #[.int .u8 k, .slice A m c] 56)) w1 →
      Below w.heap.size w w1 ∧ w1.heap[w.heap.size]? = some (.cells #[.int .u8 0, .slice none 0 0] 56 (0, 0)) ∧ w1.heap[w.heap.size + 1]? = some (.cells #[.int .u8 0, .slice none 0 0] 56 (0, 0)) ∧ w1.heap[w.heap.size + 1 + 1]? = some (.cells #[.int .u8 k, .slice A m c] 56 (0, 0)) := fun w1 hb => by
    obtain ⟨g0, g1, g2⟩ := three_boxes w (.cells #[.int .u8 0, .slice none 0 0] 56) (.cells #[.int .u8 0, .slice none 0 0] 56) (.cells #[.int .u8 k, .slice A m c] 56)
    exact ⟨HB.out.trans (hb.mono HB.out.size), (hb.block _ (at_lt g0)).trans g0, (hb.block _ (at_lt g1)).trans g1, (hb.block _ (at_lt g2)).trans g2⟩
  have HR3 := hide hr3
  clear hr3
  cases hfit : fitsB m off size
  · rw [hfit] at HC
    go_enter Tryz.func40, Tryz.ntmps40
    go_wp2
    refine wp_loop_rounds 2 ?_
    rw [rounds_succ]
    go_wp2_with fail
    refine (HC.out).mono ?_
    rintro e w1 ⟨rfl, hb⟩
    obtain ⟨hbw, g0, g1, g2⟩ := HR3.out w1 hb
    have d0 := blk_cell g0 0
    have d1 := blk_cell g0 1
    have e0 := blk_cell g1 0
    have e1 := blk_cell g1 1
    have f0 := blk_free' g0
    simp at d0 d1 e0 e1
    have hlt1 := at_lt g0
    have HBW := hide hbw
    have HG0 := hide g0
    clear hb hbw g0 g1 g2 hr hr1 hr2 HR3 HC hl c2
    go_wp2
    refine bodyPost_ret (v := .tuple #[zr, .int .i64 32]) (by simp [results, Tryz.results40, go_sem, *]) rfl ⟨rfl, ?_⟩
    exact (HBW.out.setCell (Nat.le_refl _) _).setCell (Nat.le_refl _) _
  · rw [hfit] at HC
    go_enter Tryz.func40, Tryz.ntmps40
    go_wp2
    refine wp_loop_rounds 2 ?_
    rw [rounds_succ]
    go_wp2_with fail
    refine (HC.out).mono ?_
    rintro e w1 ⟨rfl, hb⟩
    obtain ⟨hbw, g0, g1, g2⟩ := HR3.out w1 hb
    have d0 := blk_cell g0 0
    have d1 := blk_cell g0 1
    have e0 := blk_cell g1 0
    have e1 := blk_cell g1 1
    have f0 := blk_free' g0
    have c0 := blk_cell g2 0
    have c1 := blk_cell g2 1
    simp at d0 d1 e0 e1 c0 c1
    have hlt1 := at_lt g0
    have HBW := hide hbw
    have HG0 := hide g0
    clear hb hbw g0 g1 g2 hr hr1 hr2 HR3 HC hl c2
    go_wp2_with fail
    rw [rounds_succ]
    go_wp2
    refine bodyPost_ret (v := .tuple #[.agg #[.int .u8 k, .slice A m c], .int .i64 0]) (by simp [results, Tryz.results40, go_sem, *]) rfl ⟨rfl, ?_⟩
    exact (HBW.out.setCell (Nat.le_refl _) _).setCell (Nat.le_refl _) _
end Go.Proofs.YtbllnjkagleenaaGreat
