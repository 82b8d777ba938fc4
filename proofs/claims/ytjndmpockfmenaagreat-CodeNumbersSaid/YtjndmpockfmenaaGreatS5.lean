/-
  What the body of Put tells: the bytes of all slots, or which panic it passes up.
-/
import Derived.Test.YtjndmpockfmenaaGreatS4
import Derived.RangeFuncBox
import Derived.Laws.MakeOwn
namespace Go.Proofs.YtjndmpockfmenaaGreat
open Go.RowKit
set_option linter.unusedVariables false
attribute [local go_sem] Oper.semAt_some

theorem made_row (c : Nat) (hc : c ≤ 4194304) : ∃ C : Array Value, C.size = c ∧ ∀ w : World, (Instr.makeSlice 22 (.int .i64 0) (.int .i64 (c : Int))).run Tryz.prog w = .ok (.slice (some ⟨w.heap.size, 0, none⟩) 0 c) (w.alloc (.cells C 5)) ∧
    Row (w.alloc (.cells C 5)) w.heap.size c 5 1 0 [] := by
  obtain ⟨i0, hi, hz0, hz1, hz2⟩ := info_parts u8info
  refine ⟨madeCells (Value.int .u8 0).cells (c * i0.size), by rw [size_madeCells, hz1]; omega, fun w => ⟨?_, ?_⟩⟩
  · have := run_make (P := Tryz.prog) w 22 5 i0 _ Tryz.underlying22 hi hz0 .i64 .i64 0 (c : Int) (Int.le_refl _) (by omega) (by rw [hz2]; omega) (by omega)
    simpa using this
  · exact World.ownsRow_made w _ c (Nat.zero_le _) (by simp only [maxLen]; omega) (by rw [size_madeCells, hz1])

theorem boxed_at {W : World} {k : Nat} {t : TypeId} {v : Value} (h : W.heap.size = k) : Boxed (W.alloc (.cells #[v] t)) k t v := by subst h; exact Boxed.new W t v

def panicOf (n : Int) : List PanicEntry := [{ v := .iface 30 (.int .i64 n), recovered := false }]

set_option maxRecDepth 100000 in
set_option maxHeartbeats 1000000 in
theorem body_long (Bp m c : Nat) (A : Option Addr) (w : World) (hbox : Boxed w Bp 28 (.slice A m c)) (hm : 4096 < m) :
    Calls Tryz.prog 21 #[.pointer (some ⟨Bp, 0, none⟩)] w fun e w' => e = .panicked (panicOf 3) ∧ Below w.heap.size w w' := by
  have hc := hbox.cell
  have hd : decide ((m : Int) ≤ 4096) = false := by simp; omega
  refine (callsIn_wide (n := 3)).1 ?_
  refine callsIn_of_wp_marks Tryz.func21 rfl trivial ?_ rfl
  simp only [Tryz.ntmps21, List.size_toArray, List.length_cons, List.length_nil, Nat.reduceAdd, Nat.reduceSub, Array.replicate_succ, Array.replicate_zero, List.push_toArray, List.append_toArray, List.nil_append, List.cons_append]
  gi_wp2_with (refine ⟨trivial, fun h => by simp [Fence.wide] at h, (callsIn_wide.2 (demand_no _ _)).mono ?_⟩; rintro e w' ⟨rfl, rfl⟩)
  refine ⟨trivial, (callsIn_wide.2 (demand_no _ _)).mono ?_⟩
  rintro e w' ⟨rfl, rfl⟩
  exact ⟨rfl, Below.refl _ _⟩
set_option maxRecDepth 100000 in
set_option maxHeartbeats 1000000 in
theorem body_any (Bp m c B : Nat) (A : Option Addr) (l : List Ins) (w : World) (hbox : Boxed w Bp 28 (.slice A m c)) (hm : m ≤ 4096) (hp : Prg w B A m l) (hB : B ≤ w.heap.size) (hf : ∀ s ∈ l, s.Fits) :
    Calls Tryz.prog 21 #[.pointer (some ⟨Bp, 0, none⟩)] w fun e w' => Below w.heap.size w w' ∧
      ((∀ s ∈ l, Right s) ∧ (e = .returned (.slice (some ⟨w.heap.size, 0, none⟩) (8 * m) (8 * m)) ∧ Row w' w.heap.size (8 * m) 5 1 (8 * m) (u8s (l.flatMap Ins.bytes))) ∨
       (∃ s ∈ l, ¬ Right s) ∧ e = .panicked (panicOf 21)) := by
  have hc := hbox.cell
  have hlt := hbox.lt
  have hd : decide ((m : Int) ≤ 4096) = true := by simp; omega
  refine (callsIn_wide (n := 3)).1 ?_
  refine callsIn_of_wp_marks Tryz.func21 rfl trivial ?_ rfl
  simp only [Tryz.ntmps21, List.size_toArray, List.length_cons, List.length_nil, Nat.reduceAdd, Nat.reduceSub, Array.replicate_succ, Array.replicate_zero, List.push_toArray, List.append_toArray, List.nil_append, List.cons_append]
  obtain ⟨C, hCs, hmk⟩ := made_row (8 * m) (by omega)
  have hmk1 : ∀ w : World, (Instr.makeSlice 22 (.int .i64 0) (.int .i64 (8 * (m : Int)))).run Tryz.prog w = .ok (.slice (some ⟨w.heap.size, 0, none⟩) 0 (8 * m)) (w.alloc (.cells C 5)) := fun w => by
    have := (hmk w).1
    rwa [show ((8 * m : Nat) : Int) = 8 * (m : Int) by omega] at this
  have HM := hide (hmk w).2
  clear hmk
  gi_wp2_with fail
  refine ⟨trivial, (callsIn_wide.2 (demand_yes _ _)).mono ?_⟩
  rintro e w' ⟨rfl, rfl⟩
  gi_wp2_with fail
  refine ⟨trivial, (callsIn_wide.2 (slots_any _ _ _ _)).mono ?_⟩
  rintro e w' ⟨rfl, rfl⟩
  gi_wp2_with fail
  generalize hW0 : ((w.alloc (.cells C 5)).alloc (.cells #[.slice (some ⟨w.heap.size, 0, none⟩) 0 (8 * m)] 22)).alloc (.cells #[.slice A m c] 28) = W0
  have hs0 : W0.heap.size = w.heap.size + 3 := by rw [← hW0]; simp
  have hB0 : Below w.heap.size w W0 := by rw [← hW0]; exact (((Below.refl _ w).alloc (Nat.le_refl _) _).alloc (by simp) _).alloc (by simp; omega) _
  have hbx0 : Boxed W0 (w.heap.size + 2) 28 (.slice A m c) := by
    rw [← hW0]
    exact boxed_at (by simp)
  have hbb0 : Boxed W0 (w.heap.size + 1) 22 (.slice (some ⟨w.heap.size, 0, none⟩) 0 (8 * m)) := by
    rw [← hW0]
    exact (boxed_at (by simp)).alloc _
  have hr0 : Row W0 w.heap.size (8 * m) 5 1 0 [] := by rw [← hW0]; exact row_alloc (row_alloc HM.out _) _
  clear HM hW0 hmk1
  refine range_goes (α := Ins) (F := Fence.wide) (n := 3) rfl (by omega) (gf := 35) (lb := #[.pointer (some ⟨w.heap.size + 2, 0, none⟩)]) rfl trivial (enters_of Tryz.func35 (by kernel_rfl) rfl)
    (right_iter (3 - 1) (w.heap.size + 2) w.heap.size m c A l W0 hbx0 (by omega) ((hp.mono hB).below hB0) hm hf) (Below.refl _ _) (fun h k => h.trans k) (fun X l o o' hl _ h ho => below_put X o' (by omega)) (fun _ => rfl)
    (fun pre W => Boxed W (w.heap.size + 1) 22 (.slice (some ⟨w.heap.size, 0, none⟩) (8 * pre.length) (8 * m)) ∧ Row W w.heap.size (8 * m) 5 1 (8 * pre.length) (u8s (pre.flatMap Ins.bytes)) ∧ Below w.heap.size w W)
    ?_ ⟨hbb0, hr0, hB0⟩ ?round ?done ?panic
  · rintro s X Y ⟨h1, h2, h3⟩ hst
    exact ⟨hst.boxed h1, hst.owns h2, hst.below (by omega) (Nat.le_refl _) h3⟩
  case round =>
    rintro lp pre ⟨op, dst, src, off, imm⟩ W hle hloop hws ⟨h1, h2, h3⟩ ⟨hpre, hx⟩
    have hlen : pre.length + 1 ≤ m := by have := hpre.length_le; rw [List.length_append, hp.1] at this; simpa using this
    have hmem : (⟨op, dst, src, off, imm⟩ : Ins) ∈ l := hpre.subset (by simp)
    have HF := hide (hf _ hmem)
    have hWs : w.heap.size + 2 ≤ W.heap.size := by have := h1.lt; omega
    simp only [Ins.cells]
    gi_wp2
    refine ⟨(KeepsOthers.alloc _ _).from _, (Below.refl _ _).alloc (by omega) _, ⟨h1.alloc _, row_alloc h2 _, h3.alloc (by omega) _⟩, fun W2 hst => ?_⟩
    have hb1 := hst.boxed (h1.alloc _)
    have hr1 := hst.owns (row_alloc h2 _)
    have hs2 : W.heap.size < W2.heap.size := Nat.lt_of_lt_of_le (by simp) hst.size
    have HI := hide (hst.below (n0 := w.heap.size) (by omega) (Nat.le_refl _) (h3.alloc (by omega) (.cells #[.int .u8 op, .int .u8 dst, .int .u8 src, .int .i16 off, .int .i32 imm] 27)))
    have hS : W2.heap[W.heap.size]? = some (.cells #[.int .u8 op, .int .u8 dst, .int .u8 src, .int .i16 off, .int .i32 imm] 27 (0, 0)) := hst.same _ _ (World.alloc_heap_new W _) (.inr rfl)
    have c0 := blk_cell hS 0
    have c1 := blk_cell hS 1
    have c2 := blk_cell hS 2
    have c3 := blk_cell hS 3
    have c4 := blk_cell hS 4
    simp at c0 c1 c2 c3 c4
    have cb := hb1.cell
    have HS := hide hS
    have HX := hide hx
    clear hS hx h1 h2 h3 hst hbb0 hr0 hbx0 hB0
    gi_wp2_with (refine ⟨trivial, (CallsIn.inRound lp (callsIn_wide.2 (putSlot_any w.heap.size (8 * pre.length) (8 * m) _ ⟨op, dst, src, off, imm⟩ HF.out HX.out.1 HX.out.2 _ hr1 (by omega)))).mono ?_⟩; rintro e w1 ⟨rfl, hr2, hg2⟩; have hb2 := hb1.kept hg2 (by simp); have cb2 := hb2.cell; have fb2 := hb2.frozen)
    refine ⟨((KeepsFrom.of_grownBy hg2 (fun j e => by cases e; omega)).trans ((KeepsOthers.setCell _ _ _).from _)), ((Below.refl _ W2).grown hg2 (by omega) (fun j e => by cases e; omega)).setCell (p := ⟨w.heap.size + 1, 0, none⟩) (by simp) _, ?_, ?_,
      (HI.out.grown hg2 (by omega) (fun j e => by cases e; omega)).setCell (p := ⟨w.heap.size + 1, 0, none⟩) (by simp) _⟩
    · rw [show 8 * (pre ++ [(⟨op, dst, src, off, imm⟩ : Ins)]).length = 8 * pre.length + 8 by simp; omega]
      exact hb2.set _
    · rw [show 8 * (pre ++ [(⟨op, dst, src, off, imm⟩ : Ins)]).length = 8 * pre.length + 8 by simp; omega]
      have h4 : u8s (List.flatMap Ins.bytes pre) ++ u8s (Ins.bytes ⟨op, dst, src, off, imm⟩) = u8s (List.flatMap Ins.bytes (pre ++ [⟨op, dst, src, off, imm⟩])) := by simp [u8s]
      rw [← h4]
      exact World.ownsRow.kept hr2 (grownBy_setCell' w1 (w.heap.size + 1) _) (.inr (by simp [Value.ownBlock]))
  case done =>
    rintro D xs W hD ⟨rfl, hR⟩ ⟨h1, h2, h3⟩ hdef
    have c1 := h1.cell
    gi_wp2
    refine ⟨by simp, .inl ⟨_, _, rfl, run_takeDeferred hdef, ?_⟩⟩
    have hst := Stays.putObj (B := W0.heap.size) (.deferred none) hD hdef rfl
    refine ⟨_, results_tmp rfl _ _ _, hst.below (by omega) (Nat.le_refl _) h3, .inl ⟨hR, ?_, ?_⟩⟩
    · rw [← hp.1]; rfl
    · rw [← hp.1] at h2 ⊢
      exact hst.owns h2
  case panic =>
    rintro D c xs W hD ⟨rfl, hR⟩ ⟨h1, h2, h3⟩ hdef
    refine ⟨by simp, .inl ⟨_, _, rfl, run_takeDeferred hdef, ?_⟩⟩
    have hst := Stays.putObj (B := W0.heap.size) (.deferred none) hD hdef rfl
    exact ⟨hst.below (by omega) (Nat.le_refl _) h3, .inr ⟨hR, rfl⟩⟩
end Go.Proofs.YtjndmpockfmenaaGreat
