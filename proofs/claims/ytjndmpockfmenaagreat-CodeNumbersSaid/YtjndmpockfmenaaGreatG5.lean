/-
  What the body of Get tells: the slots of all bytes, or which panic it passes up.
-/
import Derived.Test.YtjndmpockfmenaaGreatG4
namespace Go.Proofs.YtjndmpockfmenaaGreat
open Go.RowKit
set_option linter.unusedVariables false
attribute [local go_sem] Oper.semAt_some

theorem cells_new (w : World) (l : List Value) (t : TypeId) : ∀ j u, l[j]? = some u → (w.alloc (.cells l.toArray t)).cell? ((⟨w.heap.size, 0, none⟩ : Addr).add j) = some u := by
  intro j u hj
  have h := World.alloc_heap_new w (.cells l.toArray t)
  have e : (⟨w.heap.size, 0, none⟩ : Addr).add j = ⟨w.heap.size, j, none⟩ := by unfold Addr.add; split <;> simp_all
  rw [e, blk_cell h]
  simpa using hj
theorem Keeps3.of_below {n0 a : Nat} {X Y : World} (hn : n0 ≤ X.heap.size) (h : Below X.heap.size X Y) : Keeps3 n0 a X Y :=
  ⟨h.mono hn, fun k o _ _ hk _ => (h.block k (at_lt hk)).trans hk, keepsFrom_below h⟩
theorem Keeps3.trans {n0 a : Nat} {X Y Z : World} (h : Keeps3 n0 a X Y) (k : Keeps3 n0 a Y Z) : Keeps3 n0 a X Z :=
  ⟨h.1.trans k.1, fun i o h1 h2 h3 h4 => k.2.1 i o h1 h2 (h.2.1 i o h1 h2 h3 h4) h4, h.2.2.trans k.2.2⟩
theorem Keeps3.grown {n0 a g : Nat} {X Y : World} (hn : n0 ≤ X.heap.size) (h : X.grownBy Y (some g)) (h1 : n0 ≤ g) (h2 : g < a) : Keeps3 n0 a X Y :=
  ⟨(Below.refl _ X).grown h hn (fun k e => by cases e; exact h1), fun k o ha _ hk _ => (h.block k (at_lt hk) (fun e => by cases e; omega)).trans hk, KeepsFrom.of_grownBy h (fun j e => by cases e; exact h2)⟩
theorem slotInfo : (Tryz.prog.info? 27).map (fun i => (i.zero, i.size, i.bytes)) = some (some (.agg #[.int .u8 0, .int .u8 0, .int .u8 0, .int .i16 0, .int .i32 0]), 5, 12) := by kernel_rfl
theorem made_slots (c : Nat) (hc : c ≤ 4194304) : ∃ C : Array Value, C.size = c * 5 ∧ ∀ w : World, (Instr.makeSlice 28 (.int .i64 0) (.int .i64 (c : Int))).run Tryz.prog w = .ok (.slice (some ⟨w.heap.size, 0, none⟩) 0 c) (w.alloc (.cells C 27)) ∧
    Row (w.alloc (.cells C 27)) w.heap.size c 27 5 0 [] := by
  obtain ⟨i0, hi, hz0, hz1, hz2⟩ := info_parts slotInfo
  refine ⟨madeCells (Value.agg #[.int .u8 0, .int .u8 0, .int .u8 0, .int .i16 0, .int .i32 0]).cells (c * i0.size), by rw [size_madeCells, hz1], fun w => ⟨?_, ?_⟩⟩
  · have := run_make (P := Tryz.prog) w 28 27 i0 _ Tryz.underlying28 hi hz0 .i64 .i64 0 (c : Int) (Int.le_refl _) (by omega) (by rw [hz2]; omega) (by omega)
    simpa using this
  · exact World.ownsRow_made w _ c (Nat.zero_le _) (by simp only [maxLen]; omega) (by rw [size_madeCells, hz1])

set_option maxRecDepth 100000 in
set_option maxHeartbeats 1000000 in
theorem gbody_long (Bp n c : Nat) (A : Option Addr) (w : World) (hbox : Boxed w Bp 22 (.slice A n c)) (hm : 32768 < n) :
    Calls Tryz.prog 17 #[.pointer (some ⟨Bp, 0, none⟩)] w fun e w' => e = .panicked (panicOf 3) ∧ Below w.heap.size w w' := by
  have hc := hbox.cell
  have hd : decide ((n : Int) ≤ 32768) = false := by simp; omega
  refine (callsIn_wide (n := 3)).1 ?_
  refine callsIn_of_wp_marks Tryz.func17 rfl trivial ?_ rfl
  simp only [Tryz.ntmps17, List.size_toArray, List.length_cons, List.length_nil, Nat.reduceAdd, Nat.reduceSub, Array.replicate_succ, Array.replicate_zero, List.push_toArray, List.append_toArray, List.nil_append, List.cons_append]
  gi_wp2_with (refine ⟨trivial, fun h => by simp [Fence.wide] at h, (callsIn_wide.2 (demand_yes _ _)).mono ?_⟩; rintro e w' ⟨rfl, rfl⟩)
  refine ⟨trivial, (callsIn_wide.2 (demand_no _ _)).mono ?_⟩
  rintro e w' ⟨rfl, rfl⟩
  exact ⟨rfl, Below.refl _ _⟩
set_option maxRecDepth 100000 in
set_option maxHeartbeats 1000000 in
theorem gbody_odd (Bp n c : Nat) (A : Option Addr) (w : World) (hbox : Boxed w Bp 22 (.slice A n c)) (hm : n ≤ 32768) (h8 : n % 8 ≠ 0) :
    Calls Tryz.prog 17 #[.pointer (some ⟨Bp, 0, none⟩)] w fun e w' => e = .panicked (panicOf 4) ∧ Below w.heap.size w w' := by
  have hc := hbox.cell
  have hd : decide ((n : Int) ≤ 32768) = true := by simp; omega
  have hq : (((n : Int) % 8) == 0) = false := by simp; omega
  refine (callsIn_wide (n := 3)).1 ?_
  refine callsIn_of_wp_marks Tryz.func17 rfl trivial ?_ rfl
  simp only [Tryz.ntmps17, List.size_toArray, List.length_cons, List.length_nil, Nat.reduceAdd, Nat.reduceSub, Array.replicate_succ, Array.replicate_zero, List.push_toArray, List.append_toArray, List.nil_append, List.cons_append]
  gi_wp2_with fail
  refine ⟨trivial, (callsIn_wide.2 (demand_yes _ _)).mono ?_⟩
  rintro e w' ⟨rfl, rfl⟩
  gi_wp2_with fail
  refine ⟨trivial, (callsIn_wide.2 (demand_no _ _)).mono ?_⟩
  rintro e w' ⟨rfl, rfl⟩
  exact ⟨rfl, Below.refl _ _⟩
set_option maxRecDepth 100000 in
set_option maxHeartbeats 1000000 in
theorem gbody_any (Bp n m c B : Nat) (A : Option Addr) (bs : List Int) (w : World) (hbox : Boxed w Bp 22 (.slice A n c)) (hn : n = 8 * m) (hm : m ≤ 4096) (hc8 : n ≤ c) (hcm : c ≤ maxLen) (hp : Byt w B A n bs) (hB : B ≤ w.heap.size) (hbs : ∀ b ∈ bs, IsByte b) :
    Calls Tryz.prog 17 #[.pointer (some ⟨Bp, 0, none⟩)] w fun e w' => e = .returned (.slice (some ⟨w.heap.size, 0, none⟩) m m) ∧ Row w' w.heap.size m 27 5 m ((slots bs m).flatMap Ins.cells) ∧ Below w.heap.size w w' := by
  have hc := hbox.cell
  have hlt := hbox.lt
  have hd : decide ((n : Int) ≤ 32768) = true := by simp; omega
  have hq : ((n : Int) % 8 == 0) = true := by simp; omega
  obtain ⟨C, hCs, hmk⟩ := made_slots m (by omega)
  have hmk1 : ∀ w : World, (Instr.makeSlice 28 (.int .i64 0) (.int .i64 (wrap64 ((n : Int) / 8)))).run Tryz.prog w = .ok (.slice (some ⟨w.heap.size, 0, none⟩) 0 m) (w.alloc (.cells C 27)) := fun w => by
    rw [show wrap64 ((n : Int) / 8) = (m : Int) by unfold wrap64; omega]
    exact (hmk w).1
  have HM := hide (hmk w).2
  have HN := hide hn
  clear hmk hn hbox
  refine (callsIn_wide (n := 3)).1 ?_
  refine callsIn_of_wp_marks Tryz.func17 rfl trivial ?_ rfl
  simp only [Tryz.ntmps17, List.size_toArray, List.length_cons, List.length_nil, Nat.reduceAdd, Nat.reduceSub, Array.replicate_succ, Array.replicate_zero, List.push_toArray, List.append_toArray, List.nil_append, List.cons_append]
  gi_wp2_with fail
  refine ⟨trivial, (callsIn_wide.2 (demand_yes _ _)).mono ?_⟩
  rintro e w' ⟨rfl, rfl⟩
  gi_wp2_with fail
  refine ⟨trivial, (callsIn_wide.2 (demand_yes _ _)).mono ?_⟩
  rintro e w' ⟨rfl, rfl⟩
  gi_wp2_with fail
  refine ⟨trivial, (callsIn_wide.2 (slotsOf_any _ _ _ _)).mono ?_⟩
  rintro e w' ⟨rfl, rfl⟩
  gi_wp2_with fail
  generalize hW0 : ((w.alloc (.cells C 27)).alloc (.cells #[.slice (some ⟨w.heap.size, 0, none⟩) 0 m] 28)).alloc (.cells #[.slice A n c] 22) = W0
  have hs0 : W0.heap.size = w.heap.size + 3 := by rw [← hW0]; simp
  have hB0 : Below w.heap.size w W0 := by rw [← hW0]; exact (((Below.refl _ w).alloc (Nat.le_refl _) _).alloc (by simp) _).alloc (by simp; omega) _
  have hbx0 : Boxed W0 (w.heap.size + 2) 22 (.slice A n c) := by rw [← hW0]; exact boxed_at (by simp)
  have hbb0 : Boxed W0 (w.heap.size + 1) 28 (.slice (some ⟨w.heap.size, 0, none⟩) 0 m) := by rw [← hW0]; exact (boxed_at (by simp)).alloc _
  have hr0 : Row W0 w.heap.size m 27 5 0 [] := by rw [← hW0]; exact row_alloc (row_alloc HM.out _) _
  clear HM hW0 hmk1
  obtain rfl := HN.out
  obtain ⟨i0, hi, hz0, hz1, hz2⟩ := info_parts slotInfo
  refine range_goes (α := Ins) (F := Fence.wide) (n := 3) rfl (by omega) (gf := 31) (lb := #[.pointer (some ⟨w.heap.size + 2, 0, none⟩)]) rfl trivial (enters_of Tryz.func31 (by kernel_rfl) rfl)
    (slots_iter (3 - 1) (by omega) (w.heap.size + 2) m c w.heap.size A bs W0 hm hbx0 hc8 hcm (by omega) ((hp.mono hB).below hB0) hbs) (Below.refl _ _) Keeps3.trans ?_ (fun _ => rfl)
    (fun pre W => Boxed W (w.heap.size + 1) 28 (.slice (some ⟨w.heap.size, 0, none⟩) pre.length m) ∧ Row W w.heap.size m 27 5 pre.length (pre.flatMap Ins.cells) ∧ Below w.heap.size w W)
    ?_ ⟨hbb0, hr0, hB0⟩ ?round ?done ?panic
  · intro X l o o' hl hl2 h ho
    exact ⟨below_put X o' (by omega), fun k o1 hk _ h1 _ => (World.putObj_heap_other (by omega)).trans h1, ⟨by simp, fun k o1 hk h1 _ => (World.putObj_heap_other (by omega)).trans h1⟩⟩
  · rintro s X Y ⟨h1, h2, h3⟩ hst
    exact ⟨hst.boxed h1, hst.owns h2, hst.below (by omega) (Nat.le_refl _) h3⟩
  case round =>
    rintro lp pre ⟨op, dst, src, off, imm⟩ W hle hloop hws ⟨h1, h2, h3⟩ hpre
    have hlen : pre.length + 1 ≤ m := by have := hpre.length_le; simp [slots] at this; exact this
    simp only [Ins.cells]
    gi_wp2
    refine ⟨(KeepsOthers.alloc _ _).from _, Keeps3.of_below (by omega) ((Below.refl _ W).alloc (Nat.le_refl _) _), ⟨h1.alloc _, row_alloc h2 _, h3.alloc (by omega) _⟩, fun W2 hst => ?_⟩
    have hb1 := hst.boxed (h1.alloc _)
    have hr1 := hst.owns (row_alloc h2 _)
    have hs2 : W.heap.size < W2.heap.size := Nat.lt_of_lt_of_le (by simp) hst.size
    have HI := hide (hst.below (n0 := w.heap.size) (by omega) (Nat.le_refl _) (h3.alloc (by omega) (.cells #[.int .u8 op, .int .u8 dst, .int .u8 src, .int .i16 off, .int .i32 imm] 27)))
    have hS : W2.heap[W.heap.size]? = some (.cells #[.int .u8 op, .int .u8 dst, .int .u8 src, .int .i16 off, .int .i32 imm] 27 (0, 0)) := hst.same _ _ (World.alloc_heap_new W _) (.inr rfl)
    have c0 := blk_cell hS 0
    have c1 := blk_cell hS 1
    have c2 := blk_cell hS 2
    have c3 := blk_cell hS 3
    have c4 := blk_cell hS 4
    simp at c0 c1 c2 c3 c4
    have cb := hb1.cell
    have HS := hide hS
    clear hS h1 h2 h3 hst hbb0 hr0 hbx0 hB0
    gi_wp2_with (gi_at_builtin; refine wpListIn_append_fits _ rfl (.tmp 20) (.tmp 22) _ rfl 0 27 i0 5 Tryz.underlying28 hi hz1 w.heap.size pre.length m _ rfl (World.ownsRow.alloc hr1 _) _ 1 1 [.int .u8 op, .int .u8 dst, .int .u8 src, .int .i16 off, .int .i32 imm] rfl rfl (cells_new _ _ _) (by simp [Value.oneCell']) hlen ?_; intro w1 hr2 hg2; have hb2 := (hb1.alloc (.cells #[.int .u8 op, .int .u8 dst, .int .u8 src, .int .i16 off, .int .i32 imm] 27)).kept hg2 (by simp); have cb2 := hb2.cell; have fb2 := hb2.frozen)
    have hz1 : W2.heap.size + 1 ≤ w1.heap.size := by have := hg2.size; simpa using this
    refine ⟨((KeepsOthers.alloc _ _).from _).trans ((KeepsFrom.of_grownBy hg2 (fun j e => by cases e; omega)).trans ((KeepsOthers.setCell _ _ _).from _)),
      ((Keeps3.of_below (by omega) ((Below.refl _ W2).alloc (Nat.le_refl _) _)).trans (Keeps3.grown (by simp; omega) hg2 (Nat.le_refl _) (by omega))).trans (Keeps3.grown (by omega) (grownBy_setCell' w1 (w.heap.size + 1) _) (by omega) (by omega)), ?_, ?_,
      ((HI.out.alloc (by omega) _).grown hg2 (by simp; omega) (fun j e => by cases e; omega)).setCell (p := ⟨w.heap.size + 1, 0, none⟩) (by simp) _⟩
    · rw [show (pre ++ [(⟨op, dst, src, off, imm⟩ : Ins)]).length = pre.length + 1 by simp]
      exact hb2.set _
    · rw [show (pre ++ [(⟨op, dst, src, off, imm⟩ : Ins)]).length = pre.length + 1 by simp]
      rw [List.flatMap_append, List.flatMap_singleton]
      exact row_set hr2 (by omega) _
  case done =>
    rintro D xs W hD rfl ⟨h1, h2, h3⟩ hdef
    have c1 := h1.cell
    gi_wp2
    refine ⟨by simp, .inl ⟨_, _, rfl, run_takeDeferred hdef, ?_⟩⟩
    have hst := Stays.putObj (B := W0.heap.size) (.deferred none) hD hdef rfl
    have hl : (slots bs m).length = m := by simp [slots]
    rw [hl] at h2
    refine ⟨_, results_tmp rfl _ _ _, ?_, hst.owns h2, hst.below (by omega) (Nat.le_refl _) h3⟩
    exact congrArg (fun j => Ending.returned (.slice (some ⟨w.heap.size, 0, none⟩) j m)) hl
  case panic =>
    rintro D c xs W hD h
    exact h.elim
end Go.Proofs.YtjndmpockfmenaaGreat
