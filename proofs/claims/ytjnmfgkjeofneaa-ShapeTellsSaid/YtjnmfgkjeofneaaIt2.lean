/-
  The second slots of a program.
-/
import Derived.Test.YtjnmfgkjeofneaaIt1
namespace Go.Proofs.Ytjnmfgkjeofneaa
open Go.RowKit Go.Maps
set_option linter.unusedVariables false
attribute [local go_sem] Oper.semAt_some

def isWide (p : Nat × Ins) : Bool := p.2.op == 24
/-- The places behind loads of 64 bits. -/
def secsOf (ps : List (Nat × Ins)) : List Int := (ps.filter isWide).map fun p => ((p.1 : Nat) : Int) + 1
def secsM (l : List Ins) : List Int := secsOf (fsts 0 false l)
theorem secs_no (ps : List (Nat × Ins)) (k : Nat) (s : Ins) (h : s.op ≠ 24) : secsOf (ps ++ [(k, s)]) = secsOf ps := by
  have : isWide (k, s) = false := by simpa [isWide] using h
  simp [secsOf, List.filter_append, this]
theorem secs_yes (ps : List (Nat × Ins)) (k : Nat) (s : Ins) (h : s.op = 24) : secsOf (ps ++ [(k, s)]) = secsOf ps ++ [(k : Int) + 1] := by
  have : isWide (k, s) = true := by simpa [isWide] using h
  simp [secsOf, List.filter_append, this]
theorem secs_length (ps : List (Nat × Ins)) : (secsOf ps).length ≤ ps.length := by unfold secsOf; rw [List.length_map]; exact List.length_filter_le _ _
theorem fsts_length : ∀ (l : List Ins) (k : Nat) (b : Bool), (fsts k b l).length ≤ l.length
  | [], k, b => by cases b <;> simp [fsts]
  | s :: r, k, true => by rw [fsts]; have := fsts_length r (k + 1) false; simp; omega
  | s :: r, k, false => by rw [fsts]; have := fsts_length r (k + 1) (decide (s.op = 24)); simp; omega
theorem prefix_mem {pre L : List (Nat × Ins)} {x : Nat × Ins} (h : pre ++ [x] <+: L) : x ∈ L := h.subset (by simp)

set_option maxRecDepth 100000 in
set_option maxHeartbeats 1000000 in
theorem seconds_any (A : Option Addr) (m c B : Nat) (l : List Ins) (w : World) (hp : Rd w B 5 A m (pcells l)) (hB : B ≤ w.heap.size) (hm : m ≤ 4096) :
    Calls Try.prog 22 #[.slice A m c] w fun e w' => e = .returned (.map (some w.heap.size)) ∧ SetIs w' w.heap.size (secsM l) ∧ Below w.heap.size w w' := by
  have hmm := @run_makeMap Try.prog
  have hll : l.length = m := hp.prg.1
  refine (callsIn_wide (n := 3)).1 ?_
  refine callsIn_of_wp_marks Try.func22 rfl trivial ?_ rfl
  simp only [Try.ntmps22, List.size_toArray, List.length_cons, List.length_nil, Nat.reduceAdd, Nat.reduceSub, Array.replicate_succ, Array.replicate_zero, List.push_toArray, List.append_toArray, List.nil_append, List.cons_append]
  gi_wp2_with fail
  refine ⟨trivial, (callsIn_wide.2 (firsts_any _ _ _ _)).mono ?_⟩
  rintro e w' ⟨rfl, rfl⟩
  gi_wp2_with fail
  generalize hW0 : ((w.alloc (.map #[] 0)).alloc (.cells #[.map (some w.heap.size)] 48)).alloc (.cells #[.slice A m c] 22) = W0
  have hs0 : W0.heap.size = w.heap.size + 3 := by rw [← hW0]; simp
  have hB0 : Below w.heap.size w W0 := by rw [← hW0]; exact (((Below.refl _ w).alloc (Nat.le_refl _) _).alloc (by simp) _).alloc (by simp; omega) _
  have hbx : Boxed W0 (w.heap.size + 2) 22 (.slice A m c) := by rw [← hW0]; exact boxed_at (by simp)
  have hbs : Boxed W0 (w.heap.size + 1) 48 (.map (some w.heap.size)) := by rw [← hW0]; exact (boxed_at (by simp)).alloc _
  have hset : SetIs W0 w.heap.size [] := by
    rw [← hW0]
    exact (((SetIs.new w).below (below1 _ _)).below (below1 _ _))
  clear hW0
  refine range_ends (α := Nat × Ins) (F := Fence.wide) (n := 3) rfl (by omega) (gf := 48) (lb := #[.pointer (some ⟨w.heap.size + 2, 0, none⟩)]) rfl trivial (enters_of Try.func48 (by kernel_rfl) rfl)
    (firsts_iter (3 - 1) (by omega) (w.heap.size + 2) m c w.heap.size A l W0 hbx (by omega) ((hp.mono hB).below hB0) hm) (Below.refl _ _) KeepB.trans ?_ (fun _ => rfl)
    (fun pre W => Boxed W (w.heap.size + 1) 48 (.map (some w.heap.size)) ∧ SetIs W w.heap.size (secsOf pre) ∧ Below w.heap.size w W) (fun _ _ => False)
    ?_ (fun _ _ _ h _ => h) ⟨hbs, hset, hB0⟩ ?round ?done ?stop
  · intro X l o o' hl hl2 h ho
    exact KeepB.put X o' (by omega) (by omega)
  · rintro s X Y ⟨h1, h2, h3⟩ hst
    refine ⟨hst.boxed h1, h2.same ?_, hst.below (by omega) (Nat.le_refl _) h3⟩
    have := Array.getElem?_eq_getElem h2.lt
    rw [this, hst.same _ _ this (.inl (by omega))]
  case round =>
    rintro lp pre ⟨k, op, dst, src, off, imm⟩ W hle hloop hws ⟨h1, h2, h3⟩ hpre
    obtain ⟨hk0, hk1, hk2⟩ := fsts_mem l 0 false _ (prefix_mem hpre)
    have hlen : pre.length + 1 ≤ 4096 := by have := hpre.length_le; have := fsts_length l 0 false; simp at *; omega
    have hsl := secs_length pre
    simp only at hk1
    simp only [Ins.cells]
    have hW3 : w.heap.size + 3 ≤ W.heap.size := by omega
    gi_wp2
    refine ⟨(KeepsOthers.alloc _ _).from _, .of_below (by omega) (by omega) (below1 W _), ⟨h1.alloc _, h2.below (below1 W _), h3.alloc (by omega) _⟩, fun W2 hst => ?_⟩
    have hS := hst.same _ _ (World.alloc_heap_new W _) (.inr rfl)
    have hb1 := hst.boxed (h1.alloc _)
    have hs2 : W.heap.size < W2.heap.size := at_lt hS
    have hset2 : SetIs W2 w.heap.size (secsOf pre) := by
      have h2' := h2.below (below1 W (.cells #[.int .u8 op, .int .u8 dst, .int .u8 src, .int .i16 off, .int .i32 imm] 42))
      refine h2'.same ?_
      have := Array.getElem?_eq_getElem h2'.lt
      rw [this, hst.same _ _ this (.inl (by omega))]
    have HI := hide (hst.below (n0 := w.heap.size) (by omega) (Nat.le_refl _) (h3.alloc (by omega) (.cells #[.int .u8 op, .int .u8 dst, .int .u8 src, .int .i16 off, .int .i32 imm] 42)))
    have c0 := blk_cell hS 0
    have c1 := blk_cell hS 1
    have c2 := blk_cell hS 2
    have c3 := blk_cell hS 3
    have c4 := blk_cell hS 4
    simp at c0 c1 c2 c3 c4
    clear hS h1 h2 h3 hst hbx hbs hset hB0 hpre
    by_cases h24 : op = 24
    · have hsn : slotsN op = 2 := by unfold slotsN; rw [if_pos h24]
      have hL : ∀ w, Calls Try.prog 33 #[.agg #[.int .u8 op, .int .u8 dst, .int .u8 src, .int .i16 off, .int .i32 imm]] w fun e w' => e = .returned (.int .i64 2) ∧ Below w.heap.size w w' := fun w => by
        have := slots_any op dst src off imm w
        rw [hsn] at this
        exact this
      have HY := hide (secs_yes pre k ⟨op, dst, src, off, imm⟩ h24)
      clear hsn h24
      gi_wp2_with fail
      refine ⟨trivial, (CallsIn.inRound lp (callsIn_wide.2 (hL _))).mono ?_⟩
      rintro e w2 ⟨rfl, hb2⟩
      have hb3 := boxed_below hb1 hb2
      have cb3 := hb3.cell
      have hset3 := hset2.below hb2
      have HI2 := hide (HI.out.trans (hb2.mono (by omega)))
      have HK2 := hide (show KeepB w.heap.size (w.heap.size + 2) W2 w2 from .of_below (by omega) (by omega) hb2)
      have HF2 := hide (show KeepsFrom (w.heap.size + 3) W2 w2 from ⟨hb2.size, fun k o hk ho _ => (hb2.block k (at_lt ho)).trans ho⟩)
      have hz := hb2.size
      clear hb1 hset2 hb2 HI
      gi_wp2_with fail
      refine ⟨trivial, (CallsIn.inRound lp (callsIn_wide.2 (put_any w2 w.heap.size (secsOf pre) hset3 ((k : Int) + 1) ⟨by omega, by omega⟩ (by unfold maxLen; omega)))).mono ?_⟩
      rintro e w3 ⟨rfl, hset4, hg⟩
      have hb4 := hb3.kept hg (by simp)
      gi_wp2
      refine ⟨HF2.out.trans (KeepsFrom.of_grownBy hg (fun j e => by cases e; omega)), HK2.out.trans (KeepB.grown (by omega) (by omega) hg (Nat.le_refl _) (by omega)), hb4, by rw [HY.out]; exact hset4, HI2.out.grown hg (by omega) (fun k e => by cases e; exact Nat.le_refl _)⟩
    · have hsn : slotsN op = 1 := by unfold slotsN; rw [if_neg h24]
      have hL : ∀ w, Calls Try.prog 33 #[.agg #[.int .u8 op, .int .u8 dst, .int .u8 src, .int .i16 off, .int .i32 imm]] w fun e w' => e = .returned (.int .i64 1) ∧ Below w.heap.size w w' := fun w => by
        have := slots_any op dst src off imm w
        rw [hsn] at this
        exact this
      have HY := hide (secs_no pre k ⟨op, dst, src, off, imm⟩ h24)
      clear hsn h24
      gi_wp2_with fail
      refine ⟨trivial, (CallsIn.inRound lp (callsIn_wide.2 (hL _))).mono ?_⟩
      rintro e w2 ⟨rfl, hb2⟩
      gi_wp2
      exact ⟨⟨hb2.size, fun k o hk ho _ => (hb2.block k (at_lt ho)).trans ho⟩, .of_below (by omega) (by omega) hb2, boxed_below hb1 hb2, by rw [HY.out]; exact hset2.below hb2, HI.out.trans (hb2.mono (by omega))⟩
  case done =>
    rintro D xs W hD rfl ⟨h1, h2, h3⟩ hdef
    have c1 := h1.cell
    gi_wp2
    refine ⟨by simp, .inl ⟨_, _, rfl, run_takeDeferred hdef, ?_⟩⟩
    have hst := Stays.putObj (B := W0.heap.size) (.deferred none) hD hdef rfl
    refine ⟨_, results_tmp rfl _ _ _, rfl, h2.same ?_, hst.below (by omega) (Nat.le_refl _) h3⟩
    have := Array.getElem?_eq_getElem h2.lt
    rw [this, hst.same _ _ this (.inl (by omega))]
  case stop =>
    rintro D pre W hD h
    exact h.elim
end Go.Proofs.Ytjnmfgkjeofneaa
