/-
  Whether a program is as it must look.
-/
import Derived.Test.YtjnmfgkjeofneaaIt2
import Derived.Lib.SmallJoins
namespace Go.Proofs.Ytjnmfgkjeofneaa
open Go.RowKit Go.Maps
set_option linter.unusedVariables false
attribute [local go_sem] Oper.semAt_some

/-- The error of an instruction of the program l. -/
def errM (l : List Ins) (p : Nat × Ins) : Int := faultM l.length (secsM l) l p.1 p.2
def lastOf (ps : List (Nat × Ins)) : Ins := (ps.getLast?.map (·.2)).getD zeroIns
/-- What is told of a program that is neither empty nor too long. -/
def checkL (l : List Ins) : Int × Int :=
  match (fsts 0 false l).find? (fun p => errM l p != 0) with
  | some p => ((p.1 : Int), errM l p)
  | none => if goesB (lastOf (fsts 0 false l)).op then ((l.length : Int) - 1, 24) else (0, 0)
def checkM (l : List Ins) : Int × Int := if l.length = 0 ∨ 4096 < l.length then (0, 3) else checkL l
theorem lastOf_snoc (ps : List (Nat × Ins)) (p : Nat × Ins) : lastOf (ps ++ [p]) = p.2 := by simp [lastOf]
theorem find_at {α : Type} {f : α → Bool} {L pre : List α} {x : α} (h : pre ++ [x] <+: L) (hp : ∀ y ∈ pre, f y = false) (hx : f x = true) : L.find? f = some x := by
  obtain ⟨r, rfl⟩ := h
  rw [List.append_assoc, List.find?_append, List.find?_eq_none.2 (fun y hy => by rw [hp y hy]; simp)]
  simp [hx]
theorem find_none {α : Type} {f : α → Bool} {L : List α} (hp : ∀ y ∈ L, f y = false) : L.find? f = none := List.find?_eq_none.2 (fun y hy => by rw [hp y hy]; simp)

theorem check_none (A : Option Addr) (c : Nat) (w : World) : Calls Try.prog 10 #[.slice A 0 c] w fun e w' => e = .returned (.tuple #[.int .i64 0, .int .i64 3]) ∧ Below w.heap.size w w' := by
  refine (callsIn_wide (n := 3)).1 ?_
  refine callsIn_of_wp_marks Try.func10 rfl trivial ?_ rfl
  simp only [Try.ntmps10, List.size_toArray, List.length_cons, List.length_nil, Nat.reduceAdd, Nat.reduceSub, Array.replicate_succ, Array.replicate_zero, List.push_toArray, List.append_toArray, List.nil_append, List.cons_append]
  gi_wp2
  exact ⟨.tuple #[.int .i64 0, .int .i64 3], by simp [results, Try.results10, go_sem], rfl, below2 _ _ _⟩
theorem check_long (A : Option Addr) (n c : Nat) (w : World) (hn : 4096 < n) (r : n ≤ 140737488351232) : Calls Try.prog 10 #[.slice A n c] w fun e w' => e = .returned (.tuple #[.int .i64 0, .int .i64 3]) ∧ Below w.heap.size w w' := by
  have hd0 : ((n : Int) == 0) = false := by simp; omega
  have hd1 : decide (4096 < (n : Int)) = true := by simp; omega
  refine (callsIn_wide (n := 3)).1 ?_
  refine callsIn_of_wp_marks Try.func10 rfl trivial ?_ rfl
  simp only [Try.ntmps10, List.size_toArray, List.length_cons, List.length_nil, Nat.reduceAdd, Nat.reduceSub, Array.replicate_succ, Array.replicate_zero, List.push_toArray, List.append_toArray, List.nil_append, List.cons_append]
  gi_wp2
  exact ⟨.tuple #[.int .i64 0, .int .i64 3], by simp [results, Try.results10, go_sem], rfl, below2 _ _ _⟩
theorem Musts.stays {B : Nat} {X Y : World} {b : Nat} (h : Musts X b) (hb : b < B) (hst : Stays B X Y) : Musts Y b := by
  obtain ⟨B1, B2, B3, B4, es, clock, h1, h2, h3, h4, h5, h6⟩ := h
  exact ⟨B1, B2, B3, B4, es, clock, hst.same _ _ h1 (.inl hb), h2, hst.boxed h3, hst.boxed h4, hst.boxed h5, hst.boxed h6⟩
theorem grown_set (w : World) (b i : Nat) (u : Value) : w.grownBy (w.setCell ⟨b, i, none⟩ u) (some b) :=
  ⟨rfl, rfl, rfl, by simp [World.setCell], fun k hk hn => Below.heap_setCell w ⟨b, i, none⟩ u k (fun e => hn (by rw [e]))⟩
theorem five_store {w : World} {b : Nat} {v0 v1 v2 v3 v4 : Value} {t : TypeId} (h : w.heap[b]? = some (.cells #[v0, v1, v2, v3, v4] t (0, 0))) (u0 u1 u2 u3 u4 : Value) :
    (((((w.setCell ⟨b, 0, none⟩ u0).setCell ⟨b, 1, none⟩ u1).setCell ⟨b, 2, none⟩ u2).setCell ⟨b, 3, none⟩ u3).setCell ⟨b, 4, none⟩ u4).heap[b]? = some (.cells #[u0, u1, u2, u3, u4] t (0, 0)) ∧
    w.grownBy (((((w.setCell ⟨b, 0, none⟩ u0).setCell ⟨b, 1, none⟩ u1).setCell ⟨b, 2, none⟩ u2).setCell ⟨b, 3, none⟩ u3).setCell ⟨b, 4, none⟩ u4) (some b) := by
  constructor
  · have h1 := Joins.block_setCell (i := 0) h u0
    have h2 := Joins.block_setCell (i := 1) h1 u1
    have h3 := Joins.block_setCell (i := 2) h2 u2
    have h4 := Joins.block_setCell (i := 3) h3 u3
    have h5 := Joins.block_setCell (i := 4) h4 u4
    exact h5
  · exact grown_row (grown_row (grown_row (grown_row (grown_set _ _ _ _) (grown_set _ _ _ _)) (grown_set _ _ _ _)) (grown_set _ _ _ _)) (grown_set _ _ _ _)
def AllFine (l : List Ins) (pre : List (Nat × Ins)) : Prop := ∀ p ∈ pre, (errM l p != 0) = false
def Stopped (l : List Ins) (n0 : Nat) (w : World) (xs : List (Nat × Ins)) (W : World) : Prop :=
  ∃ pre x, xs = pre ++ [x] ∧ pre ++ [x] <+: fsts 0 false l ∧ AllFine l pre ∧ (errM l x != 0) = true ∧ Boxed W n0 3 (.int .i64 (x.1 : Nat)) ∧ Boxed W (n0 + 1) 26 (.int .i64 (errM l x)) ∧ Below n0 w W
set_option maxRecDepth 100000 in
set_option maxHeartbeats 2000000 in
theorem check_any (A : Option Addr) (m c B : Nat) (l : List Ins) (w : World) (hp : Rd w B 5 A m (pcells l)) (hB : B ≤ w.heap.size) (hm : m ≤ 4096) (hm0 : 0 < m) (hf : ∀ s ∈ l, s.Fits) :
    Calls Try.prog 10 #[.slice A m c] w fun e w' => e = .returned (.tuple #[.int .i64 (checkL l).1, .int .i64 (checkL l).2]) ∧ Below w.heap.size w w' := by
  have hll : l.length = m := hp.prg.1
  have hd0 : ((m : Int) == 0) = false := by simp; omega
  have hd1 : decide (4096 < (m : Int)) = false := by simp; omega
  have HLL := hide hll
  clear hll
  refine (callsIn_wide (n := 3)).1 ?_
  refine callsIn_of_wp_marks Try.func10 rfl trivial ?_ rfl
  simp only [Try.ntmps10, List.size_toArray, List.length_cons, List.length_nil, Nat.reduceAdd, Nat.reduceSub, Array.replicate_succ, Array.replicate_zero, List.push_toArray, List.append_toArray, List.nil_append, List.cons_append]
  gi_wp2_with fail
  have hpw := hp.below ((below2 w (.cells #[.int .i64 0] 3) (.cells #[.int .i64 0] 26)).mono hB)
  refine ⟨trivial, (callsIn_wide.2 (seconds_any A m c B l _ hpw (by simp; omega) hm)).mono ?_⟩
  rintro e w1 ⟨rfl, hset, hb1⟩
  have hset1 := hide hset
  have hb1' := hide hb1
  clear hset hb1
  gi_wp2_with fail
  refine ⟨trivial, (callsIn_wide.2 (musts_any _)).mono ?_⟩
  rintro e w2 ⟨rfl, hb2, hmu⟩
  have HMU := hide hmu
  have HB2 := hide hb2
  clear hmu hb2
  gi_wp2_with fail
  refine ⟨trivial, (callsIn_wide.2 (firsts_any _ _ _ _)).mono ?_⟩
  rintro e w' ⟨rfl, rfl⟩
  gi_wp2_with fail
  have z1 := hb1'.out.size
  have z2 := HB2.out.size
  simp only [World.size_alloc] at z1
  have HS2 : Hid (SetIs w2 (w.heap.size + 1 + 1) (secsM l)) := by
    have := hset1.out.below HB2.out
    simp only [World.size_alloc] at this
    exact this
  have HW2 : Hid (Below w.heap.size w w2) := (below2c hb1'.out).trans (HB2.out.mono (by omega))
  have hr0 : Boxed w2 w.heap.size 3 (.int .i64 0) := boxed_below (boxed_below ((Boxed.new w 3 (.int .i64 0)).alloc _) hb1'.out) HB2.out
  have hr1 : Boxed w2 (w.heap.size + 1) 26 (.int .i64 0) := boxed_below (boxed_below (boxed_at (by simp)) hb1'.out) HB2.out
  generalize hW0 : ((w2.alloc (.cells #[.slice A m c, .map (some (w.heap.size + 1 + 1)), .map (some w1.heap.size)] 53)).alloc (.cells #[.int .u8 0, .int .u8 0, .int .u8 0, .int .i16 0, .int .i32 0] 42)).alloc (.cells #[.slice A m c] 22) = W0
  have hs0 : W0.heap.size = w2.heap.size + 3 := by rw [← hW0]; simp
  have hB0 : Below w2.heap.size w2 W0 := by rw [← hW0]; exact (((Below.refl _ w2).alloc (Nat.le_refl _) _).alloc (by simp) _).alloc (by simp; omega) _
  have hbx : Boxed W0 (w2.heap.size + 2) 22 (.slice A m c) := by rw [← hW0]; exact boxed_at (by simp)
  have hlay : W0.heap[w2.heap.size]? = some (.cells #[.slice A m c, .map (some (w.heap.size + 1 + 1)), .map (some w1.heap.size)] 53 (0, 0)) := by
    rw [← hW0]
    exact (Below.heap_alloc _ _ _ (by simp; omega)).trans (two_boxes w2 _ _).1
  have hlast : W0.heap[w2.heap.size + 1]? = some (.cells zeroIns.cells.toArray 42 (0, 0)) := by
    rw [← hW0]
    exact (Below.heap_alloc _ _ _ (by simp)).trans (two_boxes w2 _ _).2
  clear hW0
  refine range_ends (α := Nat × Ins) (F := Fence.wide) (n := 3) rfl (by omega) (gf := 48) (lb := #[.pointer (some ⟨w2.heap.size + 2, 0, none⟩)]) rfl trivial (enters_of Try.func48 (by kernel_rfl) rfl)
    (firsts_iter (3 - 1) (by omega) (w2.heap.size + 2) m c w.heap.size A l W0 hbx (by omega) ((hp.mono hB).below (HW2.out.trans (hB0.mono (by omega)))) hm) (Below.refl _ _) KeepB.trans ?_ (fun _ => rfl)
    (fun pre W => Below w2.heap.size w2 W ∧ W.heap[w2.heap.size]? = some (.cells #[.slice A m c, .map (some (w.heap.size + 1 + 1)), .map (some w1.heap.size)] 53 (0, 0)) ∧ W.heap[w2.heap.size + 1]? = some (.cells (lastOf pre).cells.toArray 42 (0, 0)) ∧ AllFine l pre)
    (fun xs W => Stopped l w.heap.size w xs W)
    ?_ ?_ ⟨hB0, hlay, hlast, fun p hp => by simp at hp⟩ ?round ?done ?stop
  · intro X l o o' hl hl2 h ho
    exact KeepB.put X o' (by omega) (by omega)
  · rintro s X Y ⟨h1, h2, h3, h4⟩ hst
    exact ⟨hst.below (by omega) (Nat.le_refl _) h1, hst.same _ _ h2 (.inr rfl), hst.same _ _ h3 (.inr rfl), h4⟩
  · rintro s X Y ⟨pre, x, h1, h2, h3, h4, h5, h6, h7⟩ hst
    exact ⟨pre, x, h1, h2, h3, h4, hst.boxed h5, hst.boxed h6, hst.below (by omega) (Nat.le_refl _) h7⟩
  case round =>
    rintro lp pre ⟨k, op, dst, src, off, imm⟩ W hle hloop hws ⟨h1, h2, h3, h4⟩ hpre
    obtain ⟨hk0, hk1, hk2⟩ := fsts_mem l 0 false _ (prefix_mem hpre)
    have hfit := hf _ (List.mem_of_getElem? hk2)
    have HPRE := hide hpre
    have H4 := hide h4
    have HF := hide hfit
    have hl1 := HLL.out
    clear hpre h4 hfit hk2 hf
    simp only at hk1
    simp only [Ins.cells]
    gi_wp2
    refine ⟨(KeepsOthers.alloc _ _).from _, .of_below (by omega) (by omega) (below1 W _), ⟨h1.alloc (by omega) _, (Below.heap_alloc _ _ _ (at_lt h2)).trans h2, (Below.heap_alloc _ _ _ (at_lt h3)).trans h3, H4.out⟩, fun W2 hst => ?_⟩
    have hS := hst.same _ _ (World.alloc_heap_new W _) (.inr rfl)
    have g2 := hst.same _ _ ((Below.heap_alloc W (.cells #[.int .u8 op, .int .u8 dst, .int .u8 src, .int .i16 off, .int .i32 imm] 42) _ (at_lt h2)).trans h2) (.inr rfl)
    have g3 := hst.same _ _ ((Below.heap_alloc W (.cells #[.int .u8 op, .int .u8 dst, .int .u8 src, .int .i16 off, .int .i32 imm] 42) _ (at_lt h3)).trans h3) (.inr rfl)
    have HI := hide (hst.below (n0 := w2.heap.size) (by omega) (Nat.le_refl _) (h1.alloc (by omega) (.cells #[.int .u8 op, .int .u8 dst, .int .u8 src, .int .i16 off, .int .i32 imm] 42)))
    have hs2 : W.heap.size < W2.heap.size := at_lt hS
    have c0 := blk_cell hS 0
    have c1 := blk_cell hS 1
    have c2 := blk_cell hS 2
    have c3 := blk_cell hS 3
    have c4 := blk_cell hS 4
    have l0 := blk_cell g2 0
    have l1 := blk_cell g2 1
    have l2 := blk_cell g2 2
    simp at c0 c1 c2 c3 c4 l0 l1 l2
    have HS := hide hS
    have G2 := hide g2
    have G3 := hide g3
    have HFA : Hid (Calls Try.prog 25 #[.agg #[.slice A m c, .map (some (w.heap.size + 1 + 1)), .map (some w1.heap.size)], .int .i64 k, .agg #[.int .u8 op, .int .u8 dst, .int .u8 src, .int .i16 off, .int .i32 imm]] W2 fun e w' => e = .returned (.int .i64 (errM l (k, ⟨op, dst, src, off, imm⟩))) ∧ Below W2.heap.size W2 w') := by
      have := fault_any A m c w.heap.size k (w.heap.size + 1 + 1) w1.heap.size l (secsM l) ⟨op, dst, src, off, imm⟩ W2 ((hp.mono hB).below (HW2.out.trans (HI.out.mono (by omega)))) (by omega) hm (by omega) HF.out (HS2.out.below HI.out)
        (HMU.out.stays (B := w2.heap.size) (at_lt (HMU.out.choose_spec.choose_spec.choose_spec.choose_spec.choose_spec.choose_spec.1)) (.of_below HI.out))
      unfold errM
      rw [HLL.out]
      exact this
    clear hS g2 g3 h1 h2 h3 hst hbx hlay hlast hB0 HF
    by_cases her : errM l (k, ⟨op, dst, src, off, imm⟩) = 0
    · rw [her] at HFA
      have HE := hide her
      clear her
      gi_wp2_with fail
      refine ⟨trivial, (CallsIn.inRound lp (callsIn_wide.2 HFA.out)).mono ?_⟩
      rintro e w3 ⟨rfl, hb3⟩
      obtain ⟨hc, hfz⟩ := bcell hb3
      have z3 := hb3.size
      have HB3 := hide hb3
      generalize hlp : lastOf pre = lp at G3
      obtain ⟨o1, o2, o3, o4, o5⟩ := lp
      have hq3 : w3.heap[w2.heap.size + 1]? = some (.cells #[.int .u8 o1, .int .u8 o2, .int .u8 o3, .int .i16 o4, .int .i32 o5] 42 (0, 0)) := (hb3.block _ (at_lt G3.out)).trans G3.out
      have q0 := blk_cell hq3 0
      have q1 := blk_cell hq3 1
      have q2 := blk_cell hq3 2
      have q3 := blk_cell hq3 3
      have q4 := blk_cell hq3 4
      simp at q0 q1 q2 q3 q4
      have f0 := Joins.unfrozen_of_block hq3 0
      have f1 := Joins.unfrozen_of_block hq3 1
      have f2 := Joins.unfrozen_of_block hq3 2
      have f3 := Joins.unfrozen_of_block hq3 3
      have f4 := Joins.unfrozen_of_block hq3 4
      have HQ := hide hq3
      have G23 := hide ((hb3.block _ (at_lt G2.out)).trans G2.out)
      have HF3 := hide (show KeepsFrom (w2.heap.size + 3) W2 w3 from ⟨hb3.size, fun k o hk ho _ => (hb3.block k (at_lt ho)).trans ho⟩)
      clear hb3 HFA hlp hq3
      gi_wp2_with fail
      obtain ⟨t1, t2⟩ := five_store HQ.out (.int .u8 op) (.int .u8 dst) (.int .u8 src) (.int .i16 off) (.int .i32 imm)
      refine ⟨HF3.out.trans (KeepsFrom.of_grownBy t2 (fun j e => by cases e; omega)), (KeepB.of_below (by omega) (by omega) HB3.out).trans (KeepB.grown (by omega) (by omega) t2 (by omega) (by omega)),
        (HI.out.trans (HB3.out.mono (by omega))).grown t2 (by omega) (fun k e => by cases e; omega), blk_kept G23.out t2 (by omega), by rw [lastOf_snoc]; exact t1, ?_⟩
      intro p hp
      rw [List.mem_append, List.mem_singleton] at hp
      rcases hp with hp | rfl
      · exact H4.out p hp
      · rw [HE.out]; rfl
    · have HE := hide her
      generalize hee : errM l (k, ⟨op, dst, src, off, imm⟩) = ee at HFA
      have hne : (ee == 0) = false := by rw [← hee]; simpa using her
      have hne2 : (ee != 0) = true := by rw [← hee]; simpa using her
      have HEE := hide hee
      clear her hee
      gi_wp2_with fail
      refine ⟨trivial, (CallsIn.inRound lp (callsIn_wide.2 HFA.out)).mono ?_⟩
      rintro e w3 ⟨rfl, hb3⟩
      obtain ⟨hc, hfz⟩ := bcell hb3
      have z3 := hb3.size
      have HB3 := hide hb3
      have b0 := boxed_below (boxed_below hr0 HI.out) hb3
      have b1 := boxed_below (boxed_below hr1 HI.out) hb3
      have e0 := b0.cell
      have e1 := b1.cell
      have f0 := b0.frozen
      have f1 := b1.frozen
      have B0 := hide b0
      have B1 := hide b1
      clear hb3 HFA b0 b1
      gi_wp2_with fail
      refine ⟨?_, pre, (k, ⟨op, dst, src, off, imm⟩), rfl, HPRE.out, H4.out, by rw [HEE.out]; exact hne2, (B0.out.set _).other (by omega) _, by rw [HEE.out]; exact (B1.out.other (by omega) _).set _, ?_⟩
      · exact KeepsFrom.trans ⟨HB3.out.size, fun k o hk ho _ => (HB3.out.block k (at_lt ho)).trans ho⟩ (((KeepsOthers.setCell _ _ _).from _).trans ((KeepsOthers.setCell _ _ _).from _))
      · exact ((HW2.out.trans (HI.out.mono (by omega))).trans (HB3.out.mono (by omega))).setCell (p := ⟨w.heap.size, 0, none⟩) (Nat.le_refl _) _ |>.setCell (p := ⟨w.heap.size + 1, 0, none⟩) (by simp) _
  case done =>
    rintro D xs W hD rfl ⟨h1, h2, h3, h4⟩ hdef
    generalize hls : lastOf (fsts 0 false l) = ls at h3
    obtain ⟨op, dst, src, off, imm⟩ := ls
    have HLS := hide hls
    have c0 := blk_cell h3 0
    have c1 := blk_cell h3 1
    have c2 := blk_cell h3 2
    have c3 := blk_cell h3 3
    have c4 := blk_cell h3 4
    simp [Ins.cells] at c0 c1 c2 c3 c4
    have hg := goes_any op dst src off imm W
    have e0 := boxed_below hr0 h1
    have e1 := boxed_below hr1 h1
    have H1 := hide h1
    have H4 := hide h4
    have zz := h1.size
    clear hls h1 h2 h3 h4
    cases hgo : goesB op
    · rw [hgo] at hg
      have HC : Hid (checkL l = (0, 0)) := by
        show checkL l = _
        unfold checkL
        rw [find_none H4.out]
        simp only [HLS.out, hgo]
        rfl
      clear hgo
      gi_wp2_with fail
      refine ⟨trivial, (callsIn_wide.2 hg).mono ?_⟩
      rintro e w3 ⟨rfl, hb3⟩
      have b0 := boxed_below e0 hb3
      have b1 := boxed_below e1 hb3
      have d0 := b0.cell
      have d1 := b1.cell
      have f0 := b0.frozen
      have f1 := b1.frozen
      have HDEF := hide ((hb3.block D (at_lt hdef)).trans hdef)
      have HB := hide (((HW2.out.trans (H1.out.mono (by omega))).trans (hb3.mono (by omega))).setCell (p := ⟨w.heap.size, 0, none⟩) (Nat.le_refl _) (.int .i64 (0)) |>.setCell (p := ⟨w.heap.size + 1, 0, none⟩) (by simp) (.int .i64 0))
      have B0 := hide ((b0.set (.int .i64 (0))).other (B' := w.heap.size + 1) (by omega) (.int .i64 0))
      have B1 := hide ((b1.other (B' := w.heap.size) (by omega) (.int .i64 (0))).set (.int .i64 0))
      have hdd := Nat.le_trans (show w.heap.size + 2 ≤ W0.heap.size by omega) hD
      clear hb3 hdef b0 b1
      gi_wp2
      have hK := ((KeepsOthers.setCell w3 ⟨w.heap.size, 0, none⟩ (.int .i64 (0))).trans (KeepsOthers.setCell _ ⟨w.heap.size + 1, 0, none⟩ (.int .i64 0))).same D _ HDEF.out rfl
      refine ⟨by simp, .inl ⟨_, _, rfl, run_takeDeferred hK, ?_⟩⟩
      have hst := Stays.putObj (B := w.heap.size) (.deferred none) (by omega) hK rfl
      have r0 := (hst.boxed B0.out).cell
      have r1 := (hst.boxed B1.out).cell
      refine ⟨.tuple #[.int .i64 (0), .int .i64 0], by simp [results, Try.results10, go_sem, r0, r1], by rw [HC.out], hst.below (Nat.le_refl _) (Nat.le_refl _) HB.out⟩
    · rw [hgo] at hg
      have HC : Hid (checkL l = ((m : Int) - 1, 24)) := by
        show checkL l = _
        unfold checkL
        rw [find_none H4.out]
        simp only [HLS.out, hgo]
        rw [HLL.out]; rfl
      clear hgo
      gi_wp2_with fail
      refine ⟨trivial, (callsIn_wide.2 hg).mono ?_⟩
      rintro e w3 ⟨rfl, hb3⟩
      have b0 := boxed_below e0 hb3
      have b1 := boxed_below e1 hb3
      have d0 := b0.cell
      have d1 := b1.cell
      have f0 := b0.frozen
      have f1 := b1.frozen
      have HDEF := hide ((hb3.block D (at_lt hdef)).trans hdef)
      have HB := hide (((HW2.out.trans (H1.out.mono (by omega))).trans (hb3.mono (by omega))).setCell (p := ⟨w.heap.size, 0, none⟩) (Nat.le_refl _) (.int .i64 ((m : Int) - 1)) |>.setCell (p := ⟨w.heap.size + 1, 0, none⟩) (by simp) (.int .i64 24))
      have B0 := hide ((b0.set (.int .i64 ((m : Int) - 1))).other (B' := w.heap.size + 1) (by omega) (.int .i64 24))
      have B1 := hide ((b1.other (B' := w.heap.size) (by omega) (.int .i64 ((m : Int) - 1))).set (.int .i64 24))
      have hdd := Nat.le_trans (show w.heap.size + 2 ≤ W0.heap.size by omega) hD
      clear hb3 hdef b0 b1
      gi_wp2
      have hK := ((KeepsOthers.setCell w3 ⟨w.heap.size, 0, none⟩ (.int .i64 ((m : Int) - 1))).trans (KeepsOthers.setCell _ ⟨w.heap.size + 1, 0, none⟩ (.int .i64 24))).same D _ HDEF.out rfl
      refine ⟨by simp, .inl ⟨_, _, rfl, run_takeDeferred hK, ?_⟩⟩
      have hst := Stays.putObj (B := w.heap.size) (.deferred none) (by omega) hK rfl
      have r0 := (hst.boxed B0.out).cell
      have r1 := (hst.boxed B1.out).cell
      refine ⟨.tuple #[.int .i64 ((m : Int) - 1), .int .i64 24], by simp [results, Try.results10, go_sem, r0, r1], by rw [HC.out], hst.below (Nat.le_refl _) (Nat.le_refl _) HB.out⟩
  case stop =>
    rintro D xs W hD ⟨pre, x, h1, h2, h3, h4, h5, h6, h7⟩ hdef
    have HC : Hid (checkL l = ((x.1 : Int), errM l x)) := by
      show checkL l = _
      unfold checkL
      rw [find_at h2 h3 h4]
    gi_wp2
    refine ⟨by simp, .inl ⟨_, _, rfl, run_takeDeferred hdef, ?_⟩⟩
    have hst := Stays.putObj (B := w.heap.size) (.deferred none) (by omega) hdef rfl
    have r0 := (hst.boxed h5).cell
    have r1 := (hst.boxed h6).cell
    refine ⟨.tuple #[.int .i64 (x.1 : Nat), .int .i64 (errM l x)], by simp [results, Try.results10, go_sem, r0, r1], by rw [HC.out], hst.below (Nat.le_refl _) (Nat.le_refl _) h7⟩
end Go.Proofs.Ytjnmfgkjeofneaa
