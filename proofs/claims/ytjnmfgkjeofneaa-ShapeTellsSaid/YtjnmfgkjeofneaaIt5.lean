/-
  Ways.
-/
import Derived.Test.YtjnmfgkjeofneaaIt4
import Derived.RangeFuncRecord
namespace Go.Proofs.Ytjnmfgkjeofneaa
open Go.RowKit Go.Maps
set_option linter.unusedVariables false
attribute [local go_sem] Oper.semAt_some

theorem check_all (A : Option Addr) (m c B : Nat) (l : List Ins) (w : World) (hp : Rd w B 5 A m (pcells l)) (hB : B ≤ w.heap.size) (hf : ∀ s ∈ l, s.Fits) (r : m ≤ 140737488351232) :
    Calls Try.prog 10 #[.slice A m c] w fun e w' => e = .returned (.tuple #[.int .i64 (checkM l).1, .int .i64 (checkM l).2]) ∧ Below w.heap.size w w' := by
  have hll : l.length = m := hp.prg.1
  by_cases h0 : m = 0
  · subst h0
    unfold checkM
    rw [if_pos (.inl hll)]
    exact check_none A c w
  · by_cases h1 : 4096 < m
    · unfold checkM
      rw [if_pos (.inr (by omega))]
      exact check_long A m c w h1 r
    · unfold checkM
      rw [if_neg (by omega)]
      exact check_any A m c B l w hp hB (by omega) (by omega) hf
theorem ways_no (A : Option Addr) (m c B : Nat) (l : List Ins) (w : World) (hp : Rd w B 5 A m (pcells l)) (hB : B ≤ w.heap.size) (hf : ∀ s ∈ l, s.Fits) (r : m ≤ 140737488351232) (hno : (checkM l).2 ≠ 0) :
    Calls Try.prog 14 #[.slice A m c] w fun e w' => e = .returned (.slice none 0 0) ∧ Below w.heap.size w w' := by
  have hC := hide (check_all A m c B l w hp hB hf r)
  generalize (checkM l).1 = x at hC
  generalize (checkM l).2 = y at hC hno
  have hy : (y == 0) = false := by simpa using hno
  have hy2 : (y != 0) = true := by simpa using hno
  clear hp
  refine (callsIn_wide (n := 3)).1 ?_
  refine callsIn_of_wp_marks Try.func14 rfl trivial ?_ rfl
  simp only [Try.ntmps14, List.size_toArray, List.length_cons, List.length_nil, Nat.reduceAdd, Nat.reduceSub, Array.replicate_succ, Array.replicate_zero, List.push_toArray, List.append_toArray, List.nil_append, List.cons_append]
  gi_wp2_with fail
  refine ⟨trivial, (callsIn_wide.2 hC.out).mono ?_⟩
  rintro e w1 ⟨rfl, hb⟩
  gi_wp2
  exact ⟨_, results_tmp rfl _ _ _, rfl, hb⟩
/-- The world in which one cell was stored, behind a call that made new memory. -/
def Stored (w3 : World) (g j : Nat) (v : Value) (X : World) : Prop := ∃ w4, Below w3.drew.heap.size w3.drew w4 ∧ X = w4.setCell ⟨g, j, none⟩ v
set_option maxRecDepth 100000 in
set_option maxHeartbeats 4000000 in
theorem ways_yes (A : Option Addr) (m c B : Nat) (l : List Ins) (w : World) (hp : Rd w B 5 A m (pcells l)) (hB : B ≤ w.heap.size) (hf : ∀ s ∈ l, s.Fits) (r : m ≤ 140737488351232) (hok : (checkM l).2 = 0) (hm : m ≤ 4096) (hm0 : 0 < m) :
    Calls Try.prog 14 #[.slice A m c] w fun e w' => ∃ g, e = .returned (.slice (some ⟨g, 0, none⟩) m m) ∧ w.heap.size ≤ g ∧ Pairs w' g m (wayOf (fsts 0 false l)) ∧ Below w.heap.size w w' := by
  have hC := hide (check_all A m c B l w hp hB hf r)
  rw [hok] at hC
  generalize (checkM l).1 = x at hC
  clear hok
  have hll := hide (hp.prg.1)
  refine (callsIn_wide (n := 3)).1 ?_
  refine callsIn_of_wp_marks Try.func14 rfl trivial ?_ rfl
  simp only [Try.ntmps14, List.size_toArray, List.length_cons, List.length_nil, Nat.reduceAdd, Nat.reduceSub, Array.replicate_succ, Array.replicate_zero, List.push_toArray, List.append_toArray, List.nil_append, List.cons_append]
  gi_wp2_with fail
  refine ⟨trivial, (callsIn_wide.2 hC.out).mono ?_⟩
  rintro e w1 ⟨rfl, hb1⟩
  have HB1 := hide hb1
  have z1 := hb1.size
  clear hb1 hC
  gi_wp2_with fail
  have hcells := World.alloc_heap_new w1 (.cells #[.int .i64 (-1), .int .i64 (-1)] 33)
  refine ⟨trivial, (callsIn_wide.2 (repeat_any w1.heap.size m (w1.alloc (.cells #[.int .i64 (-1), .int .i64 (-1)] 33)) (by rw [blk_cell hcells]; rfl) (by rw [blk_cell hcells]; rfl) (by simp) hm hm0)).mono ?_⟩
  clear hcells
  rintro e w2 ⟨rfl, hfil, hb2⟩
  have HF := hide hfil
  have HB2 := hide hb2
  have g1 : w1.heap.size + 1 < w2.heap.size := by
    obtain ⟨L, _, h2, _⟩ := hfil
    have := at_lt h2
    simpa using this
  have z2 := hb2.size
  simp only [World.size_alloc] at z2
  clear hfil hb2
  gi_wp2_with fail
  refine ⟨trivial, (callsIn_wide.2 (firsts_any _ _ _ _)).mono ?_⟩
  rintro e w' ⟨rfl, rfl⟩
  gi_wp2_with fail
  generalize hW0 : (w2.alloc (.cells #[.slice (some ⟨w1.heap.size + 1, 0, none⟩) m m] 31)).alloc (.cells #[.slice A m c] 22) = W0
  have hs0 : W0.heap.size = w2.heap.size + 2 := by rw [← hW0]; simp
  have zq : w.heap.size ≤ (w1.alloc (.cells #[.int .i64 (-1), .int .i64 (-1)] 33)).heap.size := by rw [World.size_alloc]; omega
  have hBw : Below w.heap.size w w2 := (HB1.out.trans ((below1 w1 _).mono z1)).trans (HB2.out.mono zq)
  have hB0 : Below w.heap.size w W0 := by rw [← hW0]; exact (hBw.alloc (by omega) _).alloc (by simp; omega) _
  have hbx : Boxed W0 (w2.heap.size + 1) 22 (.slice A m c) := by rw [← hW0]; exact boxed_at (by simp)
  have hbw : Boxed W0 w2.heap.size 31 (.slice (some ⟨w1.heap.size + 1, 0, none⟩) m m) := by rw [← hW0]; exact (Boxed.new w2 _ _).alloc _
  have hpr : Pairs W0 (w1.heap.size + 1) m (wayOf []) := by
    have e : (w1.alloc (.cells #[.int .i64 (-1), .int .i64 (-1)] 33)).heap.size = w1.heap.size + 1 := by simp
    have := HF.out.pairs
    rw [e] at this
    exact this.same (by rw [← hW0]; exact (Below.heap_alloc _ _ _ (by simp; omega)).trans (Below.heap_alloc _ _ _ g1))
  clear hW0 hBw HF HB2
  refine range_ends (α := Nat × Ins) (F := Fence.wide) (n := 3) rfl (by omega) (gf := 48) (lb := #[.pointer (some ⟨w2.heap.size + 1, 0, none⟩)]) rfl trivial (enters_of Try.func48 (by kernel_rfl) rfl)
    (firsts_iter (3 - 1) (by omega) (w2.heap.size + 1) m c w.heap.size A l W0 hbx (by omega) ((hp.mono hB).below hB0) hm) (Below.refl _ _) KeepB.trans ?_ (fun _ => rfl)
    (fun pre W => Boxed W w2.heap.size 31 (.slice (some ⟨w1.heap.size + 1, 0, none⟩) m m) ∧ Pairs W (w1.heap.size + 1) m (wayOf pre) ∧ Below w.heap.size w W) (fun _ _ => False)
    ?_ (fun _ _ _ h _ => h) ⟨hbw, hpr, hB0⟩ ?round ?done ?stop
  · intro X l o o' hl hl2 h ho
    exact KeepB.put X o' (by omega) (by omega)
  · rintro s X Y ⟨h1, h2, h3⟩ hst
    exact ⟨hst.boxed h1, h2.stays hst, hst.below (by omega) (Nat.le_refl _) h3⟩
  case round =>
    rintro lp pre ⟨k, op, dst, src, off, imm⟩ W hle hloop hws ⟨h1, h2, h3⟩ hpre
    obtain ⟨hk0, hk1, hk2⟩ := fsts_mem l 0 false _ (prefix_mem hpre)
    have hfit := hf _ (List.mem_of_getElem? hk2)
    have HLESS := hide (wayOf_fresh pre k (prefix_less hpre))
    have hl1 := hll.out
    simp only at hk1 hk2
    have hkm : k < m := by omega
    have hfo := hfit.off
    have hfi := hfit.imm
    simp only at hfo hfi
    have hsl := slotsN_le op
    simp only [Ins.cells]
    clear hpre hfit hk2 hf
    gi_wp2
    refine ⟨(KeepsOthers.alloc _ _).from _, .of_below (by omega) (by omega) (below1 W _), ⟨h1.alloc _, h2.same (Below.heap_alloc _ _ _ h2.lt), h3.alloc (by omega) _⟩, fun W2 hst => ?_⟩
    have hS := hst.same _ _ (World.alloc_heap_new W _) (.inr rfl)
    have b1 := hst.boxed (h1.alloc (.cells #[.int .u8 op, .int .u8 dst, .int .u8 src, .int .i16 off, .int .i32 imm] 42))
    have p1 := (h2.same (Below.heap_alloc W (.cells #[.int .u8 op, .int .u8 dst, .int .u8 src, .int .i16 off, .int .i32 imm] 42) _ h2.lt)).stays hst
    have i1 := hst.below (n0 := w.heap.size) (by omega) (Nat.le_refl _) (h3.alloc (by omega) (.cells #[.int .u8 op, .int .u8 dst, .int .u8 src, .int .i16 off, .int .i32 imm] 42))
    have hs2 : W.heap.size < W2.heap.size := at_lt hS
    have c0 := blk_cell hS 0
    have c1 := blk_cell hS 1
    have c2 := blk_cell hS 2
    have c3 := blk_cell hS 3
    have c4 := blk_cell hS 4
    simp at c0 c1 c2 c3 c4
    have HS := hide hS
    have BB1 := hide b1
    have P1 := hide p1
    have I1 := hide i1
    have hG := hide (fun w => goes_any op dst src off imm w)
    have hT := hide (fun w => target_any op dst src off imm w k (by omega) hfo hfi)
    have hSl := hide (fun w => slots_any op dst src off imm w)
    clear hS h1 h2 h3 hst hbx hbw hpr hB0 b1 p1 i1 hfo hfi
    cases hgo : goesB op
    all_goals
      rw [hgo] at hG
      have HGO := hide hgo
      clear hgo
      gi_wp2_with fail
      refine ⟨trivial, (CallsIn.inRound lp (callsIn_wide.2 (hG.out _))).mono ?_⟩
      rintro e w3 ⟨rfl, hb3⟩
      obtain ⟨hc, hfz⟩ := bcell hb3
      have z3 := hb3.size
      have b3 := boxed_below BB1.out hb3
      have cb3 := b3.cell
      have p3 := P1.out.same (hb3.block _ P1.out.lt)
      have hS3 := (hb3.block _ (at_lt HS.out)).trans HS.out
      have HB3 := hide hb3
      have BB3 := hide b3
      have P3 := hide p3
      have HS3 := hide hS3
      clear hb3 b3 p3 hS3
      clear hc hfz
    · have KX : Hid (KeepsFrom (w2.heap.size + 2) W2 w3) := ⟨HB3.out.size, fun k o hk ho _ => (HB3.out.block k (at_lt ho)).trans ho⟩
      have KB : Hid (KeepB w.heap.size (w2.heap.size + 1) W2 w3) := .of_below (by omega) (by omega) HB3.out
      have IX := hide (I1.out.trans (HB3.out.mono (by omega)))
      have BX := BB3
      have HSX := HS3
      have PX : Hid (Pairs w3 (w1.heap.size + 1) m (fun i => if i = k then (nextI (k, ⟨op, dst, src, off, imm⟩), (wayOf pre i).2) else wayOf pre i)) := P3.out.ext (fun i hi => by
        by_cases e : i = k
        · subst e
          rw [if_pos rfl, HLESS.out]
          unfold nextI
          rw [HGO.out]
          rfl
        · rw [if_neg e])
      clear cb3
      have hSX := HSX.out
      have d0 := blk_cell hSX 0
      have d1 := blk_cell hSX 1
      have d2 := blk_cell hSX 2
      have d3 := blk_cell hSX 3
      have d4 := blk_cell hSX 4
      simp at d0 d1 d2 d3 d4
      clear hSX
      have zX := KX.out.size
      cases htb : targetB ⟨op, dst, src, off, imm⟩
      · rw [htb] at hT
        have HJ := hide (show jumpI (k, ⟨op, dst, src, off, imm⟩) = -1 by unfold jumpI; rw [htb]; rfl)
        clear htb
        gi_wp2_with fail
        refine ⟨trivial, (CallsIn.inRound lp (callsIn_wide.2 (hT.out _))).mono ?_⟩
        rintro e w5 ⟨rfl, hb5⟩
        gi_wp2
        refine ⟨KX.out.trans ⟨hb5.size, fun k o hk ho _ => (hb5.block k (at_lt ho)).trans ho⟩, KB.out.trans (.of_below (by omega) (by omega) hb5), boxed_below BX.out hb5, (PX.out.same (hb5.block _ PX.out.lt)).ext (fun i hi => ?_), IX.out.trans (hb5.mono (by omega))⟩
        rw [wayOf_snoc, HJ.out]
        by_cases e : i = k
        · subst e
          rw [if_pos rfl, if_pos rfl, HLESS.out]
        · rw [if_neg e, if_neg (fun h => e h.symm)]
      · rw [htb] at hT
        have HJ := hide (show jumpI (k, ⟨op, dst, src, off, imm⟩) = targetI k ⟨op, dst, src, off, imm⟩ by unfold jumpI; rw [htb]; rfl)
        generalize targetI k ⟨op, dst, src, off, imm⟩ = tg at hT HJ
        clear htb
        gi_wp2_with fail
        refine ⟨trivial, (CallsIn.inRound lp (callsIn_wide.2 (hT.out _))).mono ?_⟩
        rintro e w5 ⟨rfl, hb5⟩
        have p5 := PX.out.same (hb5.block _ PX.out.lt)
        have b5 := boxed_below BX.out hb5
        have cb5 := b5.cell
        have q5 := (p5.cell hkm).2
        have f5 := p5.free (k * 2 + 1)
        have P5 := hide p5
        have B5 := hide b5
        have H5 := hide hb5
        have z5 := hb5.size
        clear p5 b5 hb5
        gi_wp2
        have hg5 := grown_set w5 (w1.heap.size + 1) (k * 2 + 1) (.int .i64 tg)
        refine ⟨(KX.out.trans ⟨H5.out.size, fun k o hk ho _ => (H5.out.block k (at_lt ho)).trans ho⟩).trans ((KeepsOthers.setCell _ _ _).from _), (KB.out.trans (.of_below (by omega) (by omega) H5.out)).trans (KeepB.grown (by omega) (by omega) hg5 (by omega) (by omega)), B5.out.kept hg5 (by simp; omega), (P5.out.set1 k hkm tg).ext (fun i hi => ?_), (IX.out.trans (H5.out.mono (by omega))).grown hg5 (by omega) (fun k e => by cases e; omega)⟩
        rw [wayOf_snoc, HJ.out]
        by_cases e : i = k
        · subst e
          simp
        · rw [if_neg e, if_neg e, if_neg (fun h => e h.symm)]
    · have hmix : Try.prog.follows .mixedOrders = true := by kernel_rfl
      have e0 := blk_cell HS3.out 0
      have e1 := blk_cell HS3.out 1
      have e2 := blk_cell HS3.out 2
      have e3 := blk_cell HS3.out 3
      have e4 := blk_cell HS3.out 4
      simp at e0 e1 e2 e3 e4
      have hwk : IntKind.i64.wrap ((k : Int) + (slotsN op : Nat)) = (k : Int) + (slotsN op : Nat) := IntWalk.i64_in _ ⟨by omega, by omega⟩
      gi_wp2_with fail
      refine wpIn_mono (Q := fun e a' X => e = .normal ∧ a' = { tmps := #[.slice A m c, undef, .slice none 0 0, .int .i64 x, .int .i64 0, .pointer (some ⟨w2.heap.size, 0, none⟩), .int .i64 k, .pointer (some ⟨W.heap.size, 0, none⟩), undef, undef, .tuple #[.int .i64 x, .int .i64 0], .slice A m c, .tuple #[.int .i64 x, .int .i64 0], .int .i64 x, .int .i64 0, .int .i64 0, .bool false, .agg #[.int .i64 (-1), .int .i64 (-1)], .slice (some ⟨w1.heap.size, 0, none⟩) 1 1, .slice A m c, .int .i64 m, .slice (some ⟨w1.heap.size + 1, 0, none⟩) m m, .slice A m c, .func (.func 48) #[] #[.pointer (some ⟨w2.heap.size + 1, 0, none⟩)], .int .i64 k, .agg #[.int .u8 op, .int .u8 dst, .int .u8 src, .int .i16 off, .int .i32 imm], .agg #[.int .u8 op, .int .u8 dst, .int .u8 src, .int .i16 off, .int .i32 imm], .bool true, .slice (some ⟨w1.heap.size + 1, 0, none⟩) m m, .int .i64 k, .int .i64 k, .agg #[.int .u8 op, .int .u8 dst, .int .u8 src, .int .i16 off, .int .i32 imm], .int .i64 (slotsN op : Nat), .int .i64 ((k : Int) + (slotsN op : Nat)), .pointer (some ⟨w1.heap.size + 1, k * 2, none⟩), .pointer (some ⟨w1.heap.size + 1, k * 2, none⟩), undef, undef, undef, undef, undef, undef, undef, undef, undef, undef, undef, undef, undef], defers := [] } ∧ Stored w3 (w1.heap.size + 1) (k * 2) (.int .i64 ((k : Int) + (slotsN op : Nat))) X) ?_ ?_
      · gi_region_with_o (refine ⟨trivial, (CallsIn.inRound lp (callsIn_wide.2 (hSl.out _))).mono ?_⟩; rintro e w4 ⟨rfl, hb4⟩; have cb4 := (boxed_below BB3.out (Below.trans (Below.refl _ _).drew hb4)).cell; have p4 := P3.out.same (W' := w4) (hb4.block _ P3.out.lt); have q0 := (p4.cell hkm).1; have f0 := p4.free (k * 2); have HB4 := hide hb4; clear p4 hb4)
        all_goals exact ⟨rfl, rfl, w4, HB4.out, rfl⟩
      rintro _ _ X ⟨rfl, rfl, w4, HB4, hX⟩
      have hg4 := grown_set w4 (w1.heap.size + 1) (k * 2) (.int .i64 ((k : Int) + (slotsN op : Nat)))
      have hbw4 : Below w3.heap.size w3 w4 := ⟨HB4.os, HB4.tape, HB4.output, HB4.size, HB4.block⟩
      have P4 := P3.out.same (W' := w4) (hbw4.block _ P3.out.lt)
      have z4 := hbw4.size
      rw [← hX] at hg4
      have KX : Hid (KeepsFrom (w2.heap.size + 2) W2 X) := (KeepsFrom.trans ⟨HB3.out.size, fun k o hk ho _ => (HB3.out.block k (at_lt ho)).trans ho⟩ ⟨hbw4.size, fun k o hk ho _ => (hbw4.block k (at_lt ho)).trans ho⟩).trans (by rw [hX]; exact (KeepsOthers.setCell _ _ _).from _)
      have KB : Hid (KeepB w.heap.size (w2.heap.size + 1) W2 X) := ((KeepB.of_below (by omega) (by omega) HB3.out).trans (.of_below (by omega) (by omega) hbw4)).trans (KeepB.grown (by omega) (by omega) hg4 (by omega) (by omega))
      have IX := hide (((I1.out.trans (HB3.out.mono (by omega))).trans (hbw4.mono (by omega))).grown hg4 (by omega) (fun k e => by cases e; omega))
      have BX := hide ((boxed_below BB3.out hbw4).kept hg4 (by simp; omega))
      have HSX := hide (blk_kept ((hbw4.block _ (at_lt HS3.out)).trans HS3.out) hg4 (by omega))
      have PX : Hid (Pairs X (w1.heap.size + 1) m (fun i => if i = k then (nextI (k, ⟨op, dst, src, off, imm⟩), (wayOf pre i).2) else wayOf pre i)) := by
        have := P4.set0 k hkm ((k : Int) + (slotsN op : Nat))
        rw [← hX] at this
        refine this.ext (fun i hi => ?_)
        by_cases e : i = k
        · subst e
          rw [if_pos rfl, if_pos rfl]
          unfold nextI
          rw [HGO.out]
          rfl
        · rw [if_neg e, if_neg e]
      clear hX hg4 hbw4 HB4 P4 e0 e1 e2 e3 e4 cb3
      have hSX := HSX.out
      have d0 := blk_cell hSX 0
      have d1 := blk_cell hSX 1
      have d2 := blk_cell hSX 2
      have d3 := blk_cell hSX 3
      have d4 := blk_cell hSX 4
      simp at d0 d1 d2 d3 d4
      clear hSX
      have zX := KX.out.size
      cases htb : targetB ⟨op, dst, src, off, imm⟩
      · rw [htb] at hT
        have HJ := hide (show jumpI (k, ⟨op, dst, src, off, imm⟩) = -1 by unfold jumpI; rw [htb]; rfl)
        clear htb
        gi_wp2_with fail
        refine ⟨trivial, (CallsIn.inRound lp (callsIn_wide.2 (hT.out _))).mono ?_⟩
        rintro e w5 ⟨rfl, hb5⟩
        gi_wp2
        refine ⟨KX.out.trans ⟨hb5.size, fun k o hk ho _ => (hb5.block k (at_lt ho)).trans ho⟩, KB.out.trans (.of_below (by omega) (by omega) hb5), boxed_below BX.out hb5, (PX.out.same (hb5.block _ PX.out.lt)).ext (fun i hi => ?_), IX.out.trans (hb5.mono (by omega))⟩
        rw [wayOf_snoc, HJ.out]
        by_cases e : i = k
        · subst e
          rw [if_pos rfl, if_pos rfl, HLESS.out]
        · rw [if_neg e, if_neg (fun h => e h.symm)]
      · rw [htb] at hT
        have HJ := hide (show jumpI (k, ⟨op, dst, src, off, imm⟩) = targetI k ⟨op, dst, src, off, imm⟩ by unfold jumpI; rw [htb]; rfl)
        generalize targetI k ⟨op, dst, src, off, imm⟩ = tg at hT HJ
        clear htb
        gi_wp2_with fail
        refine ⟨trivial, (CallsIn.inRound lp (callsIn_wide.2 (hT.out _))).mono ?_⟩
        rintro e w5 ⟨rfl, hb5⟩
        have p5 := PX.out.same (hb5.block _ PX.out.lt)
        have b5 := boxed_below BX.out hb5
        have cb5 := b5.cell
        have q5 := (p5.cell hkm).2
        have f5 := p5.free (k * 2 + 1)
        have P5 := hide p5
        have B5 := hide b5
        have H5 := hide hb5
        have z5 := hb5.size
        clear p5 b5 hb5
        gi_wp2
        have hg5 := grown_set w5 (w1.heap.size + 1) (k * 2 + 1) (.int .i64 tg)
        refine ⟨(KX.out.trans ⟨H5.out.size, fun k o hk ho _ => (H5.out.block k (at_lt ho)).trans ho⟩).trans ((KeepsOthers.setCell _ _ _).from _), (KB.out.trans (.of_below (by omega) (by omega) H5.out)).trans (KeepB.grown (by omega) (by omega) hg5 (by omega) (by omega)), B5.out.kept hg5 (by simp; omega), (P5.out.set1 k hkm tg).ext (fun i hi => ?_), (IX.out.trans (H5.out.mono (by omega))).grown hg5 (by omega) (fun k e => by cases e; omega)⟩
        rw [wayOf_snoc, HJ.out]
        by_cases e : i = k
        · subst e
          simp
        · rw [if_neg e, if_neg e, if_neg (fun h => e h.symm)]
  case done =>
    rintro D xs W hD rfl ⟨h1, h2, h3⟩ hdef
    have c1 := h1.cell
    gi_wp2
    refine ⟨by simp, .inl ⟨_, _, rfl, run_takeDeferred hdef, ?_⟩⟩
    have hst := Stays.putObj (B := W0.heap.size) (.deferred none) hD hdef rfl
    exact ⟨_, results_tmp rfl _ _ _, w1.heap.size + 1, rfl, by omega, h2.stays hst, hst.below (by omega) (Nat.le_refl _) h3⟩
  case stop =>
    rintro D pre W hD h
    exact h.elim
end Go.Proofs.Ytjnmfgkjeofneaa
