/-
  A helper with a key alone: its arguments' error.
-/
import Derived.Test.YtedjmgiblkjonaaD2
namespace Go.Proofs.Ytedjmgiblkjonaa
open Go.RowKit Go.Maps
set_option linter.unusedVariables false
attribute [local go_sem] Oper.semAt_some

def keyX : ArgX := ⟨plA 4, none, 0⟩
set_option maxRecDepth 100000 in
set_option maxHeartbeats 4000000 in
theorem argsError_key (g : Nat) (w : World) (hp : Rd w w.heap.size 4 (some ⟨g, 0, none⟩) 1 (xcells [keyX])) :
    Calls Try.prog 35 #[.slice (some ⟨g, 0, none⟩) 1 1] w fun e w' => e = .returned (.int .i64 35) ∧ Below w.heap.size w w' := by
  refine (callsIn_wide (n := 3)).1 ?_
  refine callsIn_of_wp_marks Try.func35 rfl trivial ?_ rfl
  simp only [Try.ntmps35, List.size_toArray, List.length_cons, List.length_nil, Nat.reduceAdd, Nat.reduceSub, Array.replicate_succ, Array.replicate_zero, List.push_toArray, List.append_toArray, List.nil_append, List.cons_append]
  gi_wp2_with fail
  refine ⟨trivial, ?_⟩
  refine name_callIn (fun W1 hW1 => ?_)
  obtain ⟨b1, b2⟩ := two_boxes w (.cells #[.slice (some ⟨g, 0, none⟩) 1 1] 27) (.cells #[.int .i64 0] 36)
  have l1 := below2 w (.cells #[.slice (some ⟨g, 0, none⟩) 1 1] 27) (.cells #[.int .i64 0] 36)
  rw [← hW1] at b1 b2 l1
  have z1 : w.heap.size + 1 < W1.heap.size := at_lt b2
  clear hW1
  refine (callsIn_wide.2 (makes_any _)).mono ?_
  rintro e w1 ⟨b, rfl, hle, hmk, hb⟩
  have r1 := (hb.block _ (at_lt b1)).trans b1
  have r2 := (hb.block _ (at_lt b2)).trans b2
  have HB := hide (l1.trans (hb.mono l1.size))
  have lt1 := at_lt r1
  have lt2 := at_lt r2
  have R1 := hide r1
  have R2 := hide r2
  have x1 := blk_cell r1 0
  simp at x1
  clear b1 b2 l1 hb hmk hle r1 r2
  gi_wp2_with fail
  refine ⟨trivial, ?_⟩
  refine name_callIn (fun W2 hW2 => ?_)
  have b3 := World.alloc_heap_new w1 (.cells #[.map (some b)] 83)
  have l2 := below1 w1 (.cells #[.map (some b)] 83)
  rw [← hW2] at b3 l2
  clear hW2
  have q1' := (l2.block _ lt1).trans R1.out
  have q2' := (l2.block _ lt2).trans R2.out
  have HB2 := hide (HB.out.trans (l2.mono HB.out.size))
  generalize hg3 : w1.heap.size = g3 at *
  clear hg3 l2
  refine (callsIn_wide.2 (aheadArg_any _ _ _ _)).mono ?_
  rintro e w' ⟨rfl, rfl⟩
  gi_wp2_with fail
  generalize hg2 : w.heap.size + 1 = g2 at *
  have u2 : w.heap.size < g2 := by omega
  clear hg2
  generalize hW0 : W2.alloc (.cells #[.slice (some ⟨g, 0, none⟩) 1 1] 27) = W0
  have hs0 : W2.heap.size < W0.heap.size := by rw [← hW0]; simp
  have hB0 : Below W2.heap.size W2 W0 := by rw [← hW0]; exact below1 _ _
  have hbx : Boxed W0 W2.heap.size 27 (.slice (some ⟨g, 0, none⟩) 1 1) := by rw [← hW0]; exact boxed_at rfl
  clear hW0
  have hbw : Below w.heap.size w W0 := HB2.out.trans (hB0.mono HB2.out.size)
  have q1 : Boxed W0 w.heap.size 27 (.slice (some ⟨g, 0, none⟩) 1 1) := (hB0.block _ (at_lt q1')).trans q1'
  have q2 : Boxed W0 g2 36 (.int .i64 0) := (hB0.block _ (at_lt q2')).trans q2'
  have q3 : Boxed W0 g3 83 (.map (some b)) := (hB0.block _ (at_lt b3)).trans b3
  have l8 : g2 < W0.heap.size := q2.lt
  have l2w : g2 < W2.heap.size := at_lt q2'
  have lww : w.heap.size < W2.heap.size := at_lt q1'
  have HBW := hide hbw
  clear b3 q1' q2'
  refine range_ends (α := Nat × ArgX) (F := Fence.wide) (n := 3) rfl (by omega) (gf := 86) (lb := #[.pointer (some ⟨W2.heap.size, 0, none⟩)]) rfl trivial (enters_of Try.func86 (by kernel_rfl) rfl)
    (arg_iter (3 - 1) (by omega) W2.heap.size 1 1 w.heap.size (some ⟨g, 0, none⟩) [keyX] W0 hbx (by omega) (hp.below hbw) (by omega) (by omega) (by unfold maxLen; omega)) (Below.refl _ _) KeepB.trans ?_ (fun _ => rfl)
    (fun pre W => Below W0.heap.size W0 W ∧ pre = [])
    (fun xs W => Boxed W g2 36 (.int .i64 35) ∧ Below w.heap.size w W)
    ?_ ?_ ⟨Below.refl _ _, rfl⟩ ?round ?done ?stop
  · intro X l o o' hl hl2 h ho
    exact KeepB.put X o' (by omega) (by omega)
  · rintro s X Y ⟨h1, h4⟩ hst
    exact ⟨hst.below (by omega) (Nat.le_refl _) h1, h4⟩
  · rintro s X Y ⟨h5, h7⟩ hst
    exact ⟨hst.boxed h5, hst.below (by omega) (Nat.le_refl _) h7⟩
  case round =>
    rintro lp pre ⟨k, y⟩ W hle hloop hws ⟨h1, rfl⟩ hpre
    obtain ⟨rfl, rfl⟩ : k = 0 ∧ y = keyX := by
      have := prefix_mem hpre
      simpa [placed] using this
    clear hpre
    simp only [keyX, ArgX.v, ArgM.v, plA, List.length_nil]
    gi_wp2
    refine ⟨(KeepsOthers.alloc _ _).from _, .of_below (by omega) (by omega) (below1 W _), ⟨h1.alloc (by omega) _, trivial⟩, fun W3 hst => ?_⟩
    have hb2 := hst.below (n0 := W0.heap.size) (by omega) (Nat.le_refl _) (h1.alloc (by omega) (.cells #[.int .u8 4, .int .i64 0, .int .i64 0, .slice none 0 0] 46))
    have hS := hst.same _ _ (World.alloc_heap_new W (.cells #[.int .u8 4, .int .i64 0, .int .i64 0, .slice none 0 0] 46)) (.inr rfl)
    generalize W.heap.size = g5 at *
    obtain ⟨s0, s1, s2, s3⟩ := later4 hS
    have ltS := at_lt hS
    have e1 := Later.cell (boxed_below q1 hb2).cell
    have e3 := Later.cell (boxed_below q3 hb2).cell
    have q2' := hide (boxed_below q2 hb2)
    have HW3 := hide (HBW.out.trans (hb2.mono HBW.out.size))
    have hl1 : w.heap.size < W3.heap.size := Nat.lt_of_lt_of_le q1.lt hb2.size
    have HB3 := hide hb2
    have hN := hide (fun w => numbers_key w)
    have hM := hide (fun w => maps_key b w)
    have hP := hide (fun v u w => paired_key v u w)
    have hO := hide (fun A c w => mapsOf_nil A c w)
    have hU := hide (fun w => suits_key b w)
    simp only [keyV] at hN hM hP hU
    have f1 := e1 ⟨W3, Below.refl _ _⟩
    have t0 := s0 ⟨W3, Below.refl _ _⟩
    have t1 := s1 ⟨W3, Below.refl _ _⟩
    have t2 := s2 ⟨W3, Below.refl _ _⟩
    have t3 := s3 ⟨W3, Below.refl _ _⟩
    simp only [Later.w] at f1 t0 t1 t2 t3
    clear hst h1 hloop hS hb2
    gi_wp2_with fail
    refine ⟨trivial, (CallsIn.inRound lp (callsIn_wide.2 (Later.calls0 hN.out))).mono ?_⟩
    rintro e w1 ⟨rfl, x, rfl⟩
    gi_wp2_with fail
    refine ⟨trivial, (CallsIn.inRound lp (callsIn_wide.2 (Later.calls x hM.out))).mono ?_⟩
    rintro e w1 ⟨rfl, x2, rfl⟩
    clear x
    gi_wp2_with fail
    refine ⟨trivial, (CallsIn.inRound lp (callsIn_wide.2 (Later.calls x2 (hP.out _ _)))).mono ?_⟩
    rintro e w1 ⟨rfl, x, rfl⟩
    clear x2
    gi_wp2
    rename_i K hK
    have y3 := e3 x
    have z0 := s0 x
    have z1' := s1 x
    have z2 := s2 x
    have z3 := s3 x
    have HX := hide x.below
    have lg3 : g3 < x.w.heap.size := Nat.lt_of_lt_of_le (Nat.lt_of_lt_of_le q3.lt HB3.out.size) HX.out.size
    have lg5 : g5 < x.w.heap.size := Nat.lt_of_lt_of_le ltS HX.out.size
    refine wpIn_static (fun _ => trivial) (by kernel_rfl) (fun i => ([.map (some b), .slice (some ⟨g, 0, none⟩) 0 1, .slice none 0 0, .agg #[.int .u8 4, .int .i64 0, .int .i64 0, .slice none 0 0], .bool false, .bool true] : List Value).getD i undef) (fun W => Below x.w.heap.size x.w W) (by kernel_rfl) (by kernel_rfl) (by kernel_rfl) (by kernel_rfl) (by kernel_rfl) ?_ ?_ (Below.refl _ _).drew ?_ ?_
    · intro i o jj bb ho hg
      have hi : i < 6 := (Array.getElem?_eq_some_iff.1 ho).1
      have hi' : i = 0 ∨ i = 1 ∨ i = 2 ∨ i = 3 ∨ i = 4 ∨ i = 5 := by omega
      rcases hi' with rfl | rfl | rfl | rfl | rfl | rfl <;> (cases ho; cases hg)
    · intro i o ho hg
      have hi : i < 6 := (Array.getElem?_eq_some_iff.1 ho).1
      have hi' : i = 0 ∨ i = 1 ∨ i = 2 ∨ i = 3 ∨ i = 4 ∨ i = 5 := by omega
      rcases hi' with rfl | rfl | rfl | rfl | rfl | rfl <;> (cases ho; exact Bool.noConfusion (show true = false from hg))
    · intro i o ho hg a W hG hold hh
      have hi : i < 6 := (Array.getElem?_eq_some_iff.1 ho).1
      have hi' : i = 0 ∨ i = 1 ∨ i = 2 ∨ i = 3 ∨ i = 4 ∨ i = 5 := by omega
      rcases hi' with rfl | rfl | rfl | rfl | rfl | rfl
      · cases ho
        refine static_told ?_ hG
        have e : a.eval (.tmp 3) = .pointer (some ⟨g3, 0, none⟩) := hold 3 (by kernel_rfl)
        have d := (hG.cell (p := ⟨g3, 0, none⟩) lg3).trans y3
        generalize a.eval = ev at e ⊢
        simp [Oper.semAt_some, execOp, go_sem, e, d]
      · cases ho
        refine static_told ?_ hG
        have e : a.eval (.tmp 4) = .slice (some ⟨g, 0, none⟩) 0 1 := hold 4 (by kernel_rfl)
        generalize a.eval = ev at e ⊢
        simp [Oper.semAt_some, execOp, go_sem, e]
      · cases ho
        refine static_call (f := 64) (args := #[.slice (some ⟨g, 0, none⟩) 0 1]) ?_ ((hO.out _ _ W).mono (fun e w' h => ⟨h.1, h.2 ▸ hG⟩))
        have e : a.eval (.tmp 34) = .slice (some ⟨g, 0, none⟩) 0 1 := hh 1 rfl
        have c : a.eval (.func 64) = .func (.func 64) #[] #[] := rfl
        generalize a.eval = ev at e c ⊢
        simp [Oper.semAt_some, execOp, go_sem, e, c]
      · cases ho
        refine static_told ?_ hG
        have e : a.eval (.tmp 5) = .pointer (some ⟨g5, 0, none⟩) := hold 5 (by kernel_rfl)
        have d0 := (hG.cell (p := ⟨g5, 0, none⟩) lg5).trans z0
        have d1 := (hG.cell (p := ⟨g5, 1, none⟩) lg5).trans z1'
        have d2 := (hG.cell (p := ⟨g5, 2, none⟩) lg5).trans z2
        have d3 := (hG.cell (p := ⟨g5, 3, none⟩) lg5).trans z3
        generalize a.eval = ev at e ⊢
        simp [Oper.semAt_some, execOp, go_sem, e, d0, d1, d2, d3]
      · cases ho
        refine static_call (f := 63) (args := #[.map (some b), .slice none 0 0, .agg #[.int .u8 4, .int .i64 0, .int .i64 0, .slice none 0 0]]) ?_ ((hU.out W).mono (fun e w' h => ⟨h.1, hG.trans (h.2.mono hG.size)⟩))
        have e : a.eval (.tmp 33) = .map (some b) := hh 0 rfl
        have e' : a.eval (.tmp 35) = .slice none 0 0 := hh 2 rfl
        have e'' : a.eval (.tmp 36) = .agg #[.int .u8 4, .int .i64 0, .int .i64 0, .slice none 0 0] := hh 3 rfl
        have c : a.eval (.func 63) = .func (.func 63) #[] #[] := rfl
        generalize a.eval = ev at e e' e'' c ⊢
        simp [Oper.semAt_some, execOp, go_sem, e, e', e'', c]
      · cases ho
        refine static_told ?_ hG
        have e : a.eval (.tmp 37) = .bool false := hh 4 rfl
        generalize a.eval = ev at e ⊢
        simp [Oper.semAt_some, execOp, go_sem, e]
    · intro a W4 hd hs hold hh hG
      refine hK _ _ ?_
      obtain ⟨u0, hu0⟩ : ∃ u, a.tmps.getD 0 undef = u := ⟨_, rfl⟩
      obtain ⟨u1, hu1⟩ : ∃ u, a.tmps.getD 1 undef = u := ⟨_, rfl⟩
      obtain ⟨u3, hu3⟩ : ∃ u, a.tmps.getD 3 undef = u := ⟨_, rfl⟩
      obtain ⟨u4, hu4⟩ : ∃ u, a.tmps.getD 4 undef = u := ⟨_, rfl⟩
      obtain ⟨u5, hu5⟩ : ∃ u, a.tmps.getD 5 undef = u := ⟨_, rfl⟩
      obtain ⟨u6, hu6⟩ : ∃ u, a.tmps.getD 6 undef = u := ⟨_, rfl⟩
      obtain ⟨u7, hu7⟩ : ∃ u, a.tmps.getD 7 undef = u := ⟨_, rfl⟩
      obtain ⟨u8, hu8⟩ : ∃ u, a.tmps.getD 8 undef = u := ⟨_, rfl⟩
      obtain ⟨u9, hu9⟩ : ∃ u, a.tmps.getD 9 undef = u := ⟨_, rfl⟩
      obtain ⟨u10, hu10⟩ : ∃ u, a.tmps.getD 10 undef = u := ⟨_, rfl⟩
      obtain ⟨u11, hu11⟩ : ∃ u, a.tmps.getD 11 undef = u := ⟨_, rfl⟩
      obtain ⟨u12, hu12⟩ : ∃ u, a.tmps.getD 12 undef = u := ⟨_, rfl⟩
      obtain ⟨u13, hu13⟩ : ∃ u, a.tmps.getD 13 undef = u := ⟨_, rfl⟩
      obtain ⟨u14, hu14⟩ : ∃ u, a.tmps.getD 14 undef = u := ⟨_, rfl⟩
      obtain ⟨u15, hu15⟩ : ∃ u, a.tmps.getD 15 undef = u := ⟨_, rfl⟩
      obtain ⟨u16, hu16⟩ : ∃ u, a.tmps.getD 16 undef = u := ⟨_, rfl⟩
      obtain ⟨u17, hu17⟩ : ∃ u, a.tmps.getD 17 undef = u := ⟨_, rfl⟩
      obtain ⟨u18, hu18⟩ : ∃ u, a.tmps.getD 18 undef = u := ⟨_, rfl⟩
      obtain ⟨u19, hu19⟩ : ∃ u, a.tmps.getD 19 undef = u := ⟨_, rfl⟩
      obtain ⟨u20, hu20⟩ : ∃ u, a.tmps.getD 20 undef = u := ⟨_, rfl⟩
      obtain ⟨u21, hu21⟩ : ∃ u, a.tmps.getD 21 undef = u := ⟨_, rfl⟩
      obtain ⟨u22, hu22⟩ : ∃ u, a.tmps.getD 22 undef = u := ⟨_, rfl⟩
      obtain ⟨u23, hu23⟩ : ∃ u, a.tmps.getD 23 undef = u := ⟨_, rfl⟩
      obtain ⟨u24, hu24⟩ : ∃ u, a.tmps.getD 24 undef = u := ⟨_, rfl⟩
      obtain ⟨u25, hu25⟩ : ∃ u, a.tmps.getD 25 undef = u := ⟨_, rfl⟩
      obtain ⟨u26, hu26⟩ : ∃ u, a.tmps.getD 26 undef = u := ⟨_, rfl⟩
      obtain ⟨u27, hu27⟩ : ∃ u, a.tmps.getD 27 undef = u := ⟨_, rfl⟩
      obtain ⟨u28, hu28⟩ : ∃ u, a.tmps.getD 28 undef = u := ⟨_, rfl⟩
      obtain ⟨u29, hu29⟩ : ∃ u, a.tmps.getD 29 undef = u := ⟨_, rfl⟩
      obtain ⟨u30, hu30⟩ : ∃ u, a.tmps.getD 30 undef = u := ⟨_, rfl⟩
      obtain ⟨u31, hu31⟩ : ∃ u, a.tmps.getD 31 undef = u := ⟨_, rfl⟩
      obtain ⟨u32, hu32⟩ : ∃ u, a.tmps.getD 32 undef = u := ⟨_, rfl⟩
      obtain ⟨u33, hu33⟩ : ∃ u, a.tmps.getD 33 undef = u := ⟨_, rfl⟩
      obtain ⟨u34, hu34⟩ : ∃ u, a.tmps.getD 34 undef = u := ⟨_, rfl⟩
      obtain ⟨u35, hu35⟩ : ∃ u, a.tmps.getD 35 undef = u := ⟨_, rfl⟩
      obtain ⟨u36, hu36⟩ : ∃ u, a.tmps.getD 36 undef = u := ⟨_, rfl⟩
      obtain ⟨u37, hu37⟩ : ∃ u, a.tmps.getD 37 undef = u := ⟨_, rfl⟩
      have ha : a = ⟨#[u0, u1, .pointer (some ⟨g2, 0, none⟩), u3, u4, u5, u6, u7, u8, u9, u10, u11, u12, u13, u14, u15, u16, u17, u18, u19, u20, u21, u22, u23, u24, u25, u26, u27, u28, u29, u30, u31, u32, u33, u34, u35, u36, u37, .bool true], []⟩ := by
        refine act_lit hd hs (fun t ht => ?_)
        have ht' : t = 0 ∨ t = 1 ∨ t = 2 ∨ t = 3 ∨ t = 4 ∨ t = 5 ∨ t = 6 ∨ t = 7 ∨ t = 8 ∨ t = 9 ∨ t = 10 ∨ t = 11 ∨ t = 12 ∨ t = 13 ∨ t = 14 ∨ t = 15 ∨ t = 16 ∨ t = 17 ∨ t = 18 ∨ t = 19 ∨ t = 20 ∨ t = 21 ∨ t = 22 ∨ t = 23 ∨ t = 24 ∨ t = 25 ∨ t = 26 ∨ t = 27 ∨ t = 28 ∨ t = 29 ∨ t = 30 ∨ t = 31 ∨ t = 32 ∨ t = 33 ∨ t = 34 ∨ t = 35 ∨ t = 36 ∨ t = 37 ∨ t = 38 := by
          have : t < 39 := ht
          omega
        rcases ht' with rfl | rfl | rfl | rfl | rfl | rfl | rfl | rfl | rfl | rfl | rfl | rfl | rfl | rfl | rfl | rfl | rfl | rfl | rfl | rfl | rfl | rfl | rfl | rfl | rfl | rfl | rfl | rfl | rfl | rfl | rfl | rfl | rfl | rfl | rfl | rfl | rfl | rfl | rfl
        · exact hu0
        · exact hu1
        · exact hold 2 (by kernel_rfl)
        · exact hu3
        · exact hu4
        · exact hu5
        · exact hu6
        · exact hu7
        · exact hu8
        · exact hu9
        · exact hu10
        · exact hu11
        · exact hu12
        · exact hu13
        · exact hu14
        · exact hu15
        · exact hu16
        · exact hu17
        · exact hu18
        · exact hu19
        · exact hu20
        · exact hu21
        · exact hu22
        · exact hu23
        · exact hu24
        · exact hu25
        · exact hu26
        · exact hu27
        · exact hu28
        · exact hu29
        · exact hu30
        · exact hu31
        · exact hu32
        · exact hu33
        · exact hu34
        · exact hu35
        · exact hu36
        · exact hu37
        · exact hh 5 (by decide)
      subst ha
      have q2'' := boxed_below (boxed_below q2'.out HX.out) hG
      have e8 := q2''.cell
      have f8 := q2''.frozen
      have Q2 := hide q2''
      have HW4 := hide (HW3.out.trans ((HX.out.trans (hG.mono HX.out.size)).mono HW3.out.size))
      have HK4 := hide (show KeepsFrom W0.heap.size W3 W4 from ⟨Nat.le_trans HX.out.size hG.size, fun k o hk ho _ => ((hG.block k (Nat.lt_of_lt_of_le (at_lt ho) HX.out.size)).trans (HX.out.block k (at_lt ho))).trans ho⟩)
      clear hG hold hh hd hs hK q2'' hu0 hu1 hu3 hu4 hu5 hu6 hu7 hu8 hu9 hu10 hu11 hu12 hu13 hu14 hu15 hu16 hu17 hu18 hu19 hu20 hu21 hu22 hu23 hu24 hu25 hu26 hu27 hu28 hu29 hu30 hu31 hu32 hu33 hu34 hu35 hu36 hu37
      gi_wp2
      exact ⟨KeepsFrom.trans HK4.out ((KeepsOthers.setCell _ _ _).from _), Q2.out.set _, HW4.out.setCell (p := ⟨g2, 0, none⟩) (by show w.heap.size ≤ g2; omega) _⟩
  case done =>
    rintro D xs W hD rfl ⟨h1, h4⟩ hdef
    exact absurd h4 (by simp [placed])
  case stop =>
    rintro D xs W hD ⟨h5, h7⟩ hdef
    gi_wp2
    refine ⟨by simp, .inl ⟨_, _, rfl, run_takeDeferred hdef, ?_⟩⟩
    have hst := Stays.putObj (B := w.heap.size) (.deferred none) (by omega) hdef rfl
    have r8 := (hst.boxed h5).cell
    exact ⟨.int .i64 35, by simp [results, Try.results35, go_sem, r8], rfl, hst.below (Nat.le_refl _) (Nat.le_refl _) h7⟩
end Go.Proofs.Ytedjmgiblkjonaa
