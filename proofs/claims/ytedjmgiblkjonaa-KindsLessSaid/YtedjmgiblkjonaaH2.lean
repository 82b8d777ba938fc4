/-
  A field: rows of them, gone through with those ahead; the first error of a row that must rise.
-/
import Derived.Test.YtedjmgiblkjonaaC4
import Derived.Test.YtedjmgiblkjonaaD1
import Derived.Test.YtedjmgiblkjonaaC3
namespace Go.Proofs.Ytedjmgiblkjonaa
open Go.RowKit Go.Maps
set_option linter.unusedVariables false
attribute [local go_sem] Oper.semAt_some

set_option maxRecDepth 100000 in
set_option maxHeartbeats 8000000 in
theorem rise_field (A : Option Addr) (m c B : Nat) (l : List FieldM) (own : FieldM → Int) (abv : FieldM → FieldM → Bool) (bo : Nat) (na : Int) (w : World) (hp : Rd w B 4 A m (fcells l)) (hB : B ≤ w.heap.size) (hm : m ≤ 1000000) (hmc : m ≤ c) (hc : c ≤ maxLen) (hna : na ≠ 0)
    (hOwn : ∀ x ∈ l, ∀ X : World, Below w.heap.size w X → Calls Try.prog 78 #[.agg #[.int .i64 x.off, .int .i64 x.size, .int .u8 x.kind, .bool x.write], .pointer (some ⟨bo, 0, none⟩)] X fun e w' => e = .returned (.int .i64 (own x)) ∧ Below X.heap.size X w')
    (hAbv : ∀ q ∈ l, ∀ x ∈ l, ∀ X : World, Below w.heap.size w X → Calls Try.prog 82 #[.agg #[.int .i64 q.off, .int .i64 q.size, .int .u8 q.kind, .bool q.write], .agg #[.int .i64 x.off, .int .i64 x.size, .int .u8 x.kind, .bool x.write]] X fun e w' => e = .returned (.bool (abv q x)) ∧ Below X.heap.size X w') :
    Calls Try.prog 81 #[.slice A m c, .func (.func 78) #[] #[.pointer (some ⟨bo, 0, none⟩)], .func (.func 82) #[] #[], .int .i64 na] w fun e w' => e = .returned (.int .i64 (riseM own abv na l)) ∧ Below w.heap.size w w' := by
  have HOWN := hide hOwn
  have HABV := hide hAbv
  have HNA := hide hna
  clear hOwn hAbv hna
  refine (callsIn_wide (n := 3)).1 ?_
  refine callsIn_of_wp_marks Try.func81 rfl trivial ?_ rfl
  simp only [Try.ntmps81, List.size_toArray, List.length_cons, List.length_nil, Nat.reduceAdd, Nat.reduceSub, Array.replicate_succ, Array.replicate_zero, List.push_toArray, List.append_toArray, List.nil_append, List.cons_append]
  gi_wp2_with fail
  refine ⟨trivial, ?_⟩
  refine name_callIn (fun W1 hW1 => ?_)
  obtain ⟨b5, b6, b7, b8⟩ := blocks4 w (.cells #[.func (.func 78) #[] #[.pointer (some ⟨bo, 0, none⟩)]] 133) (.cells #[.func (.func 82) #[] #[]] 135) (.cells #[.int .i64 na] 36) (.cells #[.int .i64 0] 36)
  have lw := below4 w (.cells #[.func (.func 78) #[] #[.pointer (some ⟨bo, 0, none⟩)]] 133) (.cells #[.func (.func 82) #[] #[]] 135) (.cells #[.int .i64 na] 36) (.cells #[.int .i64 0] 36)
  rw [← hW1] at b5 b6 b7 b8 lw
  have Z1 : Hid (W1.heap.size = w.heap.size + 4) := hide (by rw [hW1]; simp)
  clear hW1
  refine (callsIn_wide.2 (aheadField_any _ _ _ _)).mono ?_
  rintro e w' ⟨rfl, rfl⟩
  gi_wp2_with fail
  have b7' : W1.heap[w.heap.size + 1 + 1]? = _ := b7
  have b8' : W1.heap[w.heap.size + 1 + 1 + 1]? = _ := b8
  generalize h7 : w.heap.size + 1 + 1 = g7 at *
  generalize h8 : g7 + 1 = g8 at *
  generalize h6 : w.heap.size + 1 = g6 at *
  have u6 : w.heap.size < g6 := by omega
  have u7 : g6 < g7 := by omega
  have u8 : g7 < g8 := by omega
  have u9 : g8 < W1.heap.size := by rw [Z1.out]; omega
  clear h6 h7 h8 Z1
  generalize hW0 : W1.alloc (.cells #[.slice A m c] 59) = W0
  have hs0 : W1.heap.size < W0.heap.size := by rw [← hW0]; simp
  have hB0 : Below W1.heap.size W1 W0 := by rw [← hW0]; exact below1 _ _
  have hbx : Boxed W0 W1.heap.size 59 (.slice A m c) := by rw [← hW0]; exact boxed_at rfl
  clear hW0
  have hbw : Below w.heap.size w W0 := lw.trans (hB0.mono lw.size)
  have q5 : Boxed W0 w.heap.size 133 (.func (.func 78) #[] #[.pointer (some ⟨bo, 0, none⟩)]) := (hB0.block _ (at_lt b5)).trans b5
  have q6 : Boxed W0 g6 135 (.func (.func 82) #[] #[]) := (hB0.block _ (at_lt b6)).trans b6
  have q7 : Boxed W0 g7 36 (.int .i64 na) := (hB0.block _ (at_lt b7')).trans b7'
  have q8 : Boxed W0 g8 36 (.int .i64 0) := (hB0.block _ (at_lt b8')).trans b8'
  have l8 : g8 < W0.heap.size := q8.lt
  have HBW := hide hbw
  clear b5 b6 b7 b8 b7' b8' lw
  have hE91 := enters_of Try.func78 (by kernel_rfl) rfl
  refine range_ends (α := Nat × FieldM) (F := Fence.wide) (n := 3) rfl (by omega) (gf := 107) (lb := #[.pointer (some ⟨W1.heap.size, 0, none⟩)]) rfl trivial (enters_of Try.func107 (by kernel_rfl) rfl)
    (field_iter (3 - 1) (by omega) W1.heap.size m c w.heap.size A l W0 hbx (by omega) ((hp.mono hB).below hbw) hm hmc hc) (Below.refl _ _) KeepB.trans ?_ (fun _ => rfl)
    (fun pre W => Below W0.heap.size W0 W ∧ AllFine own abv na l pre)
    (fun xs W => Stopped own abv na l g8 w xs W)
    ?_ ?_ ⟨Below.refl _ _, fun p hp => by simp at hp⟩ ?round ?done ?stop
  · intro X l o o' hl hl2 h ho
    exact KeepB.put X o' (by omega) (by omega)
  · rintro s X Y ⟨h1, h4⟩ hst
    exact ⟨hst.below (by omega) (Nat.le_refl _) h1, h4⟩
  · rintro s X Y ⟨pre, x, h1, h2, h3, h4, h5, h7⟩ hst
    exact ⟨pre, x, h1, h2, h3, h4, hst.boxed h5, hst.below (by omega) (Nat.le_refl _) h7⟩
  case round =>
    rintro lp pre ⟨k, b⟩ W hle hloop hws ⟨h1, h4⟩ hpre
    obtain ⟨hk0, hk2⟩ := placed_mem l 0 _ (prefix_mem hpre)
    simp only [Nat.sub_zero] at hk2
    have hbl : b ∈ l := List.mem_of_getElem? hk2
    have HBL := hide hbl
    have HPRE := hide hpre
    have H4 := hide h4
    clear hpre h4 hk0
    simp only [FieldM.v]
    gi_wp2
    refine ⟨(KeepsOthers.alloc _ _).from _, .of_below (by omega) (by omega) (below1 W _), ⟨h1.alloc (by omega) _, H4.out⟩, fun W2 hst => ?_⟩
    have hb2 := hst.below (n0 := W0.heap.size) (by omega) (Nat.le_refl _) (h1.alloc (by omega) (.cells #[.int .i64 b.off, .int .i64 b.size, .int .u8 b.kind, .bool b.write] 65))
    have hS := hst.same _ _ (World.alloc_heap_new W (.cells #[.int .i64 b.off, .int .i64 b.size, .int .u8 b.kind, .bool b.write] 65)) (.inr rfl)
    generalize W.heap.size = g5 at *
    have hws2 : w.heap.size ≤ W2.heap.size := Nat.le_trans (by omega) hb2.size
    clear hst h1 hloop
    have hbw2 := HBW.out.trans (hb2.mono (by omega))
    have e5 := (boxed_below q5 hb2).cell
    have s0 := blk_cell hS 0
    have s1 := blk_cell hS 1
    have s2 := blk_cell hS 2
    have s3 := blk_cell hS 3
    simp only [List.getElem?_toArray, List.getElem?_cons_zero, List.getElem?_cons_succ] at s0 s1 s2 s3
    have hC := HOWN.out b hbl W2 hbw2
    have HB2 := hide hb2
    have HBW2 := hide hbw2
    have HS2 := hide hS
    have lt5 : w.heap.size < W2.heap.size := by have := hb2.size; omega
    clear hb2 hbw2 hS
    gi_wp2_with fail
    refine ⟨trivial, (CallsIn.inRound lp (callsIn_wide.2 hC)).mono ?_⟩
    rintro e W3 ⟨rfl, hb3⟩
    clear s0 s1 s2 s3 hbl
    have hb03 := HB2.out.trans (hb3.mono HB2.out.size)
    have e7 := (boxed_below q7 hb03).cell
    have e8 := (boxed_below q8 hb03).cell
    have f8 := (boxed_below q8 hb03).frozen
    have e6 := (boxed_below q6 hb03).cell
    have l68 := Nat.lt_of_lt_of_le l8 hb03.size
    have HK3 := hide (show KeepsFrom W0.heap.size W2 W3 from ⟨hb3.size, fun k o hk ho _ => (hb3.block k (at_lt ho)).trans ho⟩)
    have HB3 := hide hb03
    have HKB3 := hide (show KeepB w.heap.size W1.heap.size W2 W3 from .of_below hws2 (by have := HB2.out.size; omega) hb3)
    have HBW3 := hide (HBW2.out.trans (hb3.mono HBW2.out.size))
    have HS3 := hide ((hb3.block _ (at_lt HS2.out)).trans HS2.out)
    have q8' := hide (boxed_below q8 hb03)
    have q7' := hide (boxed_below q7 hb03)
    have q6' := hide (boxed_below q6 hb03)
    have hrd := (hp.mono hB).below (HBW3.out)
    have HRD := hide hrd
    clear hb3 hb03 hC hrd HS2
    by_cases hown : own b = 0
    · have HO := hide hown
      have hne : (own b != 0) = false := by simpa using hown
      have hne2 : (own b == 0) = true := by simpa using hown
      clear hown
      rcases Nat.eq_zero_or_pos k with hk0 | hk0
      · subst hk0
        have HX : Hid (errAt own abv na l (0, b) = 0) := hide (by unfold errAt; simp [HO.out])
        clear hk2
        gi_wp2
        rename_i K hK
        refine wpIn_static (fun _ => trivial) (by kernel_rfl) (fun i => ([.int .i64 (-1), .bool false, .bool false, undef, undef, undef, undef, undef, undef, undef, undef, .bool false] : List Value).getD i undef) (fun W => Below W3.heap.size W3 W) (by kernel_rfl) (by kernel_rfl) (by kernel_rfl) (by kernel_rfl) (by kernel_rfl) ?_ ?_ (Below.refl _ _).drew ?_ ?_
        · intro i o jj bb ho hg
          have hi12 : i < 12 := (Array.getElem?_eq_some_iff.1 ho).1
          have hi' : i = 0 ∨ i = 1 ∨ i = 2 ∨ i = 3 ∨ i = 4 ∨ i = 5 ∨ i = 6 ∨ i = 7 ∨ i = 8 ∨ i = 9 ∨ i = 10 ∨ i = 11 := by omega
          rcases hi' with rfl | rfl | rfl | rfl | rfl | rfl | rfl | rfl | rfl | rfl | rfl | rfl <;> (cases ho; first | (cases hg; exact ⟨_, rfl⟩) | cases hg)
        · intro i o ho hg
          have hi12 : i < 12 := (Array.getElem?_eq_some_iff.1 ho).1
          have hi' : i = 0 ∨ i = 1 ∨ i = 2 ∨ i = 3 ∨ i = 4 ∨ i = 5 ∨ i = 6 ∨ i = 7 ∨ i = 8 ∨ i = 9 ∨ i = 10 ∨ i = 11 := by omega
          rcases hi' with rfl | rfl | rfl | rfl | rfl | rfl | rfl | rfl | rfl | rfl | rfl | rfl <;> (cases ho; first | rfl | (exact Bool.noConfusion (show true = false from hg)))
        · intro i o ho hg a W hG hold hh
          have hi12 : i < 12 := (Array.getElem?_eq_some_iff.1 ho).1
          have hi' : i = 0 ∨ i = 1 ∨ i = 2 ∨ i = 3 ∨ i = 4 ∨ i = 5 ∨ i = 6 ∨ i = 7 ∨ i = 8 ∨ i = 9 ∨ i = 10 ∨ i = 11 := by omega
          rcases hi' with rfl | rfl | rfl | rfl | rfl | rfl | rfl | rfl | rfl | rfl | rfl | rfl
          · cases ho
            refine static_told ?_ hG
            have e12 : a.eval (.tmp 12) = .int .i64 (-1) := hold 12 (by kernel_rfl)
            generalize a.eval = ev at e12 ⊢
            simp [Oper.semAt_some, execOp, go_sem, e12]
          · cases ho
            refine static_told ?_ hG
            have e26 : a.eval (.tmp 26) = .int .i64 (-1) := hh 0 rfl
            have hc0 : ∀ v, a.eval (.const v) = v := fun _ => rfl
            generalize a.eval = ev at e26 hc0 ⊢
            simp [Oper.semAt_some, execOp, go_sem, hc0, e26]
          · cases ho
            refine static_told ?_ hG
            have e27 : a.eval (.tmp 27) = .bool false := hh 1 rfl
            generalize a.eval = ev at e27 ⊢
            simp [Oper.semAt_some, execOp, go_sem, e27]
          · cases ho
            exact absurd hg (by decide)
          · cases ho
            exact absurd hg (by decide)
          · cases ho
            exact absurd hg (by decide)
          · cases ho
            exact absurd hg (by decide)
          · cases ho
            exact absurd hg (by decide)
          · cases ho
            exact absurd hg (by decide)
          · cases ho
            exact absurd hg (by decide)
          · cases ho
            exact absurd hg (by decide)
          · cases ho
            refine static_told ?_ hG
            have e28 : a.eval (.tmp 28) = .bool false := hh 2 rfl
            have hc0 : ∀ v, a.eval (.const v) = v := fun _ => rfl
            generalize a.eval = ev at e28 hc0 ⊢
            simp [Oper.semAt_some, execOp, go_sem, hc0, e28]
        · intro a W hd hs hold hh hG
          refine hK _ _ ?_
          obtain ⟨u0, hu0⟩ : ∃ u, a.tmps.getD 0 undef = u := ⟨_, rfl⟩
          obtain ⟨u1, hu1⟩ : ∃ u, a.tmps.getD 1 undef = u := ⟨_, rfl⟩
          obtain ⟨u2, hu2⟩ : ∃ u, a.tmps.getD 2 undef = u := ⟨_, rfl⟩
          obtain ⟨u3, hu3⟩ : ∃ u, a.tmps.getD 3 undef = u := ⟨_, rfl⟩
          obtain ⟨u4, hu4⟩ : ∃ u, a.tmps.getD 4 undef = u := ⟨_, rfl⟩
          obtain ⟨u5, hu5⟩ : ∃ u, a.tmps.getD 5 undef = u := ⟨_, rfl⟩
          obtain ⟨u6, hu6⟩ : ∃ u, a.tmps.getD 6 undef = u := ⟨_, rfl⟩
          obtain ⟨u9, hu9⟩ : ∃ u, a.tmps.getD 9 undef = u := ⟨_, rfl⟩
          obtain ⟨u10, hu10⟩ : ∃ u, a.tmps.getD 10 undef = u := ⟨_, rfl⟩
          obtain ⟨u11, hu11⟩ : ∃ u, a.tmps.getD 11 undef = u := ⟨_, rfl⟩
          obtain ⟨u12, hu12⟩ : ∃ u, a.tmps.getD 12 undef = u := ⟨_, rfl⟩
          obtain ⟨u13, hu13⟩ : ∃ u, a.tmps.getD 13 undef = u := ⟨_, rfl⟩
          obtain ⟨u14, hu14⟩ : ∃ u, a.tmps.getD 14 undef = u := ⟨_, rfl⟩
          obtain ⟨u15, hu15⟩ : ∃ u, a.tmps.getD 15 undef = u := ⟨_, rfl⟩
          obtain ⟨u16, hu16⟩ : ∃ u, a.tmps.getD 16 undef = u := ⟨_, rfl⟩
          obtain ⟨u17, hu17⟩ : ∃ u, a.tmps.getD 17 undef = u := ⟨_, rfl⟩
          obtain ⟨u18, hu18⟩ : ∃ u, a.tmps.getD 18 undef = u := ⟨_, rfl⟩
          obtain ⟨u19, hu19⟩ : ∃ u, a.tmps.getD 19 undef = u := ⟨_, rfl⟩
          obtain ⟨u20, hu20⟩ : ∃ u, a.tmps.getD 20 undef = u := ⟨_, rfl⟩
          obtain ⟨u21, hu21⟩ : ∃ u, a.tmps.getD 21 undef = u := ⟨_, rfl⟩
          obtain ⟨u22, hu22⟩ : ∃ u, a.tmps.getD 22 undef = u := ⟨_, rfl⟩
          obtain ⟨u23, hu23⟩ : ∃ u, a.tmps.getD 23 undef = u := ⟨_, rfl⟩
          obtain ⟨u24, hu24⟩ : ∃ u, a.tmps.getD 24 undef = u := ⟨_, rfl⟩
          obtain ⟨u25, hu25⟩ : ∃ u, a.tmps.getD 25 undef = u := ⟨_, rfl⟩
          obtain ⟨u26, hu26⟩ : ∃ u, a.tmps.getD 26 undef = u := ⟨_, rfl⟩
          obtain ⟨u27, hu27⟩ : ∃ u, a.tmps.getD 27 undef = u := ⟨_, rfl⟩
          obtain ⟨u28, hu28⟩ : ∃ u, a.tmps.getD 28 undef = u := ⟨_, rfl⟩
          obtain ⟨u29, hu29⟩ : ∃ u, a.tmps.getD 29 undef = u := ⟨_, rfl⟩
          obtain ⟨u30, hu30⟩ : ∃ u, a.tmps.getD 30 undef = u := ⟨_, rfl⟩
          obtain ⟨u31, hu31⟩ : ∃ u, a.tmps.getD 31 undef = u := ⟨_, rfl⟩
          obtain ⟨u32, hu32⟩ : ∃ u, a.tmps.getD 32 undef = u := ⟨_, rfl⟩
          obtain ⟨u33, hu33⟩ : ∃ u, a.tmps.getD 33 undef = u := ⟨_, rfl⟩
          obtain ⟨u34, hu34⟩ : ∃ u, a.tmps.getD 34 undef = u := ⟨_, rfl⟩
          obtain ⟨u35, hu35⟩ : ∃ u, a.tmps.getD 35 undef = u := ⟨_, rfl⟩
          obtain ⟨u36, hu36⟩ : ∃ u, a.tmps.getD 36 undef = u := ⟨_, rfl⟩
          obtain ⟨u38, hu38⟩ : ∃ u, a.tmps.getD 38 undef = u := ⟨_, rfl⟩
          have ha : a = ⟨#[u0, u1, u2, u3, u4, u5, u6, .pointer (some ⟨g7, 0, none⟩), .pointer (some ⟨g8, 0, none⟩), u9, u10, u11, u12, u13, u14, u15, u16, u17, u18, u19, u20, u21, u22, u23, u24, u25, u26, u27, u28, u29, u30, u31, u32, u33, u34, u35, u36, .bool false, u38], []⟩ := by
            refine act_lit hd hs (fun t ht => ?_)
            have ht' : t = 0 ∨ t = 1 ∨ t = 2 ∨ t = 3 ∨ t = 4 ∨ t = 5 ∨ t = 6 ∨ t = 7 ∨ t = 8 ∨ t = 9 ∨ t = 10 ∨ t = 11 ∨ t = 12 ∨ t = 13 ∨ t = 14 ∨ t = 15 ∨ t = 16 ∨ t = 17 ∨ t = 18 ∨ t = 19 ∨ t = 20 ∨ t = 21 ∨ t = 22 ∨ t = 23 ∨ t = 24 ∨ t = 25 ∨ t = 26 ∨ t = 27 ∨ t = 28 ∨ t = 29 ∨ t = 30 ∨ t = 31 ∨ t = 32 ∨ t = 33 ∨ t = 34 ∨ t = 35 ∨ t = 36 ∨ t = 37 ∨ t = 38 := by
              have : t < 39 := ht
              omega
            rcases ht' with rfl | rfl | rfl | rfl | rfl | rfl | rfl | rfl | rfl | rfl | rfl | rfl | rfl | rfl | rfl | rfl | rfl | rfl | rfl | rfl | rfl | rfl | rfl | rfl | rfl | rfl | rfl | rfl | rfl | rfl | rfl | rfl | rfl | rfl | rfl | rfl | rfl | rfl | rfl
            · exact hu0
            · exact hu1
            · exact hu2
            · exact hu3
            · exact hu4
            · exact hu5
            · exact hu6
            · exact hold 7 (by kernel_rfl)
            · exact hold 8 (by kernel_rfl)
            · exact hu9
            · exact hu10
            · exact hu11
            · exact hu12
            · exact hu13
            · exact hu14
            · exact hu15
            · exact hu16
            · exact hu17
            · exact hu18
            · exact hu19
            · exact hu20
            · exact hu21
            · exact hu22
            · exact hu23
            · exact hu24
            · exact hu25
            · exact hu26
            · exact hu27
            · exact hu28
            · exact hu29
            · exact hu30
            · exact hu31
            · exact hu32
            · exact hu33
            · exact hu34
            · exact hu35
            · exact hu36
            · exact hh 11 (by decide)
            · exact hu38
          subst ha
          have HBW4 := hide (HBW3.out.trans (hG.mono HBW3.out.size))
          have HB4 := hide (HB3.out.trans (hG.mono HB3.out.size))
          have HK4 := hide (KeepsFrom.trans HK3.out (show KeepsFrom W0.heap.size W3 W from ⟨hG.size, fun k o hk ho _ => (hG.block k (at_lt ho)).trans ho⟩))
          have HKB4 := hide (HKB3.out.trans (show KeepB w.heap.size W1.heap.size W3 W from .of_below (by have := HB3.out.size; omega) (by have := HB3.out.size; omega) hG))
          have e7 := (boxed_below q7'.out hG).cell
          have e8 := (boxed_below q8'.out hG).cell
          have f8 := (boxed_below q8'.out hG).frozen
          have q8'' := hide (boxed_below q8'.out hG)
          clear hG hold hh hd hs hK hu0 hu1 hu2 hu3 hu4 hu5 hu6 hu9 hu10 hu11 hu12 hu13 hu14 hu15 hu16 hu17 hu18 hu19 hu20 hu21 hu22 hu23 hu24 hu25 hu26 hu27 hu28 hu29 hu30 hu31 hu32 hu33 hu34 hu35 hu36 hu38
          gi_wp2
          refine ⟨HK4.out, HKB4.out, HB4.out, fun p hp => ?_⟩
          rw [List.mem_append, List.mem_singleton] at hp
          rcases hp with hp | rfl
          · exact H4.out p hp
          · rw [HX.out]; rfl
      · obtain ⟨j, rfl⟩ : ∃ j, k = j + 1 := ⟨k - 1, by omega⟩
        obtain ⟨ad, q, rfl, hqb0, hq, cq0, cq1, cq2, cq3⟩ := Rd.field (k := j) HRD.out (by have := (List.getElem?_eq_some_iff.1 hk2).1; have := Rd.fcells_len HRD.out; omega)
        have hkm : j + 1 < m := by have := (List.getElem?_eq_some_iff.1 hk2).1; have := Rd.fcells_len HRD.out; omega
        have HQ := hide hq
        have hql := List.mem_of_getElem? hq
        clear hq hk2
        have e6c := q6'.out.cell
        have l6 := q6'.out.lt
        have lad : ad.block < W3.heap.size := by
          obtain ⟨ad', e, hb, _⟩ := HRD.out.2 (by omega)
          cases e
          have := HBW3.out.size
          omega
        have lg5 : g5 < W3.heap.size := at_lt HS3.out
        have y0 := blk_cell HS3.out 0
        have y1 := blk_cell HS3.out 1
        have y2 := blk_cell HS3.out 2
        have y3 := blk_cell HS3.out 3
        simp only [List.getElem?_toArray, List.getElem?_cons_zero, List.getElem?_cons_succ] at y0 y1 y2 y3
        have hAb : Hid (∀ X : World, Below W3.heap.size W3 X → Calls Try.prog 82 #[.agg #[.int .i64 q.off, .int .i64 q.size, .int .u8 q.kind, .bool q.write], .agg #[.int .i64 b.off, .int .i64 b.size, .int .u8 b.kind, .bool b.write]] X fun e w' => e = .returned (.bool (abv q b)) ∧ Below X.heap.size X w') := hide (fun X hX => HABV.out q hql b HBL.out X (HBW3.out.trans (hX.mono HBW3.out.size)))
        clear hql
        cases hqb : abv q b
        · rw [hqb] at hAb
          have HX : Hid (errAt own abv na l (j + 1, b) = na) := hide (by unfold errAt; simp [HO.out, HQ.out, hqb])
          clear hqb
          gi_wp2
          rename_i K hK
          refine wpIn_static (fun _ => trivial) (by kernel_rfl) (fun i => ([.int .i64 (j : Int), .bool true, .bool true, .func (.func 82) #[] #[], .slice (some ad) (j + 1) c, .int .i64 (j : Int), .pointer (some (ad.add (j * 4))), .agg #[.int .i64 q.off, .int .i64 q.size, .int .u8 q.kind, .bool q.write], .agg #[.int .i64 b.off, .int .i64 b.size, .int .u8 b.kind, .bool b.write], .bool false, .bool true, .bool true] : List Value).getD i undef) (fun W => Below W3.heap.size W3 W) (by kernel_rfl) (by kernel_rfl) (by kernel_rfl) (by kernel_rfl) (by kernel_rfl) ?_ ?_ (Below.refl _ _).drew ?_ ?_
          · intro i o jj bb ho hg
            have hi12 : i < 12 := (Array.getElem?_eq_some_iff.1 ho).1
            have hi' : i = 0 ∨ i = 1 ∨ i = 2 ∨ i = 3 ∨ i = 4 ∨ i = 5 ∨ i = 6 ∨ i = 7 ∨ i = 8 ∨ i = 9 ∨ i = 10 ∨ i = 11 := by omega
            rcases hi' with rfl | rfl | rfl | rfl | rfl | rfl | rfl | rfl | rfl | rfl | rfl | rfl <;> (cases ho; first | (cases hg; exact ⟨_, rfl⟩) | cases hg)
          · intro i o ho hg
            have hi12 : i < 12 := (Array.getElem?_eq_some_iff.1 ho).1
            have hi' : i = 0 ∨ i = 1 ∨ i = 2 ∨ i = 3 ∨ i = 4 ∨ i = 5 ∨ i = 6 ∨ i = 7 ∨ i = 8 ∨ i = 9 ∨ i = 10 ∨ i = 11 := by omega
            rcases hi' with rfl | rfl | rfl | rfl | rfl | rfl | rfl | rfl | rfl | rfl | rfl | rfl <;> (cases ho; first | rfl | (exact Bool.noConfusion (show true = false from hg)))
          · intro i o ho hg a W hG hold hh
            have hi12 : i < 12 := (Array.getElem?_eq_some_iff.1 ho).1
            have hi' : i = 0 ∨ i = 1 ∨ i = 2 ∨ i = 3 ∨ i = 4 ∨ i = 5 ∨ i = 6 ∨ i = 7 ∨ i = 8 ∨ i = 9 ∨ i = 10 ∨ i = 11 := by omega
            rcases hi' with rfl | rfl | rfl | rfl | rfl | rfl | rfl | rfl | rfl | rfl | rfl | rfl
            · cases ho
              refine static_told ?_ hG
              have e12 : a.eval (.tmp 12) = .int .i64 (j : Int) := hold 12 (by kernel_rfl)
              generalize a.eval = ev at e12 ⊢
              simp [Oper.semAt_some, execOp, go_sem, e12]
            · cases ho
              refine static_told ?_ hG
              have e26 : a.eval (.tmp 26) = .int .i64 (j : Int) := hh 0 rfl
              have hc0 : ∀ v, a.eval (.const v) = v := fun _ => rfl
              generalize a.eval = ev at e26 hc0 ⊢
              simp [Oper.semAt_some, execOp, go_sem, hc0, e26]
            · cases ho
              refine static_told ?_ hG
              have e27 : a.eval (.tmp 27) = .bool true := hh 1 rfl
              generalize a.eval = ev at e27 ⊢
              simp [Oper.semAt_some, execOp, go_sem, e27]
            · cases ho
              refine static_told ?_ hG
              have e6 : a.eval (.tmp 6) = .pointer (some ⟨g6, 0, none⟩) := hold 6 (by kernel_rfl)
              have d6 := ((hG.cell (p := ⟨g6, 0, none⟩) (by show g6 < W3.heap.size; omega)).trans e6c)
              generalize a.eval = ev at e6 ⊢
              simp [Oper.semAt_some, execOp, go_sem, e6, d6]
            · cases ho
              refine static_told ?_ hG
              have e9 : a.eval (.tmp 9) = .slice (some ad) (j + 1) c := hold 9 (by kernel_rfl)
              generalize a.eval = ev at e9 ⊢
              simp [Oper.semAt_some, execOp, go_sem, e9]
            · cases ho
              refine static_told ?_ hG
              have e12 : a.eval (.tmp 12) = .int .i64 (j : Int) := hold 12 (by kernel_rfl)
              generalize a.eval = ev at e12 ⊢
              simp [Oper.semAt_some, execOp, go_sem, e12]
            · cases ho
              refine static_told ?_ hG
              have e30 : a.eval (.tmp 30) = .slice (some ad) (j + 1) c := hh 4 rfl
              have e31 : a.eval (.tmp 31) = .int .i64 (j : Int) := hh 5 rfl
              generalize a.eval = ev at e30 e31 ⊢
              simp [Oper.semAt_some, execOp, go_sem, e30, e31]
              intro hx
              omega
            · cases ho
              refine static_told ?_ hG
              have e32 : a.eval (.tmp 32) = .pointer (some (ad.add (j * 4))) := hh 6 rfl
              have d0 := ((hG.cell (p := ad.add (j * 4)) (by rw [block_add]; omega)).trans cq0)
              have d1 := ((hG.cell (p := { block := (ad.add (j * 4)).block, off := (ad.add (j * 4)).off + 1 }) (by show (ad.add (j * 4)).block < W3.heap.size; rw [block_add]; omega)).trans cq1)
              have d2 := ((hG.cell (p := { block := (ad.add (j * 4)).block, off := (ad.add (j * 4)).off + 2 }) (by show (ad.add (j * 4)).block < W3.heap.size; rw [block_add]; omega)).trans cq2)
              have d3 := ((hG.cell (p := { block := (ad.add (j * 4)).block, off := (ad.add (j * 4)).off + 3 }) (by show (ad.add (j * 4)).block < W3.heap.size; rw [block_add]; omega)).trans cq3)
              generalize a.eval = ev at e32 ⊢
              simp [Oper.semAt_some, execOp, go_sem, e32, d0, d1, d2, d3]
            · cases ho
              refine static_told ?_ hG
              have e10 : a.eval (.tmp 10) = .pointer (some ⟨g5, 0, none⟩) := hold 10 (by kernel_rfl)
              have d0 := ((hG.cell (p := ⟨g5, 0, none⟩) lg5).trans y0)
              have d1 := ((hG.cell (p := ⟨g5, 1, none⟩) lg5).trans y1)
              have d2 := ((hG.cell (p := ⟨g5, 2, none⟩) lg5).trans y2)
              have d3 := ((hG.cell (p := ⟨g5, 3, none⟩) lg5).trans y3)
              generalize a.eval = ev at e10 ⊢
              simp [Oper.semAt_some, execOp, go_sem, e10, d0, d1, d2, d3]
            · cases ho
              refine static_call (f := 82) (args := #[.agg #[.int .i64 q.off, .int .i64 q.size, .int .u8 q.kind, .bool q.write], .agg #[.int .i64 b.off, .int .i64 b.size, .int .u8 b.kind, .bool b.write]]) ?_ ((hAb.out W hG).mono (fun e w' h => ⟨h.1, hG.trans (h.2.mono hG.size)⟩))
              have e29 : a.eval (.tmp 29) = .func (.func 82) #[] #[] := hh 3 rfl
              have e33 : a.eval (.tmp 33) = .agg #[.int .i64 q.off, .int .i64 q.size, .int .u8 q.kind, .bool q.write] := hh 7 rfl
              have e34 : a.eval (.tmp 34) = .agg #[.int .i64 b.off, .int .i64 b.size, .int .u8 b.kind, .bool b.write] := hh 8 rfl
              generalize a.eval = ev at e29 e33 e34 ⊢
              simp [Oper.semAt_some, execOp, go_sem, e29, e33, e34]
            · cases ho
              refine static_told ?_ hG
              have e35 : a.eval (.tmp 35) = .bool false := hh 9 rfl
              generalize a.eval = ev at e35 ⊢
              simp [Oper.semAt_some, execOp, go_sem, e35]
            · cases ho
              refine static_told ?_ hG
              have e28 : a.eval (.tmp 28) = .bool true := hh 2 rfl
              have e36 : a.eval (.tmp 36) = .bool true := hh 10 rfl
              have hc0 : ∀ v, a.eval (.const v) = v := fun _ => rfl
              generalize a.eval = ev at e28 e36 hc0 ⊢
              simp [Oper.semAt_some, execOp, go_sem, hc0, e28, e36]
          · intro a W hd hs hold hh hG
            refine hK _ _ ?_
            obtain ⟨u0, hu0⟩ : ∃ u, a.tmps.getD 0 undef = u := ⟨_, rfl⟩
            obtain ⟨u1, hu1⟩ : ∃ u, a.tmps.getD 1 undef = u := ⟨_, rfl⟩
            obtain ⟨u2, hu2⟩ : ∃ u, a.tmps.getD 2 undef = u := ⟨_, rfl⟩
            obtain ⟨u3, hu3⟩ : ∃ u, a.tmps.getD 3 undef = u := ⟨_, rfl⟩
            obtain ⟨u4, hu4⟩ : ∃ u, a.tmps.getD 4 undef = u := ⟨_, rfl⟩
            obtain ⟨u5, hu5⟩ : ∃ u, a.tmps.getD 5 undef = u := ⟨_, rfl⟩
            obtain ⟨u6, hu6⟩ : ∃ u, a.tmps.getD 6 undef = u := ⟨_, rfl⟩
            obtain ⟨u9, hu9⟩ : ∃ u, a.tmps.getD 9 undef = u := ⟨_, rfl⟩
            obtain ⟨u10, hu10⟩ : ∃ u, a.tmps.getD 10 undef = u := ⟨_, rfl⟩
            obtain ⟨u11, hu11⟩ : ∃ u, a.tmps.getD 11 undef = u := ⟨_, rfl⟩
            obtain ⟨u12, hu12⟩ : ∃ u, a.tmps.getD 12 undef = u := ⟨_, rfl⟩
            obtain ⟨u13, hu13⟩ : ∃ u, a.tmps.getD 13 undef = u := ⟨_, rfl⟩
            obtain ⟨u14, hu14⟩ : ∃ u, a.tmps.getD 14 undef = u := ⟨_, rfl⟩
            obtain ⟨u15, hu15⟩ : ∃ u, a.tmps.getD 15 undef = u := ⟨_, rfl⟩
            obtain ⟨u16, hu16⟩ : ∃ u, a.tmps.getD 16 undef = u := ⟨_, rfl⟩
            obtain ⟨u17, hu17⟩ : ∃ u, a.tmps.getD 17 undef = u := ⟨_, rfl⟩
            obtain ⟨u18, hu18⟩ : ∃ u, a.tmps.getD 18 undef = u := ⟨_, rfl⟩
            obtain ⟨u19, hu19⟩ : ∃ u, a.tmps.getD 19 undef = u := ⟨_, rfl⟩
            obtain ⟨u20, hu20⟩ : ∃ u, a.tmps.getD 20 undef = u := ⟨_, rfl⟩
            obtain ⟨u21, hu21⟩ : ∃ u, a.tmps.getD 21 undef = u := ⟨_, rfl⟩
            obtain ⟨u22, hu22⟩ : ∃ u, a.tmps.getD 22 undef = u := ⟨_, rfl⟩
            obtain ⟨u23, hu23⟩ : ∃ u, a.tmps.getD 23 undef = u := ⟨_, rfl⟩
            obtain ⟨u24, hu24⟩ : ∃ u, a.tmps.getD 24 undef = u := ⟨_, rfl⟩
            obtain ⟨u25, hu25⟩ : ∃ u, a.tmps.getD 25 undef = u := ⟨_, rfl⟩
            obtain ⟨u26, hu26⟩ : ∃ u, a.tmps.getD 26 undef = u := ⟨_, rfl⟩
            obtain ⟨u27, hu27⟩ : ∃ u, a.tmps.getD 27 undef = u := ⟨_, rfl⟩
            obtain ⟨u28, hu28⟩ : ∃ u, a.tmps.getD 28 undef = u := ⟨_, rfl⟩
            obtain ⟨u29, hu29⟩ : ∃ u, a.tmps.getD 29 undef = u := ⟨_, rfl⟩
            obtain ⟨u30, hu30⟩ : ∃ u, a.tmps.getD 30 undef = u := ⟨_, rfl⟩
            obtain ⟨u31, hu31⟩ : ∃ u, a.tmps.getD 31 undef = u := ⟨_, rfl⟩
            obtain ⟨u32, hu32⟩ : ∃ u, a.tmps.getD 32 undef = u := ⟨_, rfl⟩
            obtain ⟨u33, hu33⟩ : ∃ u, a.tmps.getD 33 undef = u := ⟨_, rfl⟩
            obtain ⟨u34, hu34⟩ : ∃ u, a.tmps.getD 34 undef = u := ⟨_, rfl⟩
            obtain ⟨u35, hu35⟩ : ∃ u, a.tmps.getD 35 undef = u := ⟨_, rfl⟩
            obtain ⟨u36, hu36⟩ : ∃ u, a.tmps.getD 36 undef = u := ⟨_, rfl⟩
            obtain ⟨u38, hu38⟩ : ∃ u, a.tmps.getD 38 undef = u := ⟨_, rfl⟩
            have ha : a = ⟨#[u0, u1, u2, u3, u4, u5, u6, .pointer (some ⟨g7, 0, none⟩), .pointer (some ⟨g8, 0, none⟩), u9, u10, u11, u12, u13, u14, u15, u16, u17, u18, u19, u20, u21, u22, u23, u24, u25, u26, u27, u28, u29, u30, u31, u32, u33, u34, u35, u36, .bool true, u38], []⟩ := by
              refine act_lit hd hs (fun t ht => ?_)
              have ht' : t = 0 ∨ t = 1 ∨ t = 2 ∨ t = 3 ∨ t = 4 ∨ t = 5 ∨ t = 6 ∨ t = 7 ∨ t = 8 ∨ t = 9 ∨ t = 10 ∨ t = 11 ∨ t = 12 ∨ t = 13 ∨ t = 14 ∨ t = 15 ∨ t = 16 ∨ t = 17 ∨ t = 18 ∨ t = 19 ∨ t = 20 ∨ t = 21 ∨ t = 22 ∨ t = 23 ∨ t = 24 ∨ t = 25 ∨ t = 26 ∨ t = 27 ∨ t = 28 ∨ t = 29 ∨ t = 30 ∨ t = 31 ∨ t = 32 ∨ t = 33 ∨ t = 34 ∨ t = 35 ∨ t = 36 ∨ t = 37 ∨ t = 38 := by
                have : t < 39 := ht
                omega
              rcases ht' with rfl | rfl | rfl | rfl | rfl | rfl | rfl | rfl | rfl | rfl | rfl | rfl | rfl | rfl | rfl | rfl | rfl | rfl | rfl | rfl | rfl | rfl | rfl | rfl | rfl | rfl | rfl | rfl | rfl | rfl | rfl | rfl | rfl | rfl | rfl | rfl | rfl | rfl | rfl
              · exact hu0
              · exact hu1
              · exact hu2
              · exact hu3
              · exact hu4
              · exact hu5
              · exact hu6
              · exact hold 7 (by kernel_rfl)
              · exact hold 8 (by kernel_rfl)
              · exact hu9
              · exact hu10
              · exact hu11
              · exact hu12
              · exact hu13
              · exact hu14
              · exact hu15
              · exact hu16
              · exact hu17
              · exact hu18
              · exact hu19
              · exact hu20
              · exact hu21
              · exact hu22
              · exact hu23
              · exact hu24
              · exact hu25
              · exact hu26
              · exact hu27
              · exact hu28
              · exact hu29
              · exact hu30
              · exact hu31
              · exact hu32
              · exact hu33
              · exact hu34
              · exact hu35
              · exact hu36
              · exact hh 11 (by decide)
              · exact hu38
            subst ha
            have HBW4 := hide (HBW3.out.trans (hG.mono HBW3.out.size))
            have HB4 := hide (HB3.out.trans (hG.mono HB3.out.size))
            have HK4 := hide (KeepsFrom.trans HK3.out (show KeepsFrom W0.heap.size W3 W from ⟨hG.size, fun k o hk ho _ => (hG.block k (at_lt ho)).trans ho⟩))
            have HKB4 := hide (HKB3.out.trans (show KeepB w.heap.size W1.heap.size W3 W from .of_below (by have := HB3.out.size; omega) (by have := HB3.out.size; omega) hG))
            have e7 := (boxed_below q7'.out hG).cell
            have e8 := (boxed_below q8'.out hG).cell
            have f8 := (boxed_below q8'.out hG).frozen
            have q8'' := hide (boxed_below q8'.out hG)
            clear hG hold hh hd hs hK hu0 hu1 hu2 hu3 hu4 hu5 hu6 hu9 hu10 hu11 hu12 hu13 hu14 hu15 hu16 hu17 hu18 hu19 hu20 hu21 hu22 hu23 hu24 hu25 hu26 hu27 hu28 hu29 hu30 hu31 hu32 hu33 hu34 hu35 hu36 hu38
            gi_wp2
            refine ⟨KeepsFrom.trans HK4.out ((KeepsOthers.setCell _ _ _).from _), pre, (j + 1, b), rfl, HPRE.out, H4.out, by rw [HX.out]; simpa using HNA.out, by rw [HX.out]; exact q8''.out.set _, HBW4.out.setCell (p := ⟨g8, 0, none⟩) (by show w.heap.size ≤ g8; omega) _⟩
        · rw [hqb] at hAb
          have HX : Hid (errAt own abv na l (j + 1, b) = 0) := hide (by unfold errAt; simp [HO.out, HQ.out, hqb])
          clear hqb
          gi_wp2
          rename_i K hK
          refine wpIn_static (fun _ => trivial) (by kernel_rfl) (fun i => ([.int .i64 (j : Int), .bool true, .bool true, .func (.func 82) #[] #[], .slice (some ad) (j + 1) c, .int .i64 (j : Int), .pointer (some (ad.add (j * 4))), .agg #[.int .i64 q.off, .int .i64 q.size, .int .u8 q.kind, .bool q.write], .agg #[.int .i64 b.off, .int .i64 b.size, .int .u8 b.kind, .bool b.write], .bool true, .bool false, .bool false] : List Value).getD i undef) (fun W => Below W3.heap.size W3 W) (by kernel_rfl) (by kernel_rfl) (by kernel_rfl) (by kernel_rfl) (by kernel_rfl) ?_ ?_ (Below.refl _ _).drew ?_ ?_
          · intro i o jj bb ho hg
            have hi12 : i < 12 := (Array.getElem?_eq_some_iff.1 ho).1
            have hi' : i = 0 ∨ i = 1 ∨ i = 2 ∨ i = 3 ∨ i = 4 ∨ i = 5 ∨ i = 6 ∨ i = 7 ∨ i = 8 ∨ i = 9 ∨ i = 10 ∨ i = 11 := by omega
            rcases hi' with rfl | rfl | rfl | rfl | rfl | rfl | rfl | rfl | rfl | rfl | rfl | rfl <;> (cases ho; first | (cases hg; exact ⟨_, rfl⟩) | cases hg)
          · intro i o ho hg
            have hi12 : i < 12 := (Array.getElem?_eq_some_iff.1 ho).1
            have hi' : i = 0 ∨ i = 1 ∨ i = 2 ∨ i = 3 ∨ i = 4 ∨ i = 5 ∨ i = 6 ∨ i = 7 ∨ i = 8 ∨ i = 9 ∨ i = 10 ∨ i = 11 := by omega
            rcases hi' with rfl | rfl | rfl | rfl | rfl | rfl | rfl | rfl | rfl | rfl | rfl | rfl <;> (cases ho; first | rfl | (exact Bool.noConfusion (show true = false from hg)))
          · intro i o ho hg a W hG hold hh
            have hi12 : i < 12 := (Array.getElem?_eq_some_iff.1 ho).1
            have hi' : i = 0 ∨ i = 1 ∨ i = 2 ∨ i = 3 ∨ i = 4 ∨ i = 5 ∨ i = 6 ∨ i = 7 ∨ i = 8 ∨ i = 9 ∨ i = 10 ∨ i = 11 := by omega
            rcases hi' with rfl | rfl | rfl | rfl | rfl | rfl | rfl | rfl | rfl | rfl | rfl | rfl
            · cases ho
              refine static_told ?_ hG
              have e12 : a.eval (.tmp 12) = .int .i64 (j : Int) := hold 12 (by kernel_rfl)
              generalize a.eval = ev at e12 ⊢
              simp [Oper.semAt_some, execOp, go_sem, e12]
            · cases ho
              refine static_told ?_ hG
              have e26 : a.eval (.tmp 26) = .int .i64 (j : Int) := hh 0 rfl
              have hc0 : ∀ v, a.eval (.const v) = v := fun _ => rfl
              generalize a.eval = ev at e26 hc0 ⊢
              simp [Oper.semAt_some, execOp, go_sem, hc0, e26]
            · cases ho
              refine static_told ?_ hG
              have e27 : a.eval (.tmp 27) = .bool true := hh 1 rfl
              generalize a.eval = ev at e27 ⊢
              simp [Oper.semAt_some, execOp, go_sem, e27]
            · cases ho
              refine static_told ?_ hG
              have e6 : a.eval (.tmp 6) = .pointer (some ⟨g6, 0, none⟩) := hold 6 (by kernel_rfl)
              have d6 := ((hG.cell (p := ⟨g6, 0, none⟩) (by show g6 < W3.heap.size; omega)).trans e6c)
              generalize a.eval = ev at e6 ⊢
              simp [Oper.semAt_some, execOp, go_sem, e6, d6]
            · cases ho
              refine static_told ?_ hG
              have e9 : a.eval (.tmp 9) = .slice (some ad) (j + 1) c := hold 9 (by kernel_rfl)
              generalize a.eval = ev at e9 ⊢
              simp [Oper.semAt_some, execOp, go_sem, e9]
            · cases ho
              refine static_told ?_ hG
              have e12 : a.eval (.tmp 12) = .int .i64 (j : Int) := hold 12 (by kernel_rfl)
              generalize a.eval = ev at e12 ⊢
              simp [Oper.semAt_some, execOp, go_sem, e12]
            · cases ho
              refine static_told ?_ hG
              have e30 : a.eval (.tmp 30) = .slice (some ad) (j + 1) c := hh 4 rfl
              have e31 : a.eval (.tmp 31) = .int .i64 (j : Int) := hh 5 rfl
              generalize a.eval = ev at e30 e31 ⊢
              simp [Oper.semAt_some, execOp, go_sem, e30, e31]
              intro hx
              omega
            · cases ho
              refine static_told ?_ hG
              have e32 : a.eval (.tmp 32) = .pointer (some (ad.add (j * 4))) := hh 6 rfl
              have d0 := ((hG.cell (p := ad.add (j * 4)) (by rw [block_add]; omega)).trans cq0)
              have d1 := ((hG.cell (p := { block := (ad.add (j * 4)).block, off := (ad.add (j * 4)).off + 1 }) (by show (ad.add (j * 4)).block < W3.heap.size; rw [block_add]; omega)).trans cq1)
              have d2 := ((hG.cell (p := { block := (ad.add (j * 4)).block, off := (ad.add (j * 4)).off + 2 }) (by show (ad.add (j * 4)).block < W3.heap.size; rw [block_add]; omega)).trans cq2)
              have d3 := ((hG.cell (p := { block := (ad.add (j * 4)).block, off := (ad.add (j * 4)).off + 3 }) (by show (ad.add (j * 4)).block < W3.heap.size; rw [block_add]; omega)).trans cq3)
              generalize a.eval = ev at e32 ⊢
              simp [Oper.semAt_some, execOp, go_sem, e32, d0, d1, d2, d3]
            · cases ho
              refine static_told ?_ hG
              have e10 : a.eval (.tmp 10) = .pointer (some ⟨g5, 0, none⟩) := hold 10 (by kernel_rfl)
              have d0 := ((hG.cell (p := ⟨g5, 0, none⟩) lg5).trans y0)
              have d1 := ((hG.cell (p := ⟨g5, 1, none⟩) lg5).trans y1)
              have d2 := ((hG.cell (p := ⟨g5, 2, none⟩) lg5).trans y2)
              have d3 := ((hG.cell (p := ⟨g5, 3, none⟩) lg5).trans y3)
              generalize a.eval = ev at e10 ⊢
              simp [Oper.semAt_some, execOp, go_sem, e10, d0, d1, d2, d3]
            · cases ho
              refine static_call (f := 82) (args := #[.agg #[.int .i64 q.off, .int .i64 q.size, .int .u8 q.kind, .bool q.write], .agg #[.int .i64 b.off, .int .i64 b.size, .int .u8 b.kind, .bool b.write]]) ?_ ((hAb.out W hG).mono (fun e w' h => ⟨h.1, hG.trans (h.2.mono hG.size)⟩))
              have e29 : a.eval (.tmp 29) = .func (.func 82) #[] #[] := hh 3 rfl
              have e33 : a.eval (.tmp 33) = .agg #[.int .i64 q.off, .int .i64 q.size, .int .u8 q.kind, .bool q.write] := hh 7 rfl
              have e34 : a.eval (.tmp 34) = .agg #[.int .i64 b.off, .int .i64 b.size, .int .u8 b.kind, .bool b.write] := hh 8 rfl
              generalize a.eval = ev at e29 e33 e34 ⊢
              simp [Oper.semAt_some, execOp, go_sem, e29, e33, e34]
            · cases ho
              refine static_told ?_ hG
              have e35 : a.eval (.tmp 35) = .bool true := hh 9 rfl
              generalize a.eval = ev at e35 ⊢
              simp [Oper.semAt_some, execOp, go_sem, e35]
            · cases ho
              refine static_told ?_ hG
              have e28 : a.eval (.tmp 28) = .bool true := hh 2 rfl
              have e36 : a.eval (.tmp 36) = .bool false := hh 10 rfl
              have hc0 : ∀ v, a.eval (.const v) = v := fun _ => rfl
              generalize a.eval = ev at e28 e36 hc0 ⊢
              simp [Oper.semAt_some, execOp, go_sem, hc0, e28, e36]
          · intro a W hd hs hold hh hG
            refine hK _ _ ?_
            obtain ⟨u0, hu0⟩ : ∃ u, a.tmps.getD 0 undef = u := ⟨_, rfl⟩
            obtain ⟨u1, hu1⟩ : ∃ u, a.tmps.getD 1 undef = u := ⟨_, rfl⟩
            obtain ⟨u2, hu2⟩ : ∃ u, a.tmps.getD 2 undef = u := ⟨_, rfl⟩
            obtain ⟨u3, hu3⟩ : ∃ u, a.tmps.getD 3 undef = u := ⟨_, rfl⟩
            obtain ⟨u4, hu4⟩ : ∃ u, a.tmps.getD 4 undef = u := ⟨_, rfl⟩
            obtain ⟨u5, hu5⟩ : ∃ u, a.tmps.getD 5 undef = u := ⟨_, rfl⟩
            obtain ⟨u6, hu6⟩ : ∃ u, a.tmps.getD 6 undef = u := ⟨_, rfl⟩
            obtain ⟨u9, hu9⟩ : ∃ u, a.tmps.getD 9 undef = u := ⟨_, rfl⟩
            obtain ⟨u10, hu10⟩ : ∃ u, a.tmps.getD 10 undef = u := ⟨_, rfl⟩
            obtain ⟨u11, hu11⟩ : ∃ u, a.tmps.getD 11 undef = u := ⟨_, rfl⟩
            obtain ⟨u12, hu12⟩ : ∃ u, a.tmps.getD 12 undef = u := ⟨_, rfl⟩
            obtain ⟨u13, hu13⟩ : ∃ u, a.tmps.getD 13 undef = u := ⟨_, rfl⟩
            obtain ⟨u14, hu14⟩ : ∃ u, a.tmps.getD 14 undef = u := ⟨_, rfl⟩
            obtain ⟨u15, hu15⟩ : ∃ u, a.tmps.getD 15 undef = u := ⟨_, rfl⟩
            obtain ⟨u16, hu16⟩ : ∃ u, a.tmps.getD 16 undef = u := ⟨_, rfl⟩
            obtain ⟨u17, hu17⟩ : ∃ u, a.tmps.getD 17 undef = u := ⟨_, rfl⟩
            obtain ⟨u18, hu18⟩ : ∃ u, a.tmps.getD 18 undef = u := ⟨_, rfl⟩
            obtain ⟨u19, hu19⟩ : ∃ u, a.tmps.getD 19 undef = u := ⟨_, rfl⟩
            obtain ⟨u20, hu20⟩ : ∃ u, a.tmps.getD 20 undef = u := ⟨_, rfl⟩
            obtain ⟨u21, hu21⟩ : ∃ u, a.tmps.getD 21 undef = u := ⟨_, rfl⟩
            obtain ⟨u22, hu22⟩ : ∃ u, a.tmps.getD 22 undef = u := ⟨_, rfl⟩
            obtain ⟨u23, hu23⟩ : ∃ u, a.tmps.getD 23 undef = u := ⟨_, rfl⟩
            obtain ⟨u24, hu24⟩ : ∃ u, a.tmps.getD 24 undef = u := ⟨_, rfl⟩
            obtain ⟨u25, hu25⟩ : ∃ u, a.tmps.getD 25 undef = u := ⟨_, rfl⟩
            obtain ⟨u26, hu26⟩ : ∃ u, a.tmps.getD 26 undef = u := ⟨_, rfl⟩
            obtain ⟨u27, hu27⟩ : ∃ u, a.tmps.getD 27 undef = u := ⟨_, rfl⟩
            obtain ⟨u28, hu28⟩ : ∃ u, a.tmps.getD 28 undef = u := ⟨_, rfl⟩
            obtain ⟨u29, hu29⟩ : ∃ u, a.tmps.getD 29 undef = u := ⟨_, rfl⟩
            obtain ⟨u30, hu30⟩ : ∃ u, a.tmps.getD 30 undef = u := ⟨_, rfl⟩
            obtain ⟨u31, hu31⟩ : ∃ u, a.tmps.getD 31 undef = u := ⟨_, rfl⟩
            obtain ⟨u32, hu32⟩ : ∃ u, a.tmps.getD 32 undef = u := ⟨_, rfl⟩
            obtain ⟨u33, hu33⟩ : ∃ u, a.tmps.getD 33 undef = u := ⟨_, rfl⟩
            obtain ⟨u34, hu34⟩ : ∃ u, a.tmps.getD 34 undef = u := ⟨_, rfl⟩
            obtain ⟨u35, hu35⟩ : ∃ u, a.tmps.getD 35 undef = u := ⟨_, rfl⟩
            obtain ⟨u36, hu36⟩ : ∃ u, a.tmps.getD 36 undef = u := ⟨_, rfl⟩
            obtain ⟨u38, hu38⟩ : ∃ u, a.tmps.getD 38 undef = u := ⟨_, rfl⟩
            have ha : a = ⟨#[u0, u1, u2, u3, u4, u5, u6, .pointer (some ⟨g7, 0, none⟩), .pointer (some ⟨g8, 0, none⟩), u9, u10, u11, u12, u13, u14, u15, u16, u17, u18, u19, u20, u21, u22, u23, u24, u25, u26, u27, u28, u29, u30, u31, u32, u33, u34, u35, u36, .bool false, u38], []⟩ := by
              refine act_lit hd hs (fun t ht => ?_)
              have ht' : t = 0 ∨ t = 1 ∨ t = 2 ∨ t = 3 ∨ t = 4 ∨ t = 5 ∨ t = 6 ∨ t = 7 ∨ t = 8 ∨ t = 9 ∨ t = 10 ∨ t = 11 ∨ t = 12 ∨ t = 13 ∨ t = 14 ∨ t = 15 ∨ t = 16 ∨ t = 17 ∨ t = 18 ∨ t = 19 ∨ t = 20 ∨ t = 21 ∨ t = 22 ∨ t = 23 ∨ t = 24 ∨ t = 25 ∨ t = 26 ∨ t = 27 ∨ t = 28 ∨ t = 29 ∨ t = 30 ∨ t = 31 ∨ t = 32 ∨ t = 33 ∨ t = 34 ∨ t = 35 ∨ t = 36 ∨ t = 37 ∨ t = 38 := by
                have : t < 39 := ht
                omega
              rcases ht' with rfl | rfl | rfl | rfl | rfl | rfl | rfl | rfl | rfl | rfl | rfl | rfl | rfl | rfl | rfl | rfl | rfl | rfl | rfl | rfl | rfl | rfl | rfl | rfl | rfl | rfl | rfl | rfl | rfl | rfl | rfl | rfl | rfl | rfl | rfl | rfl | rfl | rfl | rfl
              · exact hu0
              · exact hu1
              · exact hu2
              · exact hu3
              · exact hu4
              · exact hu5
              · exact hu6
              · exact hold 7 (by kernel_rfl)
              · exact hold 8 (by kernel_rfl)
              · exact hu9
              · exact hu10
              · exact hu11
              · exact hu12
              · exact hu13
              · exact hu14
              · exact hu15
              · exact hu16
              · exact hu17
              · exact hu18
              · exact hu19
              · exact hu20
              · exact hu21
              · exact hu22
              · exact hu23
              · exact hu24
              · exact hu25
              · exact hu26
              · exact hu27
              · exact hu28
              · exact hu29
              · exact hu30
              · exact hu31
              · exact hu32
              · exact hu33
              · exact hu34
              · exact hu35
              · exact hu36
              · exact hh 11 (by decide)
              · exact hu38
            subst ha
            have HBW4 := hide (HBW3.out.trans (hG.mono HBW3.out.size))
            have HB4 := hide (HB3.out.trans (hG.mono HB3.out.size))
            have HK4 := hide (KeepsFrom.trans HK3.out (show KeepsFrom W0.heap.size W3 W from ⟨hG.size, fun k o hk ho _ => (hG.block k (at_lt ho)).trans ho⟩))
            have HKB4 := hide (HKB3.out.trans (show KeepB w.heap.size W1.heap.size W3 W from .of_below (by have := HB3.out.size; omega) (by have := HB3.out.size; omega) hG))
            have e7 := (boxed_below q7'.out hG).cell
            have e8 := (boxed_below q8'.out hG).cell
            have f8 := (boxed_below q8'.out hG).frozen
            have q8'' := hide (boxed_below q8'.out hG)
            clear hG hold hh hd hs hK hu0 hu1 hu2 hu3 hu4 hu5 hu6 hu9 hu10 hu11 hu12 hu13 hu14 hu15 hu16 hu17 hu18 hu19 hu20 hu21 hu22 hu23 hu24 hu25 hu26 hu27 hu28 hu29 hu30 hu31 hu32 hu33 hu34 hu35 hu36 hu38
            gi_wp2
            refine ⟨HK4.out, HKB4.out, HB4.out, fun p hp => ?_⟩
            rw [List.mem_append, List.mem_singleton] at hp
            rcases hp with hp | rfl
            · exact H4.out p hp
            · rw [HX.out]; rfl
    · have HX : Hid (errAt own abv na l (k, b) = own b) := hide (by unfold errAt; rw [if_pos hown])
      have HX2 : Hid ((errAt own abv na l (k, b) != 0) = true) := hide (by rw [HX.out]; simpa using hown)
      have hne : (own b == 0) = false := by simpa using hown
      clear hown
      gi_wp2
      refine ⟨?_, pre, (k, b), rfl, HPRE.out, H4.out, HX2.out, by rw [HX.out]; exact q8'.out.set _, HBW3.out.setCell (p := ⟨g8, 0, none⟩) (by show w.heap.size ≤ g8; omega) _⟩
      exact KeepsFrom.trans HK3.out ((KeepsOthers.setCell _ _ _).from _)
  case done =>
    rintro D xs W hD rfl ⟨h1, h4⟩ hdef
    have HM : Hid (riseM own abv na l = 0) := hide (by unfold riseM; rw [find_none h4])
    have e8 := (boxed_below q8 h1).cell
    have f8 := (boxed_below q8 h1).frozen
    have q8' := hide (boxed_below q8 h1)
    have HW := hide (HBW.out.trans (h1.mono HBW.out.size))
    have HDEF := hide hdef
    clear h1 h4 hdef
    gi_wp2
    have hK := (KeepsOthers.setCell W ⟨g8, 0, none⟩ (.int .i64 0)).same D _ HDEF.out rfl
    refine ⟨by simp, .inl ⟨_, _, rfl, run_takeDeferred hK, ?_⟩⟩
    have hst := Stays.putObj (B := w.heap.size) (.deferred none) (by omega) hK rfl
    have r8 := (hst.boxed (q8'.out.set (.int .i64 0))).cell
    exact ⟨.int .i64 0, by simp [results, Try.results81, go_sem, r8], by rw [HM.out], hst.below (Nat.le_refl _) (Nat.le_refl _) (HW.out.setCell (p := ⟨g8, 0, none⟩) (by show w.heap.size ≤ g8; omega) _)⟩
  case stop =>
    rintro D xs W hD ⟨pre, x, rfl, h2, h3, h4, h5, h7⟩ hdef
    have HM : Hid (riseM own abv na l = errAt own abv na l x) := hide (by unfold riseM; rw [find_at h2 h3 h4])
    gi_wp2
    refine ⟨by simp, .inl ⟨_, _, rfl, run_takeDeferred hdef, ?_⟩⟩
    have hst := Stays.putObj (B := w.heap.size) (.deferred none) (by omega) hdef rfl
    have r8 := (hst.boxed h5).cell
    exact ⟨.int .i64 (errAt own abv na l x), by simp [results, Try.results81, go_sem, r8], by rw [HM.out], hst.below (Nat.le_refl _) (Nat.le_refl _) h7⟩
end Go.Proofs.Ytedjmgiblkjonaa
