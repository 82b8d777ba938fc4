/-
  A row of fields of which none may be; a row of needs that has none.
-/
import Derived.Test.YtedjmgiblkjonaaC4
namespace Go.Proofs.Ytedjmgiblkjonaa
open Go.RowKit Go.Maps
set_option linter.unusedVariables false
attribute [local go_sem] Oper.semAt_some

set_option maxRecDepth 100000 in
set_option maxHeartbeats 4000000 in
theorem riseField_first (A : Option Addr) (m c B : Nat) (l : List FieldM) (own : FieldM → Int) (bo : Nat) (na : Int) (w : World) (hp : Rd w B 4 A m (fcells l)) (hB : B ≤ w.heap.size) (hm : m ≤ 1000000) (hmc : m ≤ c) (hc : c ≤ maxLen) (hna : na ≠ 0)
    (hNe : ∀ x ∈ l, own x ≠ 0)
    (hOwn : ∀ x ∈ l, ∀ X : World, Below w.heap.size w X → Calls Try.prog 78 #[x.v, .pointer (some ⟨bo, 0, none⟩)] X fun e w' => e = .returned (.int .i64 (own x)) ∧ Below X.heap.size X w') :
    Calls Try.prog 81 #[.slice A m c, .func (.func 78) #[] #[.pointer (some ⟨bo, 0, none⟩)], .func (.func 82) #[] #[], .int .i64 na] w fun e w' => e = .returned (.int .i64 (riseM own (fun _ _ => true) na l)) ∧ Below w.heap.size w w' := by
  have HOWN := hide hOwn
  have HNA := hide hna
  have HNE := hide hNe
  clear hNe
  clear hOwn hna
  generalize habv : (fun _ _ : FieldM => true) = abv
  have HABV := hide habv
  clear habv
  refine (callsIn_wide (n := 3)).1 ?_
  refine callsIn_of_wp_marks Try.func81 rfl trivial ?_ rfl
  simp only [Try.ntmps81, List.size_toArray, List.length_cons, List.length_nil, Nat.reduceAdd, Nat.reduceSub, Array.replicate_succ, Array.replicate_zero, List.push_toArray, List.append_toArray, List.nil_append, List.cons_append]
  gi_wp2_with fail
  refine ⟨trivial, ?_⟩
  refine name_callIn (fun W1 hW1 => ?_)
  obtain ⟨b5, b6, b7, b8⟩ := blocks4 w (.cells #[.func (.func 78) #[] #[.pointer (some ⟨bo, 0, none⟩)]] 133) (.cells #[.func (.func 82) #[] #[]] 135) (.cells #[.int .i64 na] 36) (.cells #[.int .i64 0] 36)
  have lw := below4 w (.cells #[.func (.func 78) #[] #[.pointer (some ⟨bo, 0, none⟩)]] 133) (.cells #[.func (.func 82) #[] #[]] 135) (.cells #[.int .i64 na] 36) (.cells #[.int .i64 0] 36)
  rw [← hW1] at b5 b6 b7 b8 lw
  have Z1 : Hid (W1.heap.size = w.heap.size + 4) := hide (by rw [hW1]; simp)
  clear hW1
  refine (callsIn_wide.2 (aheadField_any _ _ _ _)).mono ?_
  rintro e w' ⟨rfl, rfl⟩
  gi_wp2_with fail
  have b7' : W1.heap[w.heap.size + 1 + 1]? = _ := b7
  have b8' : W1.heap[w.heap.size + 1 + 1 + 1]? = _ := b8
  generalize h7 : w.heap.size + 1 + 1 = g7 at *
  generalize h8 : g7 + 1 = g8 at *
  generalize h6 : w.heap.size + 1 = g6 at *
  have u6 : w.heap.size < g6 := by omega
  have u7 : g6 < g7 := by omega
  have u8 : g7 < g8 := by omega
  have u9 : g8 < W1.heap.size := by rw [Z1.out]; omega
  clear h6 h7 h8 Z1
  generalize hW0 : W1.alloc (.cells #[.slice A m c] 59) = W0
  have hs0 : W1.heap.size < W0.heap.size := by rw [← hW0]; simp
  have hB0 : Below W1.heap.size W1 W0 := by rw [← hW0]; exact below1 _ _
  have hbx : Boxed W0 W1.heap.size 59 (.slice A m c) := by rw [← hW0]; exact boxed_at rfl
  clear hW0
  have hbw : Below w.heap.size w W0 := lw.trans (hB0.mono lw.size)
  have q5 : Boxed W0 w.heap.size 133 (.func (.func 78) #[] #[.pointer (some ⟨bo, 0, none⟩)]) := (hB0.block _ (at_lt b5)).trans b5
  have q6 : Boxed W0 g6 135 (.func (.func 82) #[] #[]) := (hB0.block _ (at_lt b6)).trans b6
  have q7 : Boxed W0 g7 36 (.int .i64 na) := (hB0.block _ (at_lt b7')).trans b7'
  have q8 : Boxed W0 g8 36 (.int .i64 0) := (hB0.block _ (at_lt b8')).trans b8'
  have l8 : g8 < W0.heap.size := q8.lt
  have HBW := hide hbw
  clear b5 b6 b7 b8 b7' b8' lw
  have hE91 := enters_of Try.func78 (by kernel_rfl) rfl
  refine range_ends (α := Nat × FieldM) (F := Fence.wide) (n := 3) rfl (by omega) (gf := 107) (lb := #[.pointer (some ⟨W1.heap.size, 0, none⟩)]) rfl trivial (enters_of Try.func107 (by kernel_rfl) rfl)
    (field_iter (3 - 1) (by omega) W1.heap.size m c w.heap.size A l W0 hbx (by omega) ((hp.mono hB).below hbw) hm hmc hc) (Below.refl _ _) KeepB.trans ?_ (fun _ => rfl)
    (fun pre W => Below W0.heap.size W0 W ∧ AllFine own abv na l pre)
    (fun xs W => Stopped own abv na l g8 w xs W)
    ?_ ?_ ⟨Below.refl _ _, fun p hp => by simp at hp⟩ ?round ?done ?stop
  · intro X l o o' hl hl2 h ho
    exact KeepB.put X o' (by omega) (by omega)
  · rintro s X Y ⟨h1, h4⟩ hst
    exact ⟨hst.below (by omega) (Nat.le_refl _) h1, h4⟩
  · rintro s X Y ⟨pre, x, h1, h2, h3, h4, h5, h7⟩ hst
    exact ⟨pre, x, h1, h2, h3, h4, hst.boxed h5, hst.below (by omega) (Nat.le_refl _) h7⟩
  case round =>
    rintro lp pre ⟨k, b⟩ W hle hloop hws ⟨h1, h4⟩ hpre
    obtain ⟨hk0, hk2⟩ := placed_mem l 0 _ (prefix_mem hpre)
    simp only [Nat.sub_zero] at hk2
    have hbl : b ∈ l := List.mem_of_getElem? hk2
    have HPRE := hide hpre
    have H4 := hide h4
    clear hpre h4 hk0
    obtain ⟨o, sz, kd, wr⟩ := b
    simp only [FieldM.v] at *
    gi_wp2
    refine ⟨(KeepsOthers.alloc _ _).from _, .of_below (by omega) (by omega) (below1 W _), ⟨h1.alloc (by omega) _, H4.out⟩, fun W2 hst => ?_⟩
    have hb2 := hst.below (n0 := W0.heap.size) (by omega) (Nat.le_refl _) (h1.alloc (by omega) (.cells #[.int .i64 o, .int .i64 sz, .int .u8 kd, .bool wr] 65))
    have hS := hst.same _ _ (World.alloc_heap_new W (.cells #[.int .i64 o, .int .i64 sz, .int .u8 kd, .bool wr] 65)) (.inr rfl)
    have s0 := blk_cell hS 0
    have s1 := blk_cell hS 1
    have s2 := blk_cell hS 2
    have s3 := blk_cell hS 3
    simp at s0 s1 s2 s3
    have ltS := at_lt hS
    clear hS
    have hws2 : w.heap.size ≤ W2.heap.size := Nat.le_trans (by omega) hb2.size
    clear hst h1 hloop hws
    have hbw2 := HBW.out.trans (hb2.mono (by omega))
    have e5 := (boxed_below q5 hb2).cell
    have hC := HOWN.out ⟨o, sz, kd, wr⟩ hbl W2 hbw2
    have HB2 := hide hb2
    have HBW2 := hide hbw2
    have lt5 : w.heap.size < W2.heap.size := by have := hb2.size; omega
    clear hb2 hbw2
    gi_wp2_with fail
    refine ⟨trivial, (CallsIn.inRound lp (callsIn_wide.2 hC)).mono ?_⟩
    rintro e W3 ⟨rfl, hb3⟩
    have hb03 := HB2.out.trans (hb3.mono HB2.out.size)
    have e7 := (boxed_below q7 hb03).cell
    have e8 := (boxed_below q8 hb03).cell
    have f8 := (boxed_below q8 hb03).frozen
    have e6 := (boxed_below q6 hb03).cell
    have l68 := Nat.lt_of_lt_of_le l8 hb03.size
    have HK3 := hide (show KeepsFrom W0.heap.size W2 W3 from ⟨hb3.size, fun k o hk ho _ => (hb3.block k (at_lt ho)).trans ho⟩)
    have HB3 := hide hb03
    have HKB3 := hide (show KeepB w.heap.size W1.heap.size W2 W3 from .of_below hws2 (by have := HB2.out.size; omega) hb3)
    have HBW3 := hide (HBW2.out.trans (hb3.mono HBW2.out.size))
    have q8' := hide (boxed_below q8 hb03)
    have q7' := hide (boxed_below q7 hb03)
    have q6' := hide (boxed_below q6 hb03)
    have hrd := (hp.mono hB).below (HBW3.out)
    have HRD := hide hrd
    clear hb3 hb03 hC hrd
    have hown : own ⟨o, sz, kd, wr⟩ ≠ 0 := HNE.out ⟨o, sz, kd, wr⟩ hbl
    have HX : Hid (errAt own abv na l (k, (⟨o, sz, kd, wr⟩ : FieldM)) = own ⟨o, sz, kd, wr⟩) := hide (by unfold errAt; rw [if_pos hown])
    have HX2 : Hid ((errAt own abv na l (k, (⟨o, sz, kd, wr⟩ : FieldM)) != 0) = true) := hide (by rw [HX.out]; simpa using hown)
    have hne : (own ⟨o, sz, kd, wr⟩ == 0) = false := by simpa using hown
    clear hown
    gi_wp2
    refine ⟨?_, pre, (k, (⟨o, sz, kd, wr⟩ : FieldM)), rfl, HPRE.out, H4.out, HX2.out, by rw [HX.out]; exact q8'.out.set _, HBW3.out.setCell (p := ⟨g8, 0, none⟩) (by show w.heap.size ≤ g8; omega) _⟩
    exact KeepsFrom.trans HK3.out ((KeepsOthers.setCell _ _ _).from _)
  case done =>
    rintro D xs W hD rfl ⟨h1, h4⟩ hdef
    have HM : Hid (riseM own abv na l = 0) := hide (by unfold riseM; rw [find_none h4])
    have e8 := (boxed_below q8 h1).cell
    have f8 := (boxed_below q8 h1).frozen
    have q8' := hide (boxed_below q8 h1)
    have HW := hide (HBW.out.trans (h1.mono HBW.out.size))
    have HDEF := hide hdef
    clear h1 h4 hdef
    gi_wp2
    have hK := (KeepsOthers.setCell W ⟨g8, 0, none⟩ (.int .i64 0)).same D _ HDEF.out rfl
    refine ⟨by simp, .inl ⟨_, _, rfl, run_takeDeferred hK, ?_⟩⟩
    have hst := Stays.putObj (B := w.heap.size) (.deferred none) (by omega) hK rfl
    have r8 := (hst.boxed (q8'.out.set (.int .i64 0))).cell
    exact ⟨.int .i64 0, by simp [results, Try.results81, go_sem, r8], by rw [HM.out], hst.below (Nat.le_refl _) (Nat.le_refl _) (HW.out.setCell (p := ⟨g8, 0, none⟩) (by show w.heap.size ≤ g8; omega) _)⟩
  case stop =>
    rintro D xs W hD ⟨pre, x, rfl, h2, h3, h4, h5, h7⟩ hdef
    have HM : Hid (riseM own abv na l = errAt own abv na l x) := hide (by unfold riseM; rw [find_at h2 h3 h4])
    gi_wp2
    refine ⟨by simp, .inl ⟨_, _, rfl, run_takeDeferred hdef, ?_⟩⟩
    have hst := Stays.putObj (B := w.heap.size) (.deferred none) (by omega) hdef rfl
    have r8 := (hst.boxed h5).cell
    exact ⟨.int .i64 (errAt own abv na l x), by simp [results, Try.results81, go_sem, r8], by rw [HM.out], hst.below (Nat.le_refl _) (Nat.le_refl _) h7⟩
end Go.Proofs.Ytedjmgiblkjonaa
