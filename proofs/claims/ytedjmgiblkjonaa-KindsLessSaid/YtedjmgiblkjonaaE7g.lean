/-
  The error of a row of arguments.
-/
import Derived.Test.YtedjmgiblkjonaaE6
namespace Go.Proofs.Ytedjmgiblkjonaa
open Go.RowKit Go.Maps
set_option linter.unusedVariables false
attribute [local go_sem] Oper.semAt_some

def Zeros (l : List ArgX) (pre : List (Nat × ArgX)) : Prop := ∀ p ∈ pre, errX l p = 0
/-- The first error of a row of arguments. -/
def errL (l : List ArgX) : Int := match (placed 0 l).find? (fun p => errX l p != 0) with
  | some p => errX l p
  | none => 0
theorem errL_zero {l : List ArgX} (h : Zeros l (placed 0 l)) : errL l = 0 := by
  unfold errL
  have : (placed 0 l).find? (fun p => errX l p != 0) = none := by
    rw [List.find?_eq_none]
    intro p hp
    simp [h p hp]
  rw [this]
theorem errL_stop {l : List ArgX} {pre : List (Nat × ArgX)} {p : Nat × ArgX} (hz : Zeros l pre) (hp : pre ++ [p] <+: placed 0 l) (hv : errX l p ≠ 0) : errL l = errX l p := by
  obtain ⟨r, hr⟩ := hp
  unfold errL
  have hn : pre.find? (fun p => errX l p != 0) = none := by
    rw [List.find?_eq_none]
    intro q hq
    simp [hz q hq]
  rw [← hr, List.append_assoc, List.find?_append, hn]
  simp [hv]
theorem Zeros.snoc {l : List ArgX} {pre : List (Nat × ArgX)} {p : Nat × ArgX} (h : Zeros l pre) (hp : errX l p = 0) : Zeros l (pre ++ [p]) := by
  intro q hq
  rcases List.mem_append.1 hq with hq | hq
  · exact h q hq
  · simp at hq; rw [hq]; exact hp
theorem errX_cases (l : List ArgX) (k : Nat) (kd lo hi : Int) (mp : List Int) (Am : Option Addr) (cm : Nat) (nb mb pb sb : Bool) (h1 : numbersM kd lo hi = nb) (h2 : mapsM kd mp = mb) (h3 : pairedM (l.take k) kd (l.drop (k + 1)) = pb) (h4 : suitsM (mapsL (l.take k)) kd = sb) :
    errX l (k, ⟨⟨kd, lo, hi, mp⟩, Am, cm⟩) = if (nb && mb && pb) = true then (if sb = true then 0 else 35) else 31 := by
  subst h1 h2 h3 h4; rfl

set_option maxRecDepth 100000 in
set_option maxHeartbeats 4000000 in
theorem argsError_any (A : Option Addr) (m c B : Nat) (l : List ArgX) (w : World) (hp : Rd w B 4 A m (xcells l)) (hok : ArgsOk w B l) (hB : B ≤ w.heap.size) (hm : m ≤ 1000000) (hmc : m ≤ c) (hc : c ≤ maxLen) :
    Calls Try.prog 35 #[.slice A m c] w fun e w' => e = .returned (.int .i64 (errL l)) ∧ Below w.heap.size w w' := by
  generalize hEL : errL l = EL
  have HEL := hide hEL
  clear hEL
  have HOK := hide hok
  have HP := hide hp
  have hcb : c ≤ 9223372036854775807 := by unfold maxLen at hc; omega
  have HC := hide hc
  clear hok hp hc
  refine (callsIn_wide (n := 3)).1 ?_
  refine callsIn_of_wp_marks Try.func35 rfl trivial ?_ rfl
  simp only [Try.ntmps35, List.size_toArray, List.length_cons, List.length_nil, Nat.reduceAdd, Nat.reduceSub, Array.replicate_succ, Array.replicate_zero, List.push_toArray, List.append_toArray, List.nil_append, List.cons_append]
  gi_wp2_with fail
  refine ⟨trivial, ?_⟩
  refine name_callIn (fun W1 hW1 => ?_)
  obtain ⟨b1, b2⟩ := two_boxes w (.cells #[.slice A m c] 27) (.cells #[.int .i64 0] 36)
  have l1 := below2 w (.cells #[.slice A m c] 27) (.cells #[.int .i64 0] 36)
  rw [← hW1] at b1 b2 l1
  have z1 : w.heap.size + 1 < W1.heap.size := at_lt b2
  clear hW1
  refine (callsIn_wide.2 (makes_any _)).mono ?_
  rintro e w1 ⟨b, rfl, hle, hmk, hb⟩
  have r1 := (hb.block _ (at_lt b1)).trans b1
  have r2 := (hb.block _ (at_lt b2)).trans b2
  have HB := hide (l1.trans (hb.mono l1.size))
  have lt1 := at_lt r1
  have lt2 := at_lt r2
  have R1 := hide r1
  have R2 := hide r2
  have x1 := blk_cell r1 0
  simp at x1
  have HMK := hide hmk
  clear b1 b2 l1 hb hmk hle r1 r2
  gi_wp2_with fail
  refine ⟨trivial, ?_⟩
  refine name_callIn (fun W2 hW2 => ?_)
  have b3 := World.alloc_heap_new w1 (.cells #[.map (some b)] 83)
  have l2 := below1 w1 (.cells #[.map (some b)] 83)
  rw [← hW2] at b3 l2
  clear hW2
  have q1' := (l2.block _ lt1).trans R1.out
  have q2' := (l2.block _ lt2).trans R2.out
  have HB2 := hide (HB.out.trans (l2.mono HB.out.size))
  have HMK2 := hide (HMK.out.below l2)
  generalize hg3 : w1.heap.size = g3 at *
  clear hg3 l2 HMK
  refine (callsIn_wide.2 (aheadArg_any _ _ _ _)).mono ?_
  rintro e w' ⟨rfl, rfl⟩
  gi_wp2_with fail
  generalize hg2 : w.heap.size + 1 = g2 at *
  have u2 : w.heap.size < g2 := by omega
  clear hg2
  generalize hW0 : W2.alloc (.cells #[.slice A m c] 27) = W0
  have hs0 : W2.heap.size < W0.heap.size := by rw [← hW0]; simp
  have hB0 : Below W2.heap.size W2 W0 := by rw [← hW0]; exact below1 _ _
  have hbx : Boxed W0 W2.heap.size 27 (.slice A m c) := by rw [← hW0]; exact boxed_at rfl
  clear hW0
  have HMK0 := hide (HMK2.out.below hB0)
  have hbw : Below w.heap.size w W0 := HB2.out.trans (hB0.mono HB2.out.size)
  have q1 : Boxed W0 w.heap.size 27 (.slice A m c) := (hB0.block _ (at_lt q1')).trans q1'
  have q2 : Boxed W0 g2 36 (.int .i64 0) := (hB0.block _ (at_lt q2')).trans q2'
  have q3 : Boxed W0 g3 83 (.map (some b)) := (hB0.block _ (at_lt b3)).trans b3
  have l8 : g2 < W0.heap.size := q2.lt
  have l2w : g2 < W2.heap.size := at_lt q2'
  have lww : w.heap.size < W2.heap.size := at_lt q1'
  have HBW := hide hbw
  clear b3 q1' q2'
  refine range_ends (α := Nat × ArgX) (F := Fence.wide) (n := 3) rfl (by omega) (gf := 86) (lb := #[.pointer (some ⟨W2.heap.size, 0, none⟩)]) rfl trivial (enters_of Try.func86 (by kernel_rfl) rfl)
    (arg_iter (3 - 1) (by omega) W2.heap.size m c w.heap.size A l W0 hbx (by omega) ((HP.out.mono hB).below hbw) hm hmc HC.out) (Below.refl _ _) KeepB.trans ?_ (fun _ => rfl)
    (fun pre W => Below W0.heap.size W0 W ∧ Zeros l pre)
    (fun xs W => Boxed W g2 36 (.int .i64 EL) ∧ Below w.heap.size w W)
    ?_ ?_ ⟨Below.refl _ _, fun p hp => by cases hp⟩ ?round ?done ?stop
  · intro X l o o' hl hl2 h ho
    exact KeepB.put X o' (by omega) (by omega)
  · rintro s X Y ⟨h1, h4⟩ hst
    exact ⟨hst.below (by omega) (Nat.le_refl _) h1, h4⟩
  · rintro s X Y ⟨h5, h7⟩ hst
    exact ⟨hst.boxed h5, hst.below (by omega) (Nat.le_refl _) h7⟩
  case round =>
    rintro lp pre ⟨k, ⟨⟨kd, lo, hi, mp⟩, Am, cm⟩⟩ W hle hloop hws ⟨h1, hz⟩ hpre
    obtain ⟨_, hk2⟩ := placed_mem l 0 _ (prefix_mem hpre)
    simp only [Nat.sub_zero] at hk2
    have hmem := List.mem_of_getElem? hk2
    have hkl := (List.getElem?_eq_some_iff.1 hk2).1
    have hkm : k < m := by have := HP.out.xcells_len; omega
    have HZ := hide hz
    have HPRE := hide hpre
    clear hz
    obtain ⟨k1, k2, k3, k4, k5⟩ := HOK.out _ hmem
    simp only at k1 k2 k3 k4 k5
    obtain ⟨ad, y0, rfl, hab, hy0, hyr⟩ := (HP.out.mono hB).argx (k := k) (by omega)
    clear hpre hk2 hmem hkl hyr hy0 y0
    simp only [ArgX.v, ArgM.v]
    gi_wp2
    refine ⟨(KeepsOthers.alloc _ _).from _, .of_below (by omega) (by omega) (below1 W _), ⟨h1.alloc (by omega) _, HZ.out⟩, fun W3 hst => ?_⟩
    have hb2 := hst.below (n0 := W0.heap.size) (by omega) (Nat.le_refl _) (h1.alloc (by omega) (.cells #[.int .u8 kd, .int .i64 lo, .int .i64 hi, .slice Am mp.length cm] 46))
    have hS := hst.same _ _ (World.alloc_heap_new W (.cells #[.int .u8 kd, .int .i64 lo, .int .i64 hi, .slice Am mp.length cm] 46)) (.inr rfl)
    generalize W.heap.size = g5 at *
    obtain ⟨s0, s1, s2, s3⟩ := later4 hS
    have ltS := at_lt hS
    have e1 := Later.cell (boxed_below q1 hb2).cell
    have e3 := Later.cell (boxed_below q3 hb2).cell
    have q2' := hide (boxed_below q2 hb2)
    have HW3 := hide (HBW.out.trans (hb2.mono HBW.out.size))
    have hl1 : w.heap.size < W3.heap.size := Nat.lt_of_lt_of_le q1.lt hb2.size
    have HB3 := hide hb2
    have hB3 : B ≤ W3.heap.size := by omega
    have HMK3 := hide (HMK0.out.below hb2)
    obtain ⟨Aq, nq, cq, hmv, hq1, hq2, hq3⟩ := mapsV_rd (show ArgsOk W3 B (l.take k) from fun x hx => (HOK.out.below (HW3.out.mono hB)) x (List.mem_of_mem_take hx))
    obtain ⟨nb, hnum⟩ : ∃ nb, numbersM kd lo hi = nb := ⟨_, rfl⟩
    obtain ⟨mb, hmap⟩ : ∃ mb, mapsM kd mp = mb := ⟨_, rfl⟩
    obtain ⟨pb, hpair⟩ : ∃ pb, pairedM (l.take k) kd (l.drop (k + 1)) = pb := ⟨_, rfl⟩
    obtain ⟨sb, hsu⟩ : ∃ sb, suitsM (mapsL (l.take k)) kd = sb := ⟨_, rfl⟩
    have HX := hide (errX_cases l k kd lo hi mp Am cm nb mb pb sb hnum hmap hpair hsu)
    have hN : Hid (∀ y : Later W3, Calls Try.prog 60 #[.agg #[.int .u8 kd, .int .i64 lo, .int .i64 hi, .slice Am mp.length cm]] y.w fun e w' => e = .returned (.bool nb) ∧ Below y.w.heap.size y.w w') := hide (fun y => by
      have := numbers_any kd lo hi Am mp.length cm y.w
      rwa [hnum] at this)
    have hM : Hid (∀ y : Later W3, Calls Try.prog 61 #[.map (some b), .agg #[.int .u8 kd, .int .i64 lo, .int .i64 hi, .slice Am mp.length cm]] y.w fun e w' => e = .returned (.bool mb) ∧ Below y.w.heap.size y.w w') := hide (fun y => by
      have := maps_any kd lo hi Am mp.length cm B b mp y.w (k1.below ((HW3.out.trans (y.below.mono HW3.out.size)).mono hB)) (Nat.le_trans hB3 y.below.size) k2 k3 k4 k5 (HMK3.out.below y.below)
      rwa [hmap] at this)
    have hP : Hid (∀ (Ab : Option Addr) (nb cb : Nat) (y : Later W3), nb = m - (k + 1) → Rd W3 B 4 Ab nb (xcells (l.drop (k + 1))) → Calls Try.prog 62 #[.slice (some ad) k c, .agg #[.int .u8 kd, .int .i64 lo, .int .i64 hi, .slice Am mp.length cm], .slice Ab nb cb] y.w fun e w' => e = .returned (.bool pb) ∧ Below y.w.heap.size y.w w') := hide (fun Ab nb cb y hnb hr => by
      subst hnb
      have := paired_any kd lo hi Am (some ad) Ab k c (m - (k + 1)) cb mp.length cm B (l.take k) (l.drop (k + 1)) y.w (((HP.out.take4 k (by omega)).below ((HW3.out.trans (y.below.mono HW3.out.size)).mono hB))) (hr.below (y.below.mono hB3)) (Nat.le_trans hB3 y.below.size) (by omega) (by omega)
      rwa [hpair] at this)
    have hO : Hid (∀ X : World, Below W3.heap.size W3 X → Calls Try.prog 64 #[.slice (some ad) k c] X fun e w' => e = .returned (.slice Aq nq cq) ∧ Below X.heap.size X w') := hide (fun X hX => by
      have := mapsOf_any (some ad) k c B (l.take k) X ((HP.out.take4 k (by omega)).below ((HW3.out.trans (hX.mono HW3.out.size)).mono hB)) (Nat.le_trans hB3 hX.size) (by omega)
      rwa [hmv] at this)
    have hU : Hid (∀ X : World, Below W3.heap.size W3 X → Calls Try.prog 63 #[.map (some b), .slice Aq nq cq, .agg #[.int .u8 kd, .int .i64 lo, .int .i64 hi, .slice Am mp.length cm]] X fun e w' => e = .returned (.bool sb) ∧ Below X.heap.size X w') := hide (fun X hX => by
      have := suits_any kd lo hi Am Aq nq cq mp.length cm B b (mapsL (l.take k)) X (hq1.below (hX.mono hB3)) (Nat.le_trans hB3 hX.size) hq2 hq3 (HMK3.out.below hX)
      rwa [hsu] at this)
    have hdrop := hide ((HP.out.below (HW3.out.mono hB)).drop4 (k + 1) (by omega))
    have f1 := e1 ⟨W3, Below.refl _ _⟩
    have t0 := s0 ⟨W3, Below.refl _ _⟩
    have t1 := s1 ⟨W3, Below.refl _ _⟩
    have t2 := s2 ⟨W3, Below.refl _ _⟩
    have t3 := s3 ⟨W3, Below.refl _ _⟩
    simp only [Later.w] at f1 t0 t1 t2 t3
    have hN0 := hide (hN.out ⟨W3, Below.refl _ _⟩)
    generalize mp.length = zl at *
    clear hst h1 hloop hS hb2 hnum hmap hpair hsu k1 k2 k3 k4 k5 hmv hq1 hq2 hq3 hN
    cases nb
    · have hv := HX.out
      simp at hv
      obtain rfl : EL = 31 := HEL.out.symm.trans ((errL_stop HZ.out HPRE.out (by rw [hv]; decide)).trans hv)
      clear hv HX HPRE HEL
      by_cases hck : c = k + 1
      · have hmk : m = k + 1 := by omega
        subst hmk
        subst hck
        have HD : Hid (Rd W3 B 4 (some ad) 0 (xcells (l.drop (k + 1)))) := hide ⟨by have := hdrop.out.1; simpa using this, fun h => absurd h (by omega)⟩
        clear hdrop
        gi_wp2_with fail
        refine ⟨trivial, (CallsIn.inRound lp (callsIn_wide.2 hN0.out)).mono ?_⟩
        rintro e w1 ⟨rfl, hb1⟩
        obtain ⟨x, rfl⟩ : ∃ x : Later W3, w1 = x.w := ⟨⟨w1, hb1⟩, rfl⟩
        clear hb1 hN0
        have HX3 := hide x.below
        have q2'' := boxed_below q2'.out HX3.out
        have e8 := q2''.cell
        have f8 := q2''.frozen
        have Q2 := hide q2''
        have HW4 := hide (HW3.out.trans (HX3.out.mono HW3.out.size))
        have HK4 := hide (show KeepsFrom W0.heap.size W3 x.w from ⟨HX3.out.size, fun k o hk ho _ => (HX3.out.block k (at_lt ho)).trans ho⟩)
        clear q2''
        gi_wp2
        rename_i K hK
        refine ⟨trivial, hK _ _ ?_⟩
        clear hK K
        gi_wp2
        rename_i K hK
        refine ⟨trivial, hK _ _ ?_⟩
        clear hK K
        gi_wp2
        exact ⟨KeepsFrom.trans HK4.out ((KeepsOthers.setCell _ _ _).from _), Q2.out.set _, HW4.out.setCell (p := ⟨g2, 0, none⟩) (by show w.heap.size ≤ g2; omega) _⟩
      · have HD := hide hdrop.out
        clear hdrop
        gi_wp2_with fail
        refine ⟨trivial, (CallsIn.inRound lp (callsIn_wide.2 hN0.out)).mono ?_⟩
        rintro e w1 ⟨rfl, hb1⟩
        obtain ⟨x, rfl⟩ : ∃ x : Later W3, w1 = x.w := ⟨⟨w1, hb1⟩, rfl⟩
        clear hb1 hN0
        have HX3 := hide x.below
        have q2'' := boxed_below q2'.out HX3.out
        have e8 := q2''.cell
        have f8 := q2''.frozen
        have Q2 := hide q2''
        have HW4 := hide (HW3.out.trans (HX3.out.mono HW3.out.size))
        have HK4 := hide (show KeepsFrom W0.heap.size W3 x.w from ⟨HX3.out.size, fun k o hk ho _ => (HX3.out.block k (at_lt ho)).trans ho⟩)
        clear q2''
        gi_wp2
        rename_i K hK
        refine ⟨trivial, hK _ _ ?_⟩
        clear hK K
        gi_wp2
        rename_i K hK
        refine ⟨trivial, hK _ _ ?_⟩
        clear hK K
        gi_wp2
        exact ⟨KeepsFrom.trans HK4.out ((KeepsOthers.setCell _ _ _).from _), Q2.out.set _, HW4.out.setCell (p := ⟨g2, 0, none⟩) (by show w.heap.size ≤ g2; omega) _⟩
    · cases mb
      · have hv := HX.out
        simp at hv
        obtain rfl : EL = 31 := HEL.out.symm.trans ((errL_stop HZ.out HPRE.out (by rw [hv]; decide)).trans hv)
        clear hv HX HPRE HEL
        by_cases hck : c = k + 1
        · have hmk : m = k + 1 := by omega
          subst hmk
          subst hck
          have HD : Hid (Rd W3 B 4 (some ad) 0 (xcells (l.drop (k + 1)))) := hide ⟨by have := hdrop.out.1; simpa using this, fun h => absurd h (by omega)⟩
          clear hdrop
          gi_wp2_with fail
          refine ⟨trivial, (CallsIn.inRound lp (callsIn_wide.2 hN0.out)).mono ?_⟩
          rintro e w1 ⟨rfl, hb1⟩
          obtain ⟨x, rfl⟩ : ∃ x : Later W3, w1 = x.w := ⟨⟨w1, hb1⟩, rfl⟩
          clear hb1 hN0
          gi_wp2_with fail
          refine ⟨trivial, (CallsIn.inRound lp (callsIn_wide.2 (Later.callsL x hM.out))).mono ?_⟩
          rintro e w1 ⟨rfl, x2, rfl⟩
          clear x
          have HX3 := hide x2.below
          have q2'' := boxed_below q2'.out HX3.out
          have e8 := q2''.cell
          have f8 := q2''.frozen
          have Q2 := hide q2''
          have HW4 := hide (HW3.out.trans (HX3.out.mono HW3.out.size))
          have HK4 := hide (show KeepsFrom W0.heap.size W3 x2.w from ⟨HX3.out.size, fun k o hk ho _ => (HX3.out.block k (at_lt ho)).trans ho⟩)
          clear q2''
          gi_wp2
          rename_i K hK
          refine ⟨trivial, hK _ _ ?_⟩
          clear hK K
          gi_wp2
          exact ⟨KeepsFrom.trans HK4.out ((KeepsOthers.setCell _ _ _).from _), Q2.out.set _, HW4.out.setCell (p := ⟨g2, 0, none⟩) (by show w.heap.size ≤ g2; omega) _⟩
        · have HD := hide hdrop.out
          clear hdrop
          gi_wp2_with fail
          refine ⟨trivial, (CallsIn.inRound lp (callsIn_wide.2 hN0.out)).mono ?_⟩
          rintro e w1 ⟨rfl, hb1⟩
          obtain ⟨x, rfl⟩ : ∃ x : Later W3, w1 = x.w := ⟨⟨w1, hb1⟩, rfl⟩
          clear hb1 hN0
          gi_wp2_with fail
          refine ⟨trivial, (CallsIn.inRound lp (callsIn_wide.2 (Later.callsL x hM.out))).mono ?_⟩
          rintro e w1 ⟨rfl, x2, rfl⟩
          clear x
          have HX3 := hide x2.below
          have q2'' := boxed_below q2'.out HX3.out
          have e8 := q2''.cell
          have f8 := q2''.frozen
          have Q2 := hide q2''
          have HW4 := hide (HW3.out.trans (HX3.out.mono HW3.out.size))
          have HK4 := hide (show KeepsFrom W0.heap.size W3 x2.w from ⟨HX3.out.size, fun k o hk ho _ => (HX3.out.block k (at_lt ho)).trans ho⟩)
          clear q2''
          gi_wp2
          rename_i K hK
          refine ⟨trivial, hK _ _ ?_⟩
          clear hK K
          gi_wp2
          exact ⟨KeepsFrom.trans HK4.out ((KeepsOthers.setCell _ _ _).from _), Q2.out.set _, HW4.out.setCell (p := ⟨g2, 0, none⟩) (by show w.heap.size ≤ g2; omega) _⟩
      · cases pb
        · have hv := HX.out
          simp at hv
          obtain rfl : EL = 31 := HEL.out.symm.trans ((errL_stop HZ.out HPRE.out (by rw [hv]; decide)).trans hv)
          clear hv HX HPRE HEL
          by_cases hck : c = k + 1
          · have hmk : m = k + 1 := by omega
            subst hmk
            subst hck
            have HD : Hid (Rd W3 B 4 (some ad) 0 (xcells (l.drop (k + 1)))) := hide ⟨by have := hdrop.out.1; simpa using this, fun h => absurd h (by omega)⟩
            clear hdrop
            gi_wp2_with fail
            refine ⟨trivial, (CallsIn.inRound lp (callsIn_wide.2 hN0.out)).mono ?_⟩
            rintro e w1 ⟨rfl, hb1⟩
            obtain ⟨x, rfl⟩ : ∃ x : Later W3, w1 = x.w := ⟨⟨w1, hb1⟩, rfl⟩
            clear hb1 hN0
            gi_wp2_with fail
            refine ⟨trivial, (CallsIn.inRound lp (callsIn_wide.2 (Later.callsL x hM.out))).mono ?_⟩
            rintro e w1 ⟨rfl, x2, rfl⟩
            clear x
            gi_wp2_with fail
            refine ⟨trivial, (CallsIn.inRound lp (callsIn_wide.2 (Later.callsL x2 (fun y => hP.out _ _ _ y (by omega) HD.out)))).mono ?_⟩
            rintro e w1 ⟨rfl, x, rfl⟩
            clear x2
            have HX3 := hide x.below
            have q2'' := boxed_below q2'.out HX3.out
            have e8 := q2''.cell
            have f8 := q2''.frozen
            have Q2 := hide q2''
            have HW4 := hide (HW3.out.trans (HX3.out.mono HW3.out.size))
            have HK4 := hide (show KeepsFrom W0.heap.size W3 x.w from ⟨HX3.out.size, fun k o hk ho _ => (HX3.out.block k (at_lt ho)).trans ho⟩)
            clear q2''
            gi_wp2
            exact ⟨KeepsFrom.trans HK4.out ((KeepsOthers.setCell _ _ _).from _), Q2.out.set _, HW4.out.setCell (p := ⟨g2, 0, none⟩) (by show w.heap.size ≤ g2; omega) _⟩
          · have HD := hide hdrop.out
            clear hdrop
            gi_wp2_with fail
            refine ⟨trivial, (CallsIn.inRound lp (callsIn_wide.2 hN0.out)).mono ?_⟩
            rintro e w1 ⟨rfl, hb1⟩
            obtain ⟨x, rfl⟩ : ∃ x : Later W3, w1 = x.w := ⟨⟨w1, hb1⟩, rfl⟩
            clear hb1 hN0
            gi_wp2_with fail
            refine ⟨trivial, (CallsIn.inRound lp (callsIn_wide.2 (Later.callsL x hM.out))).mono ?_⟩
            rintro e w1 ⟨rfl, x2, rfl⟩
            clear x
            gi_wp2_with fail
            refine ⟨trivial, (CallsIn.inRound lp (callsIn_wide.2 (Later.callsL x2 (fun y => hP.out _ _ _ y rfl HD.out)))).mono ?_⟩
            rintro e w1 ⟨rfl, x, rfl⟩
            clear x2
            have HX3 := hide x.below
            have q2'' := boxed_below q2'.out HX3.out
            have e8 := q2''.cell
            have f8 := q2''.frozen
            have Q2 := hide q2''
            have HW4 := hide (HW3.out.trans (HX3.out.mono HW3.out.size))
            have HK4 := hide (show KeepsFrom W0.heap.size W3 x.w from ⟨HX3.out.size, fun k o hk ho _ => (HX3.out.block k (at_lt ho)).trans ho⟩)
            clear q2''
            gi_wp2
            exact ⟨KeepsFrom.trans HK4.out ((KeepsOthers.setCell _ _ _).from _), Q2.out.set _, HW4.out.setCell (p := ⟨g2, 0, none⟩) (by show w.heap.size ≤ g2; omega) _⟩
        · cases sb
          · have hv := HX.out
            simp at hv
            obtain rfl : EL = 35 := HEL.out.symm.trans ((errL_stop HZ.out HPRE.out (by rw [hv]; decide)).trans hv)
            clear hv HX HPRE HEL
            by_cases hck : c = k + 1
            · have hmk : m = k + 1 := by omega
              subst hmk
              subst hck
              have HD : Hid (Rd W3 B 4 (some ad) 0 (xcells (l.drop (k + 1)))) := hide ⟨by have := hdrop.out.1; simpa using this, fun h => absurd h (by omega)⟩
              clear hdrop
              gi_wp2_with fail
              refine ⟨trivial, (CallsIn.inRound lp (callsIn_wide.2 hN0.out)).mono ?_⟩
              rintro e w1 ⟨rfl, hb1⟩
              obtain ⟨x, rfl⟩ : ∃ x : Later W3, w1 = x.w := ⟨⟨w1, hb1⟩, rfl⟩
              clear hb1 hN0
              gi_wp2_with fail
              refine ⟨trivial, (CallsIn.inRound lp (callsIn_wide.2 (Later.callsL x hM.out))).mono ?_⟩
              rintro e w1 ⟨rfl, x2, rfl⟩
              clear x
              gi_wp2_with fail
              refine ⟨trivial, (CallsIn.inRound lp (callsIn_wide.2 (Later.callsL x2 (fun y => hP.out _ _ _ y (by omega) HD.out)))).mono ?_⟩
              rintro e w1 ⟨rfl, x, rfl⟩
              clear x2
              gi_wp2
              rename_i K hK
              have y3 := e3 x
              have z0 := s0 x
              have z1' := s1 x
              have z2 := s2 x
              have z3 := s3 x
              have HX := hide x.below
              have lg3 : g3 < x.w.heap.size := Nat.lt_of_lt_of_le (Nat.lt_of_lt_of_le q3.lt HB3.out.size) HX.out.size
              have lg5 : g5 < x.w.heap.size := Nat.lt_of_lt_of_le ltS HX.out.size
              refine wpIn_static (fun _ => trivial) (by kernel_rfl) (fun i => ([.map (some b), .slice (some ad) k (k + 1), .slice Aq nq cq, .agg #[.int .u8 kd, .int .i64 lo, .int .i64 hi, .slice Am zl cm], .bool false, .bool true] : List Value).getD i undef) (fun W => Below x.w.heap.size x.w W) (by kernel_rfl) (by kernel_rfl) (by kernel_rfl) (by kernel_rfl) (by kernel_rfl) ?_ ?_ (Below.refl _ _).drew ?_ ?_
              · intro i o jj bb ho hg
                have hi6 : i < 6 := (Array.getElem?_eq_some_iff.1 ho).1
                have hi' : i = 0 ∨ i = 1 ∨ i = 2 ∨ i = 3 ∨ i = 4 ∨ i = 5 := by omega
                rcases hi' with rfl | rfl | rfl | rfl | rfl | rfl <;> (cases ho; cases hg)
              · intro i o ho hg
                have hi6 : i < 6 := (Array.getElem?_eq_some_iff.1 ho).1
                have hi' : i = 0 ∨ i = 1 ∨ i = 2 ∨ i = 3 ∨ i = 4 ∨ i = 5 := by omega
                rcases hi' with rfl | rfl | rfl | rfl | rfl | rfl <;> (cases ho; exact Bool.noConfusion (show true = false from hg))
              · intro i o ho hg a W hG hold hh
                have hi6 : i < 6 := (Array.getElem?_eq_some_iff.1 ho).1
                have hi' : i = 0 ∨ i = 1 ∨ i = 2 ∨ i = 3 ∨ i = 4 ∨ i = 5 := by omega
                rcases hi' with rfl | rfl | rfl | rfl | rfl | rfl
                · cases ho
                  refine static_told ?_ hG
                  have e : a.eval (.tmp 3) = .pointer (some ⟨g3, 0, none⟩) := hold 3 (by kernel_rfl)
                  have d := (hG.cell (p := ⟨g3, 0, none⟩) lg3).trans y3
                  generalize a.eval = ev at e ⊢
                  simp [Oper.semAt_some, execOp, go_sem, e, d]
                · cases ho
                  refine static_told ?_ hG
                  have e : a.eval (.tmp 4) = .slice (some ad) k (k + 1) := hold 4 (by kernel_rfl)
                  generalize a.eval = ev at e ⊢
                  simp [Oper.semAt_some, execOp, go_sem, e]
                · cases ho
                  refine static_call (f := 64) (args := #[.slice (some ad) k (k + 1)]) ?_ ((hO.out W (HX.out.trans (hG.mono HX.out.size))).mono (fun e w' h => ⟨h.1, hG.trans (h.2.mono hG.size)⟩))
                  have e : a.eval (.tmp 34) = .slice (some ad) k (k + 1) := hh 1 rfl
                  have cf : a.eval (.func 64) = .func (.func 64) #[] #[] := rfl
                  generalize a.eval = ev at e cf ⊢
                  simp [Oper.semAt_some, execOp, go_sem, e, cf]
                · cases ho
                  refine static_told ?_ hG
                  have e : a.eval (.tmp 5) = .pointer (some ⟨g5, 0, none⟩) := hold 5 (by kernel_rfl)
                  have d0 := (hG.cell (p := ⟨g5, 0, none⟩) lg5).trans z0
                  have d1 := (hG.cell (p := ⟨g5, 1, none⟩) lg5).trans z1'
                  have d2 := (hG.cell (p := ⟨g5, 2, none⟩) lg5).trans z2
                  have d3 := (hG.cell (p := ⟨g5, 3, none⟩) lg5).trans z3
                  generalize a.eval = ev at e ⊢
                  simp [Oper.semAt_some, execOp, go_sem, e, d0, d1, d2, d3]
                · cases ho
                  refine static_call (f := 63) (args := #[.map (some b), .slice Aq nq cq, .agg #[.int .u8 kd, .int .i64 lo, .int .i64 hi, .slice Am zl cm]]) ?_ ((hU.out W (HX.out.trans (hG.mono HX.out.size))).mono (fun e w' h => ⟨h.1, hG.trans (h.2.mono hG.size)⟩))
                  have e : a.eval (.tmp 33) = .map (some b) := hh 0 rfl
                  have e' : a.eval (.tmp 35) = .slice Aq nq cq := hh 2 rfl
                  have e'' : a.eval (.tmp 36) = .agg #[.int .u8 kd, .int .i64 lo, .int .i64 hi, .slice Am zl cm] := hh 3 rfl
                  have cf : a.eval (.func 63) = .func (.func 63) #[] #[] := rfl
                  generalize a.eval = ev at e e' e'' cf ⊢
                  simp [Oper.semAt_some, execOp, go_sem, e, e', e'', cf]
                · cases ho
                  refine static_told ?_ hG
                  have e : a.eval (.tmp 37) = .bool false := hh 4 rfl
                  generalize a.eval = ev at e ⊢
                  simp [Oper.semAt_some, execOp, go_sem, e]
              · intro a W4 hd hs hold hh hG
                refine hK _ _ ?_
                obtain ⟨u0, hu0⟩ : ∃ u, a.tmps.getD 0 undef = u := ⟨_, rfl⟩
                obtain ⟨u1, hu1⟩ : ∃ u, a.tmps.getD 1 undef = u := ⟨_, rfl⟩
                obtain ⟨u3, hu3⟩ : ∃ u, a.tmps.getD 3 undef = u := ⟨_, rfl⟩
                obtain ⟨u4, hu4⟩ : ∃ u, a.tmps.getD 4 undef = u := ⟨_, rfl⟩
                obtain ⟨u5, hu5⟩ : ∃ u, a.tmps.getD 5 undef = u := ⟨_, rfl⟩
                obtain ⟨u6, hu6⟩ : ∃ u, a.tmps.getD 6 undef = u := ⟨_, rfl⟩
                obtain ⟨u7, hu7⟩ : ∃ u, a.tmps.getD 7 undef = u := ⟨_, rfl⟩
                obtain ⟨u8, hu8⟩ : ∃ u, a.tmps.getD 8 undef = u := ⟨_, rfl⟩
                obtain ⟨u9, hu9⟩ : ∃ u, a.tmps.getD 9 undef = u := ⟨_, rfl⟩
                obtain ⟨u10, hu10⟩ : ∃ u, a.tmps.getD 10 undef = u := ⟨_, rfl⟩
                obtain ⟨u11, hu11⟩ : ∃ u, a.tmps.getD 11 undef = u := ⟨_, rfl⟩
                obtain ⟨u12, hu12⟩ : ∃ u, a.tmps.getD 12 undef = u := ⟨_, rfl⟩
                obtain ⟨u13, hu13⟩ : ∃ u, a.tmps.getD 13 undef = u := ⟨_, rfl⟩
                obtain ⟨u14, hu14⟩ : ∃ u, a.tmps.getD 14 undef = u := ⟨_, rfl⟩
                obtain ⟨u15, hu15⟩ : ∃ u, a.tmps.getD 15 undef = u := ⟨_, rfl⟩
                obtain ⟨u16, hu16⟩ : ∃ u, a.tmps.getD 16 undef = u := ⟨_, rfl⟩
                obtain ⟨u17, hu17⟩ : ∃ u, a.tmps.getD 17 undef = u := ⟨_, rfl⟩
                obtain ⟨u18, hu18⟩ : ∃ u, a.tmps.getD 18 undef = u := ⟨_, rfl⟩
                obtain ⟨u19, hu19⟩ : ∃ u, a.tmps.getD 19 undef = u := ⟨_, rfl⟩
                obtain ⟨u20, hu20⟩ : ∃ u, a.tmps.getD 20 undef = u := ⟨_, rfl⟩
                obtain ⟨u21, hu21⟩ : ∃ u, a.tmps.getD 21 undef = u := ⟨_, rfl⟩
                obtain ⟨u22, hu22⟩ : ∃ u, a.tmps.getD 22 undef = u := ⟨_, rfl⟩
                obtain ⟨u23, hu23⟩ : ∃ u, a.tmps.getD 23 undef = u := ⟨_, rfl⟩
                obtain ⟨u24, hu24⟩ : ∃ u, a.tmps.getD 24 undef = u := ⟨_, rfl⟩
                obtain ⟨u25, hu25⟩ : ∃ u, a.tmps.getD 25 undef = u := ⟨_, rfl⟩
                obtain ⟨u26, hu26⟩ : ∃ u, a.tmps.getD 26 undef = u := ⟨_, rfl⟩
                obtain ⟨u27, hu27⟩ : ∃ u, a.tmps.getD 27 undef = u := ⟨_, rfl⟩
                obtain ⟨u28, hu28⟩ : ∃ u, a.tmps.getD 28 undef = u := ⟨_, rfl⟩
                obtain ⟨u29, hu29⟩ : ∃ u, a.tmps.getD 29 undef = u := ⟨_, rfl⟩
                obtain ⟨u30, hu30⟩ : ∃ u, a.tmps.getD 30 undef = u := ⟨_, rfl⟩
                obtain ⟨u31, hu31⟩ : ∃ u, a.tmps.getD 31 undef = u := ⟨_, rfl⟩
                obtain ⟨u32, hu32⟩ : ∃ u, a.tmps.getD 32 undef = u := ⟨_, rfl⟩
                obtain ⟨u33, hu33⟩ : ∃ u, a.tmps.getD 33 undef = u := ⟨_, rfl⟩
                obtain ⟨u34, hu34⟩ : ∃ u, a.tmps.getD 34 undef = u := ⟨_, rfl⟩
                obtain ⟨u35, hu35⟩ : ∃ u, a.tmps.getD 35 undef = u := ⟨_, rfl⟩
                obtain ⟨u36, hu36⟩ : ∃ u, a.tmps.getD 36 undef = u := ⟨_, rfl⟩
                obtain ⟨u37, hu37⟩ : ∃ u, a.tmps.getD 37 undef = u := ⟨_, rfl⟩
                have ha : a = ⟨#[u0, u1, .pointer (some ⟨g2, 0, none⟩), u3, u4, u5, u6, u7, u8, u9, u10, u11, u12, u13, u14, u15, u16, u17, u18, u19, u20, u21, u22, u23, u24, u25, u26, u27, u28, u29, u30, u31, u32, u33, u34, u35, u36, u37, .bool true], []⟩ := by
                  refine act_lit hd hs (fun t ht => ?_)
                  have ht' : t = 0 ∨ t = 1 ∨ t = 2 ∨ t = 3 ∨ t = 4 ∨ t = 5 ∨ t = 6 ∨ t = 7 ∨ t = 8 ∨ t = 9 ∨ t = 10 ∨ t = 11 ∨ t = 12 ∨ t = 13 ∨ t = 14 ∨ t = 15 ∨ t = 16 ∨ t = 17 ∨ t = 18 ∨ t = 19 ∨ t = 20 ∨ t = 21 ∨ t = 22 ∨ t = 23 ∨ t = 24 ∨ t = 25 ∨ t = 26 ∨ t = 27 ∨ t = 28 ∨ t = 29 ∨ t = 30 ∨ t = 31 ∨ t = 32 ∨ t = 33 ∨ t = 34 ∨ t = 35 ∨ t = 36 ∨ t = 37 ∨ t = 38 := by
                    have : t < 39 := ht
                    omega
                  rcases ht' with rfl | rfl | rfl | rfl | rfl | rfl | rfl | rfl | rfl | rfl | rfl | rfl | rfl | rfl | rfl | rfl | rfl | rfl | rfl | rfl | rfl | rfl | rfl | rfl | rfl | rfl | rfl | rfl | rfl | rfl | rfl | rfl | rfl | rfl | rfl | rfl | rfl | rfl | rfl
                  · exact hu0
                  · exact hu1
                  · exact hold 2 (by kernel_rfl)
                  · exact hu3
                  · exact hu4
                  · exact hu5
                  · exact hu6
                  · exact hu7
                  · exact hu8
                  · exact hu9
                  · exact hu10
                  · exact hu11
                  · exact hu12
                  · exact hu13
                  · exact hu14
                  · exact hu15
                  · exact hu16
                  · exact hu17
                  · exact hu18
                  · exact hu19
                  · exact hu20
                  · exact hu21
                  · exact hu22
                  · exact hu23
                  · exact hu24
                  · exact hu25
                  · exact hu26
                  · exact hu27
                  · exact hu28
                  · exact hu29
                  · exact hu30
                  · exact hu31
                  · exact hu32
                  · exact hu33
                  · exact hu34
                  · exact hu35
                  · exact hu36
                  · exact hu37
                  · exact hh 5 (by decide)
                subst ha
                have q2'' := boxed_below (boxed_below q2'.out HX.out) hG
                have e8 := q2''.cell
                have f8 := q2''.frozen
                have Q2 := hide q2''
                have HW4 := hide (HW3.out.trans ((HX.out.trans (hG.mono HX.out.size)).mono HW3.out.size))
                have HK4 := hide (show KeepsFrom W0.heap.size W3 W4 from ⟨Nat.le_trans HX.out.size hG.size, fun k o hk ho _ => ((hG.block k (Nat.lt_of_lt_of_le (at_lt ho) HX.out.size)).trans (HX.out.block k (at_lt ho))).trans ho⟩)
                clear hG hold hh hd hs hK q2'' hu0 hu1 hu3 hu4 hu5 hu6 hu7 hu8 hu9 hu10 hu11 hu12 hu13 hu14 hu15 hu16 hu17 hu18 hu19 hu20 hu21 hu22 hu23 hu24 hu25 hu26 hu27 hu28 hu29 hu30 hu31 hu32 hu33 hu34 hu35 hu36 hu37
                gi_wp2
                exact ⟨KeepsFrom.trans HK4.out ((KeepsOthers.setCell _ _ _).from _), Q2.out.set _, HW4.out.setCell (p := ⟨g2, 0, none⟩) (by show w.heap.size ≤ g2; omega) _⟩
            · have HD := hide hdrop.out
              clear hdrop
              gi_wp2_with fail
              refine ⟨trivial, (CallsIn.inRound lp (callsIn_wide.2 hN0.out)).mono ?_⟩
              rintro e w1 ⟨rfl, hb1⟩
              obtain ⟨x, rfl⟩ : ∃ x : Later W3, w1 = x.w := ⟨⟨w1, hb1⟩, rfl⟩
              clear hb1 hN0
              gi_wp2_with fail
              refine ⟨trivial, (CallsIn.inRound lp (callsIn_wide.2 (Later.callsL x hM.out))).mono ?_⟩
              rintro e w1 ⟨rfl, x2, rfl⟩
              clear x
              gi_wp2_with fail
              refine ⟨trivial, (CallsIn.inRound lp (callsIn_wide.2 (Later.callsL x2 (fun y => hP.out _ _ _ y rfl HD.out)))).mono ?_⟩
              rintro e w1 ⟨rfl, x, rfl⟩
              clear x2
              gi_wp2
              rename_i K hK
              have y3 := e3 x
              have z0 := s0 x
              have z1' := s1 x
              have z2 := s2 x
              have z3 := s3 x
              have HX := hide x.below
              have lg3 : g3 < x.w.heap.size := Nat.lt_of_lt_of_le (Nat.lt_of_lt_of_le q3.lt HB3.out.size) HX.out.size
              have lg5 : g5 < x.w.heap.size := Nat.lt_of_lt_of_le ltS HX.out.size
              refine wpIn_static (fun _ => trivial) (by kernel_rfl) (fun i => ([.map (some b), .slice (some ad) k c, .slice Aq nq cq, .agg #[.int .u8 kd, .int .i64 lo, .int .i64 hi, .slice Am zl cm], .bool false, .bool true] : List Value).getD i undef) (fun W => Below x.w.heap.size x.w W) (by kernel_rfl) (by kernel_rfl) (by kernel_rfl) (by kernel_rfl) (by kernel_rfl) ?_ ?_ (Below.refl _ _).drew ?_ ?_
              · intro i o jj bb ho hg
                have hi6 : i < 6 := (Array.getElem?_eq_some_iff.1 ho).1
                have hi' : i = 0 ∨ i = 1 ∨ i = 2 ∨ i = 3 ∨ i = 4 ∨ i = 5 := by omega
                rcases hi' with rfl | rfl | rfl | rfl | rfl | rfl <;> (cases ho; cases hg)
              · intro i o ho hg
                have hi6 : i < 6 := (Array.getElem?_eq_some_iff.1 ho).1
                have hi' : i = 0 ∨ i = 1 ∨ i = 2 ∨ i = 3 ∨ i = 4 ∨ i = 5 := by omega
                rcases hi' with rfl | rfl | rfl | rfl | rfl | rfl <;> (cases ho; exact Bool.noConfusion (show true = false from hg))
              · intro i o ho hg a W hG hold hh
                have hi6 : i < 6 := (Array.getElem?_eq_some_iff.1 ho).1
                have hi' : i = 0 ∨ i = 1 ∨ i = 2 ∨ i = 3 ∨ i = 4 ∨ i = 5 := by omega
                rcases hi' with rfl | rfl | rfl | rfl | rfl | rfl
                · cases ho
                  refine static_told ?_ hG
                  have e : a.eval (.tmp 3) = .pointer (some ⟨g3, 0, none⟩) := hold 3 (by kernel_rfl)
                  have d := (hG.cell (p := ⟨g3, 0, none⟩) lg3).trans y3
                  generalize a.eval = ev at e ⊢
                  simp [Oper.semAt_some, execOp, go_sem, e, d]
                · cases ho
                  refine static_told ?_ hG
                  have e : a.eval (.tmp 4) = .slice (some ad) k c := hold 4 (by kernel_rfl)
                  generalize a.eval = ev at e ⊢
                  simp [Oper.semAt_some, execOp, go_sem, e]
                · cases ho
                  refine static_call (f := 64) (args := #[.slice (some ad) k c]) ?_ ((hO.out W (HX.out.trans (hG.mono HX.out.size))).mono (fun e w' h => ⟨h.1, hG.trans (h.2.mono hG.size)⟩))
                  have e : a.eval (.tmp 34) = .slice (some ad) k c := hh 1 rfl
                  have cf : a.eval (.func 64) = .func (.func 64) #[] #[] := rfl
                  generalize a.eval = ev at e cf ⊢
                  simp [Oper.semAt_some, execOp, go_sem, e, cf]
                · cases ho
                  refine static_told ?_ hG
                  have e : a.eval (.tmp 5) = .pointer (some ⟨g5, 0, none⟩) := hold 5 (by kernel_rfl)
                  have d0 := (hG.cell (p := ⟨g5, 0, none⟩) lg5).trans z0
                  have d1 := (hG.cell (p := ⟨g5, 1, none⟩) lg5).trans z1'
                  have d2 := (hG.cell (p := ⟨g5, 2, none⟩) lg5).trans z2
                  have d3 := (hG.cell (p := ⟨g5, 3, none⟩) lg5).trans z3
                  generalize a.eval = ev at e ⊢
                  simp [Oper.semAt_some, execOp, go_sem, e, d0, d1, d2, d3]
                · cases ho
                  refine static_call (f := 63) (args := #[.map (some b), .slice Aq nq cq, .agg #[.int .u8 kd, .int .i64 lo, .int .i64 hi, .slice Am zl cm]]) ?_ ((hU.out W (HX.out.trans (hG.mono HX.out.size))).mono (fun e w' h => ⟨h.1, hG.trans (h.2.mono hG.size)⟩))
                  have e : a.eval (.tmp 33) = .map (some b) := hh 0 rfl
                  have e' : a.eval (.tmp 35) = .slice Aq nq cq := hh 2 rfl
                  have e'' : a.eval (.tmp 36) = .agg #[.int .u8 kd, .int .i64 lo, .int .i64 hi, .slice Am zl cm] := hh 3 rfl
                  have cf : a.eval (.func 63) = .func (.func 63) #[] #[] := rfl
                  generalize a.eval = ev at e e' e'' cf ⊢
                  simp [Oper.semAt_some, execOp, go_sem, e, e', e'', cf]
                · cases ho
                  refine static_told ?_ hG
                  have e : a.eval (.tmp 37) = .bool false := hh 4 rfl
                  generalize a.eval = ev at e ⊢
                  simp [Oper.semAt_some, execOp, go_sem, e]
              · intro a W4 hd hs hold hh hG
                refine hK _ _ ?_
                obtain ⟨u0, hu0⟩ : ∃ u, a.tmps.getD 0 undef = u := ⟨_, rfl⟩
                obtain ⟨u1, hu1⟩ : ∃ u, a.tmps.getD 1 undef = u := ⟨_, rfl⟩
                obtain ⟨u3, hu3⟩ : ∃ u, a.tmps.getD 3 undef = u := ⟨_, rfl⟩
                obtain ⟨u4, hu4⟩ : ∃ u, a.tmps.getD 4 undef = u := ⟨_, rfl⟩
                obtain ⟨u5, hu5⟩ : ∃ u, a.tmps.getD 5 undef = u := ⟨_, rfl⟩
                obtain ⟨u6, hu6⟩ : ∃ u, a.tmps.getD 6 undef = u := ⟨_, rfl⟩
                obtain ⟨u7, hu7⟩ : ∃ u, a.tmps.getD 7 undef = u := ⟨_, rfl⟩
                obtain ⟨u8, hu8⟩ : ∃ u, a.tmps.getD 8 undef = u := ⟨_, rfl⟩
                obtain ⟨u9, hu9⟩ : ∃ u, a.tmps.getD 9 undef = u := ⟨_, rfl⟩
                obtain ⟨u10, hu10⟩ : ∃ u, a.tmps.getD 10 undef = u := ⟨_, rfl⟩
                obtain ⟨u11, hu11⟩ : ∃ u, a.tmps.getD 11 undef = u := ⟨_, rfl⟩
                obtain ⟨u12, hu12⟩ : ∃ u, a.tmps.getD 12 undef = u := ⟨_, rfl⟩
                obtain ⟨u13, hu13⟩ : ∃ u, a.tmps.getD 13 undef = u := ⟨_, rfl⟩
                obtain ⟨u14, hu14⟩ : ∃ u, a.tmps.getD 14 undef = u := ⟨_, rfl⟩
                obtain ⟨u15, hu15⟩ : ∃ u, a.tmps.getD 15 undef = u := ⟨_, rfl⟩
                obtain ⟨u16, hu16⟩ : ∃ u, a.tmps.getD 16 undef = u := ⟨_, rfl⟩
                obtain ⟨u17, hu17⟩ : ∃ u, a.tmps.getD 17 undef = u := ⟨_, rfl⟩
                obtain ⟨u18, hu18⟩ : ∃ u, a.tmps.getD 18 undef = u := ⟨_, rfl⟩
                obtain ⟨u19, hu19⟩ : ∃ u, a.tmps.getD 19 undef = u := ⟨_, rfl⟩
                obtain ⟨u20, hu20⟩ : ∃ u, a.tmps.getD 20 undef = u := ⟨_, rfl⟩
                obtain ⟨u21, hu21⟩ : ∃ u, a.tmps.getD 21 undef = u := ⟨_, rfl⟩
                obtain ⟨u22, hu22⟩ : ∃ u, a.tmps.getD 22 undef = u := ⟨_, rfl⟩
                obtain ⟨u23, hu23⟩ : ∃ u, a.tmps.getD 23 undef = u := ⟨_, rfl⟩
                obtain ⟨u24, hu24⟩ : ∃ u, a.tmps.getD 24 undef = u := ⟨_, rfl⟩
                obtain ⟨u25, hu25⟩ : ∃ u, a.tmps.getD 25 undef = u := ⟨_, rfl⟩
                obtain ⟨u26, hu26⟩ : ∃ u, a.tmps.getD 26 undef = u := ⟨_, rfl⟩
                obtain ⟨u27, hu27⟩ : ∃ u, a.tmps.getD 27 undef = u := ⟨_, rfl⟩
                obtain ⟨u28, hu28⟩ : ∃ u, a.tmps.getD 28 undef = u := ⟨_, rfl⟩
                obtain ⟨u29, hu29⟩ : ∃ u, a.tmps.getD 29 undef = u := ⟨_, rfl⟩
                obtain ⟨u30, hu30⟩ : ∃ u, a.tmps.getD 30 undef = u := ⟨_, rfl⟩
                obtain ⟨u31, hu31⟩ : ∃ u, a.tmps.getD 31 undef = u := ⟨_, rfl⟩
                obtain ⟨u32, hu32⟩ : ∃ u, a.tmps.getD 32 undef = u := ⟨_, rfl⟩
                obtain ⟨u33, hu33⟩ : ∃ u, a.tmps.getD 33 undef = u := ⟨_, rfl⟩
                obtain ⟨u34, hu34⟩ : ∃ u, a.tmps.getD 34 undef = u := ⟨_, rfl⟩
                obtain ⟨u35, hu35⟩ : ∃ u, a.tmps.getD 35 undef = u := ⟨_, rfl⟩
                obtain ⟨u36, hu36⟩ : ∃ u, a.tmps.getD 36 undef = u := ⟨_, rfl⟩
                obtain ⟨u37, hu37⟩ : ∃ u, a.tmps.getD 37 undef = u := ⟨_, rfl⟩
                have ha : a = ⟨#[u0, u1, .pointer (some ⟨g2, 0, none⟩), u3, u4, u5, u6, u7, u8, u9, u10, u11, u12, u13, u14, u15, u16, u17, u18, u19, u20, u21, u22, u23, u24, u25, u26, u27, u28, u29, u30, u31, u32, u33, u34, u35, u36, u37, .bool true], []⟩ := by
                  refine act_lit hd hs (fun t ht => ?_)
                  have ht' : t = 0 ∨ t = 1 ∨ t = 2 ∨ t = 3 ∨ t = 4 ∨ t = 5 ∨ t = 6 ∨ t = 7 ∨ t = 8 ∨ t = 9 ∨ t = 10 ∨ t = 11 ∨ t = 12 ∨ t = 13 ∨ t = 14 ∨ t = 15 ∨ t = 16 ∨ t = 17 ∨ t = 18 ∨ t = 19 ∨ t = 20 ∨ t = 21 ∨ t = 22 ∨ t = 23 ∨ t = 24 ∨ t = 25 ∨ t = 26 ∨ t = 27 ∨ t = 28 ∨ t = 29 ∨ t = 30 ∨ t = 31 ∨ t = 32 ∨ t = 33 ∨ t = 34 ∨ t = 35 ∨ t = 36 ∨ t = 37 ∨ t = 38 := by
                    have : t < 39 := ht
                    omega
                  rcases ht' with rfl | rfl | rfl | rfl | rfl | rfl | rfl | rfl | rfl | rfl | rfl | rfl | rfl | rfl | rfl | rfl | rfl | rfl | rfl | rfl | rfl | rfl | rfl | rfl | rfl | rfl | rfl | rfl | rfl | rfl | rfl | rfl | rfl | rfl | rfl | rfl | rfl | rfl | rfl
                  · exact hu0
                  · exact hu1
                  · exact hold 2 (by kernel_rfl)
                  · exact hu3
                  · exact hu4
                  · exact hu5
                  · exact hu6
                  · exact hu7
                  · exact hu8
                  · exact hu9
                  · exact hu10
                  · exact hu11
                  · exact hu12
                  · exact hu13
                  · exact hu14
                  · exact hu15
                  · exact hu16
                  · exact hu17
                  · exact hu18
                  · exact hu19
                  · exact hu20
                  · exact hu21
                  · exact hu22
                  · exact hu23
                  · exact hu24
                  · exact hu25
                  · exact hu26
                  · exact hu27
                  · exact hu28
                  · exact hu29
                  · exact hu30
                  · exact hu31
                  · exact hu32
                  · exact hu33
                  · exact hu34
                  · exact hu35
                  · exact hu36
                  · exact hu37
                  · exact hh 5 (by decide)
                subst ha
                have q2'' := boxed_below (boxed_below q2'.out HX.out) hG
                have e8 := q2''.cell
                have f8 := q2''.frozen
                have Q2 := hide q2''
                have HW4 := hide (HW3.out.trans ((HX.out.trans (hG.mono HX.out.size)).mono HW3.out.size))
                have HK4 := hide (show KeepsFrom W0.heap.size W3 W4 from ⟨Nat.le_trans HX.out.size hG.size, fun k o hk ho _ => ((hG.block k (Nat.lt_of_lt_of_le (at_lt ho) HX.out.size)).trans (HX.out.block k (at_lt ho))).trans ho⟩)
                clear hG hold hh hd hs hK q2'' hu0 hu1 hu3 hu4 hu5 hu6 hu7 hu8 hu9 hu10 hu11 hu12 hu13 hu14 hu15 hu16 hu17 hu18 hu19 hu20 hu21 hu22 hu23 hu24 hu25 hu26 hu27 hu28 hu29 hu30 hu31 hu32 hu33 hu34 hu35 hu36 hu37
                gi_wp2
                exact ⟨KeepsFrom.trans HK4.out ((KeepsOthers.setCell _ _ _).from _), Q2.out.set _, HW4.out.setCell (p := ⟨g2, 0, none⟩) (by show w.heap.size ≤ g2; omega) _⟩
          · have hv := HX.out
            simp at hv
            have HX0 := hide hv
            clear hv HX HPRE
            by_cases hck : c = k + 1
            · have hmk : m = k + 1 := by omega
              subst hmk
              subst hck
              have HD : Hid (Rd W3 B 4 (some ad) 0 (xcells (l.drop (k + 1)))) := hide ⟨by have := hdrop.out.1; simpa using this, fun h => absurd h (by omega)⟩
              clear hdrop
              gi_wp2_with fail
              refine ⟨trivial, (CallsIn.inRound lp (callsIn_wide.2 hN0.out)).mono ?_⟩
              rintro e w1 ⟨rfl, hb1⟩
              obtain ⟨x, rfl⟩ : ∃ x : Later W3, w1 = x.w := ⟨⟨w1, hb1⟩, rfl⟩
              clear hb1 hN0
              gi_wp2_with fail
              refine ⟨trivial, (CallsIn.inRound lp (callsIn_wide.2 (Later.callsL x hM.out))).mono ?_⟩
              rintro e w1 ⟨rfl, x2, rfl⟩
              clear x
              gi_wp2_with fail
              refine ⟨trivial, (CallsIn.inRound lp (callsIn_wide.2 (Later.callsL x2 (fun y => hP.out _ _ _ y (by omega) HD.out)))).mono ?_⟩
              rintro e w1 ⟨rfl, x, rfl⟩
              clear x2
              gi_wp2
              rename_i K hK
              have y3 := e3 x
              have z0 := s0 x
              have z1' := s1 x
              have z2 := s2 x
              have z3 := s3 x
              have HX := hide x.below
              have lg3 : g3 < x.w.heap.size := Nat.lt_of_lt_of_le (Nat.lt_of_lt_of_le q3.lt HB3.out.size) HX.out.size
              have lg5 : g5 < x.w.heap.size := Nat.lt_of_lt_of_le ltS HX.out.size
              refine wpIn_static (fun _ => trivial) (by kernel_rfl) (fun i => ([.map (some b), .slice (some ad) k (k + 1), .slice Aq nq cq, .agg #[.int .u8 kd, .int .i64 lo, .int .i64 hi, .slice Am zl cm], .bool true, .bool false] : List Value).getD i undef) (fun W => Below x.w.heap.size x.w W) (by kernel_rfl) (by kernel_rfl) (by kernel_rfl) (by kernel_rfl) (by kernel_rfl) ?_ ?_ (Below.refl _ _).drew ?_ ?_
              · intro i o jj bb ho hg
                have hi6 : i < 6 := (Array.getElem?_eq_some_iff.1 ho).1
                have hi' : i = 0 ∨ i = 1 ∨ i = 2 ∨ i = 3 ∨ i = 4 ∨ i = 5 := by omega
                rcases hi' with rfl | rfl | rfl | rfl | rfl | rfl <;> (cases ho; cases hg)
              · intro i o ho hg
                have hi6 : i < 6 := (Array.getElem?_eq_some_iff.1 ho).1
                have hi' : i = 0 ∨ i = 1 ∨ i = 2 ∨ i = 3 ∨ i = 4 ∨ i = 5 := by omega
                rcases hi' with rfl | rfl | rfl | rfl | rfl | rfl <;> (cases ho; exact Bool.noConfusion (show true = false from hg))
              · intro i o ho hg a W hG hold hh
                have hi6 : i < 6 := (Array.getElem?_eq_some_iff.1 ho).1
                have hi' : i = 0 ∨ i = 1 ∨ i = 2 ∨ i = 3 ∨ i = 4 ∨ i = 5 := by omega
                rcases hi' with rfl | rfl | rfl | rfl | rfl | rfl
                · cases ho
                  refine static_told ?_ hG
                  have e : a.eval (.tmp 3) = .pointer (some ⟨g3, 0, none⟩) := hold 3 (by kernel_rfl)
                  have d := (hG.cell (p := ⟨g3, 0, none⟩) lg3).trans y3
                  generalize a.eval = ev at e ⊢
                  simp [Oper.semAt_some, execOp, go_sem, e, d]
                · cases ho
                  refine static_told ?_ hG
                  have e : a.eval (.tmp 4) = .slice (some ad) k (k + 1) := hold 4 (by kernel_rfl)
                  generalize a.eval = ev at e ⊢
                  simp [Oper.semAt_some, execOp, go_sem, e]
                · cases ho
                  refine static_call (f := 64) (args := #[.slice (some ad) k (k + 1)]) ?_ ((hO.out W (HX.out.trans (hG.mono HX.out.size))).mono (fun e w' h => ⟨h.1, hG.trans (h.2.mono hG.size)⟩))
                  have e : a.eval (.tmp 34) = .slice (some ad) k (k + 1) := hh 1 rfl
                  have cf : a.eval (.func 64) = .func (.func 64) #[] #[] := rfl
                  generalize a.eval = ev at e cf ⊢
                  simp [Oper.semAt_some, execOp, go_sem, e, cf]
                · cases ho
                  refine static_told ?_ hG
                  have e : a.eval (.tmp 5) = .pointer (some ⟨g5, 0, none⟩) := hold 5 (by kernel_rfl)
                  have d0 := (hG.cell (p := ⟨g5, 0, none⟩) lg5).trans z0
                  have d1 := (hG.cell (p := ⟨g5, 1, none⟩) lg5).trans z1'
                  have d2 := (hG.cell (p := ⟨g5, 2, none⟩) lg5).trans z2
                  have d3 := (hG.cell (p := ⟨g5, 3, none⟩) lg5).trans z3
                  generalize a.eval = ev at e ⊢
                  simp [Oper.semAt_some, execOp, go_sem, e, d0, d1, d2, d3]
                · cases ho
                  refine static_call (f := 63) (args := #[.map (some b), .slice Aq nq cq, .agg #[.int .u8 kd, .int .i64 lo, .int .i64 hi, .slice Am zl cm]]) ?_ ((hU.out W (HX.out.trans (hG.mono HX.out.size))).mono (fun e w' h => ⟨h.1, hG.trans (h.2.mono hG.size)⟩))
                  have e : a.eval (.tmp 33) = .map (some b) := hh 0 rfl
                  have e' : a.eval (.tmp 35) = .slice Aq nq cq := hh 2 rfl
                  have e'' : a.eval (.tmp 36) = .agg #[.int .u8 kd, .int .i64 lo, .int .i64 hi, .slice Am zl cm] := hh 3 rfl
                  have cf : a.eval (.func 63) = .func (.func 63) #[] #[] := rfl
                  generalize a.eval = ev at e e' e'' cf ⊢
                  simp [Oper.semAt_some, execOp, go_sem, e, e', e'', cf]
                · cases ho
                  refine static_told ?_ hG
                  have e : a.eval (.tmp 37) = .bool true := hh 4 rfl
                  generalize a.eval = ev at e ⊢
                  simp [Oper.semAt_some, execOp, go_sem, e]
              · intro a W4 hd hs hold hh hG
                refine hK _ _ ?_
                obtain ⟨u0, hu0⟩ : ∃ u, a.tmps.getD 0 undef = u := ⟨_, rfl⟩
                obtain ⟨u1, hu1⟩ : ∃ u, a.tmps.getD 1 undef = u := ⟨_, rfl⟩
                obtain ⟨u2, hu2⟩ : ∃ u, a.tmps.getD 2 undef = u := ⟨_, rfl⟩
                obtain ⟨u3, hu3⟩ : ∃ u, a.tmps.getD 3 undef = u := ⟨_, rfl⟩
                obtain ⟨u4, hu4⟩ : ∃ u, a.tmps.getD 4 undef = u := ⟨_, rfl⟩
                obtain ⟨u5, hu5⟩ : ∃ u, a.tmps.getD 5 undef = u := ⟨_, rfl⟩
                obtain ⟨u6, hu6⟩ : ∃ u, a.tmps.getD 6 undef = u := ⟨_, rfl⟩
                obtain ⟨u7, hu7⟩ : ∃ u, a.tmps.getD 7 undef = u := ⟨_, rfl⟩
                obtain ⟨u8, hu8⟩ : ∃ u, a.tmps.getD 8 undef = u := ⟨_, rfl⟩
                obtain ⟨u9, hu9⟩ : ∃ u, a.tmps.getD 9 undef = u := ⟨_, rfl⟩
                obtain ⟨u10, hu10⟩ : ∃ u, a.tmps.getD 10 undef = u := ⟨_, rfl⟩
                obtain ⟨u11, hu11⟩ : ∃ u, a.tmps.getD 11 undef = u := ⟨_, rfl⟩
                obtain ⟨u12, hu12⟩ : ∃ u, a.tmps.getD 12 undef = u := ⟨_, rfl⟩
                obtain ⟨u13, hu13⟩ : ∃ u, a.tmps.getD 13 undef = u := ⟨_, rfl⟩
                obtain ⟨u14, hu14⟩ : ∃ u, a.tmps.getD 14 undef = u := ⟨_, rfl⟩
                obtain ⟨u15, hu15⟩ : ∃ u, a.tmps.getD 15 undef = u := ⟨_, rfl⟩
                obtain ⟨u16, hu16⟩ : ∃ u, a.tmps.getD 16 undef = u := ⟨_, rfl⟩
                obtain ⟨u17, hu17⟩ : ∃ u, a.tmps.getD 17 undef = u := ⟨_, rfl⟩
                obtain ⟨u18, hu18⟩ : ∃ u, a.tmps.getD 18 undef = u := ⟨_, rfl⟩
                obtain ⟨u19, hu19⟩ : ∃ u, a.tmps.getD 19 undef = u := ⟨_, rfl⟩
                obtain ⟨u20, hu20⟩ : ∃ u, a.tmps.getD 20 undef = u := ⟨_, rfl⟩
                obtain ⟨u21, hu21⟩ : ∃ u, a.tmps.getD 21 undef = u := ⟨_, rfl⟩
                obtain ⟨u22, hu22⟩ : ∃ u, a.tmps.getD 22 undef = u := ⟨_, rfl⟩
                obtain ⟨u23, hu23⟩ : ∃ u, a.tmps.getD 23 undef = u := ⟨_, rfl⟩
                obtain ⟨u24, hu24⟩ : ∃ u, a.tmps.getD 24 undef = u := ⟨_, rfl⟩
                obtain ⟨u25, hu25⟩ : ∃ u, a.tmps.getD 25 undef = u := ⟨_, rfl⟩
                obtain ⟨u26, hu26⟩ : ∃ u, a.tmps.getD 26 undef = u := ⟨_, rfl⟩
                obtain ⟨u27, hu27⟩ : ∃ u, a.tmps.getD 27 undef = u := ⟨_, rfl⟩
                obtain ⟨u28, hu28⟩ : ∃ u, a.tmps.getD 28 undef = u := ⟨_, rfl⟩
                obtain ⟨u29, hu29⟩ : ∃ u, a.tmps.getD 29 undef = u := ⟨_, rfl⟩
                obtain ⟨u30, hu30⟩ : ∃ u, a.tmps.getD 30 undef = u := ⟨_, rfl⟩
                obtain ⟨u31, hu31⟩ : ∃ u, a.tmps.getD 31 undef = u := ⟨_, rfl⟩
                obtain ⟨u32, hu32⟩ : ∃ u, a.tmps.getD 32 undef = u := ⟨_, rfl⟩
                obtain ⟨u33, hu33⟩ : ∃ u, a.tmps.getD 33 undef = u := ⟨_, rfl⟩
                obtain ⟨u34, hu34⟩ : ∃ u, a.tmps.getD 34 undef = u := ⟨_, rfl⟩
                obtain ⟨u35, hu35⟩ : ∃ u, a.tmps.getD 35 undef = u := ⟨_, rfl⟩
                obtain ⟨u36, hu36⟩ : ∃ u, a.tmps.getD 36 undef = u := ⟨_, rfl⟩
                obtain ⟨u37, hu37⟩ : ∃ u, a.tmps.getD 37 undef = u := ⟨_, rfl⟩
                have ha : a = ⟨#[u0, u1, u2, u3, u4, u5, u6, u7, u8, u9, u10, u11, u12, u13, u14, u15, u16, u17, u18, u19, u20, u21, u22, u23, u24, u25, u26, u27, u28, u29, u30, u31, u32, u33, u34, u35, u36, u37, .bool false], []⟩ := by
                  refine act_lit hd hs (fun t ht => ?_)
                  have ht' : t = 0 ∨ t = 1 ∨ t = 2 ∨ t = 3 ∨ t = 4 ∨ t = 5 ∨ t = 6 ∨ t = 7 ∨ t = 8 ∨ t = 9 ∨ t = 10 ∨ t = 11 ∨ t = 12 ∨ t = 13 ∨ t = 14 ∨ t = 15 ∨ t = 16 ∨ t = 17 ∨ t = 18 ∨ t = 19 ∨ t = 20 ∨ t = 21 ∨ t = 22 ∨ t = 23 ∨ t = 24 ∨ t = 25 ∨ t = 26 ∨ t = 27 ∨ t = 28 ∨ t = 29 ∨ t = 30 ∨ t = 31 ∨ t = 32 ∨ t = 33 ∨ t = 34 ∨ t = 35 ∨ t = 36 ∨ t = 37 ∨ t = 38 := by
                    have : t < 39 := ht
                    omega
                  rcases ht' with rfl | rfl | rfl | rfl | rfl | rfl | rfl | rfl | rfl | rfl | rfl | rfl | rfl | rfl | rfl | rfl | rfl | rfl | rfl | rfl | rfl | rfl | rfl | rfl | rfl | rfl | rfl | rfl | rfl | rfl | rfl | rfl | rfl | rfl | rfl | rfl | rfl | rfl | rfl
                  · exact hu0
                  · exact hu1
                  · exact hu2
                  · exact hu3
                  · exact hu4
                  · exact hu5
                  · exact hu6
                  · exact hu7
                  · exact hu8
                  · exact hu9
                  · exact hu10
                  · exact hu11
                  · exact hu12
                  · exact hu13
                  · exact hu14
                  · exact hu15
                  · exact hu16
                  · exact hu17
                  · exact hu18
                  · exact hu19
                  · exact hu20
                  · exact hu21
                  · exact hu22
                  · exact hu23
                  · exact hu24
                  · exact hu25
                  · exact hu26
                  · exact hu27
                  · exact hu28
                  · exact hu29
                  · exact hu30
                  · exact hu31
                  · exact hu32
                  · exact hu33
                  · exact hu34
                  · exact hu35
                  · exact hu36
                  · exact hu37
                  · exact hh 5 (by decide)
                subst ha
                have HW4 := hide (HX.out.trans (hG.mono HX.out.size))
                clear hG hold hh hd hs hK hu0 hu1 hu2 hu3 hu4 hu5 hu6 hu7 hu8 hu9 hu10 hu11 hu12 hu13 hu14 hu15 hu16 hu17 hu18 hu19 hu20 hu21 hu22 hu23 hu24 hu25 hu26 hu27 hu28 hu29 hu30 hu31 hu32 hu33 hu34 hu35 hu36 hu37
                gi_wp2
                exact ⟨⟨HW4.out.size, fun k o hk ho _ => (HW4.out.block k (at_lt ho)).trans ho⟩, .of_below (by omega) (by have := HB3.out.size; omega) HW4.out, ⟨HB3.out.trans (HW4.out.mono HB3.out.size), HZ.out.snoc HX0.out⟩⟩
            · have HD := hide hdrop.out
              clear hdrop
              gi_wp2_with fail
              refine ⟨trivial, (CallsIn.inRound lp (callsIn_wide.2 hN0.out)).mono ?_⟩
              rintro e w1 ⟨rfl, hb1⟩
              obtain ⟨x, rfl⟩ : ∃ x : Later W3, w1 = x.w := ⟨⟨w1, hb1⟩, rfl⟩
              clear hb1 hN0
              gi_wp2_with fail
              refine ⟨trivial, (CallsIn.inRound lp (callsIn_wide.2 (Later.callsL x hM.out))).mono ?_⟩
              rintro e w1 ⟨rfl, x2, rfl⟩
              clear x
              gi_wp2_with fail
              refine ⟨trivial, (CallsIn.inRound lp (callsIn_wide.2 (Later.callsL x2 (fun y => hP.out _ _ _ y rfl HD.out)))).mono ?_⟩
              rintro e w1 ⟨rfl, x, rfl⟩
              clear x2
              gi_wp2
              rename_i K hK
              have y3 := e3 x
              have z0 := s0 x
              have z1' := s1 x
              have z2 := s2 x
              have z3 := s3 x
              have HX := hide x.below
              have lg3 : g3 < x.w.heap.size := Nat.lt_of_lt_of_le (Nat.lt_of_lt_of_le q3.lt HB3.out.size) HX.out.size
              have lg5 : g5 < x.w.heap.size := Nat.lt_of_lt_of_le ltS HX.out.size
              refine wpIn_static (fun _ => trivial) (by kernel_rfl) (fun i => ([.map (some b), .slice (some ad) k c, .slice Aq nq cq, .agg #[.int .u8 kd, .int .i64 lo, .int .i64 hi, .slice Am zl cm], .bool true, .bool false] : List Value).getD i undef) (fun W => Below x.w.heap.size x.w W) (by kernel_rfl) (by kernel_rfl) (by kernel_rfl) (by kernel_rfl) (by kernel_rfl) ?_ ?_ (Below.refl _ _).drew ?_ ?_
              · intro i o jj bb ho hg
                have hi6 : i < 6 := (Array.getElem?_eq_some_iff.1 ho).1
                have hi' : i = 0 ∨ i = 1 ∨ i = 2 ∨ i = 3 ∨ i = 4 ∨ i = 5 := by omega
                rcases hi' with rfl | rfl | rfl | rfl | rfl | rfl <;> (cases ho; cases hg)
              · intro i o ho hg
                have hi6 : i < 6 := (Array.getElem?_eq_some_iff.1 ho).1
                have hi' : i = 0 ∨ i = 1 ∨ i = 2 ∨ i = 3 ∨ i = 4 ∨ i = 5 := by omega
                rcases hi' with rfl | rfl | rfl | rfl | rfl | rfl <;> (cases ho; exact Bool.noConfusion (show true = false from hg))
              · intro i o ho hg a W hG hold hh
                have hi6 : i < 6 := (Array.getElem?_eq_some_iff.1 ho).1
                have hi' : i = 0 ∨ i = 1 ∨ i = 2 ∨ i = 3 ∨ i = 4 ∨ i = 5 := by omega
                rcases hi' with rfl | rfl | rfl | rfl | rfl | rfl
                · cases ho
                  refine static_told ?_ hG
                  have e : a.eval (.tmp 3) = .pointer (some ⟨g3, 0, none⟩) := hold 3 (by kernel_rfl)
                  have d := (hG.cell (p := ⟨g3, 0, none⟩) lg3).trans y3
                  generalize a.eval = ev at e ⊢
                  simp [Oper.semAt_some, execOp, go_sem, e, d]
                · cases ho
                  refine static_told ?_ hG
                  have e : a.eval (.tmp 4) = .slice (some ad) k c := hold 4 (by kernel_rfl)
                  generalize a.eval = ev at e ⊢
                  simp [Oper.semAt_some, execOp, go_sem, e]
                · cases ho
                  refine static_call (f := 64) (args := #[.slice (some ad) k c]) ?_ ((hO.out W (HX.out.trans (hG.mono HX.out.size))).mono (fun e w' h => ⟨h.1, hG.trans (h.2.mono hG.size)⟩))
                  have e : a.eval (.tmp 34) = .slice (some ad) k c := hh 1 rfl
                  have cf : a.eval (.func 64) = .func (.func 64) #[] #[] := rfl
                  generalize a.eval = ev at e cf ⊢
                  simp [Oper.semAt_some, execOp, go_sem, e, cf]
                · cases ho
                  refine static_told ?_ hG
                  have e : a.eval (.tmp 5) = .pointer (some ⟨g5, 0, none⟩) := hold 5 (by kernel_rfl)
                  have d0 := (hG.cell (p := ⟨g5, 0, none⟩) lg5).trans z0
                  have d1 := (hG.cell (p := ⟨g5, 1, none⟩) lg5).trans z1'
                  have d2 := (hG.cell (p := ⟨g5, 2, none⟩) lg5).trans z2
                  have d3 := (hG.cell (p := ⟨g5, 3, none⟩) lg5).trans z3
                  generalize a.eval = ev at e ⊢
                  simp [Oper.semAt_some, execOp, go_sem, e, d0, d1, d2, d3]
                · cases ho
                  refine static_call (f := 63) (args := #[.map (some b), .slice Aq nq cq, .agg #[.int .u8 kd, .int .i64 lo, .int .i64 hi, .slice Am zl cm]]) ?_ ((hU.out W (HX.out.trans (hG.mono HX.out.size))).mono (fun e w' h => ⟨h.1, hG.trans (h.2.mono hG.size)⟩))
                  have e : a.eval (.tmp 33) = .map (some b) := hh 0 rfl
                  have e' : a.eval (.tmp 35) = .slice Aq nq cq := hh 2 rfl
                  have e'' : a.eval (.tmp 36) = .agg #[.int .u8 kd, .int .i64 lo, .int .i64 hi, .slice Am zl cm] := hh 3 rfl
                  have cf : a.eval (.func 63) = .func (.func 63) #[] #[] := rfl
                  generalize a.eval = ev at e e' e'' cf ⊢
                  simp [Oper.semAt_some, execOp, go_sem, e, e', e'', cf]
                · cases ho
                  refine static_told ?_ hG
                  have e : a.eval (.tmp 37) = .bool true := hh 4 rfl
                  generalize a.eval = ev at e ⊢
                  simp [Oper.semAt_some, execOp, go_sem, e]
              · intro a W4 hd hs hold hh hG
                refine hK _ _ ?_
                obtain ⟨u0, hu0⟩ : ∃ u, a.tmps.getD 0 undef = u := ⟨_, rfl⟩
                obtain ⟨u1, hu1⟩ : ∃ u, a.tmps.getD 1 undef = u := ⟨_, rfl⟩
                obtain ⟨u2, hu2⟩ : ∃ u, a.tmps.getD 2 undef = u := ⟨_, rfl⟩
                obtain ⟨u3, hu3⟩ : ∃ u, a.tmps.getD 3 undef = u := ⟨_, rfl⟩
                obtain ⟨u4, hu4⟩ : ∃ u, a.tmps.getD 4 undef = u := ⟨_, rfl⟩
                obtain ⟨u5, hu5⟩ : ∃ u, a.tmps.getD 5 undef = u := ⟨_, rfl⟩
                obtain ⟨u6, hu6⟩ : ∃ u, a.tmps.getD 6 undef = u := ⟨_, rfl⟩
                obtain ⟨u7, hu7⟩ : ∃ u, a.tmps.getD 7 undef = u := ⟨_, rfl⟩
                obtain ⟨u8, hu8⟩ : ∃ u, a.tmps.getD 8 undef = u := ⟨_, rfl⟩
                obtain ⟨u9, hu9⟩ : ∃ u, a.tmps.getD 9 undef = u := ⟨_, rfl⟩
                obtain ⟨u10, hu10⟩ : ∃ u, a.tmps.getD 10 undef = u := ⟨_, rfl⟩
                obtain ⟨u11, hu11⟩ : ∃ u, a.tmps.getD 11 undef = u := ⟨_, rfl⟩
                obtain ⟨u12, hu12⟩ : ∃ u, a.tmps.getD 12 undef = u := ⟨_, rfl⟩
                obtain ⟨u13, hu13⟩ : ∃ u, a.tmps.getD 13 undef = u := ⟨_, rfl⟩
                obtain ⟨u14, hu14⟩ : ∃ u, a.tmps.getD 14 undef = u := ⟨_, rfl⟩
                obtain ⟨u15, hu15⟩ : ∃ u, a.tmps.getD 15 undef = u := ⟨_, rfl⟩
                obtain ⟨u16, hu16⟩ : ∃ u, a.tmps.getD 16 undef = u := ⟨_, rfl⟩
                obtain ⟨u17, hu17⟩ : ∃ u, a.tmps.getD 17 undef = u := ⟨_, rfl⟩
                obtain ⟨u18, hu18⟩ : ∃ u, a.tmps.getD 18 undef = u := ⟨_, rfl⟩
                obtain ⟨u19, hu19⟩ : ∃ u, a.tmps.getD 19 undef = u := ⟨_, rfl⟩
                obtain ⟨u20, hu20⟩ : ∃ u, a.tmps.getD 20 undef = u := ⟨_, rfl⟩
                obtain ⟨u21, hu21⟩ : ∃ u, a.tmps.getD 21 undef = u := ⟨_, rfl⟩
                obtain ⟨u22, hu22⟩ : ∃ u, a.tmps.getD 22 undef = u := ⟨_, rfl⟩
                obtain ⟨u23, hu23⟩ : ∃ u, a.tmps.getD 23 undef = u := ⟨_, rfl⟩
                obtain ⟨u24, hu24⟩ : ∃ u, a.tmps.getD 24 undef = u := ⟨_, rfl⟩
                obtain ⟨u25, hu25⟩ : ∃ u, a.tmps.getD 25 undef = u := ⟨_, rfl⟩
                obtain ⟨u26, hu26⟩ : ∃ u, a.tmps.getD 26 undef = u := ⟨_, rfl⟩
                obtain ⟨u27, hu27⟩ : ∃ u, a.tmps.getD 27 undef = u := ⟨_, rfl⟩
                obtain ⟨u28, hu28⟩ : ∃ u, a.tmps.getD 28 undef = u := ⟨_, rfl⟩
                obtain ⟨u29, hu29⟩ : ∃ u, a.tmps.getD 29 undef = u := ⟨_, rfl⟩
                obtain ⟨u30, hu30⟩ : ∃ u, a.tmps.getD 30 undef = u := ⟨_, rfl⟩
                obtain ⟨u31, hu31⟩ : ∃ u, a.tmps.getD 31 undef = u := ⟨_, rfl⟩
                obtain ⟨u32, hu32⟩ : ∃ u, a.tmps.getD 32 undef = u := ⟨_, rfl⟩
                obtain ⟨u33, hu33⟩ : ∃ u, a.tmps.getD 33 undef = u := ⟨_, rfl⟩
                obtain ⟨u34, hu34⟩ : ∃ u, a.tmps.getD 34 undef = u := ⟨_, rfl⟩
                obtain ⟨u35, hu35⟩ : ∃ u, a.tmps.getD 35 undef = u := ⟨_, rfl⟩
                obtain ⟨u36, hu36⟩ : ∃ u, a.tmps.getD 36 undef = u := ⟨_, rfl⟩
                obtain ⟨u37, hu37⟩ : ∃ u, a.tmps.getD 37 undef = u := ⟨_, rfl⟩
                have ha : a = ⟨#[u0, u1, u2, u3, u4, u5, u6, u7, u8, u9, u10, u11, u12, u13, u14, u15, u16, u17, u18, u19, u20, u21, u22, u23, u24, u25, u26, u27, u28, u29, u30, u31, u32, u33, u34, u35, u36, u37, .bool false], []⟩ := by
                  refine act_lit hd hs (fun t ht => ?_)
                  have ht' : t = 0 ∨ t = 1 ∨ t = 2 ∨ t = 3 ∨ t = 4 ∨ t = 5 ∨ t = 6 ∨ t = 7 ∨ t = 8 ∨ t = 9 ∨ t = 10 ∨ t = 11 ∨ t = 12 ∨ t = 13 ∨ t = 14 ∨ t = 15 ∨ t = 16 ∨ t = 17 ∨ t = 18 ∨ t = 19 ∨ t = 20 ∨ t = 21 ∨ t = 22 ∨ t = 23 ∨ t = 24 ∨ t = 25 ∨ t = 26 ∨ t = 27 ∨ t = 28 ∨ t = 29 ∨ t = 30 ∨ t = 31 ∨ t = 32 ∨ t = 33 ∨ t = 34 ∨ t = 35 ∨ t = 36 ∨ t = 37 ∨ t = 38 := by
                    have : t < 39 := ht
                    omega
                  rcases ht' with rfl | rfl | rfl | rfl | rfl | rfl | rfl | rfl | rfl | rfl | rfl | rfl | rfl | rfl | rfl | rfl | rfl | rfl | rfl | rfl | rfl | rfl | rfl | rfl | rfl | rfl | rfl | rfl | rfl | rfl | rfl | rfl | rfl | rfl | rfl | rfl | rfl | rfl | rfl
                  · exact hu0
                  · exact hu1
                  · exact hu2
                  · exact hu3
                  · exact hu4
                  · exact hu5
                  · exact hu6
                  · exact hu7
                  · exact hu8
                  · exact hu9
                  · exact hu10
                  · exact hu11
                  · exact hu12
                  · exact hu13
                  · exact hu14
                  · exact hu15
                  · exact hu16
                  · exact hu17
                  · exact hu18
                  · exact hu19
                  · exact hu20
                  · exact hu21
                  · exact hu22
                  · exact hu23
                  · exact hu24
                  · exact hu25
                  · exact hu26
                  · exact hu27
                  · exact hu28
                  · exact hu29
                  · exact hu30
                  · exact hu31
                  · exact hu32
                  · exact hu33
                  · exact hu34
                  · exact hu35
                  · exact hu36
                  · exact hu37
                  · exact hh 5 (by decide)
                subst ha
                have HW4 := hide (HX.out.trans (hG.mono HX.out.size))
                clear hG hold hh hd hs hK hu0 hu1 hu2 hu3 hu4 hu5 hu6 hu7 hu8 hu9 hu10 hu11 hu12 hu13 hu14 hu15 hu16 hu17 hu18 hu19 hu20 hu21 hu22 hu23 hu24 hu25 hu26 hu27 hu28 hu29 hu30 hu31 hu32 hu33 hu34 hu35 hu36 hu37
                gi_wp2
                exact ⟨⟨HW4.out.size, fun k o hk ho _ => (HW4.out.block k (at_lt ho)).trans ho⟩, .of_below (by omega) (by have := HB3.out.size; omega) HW4.out, ⟨HB3.out.trans (HW4.out.mono HB3.out.size), HZ.out.snoc HX0.out⟩⟩
  case done =>
    rintro D xs W hD rfl ⟨h1, hz⟩ hdef
    obtain rfl : EL = 0 := HEL.out.symm.trans (errL_zero hz)
    clear HEL hz
    have e8 := (boxed_below q2 h1).cell
    have f8 := (boxed_below q2 h1).frozen
    have q8' := hide (boxed_below q2 h1)
    have HW := hide (HBW.out.trans (h1.mono HBW.out.size))
    have HDEF := hide hdef
    clear h1 hdef
    gi_wp2
    have hK := (KeepsOthers.setCell W ⟨g2, 0, none⟩ (.int .i64 0)).same D _ HDEF.out rfl
    refine ⟨by simp, .inl ⟨_, _, rfl, run_takeDeferred hK, ?_⟩⟩
    have hst := Stays.putObj (B := w.heap.size) (.deferred none) (by omega) hK rfl
    have r8 := (hst.boxed (q8'.out.set (.int .i64 0))).cell
    exact ⟨.int .i64 0, by simp [results, Try.results35, go_sem, r8], rfl, hst.below (Nat.le_refl _) (Nat.le_refl _) (HW.out.setCell (p := ⟨g2, 0, none⟩) (by show w.heap.size ≤ g2; omega) _)⟩
  case stop =>
    rintro D xs W hD ⟨h5, h7⟩ hdef
    clear HEL
    gi_wp2
    refine ⟨by simp, .inl ⟨_, _, rfl, run_takeDeferred hdef, ?_⟩⟩
    have hst := Stays.putObj (B := w.heap.size) (.deferred none) (by omega) hdef rfl
    have r8 := (hst.boxed h5).cell
    exact ⟨.int .i64 EL, by simp [results, Try.results35, go_sem, r8], rfl, hst.below (Nat.le_refl _) (Nat.le_refl _) h7⟩
end Go.Proofs.Ytedjmgiblkjonaa
