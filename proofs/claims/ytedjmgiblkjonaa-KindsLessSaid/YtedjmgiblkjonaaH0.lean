/-
  Needs and fields: what one must be, and which is above which.
-/
import Derived.Test.YtedjmgiblkjonaaH1
import Derived.Test.YtedjmgiblkjonaaD6
import Derived.IntWalk
namespace Go.Proofs.Ytedjmgiblkjonaa
open Go.RowKit Go.Maps
set_option linter.unusedVariables false

def needErr (x : NeedM) : Int := if (numberM x.helper && versionM x.major x.minor) = true then 0 else 34
def needAbv (q x : NeedM) : Bool := decide (q.helper < x.helper)
set_option maxRecDepth 100000 in
theorem needErr_any (x : NeedM) (w : World) : Calls Try.prog 50 #[.agg #[.int .i64 x.helper, .int .i64 x.major, .int .i64 x.minor]] w fun e w' => e = .returned (.int .i64 (needErr x)) ∧ Below w.heap.size w w' := by
  obtain ⟨h, mj, mn⟩ := x
  have hN := hide (fun w => numbered_any h mj mn w)
  have hU := hide (fun b w => unless_any b 34 w)
  have HR : Hid (needErr ⟨h, mj, mn⟩ = if (numberM h && versionM mj mn) = true then 0 else 34) := hide rfl
  simp only
  generalize (numberM h && versionM mj mn) = nb at *
  have HB := hide (below1 w (.cells #[.int .i64 h, .int .i64 mj, .int .i64 mn] 99))
  cases nb
  all_goals
    go_enter Try.func50, Try.ntmps50
    go_wp2_with fail
    ((with_reducible refine (hN.out _).mono ?_))
    rintro e w1 ⟨rfl, hb⟩
    have HX := hide (HB.out.trans (hb.mono HB.out.size))
    clear hb
    go_wp2_with fail
    ((with_reducible refine (hU.out _ _).mono ?_))
    rintro e w2 ⟨rfl, rfl⟩
    go_wp2
    go_ret
    exact ⟨by rw [HR.out]; rfl, HX.out⟩
set_option maxRecDepth 100000 in
theorem needAbv_any (q x : NeedM) (w : World) : Calls Try.prog 51 #[.agg #[.int .i64 q.helper, .int .i64 q.major, .int .i64 q.minor], .agg #[.int .i64 x.helper, .int .i64 x.major, .int .i64 x.minor]] w fun e w' => e = .returned (.bool (needAbv q x)) ∧ Below w.heap.size w w' := by
  obtain ⟨h, mj, mn⟩ := q
  obtain ⟨h', mj', mn'⟩ := x
  simp only
  have HB := hide (below2 w (.cells #[.int .i64 h, .int .i64 mj, .int .i64 mn] 99) (.cells #[.int .i64 h', .int .i64 mj', .int .i64 mn'] 99))
  go_enter Try.func51, Try.ntmps51
  go_wp2
  go_ret
  exact ⟨rfl, HB.out⟩
def liesM (f : FieldM) (ctx : Int) : Bool := if f.size = 1 ∨ f.size = 2 ∨ f.size = 4 ∨ f.size = 8 then inI 0 (wrap64 (ctx - f.size)) f.off && f.off.tmod f.size == 0 else false
def rkindM (f : FieldM) : Bool := if f.kind = 1 then true else if f.kind = 2 ∨ f.kind = 3 then f.size == 8 && !f.write else false
def fieldErr (ctx : Int) (f : FieldM) : Int := if (liesM f ctx && rkindM f) = true then 0 else 22
def fieldAbv (q x : FieldM) : Bool := decide (wrap64 (q.off + q.size) ≤ x.off)
set_option maxRecDepth 100000 in
theorem fieldAbv_any (q x : FieldM) (w : World) : Calls Try.prog 82 #[.agg #[.int .i64 q.off, .int .i64 q.size, .int .u8 q.kind, .bool q.write], .agg #[.int .i64 x.off, .int .i64 x.size, .int .u8 x.kind, .bool x.write]] w fun e w' => e = .returned (.bool (fieldAbv q x)) ∧ Below w.heap.size w w' := by
  obtain ⟨o, s, k, r⟩ := q
  obtain ⟨o', s', k', r'⟩ := x
  simp only
  have HB := hide (below2 w (.cells #[.int .i64 o, .int .i64 s, .int .u8 k, .bool r] 65) (.cells #[.int .i64 o', .int .i64 s', .int .u8 k', .bool r'] 65))
  go_enter Try.func82, Try.ntmps82
  go_wp2
  go_ret
  exact ⟨rfl, HB.out⟩
set_option maxRecDepth 100000 in
set_option maxHeartbeats 1000000 in
theorem rkind_any (f : FieldM) (w : World) : Calls Try.prog 80 #[.agg #[.int .i64 f.off, .int .i64 f.size, .int .u8 f.kind, .bool f.write]] w fun e w' => e = .returned (.bool (rkindM f)) ∧ Below w.heap.size w w' := by
  obtain ⟨o, s, k, r⟩ := f
  simp only
  have HR : Hid (rkindM ⟨o, s, k, r⟩ = if k = 1 then true else if k = 2 ∨ k = 3 then s == 8 && !r else false) := hide rfl
  have HB := hide (below1 w (.cells #[.int .i64 o, .int .i64 s, .int .u8 k, .bool r] 65))
  by_cases k1 : k = 1
  · subst k1
    go_enter Try.func80, Try.ntmps80
    go_wp2
    go_ret
    exact ⟨by rw [HR.out]; rfl, HB.out⟩
  · have e1 : (k == 1) = false := by simpa using k1
    by_cases k23 : k = 2 ∨ k = 3
    · have HR2 : Hid (rkindM ⟨o, s, k, r⟩ = (s == 8 && !r)) := hide (by rw [HR.out, if_neg k1, if_pos k23])
      clear HR k1
      rcases k23 with rfl | rfl
      all_goals
        by_cases s8 : s = 8
        · subst s8
          go_enter Try.func80, Try.ntmps80
          go_wp2
          go_ret
          exact ⟨by rw [HR2.out]; simp, HB.out⟩
        · have e8 : (s == 8) = false := by simpa using s8
          go_enter Try.func80, Try.ntmps80
          go_wp2
          go_ret
          exact ⟨by rw [HR2.out, e8]; rfl, HB.out⟩
    · have HR2 : Hid (rkindM ⟨o, s, k, r⟩ = false) := hide (by rw [HR.out, if_neg k1, if_neg k23])
      have e2 : (k == 2) = false := by simp; omega
      have e3 : (k == 3) = false := by simp; omega
      clear HR k1 k23
      go_enter Try.func80, Try.ntmps80
      go_wp2
      go_ret
      exact ⟨by rw [HR2.out]; rfl, HB.out⟩
set_option maxRecDepth 100000 in
set_option maxHeartbeats 2000000 in
theorem lies_any (f : FieldM) (ctx : Int) (w : World) : Calls Try.prog 79 #[.agg #[.int .i64 f.off, .int .i64 f.size, .int .u8 f.kind, .bool f.write], .int .i64 ctx] w fun e w' => e = .returned (.bool (liesM f ctx)) ∧ Below w.heap.size w w' := by
  obtain ⟨o, s, k, r⟩ := f
  simp only
  have HR : Hid (liesM ⟨o, s, k, r⟩ ctx = if s = 1 ∨ s = 2 ∨ s = 4 ∨ s = 8 then inI 0 (wrap64 (ctx - s)) o && o.tmod s == 0 else false) := hide rfl
  obtain ⟨c0, c1, c2, c3⟩ := later4 (World.alloc_heap_new w (.cells #[.int .i64 o, .int .i64 s, .int .u8 k, .bool r] 65))
  by_cases hs : s = 1 ∨ s = 2 ∨ s = 4 ∨ s = 8
  · have HR2 : Hid (liesM ⟨o, s, k, r⟩ ctx = (inI 0 (wrap64 (ctx - s)) o && o.tmod s == 0)) := hide (by rw [HR.out, if_pos hs])
    clear HR
    have HB := hide (below1 w (.cells #[.int .i64 o, .int .i64 s, .int .u8 k, .bool r] 65))
    rcases hs with rfl | rfl | rfl | rfl
    · have hF := hide (fun w => from_int 0 (wrap64 (ctx - 1)) w)
      have hH := hide (fun w => has_int 0 (wrap64 (ctx - 1)) o w)
      generalize inI 0 (wrap64 (ctx - 1)) o = bi at *
      cases bi
      all_goals
        go_enter Try.func79, Try.ntmps79
        go_wp2_with fail
        refine wp_region_later (by kernel_rfl) (by kernel_rfl) ?_
        repeat (first | go_big_quiet_step (first | with_reducible exact Later.calls _ hF.out | with_reducible exact Later.calls _ hH.out) | (refine wpQuiet_step (fun K hK => ?_); go_simp; refine hK _ ?_; clear hK K))
        refine wpQuiet_nil ?_
        rintro _ ⟨x, rfl⟩
        have HX := hide (HB.out.trans (x.below.mono HB.out.size))
        clear c0 c1 c2 c3
        go_wp2
        go_ret
        exact ⟨by rw [HR2.out]; first | rfl | simp, HX.out⟩
    · have hF := hide (fun w => from_int 0 (wrap64 (ctx - 2)) w)
      have hH := hide (fun w => has_int 0 (wrap64 (ctx - 2)) o w)
      generalize inI 0 (wrap64 (ctx - 2)) o = bi at *
      cases bi
      all_goals
        go_enter Try.func79, Try.ntmps79
        go_wp2_with fail
        refine wp_region_later (by kernel_rfl) (by kernel_rfl) ?_
        repeat (first | go_big_quiet_step (first | with_reducible exact Later.calls _ hF.out | with_reducible exact Later.calls _ hH.out) | (refine wpQuiet_step (fun K hK => ?_); go_simp; refine hK _ ?_; clear hK K))
        refine wpQuiet_nil ?_
        rintro _ ⟨x, rfl⟩
        have HX := hide (HB.out.trans (x.below.mono HB.out.size))
        clear c0 c1 c2 c3
        go_wp2
        go_ret
        exact ⟨by rw [HR2.out]; first | rfl | simp, HX.out⟩
    · have hF := hide (fun w => from_int 0 (wrap64 (ctx - 4)) w)
      have hH := hide (fun w => has_int 0 (wrap64 (ctx - 4)) o w)
      generalize inI 0 (wrap64 (ctx - 4)) o = bi at *
      cases bi
      all_goals
        go_enter Try.func79, Try.ntmps79
        go_wp2_with fail
        refine wp_region_later (by kernel_rfl) (by kernel_rfl) ?_
        repeat (first | go_big_quiet_step (first | with_reducible exact Later.calls _ hF.out | with_reducible exact Later.calls _ hH.out) | (refine wpQuiet_step (fun K hK => ?_); go_simp; refine hK _ ?_; clear hK K))
        refine wpQuiet_nil ?_
        rintro _ ⟨x, rfl⟩
        have HX := hide (HB.out.trans (x.below.mono HB.out.size))
        clear c0 c1 c2 c3
        go_wp2
        go_ret
        exact ⟨by rw [HR2.out]; first | rfl | simp, HX.out⟩
    · have hF := hide (fun w => from_int 0 (wrap64 (ctx - 8)) w)
      have hH := hide (fun w => has_int 0 (wrap64 (ctx - 8)) o w)
      generalize inI 0 (wrap64 (ctx - 8)) o = bi at *
      cases bi
      all_goals
        go_enter Try.func79, Try.ntmps79
        go_wp2_with fail
        refine wp_region_later (by kernel_rfl) (by kernel_rfl) ?_
        repeat (first | go_big_quiet_step (first | with_reducible exact Later.calls _ hF.out | with_reducible exact Later.calls _ hH.out) | (refine wpQuiet_step (fun K hK => ?_); go_simp; refine hK _ ?_; clear hK K))
        refine wpQuiet_nil ?_
        rintro _ ⟨x, rfl⟩
        have HX := hide (HB.out.trans (x.below.mono HB.out.size))
        clear c0 c1 c2 c3
        go_wp2
        go_ret
        exact ⟨by rw [HR2.out]; first | rfl | simp, HX.out⟩
  · have HR2 : Hid (liesM ⟨o, s, k, r⟩ ctx = false) := hide (by rw [HR.out, if_neg hs])
    have e1 : (s == 1) = false := by simp; omega
    have e2 : (s == 2) = false := by simp; omega
    have e4 : (s == 4) = false := by simp; omega
    have e8 : (s == 8) = false := by simp; omega
    have HB := hide (below1 w (.cells #[.int .i64 o, .int .i64 s, .int .u8 k, .bool r] 65))
    clear HR hs c0 c1 c2 c3
    go_enter Try.func79, Try.ntmps79
    go_wp2
    go_ret
    exact ⟨by rw [HR2.out]; rfl, HB.out⟩
end Go.Proofs.Ytedjmgiblkjonaa
