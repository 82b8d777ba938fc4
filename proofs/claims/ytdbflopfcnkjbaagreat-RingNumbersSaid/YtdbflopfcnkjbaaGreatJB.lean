/-
  The document's Put; its New.
-/
import Derived.Test.YtdbflopfcnkjbaaGreatJA
import Derived.Test.YtdbflopfcnkjbaaGreatKI5
namespace Go.Proofs.YtdbflopfcnkjbaaGreat
open Go.RowKit Go.Maps
set_option linter.unusedVariables false

section
variable {P : Program} {ops : Array Oper} {o : Oper} {a : Act} {K : Act → World → Prop} {Q : Exit → Act → World → Prop} {E : Prop}
/-- An append whose run is known. -/
theorem step_append_run (w w2 : World) (hgd : o.guard = none) (s x : Operand) (t : TypeId)
    (ho : o.op = .call { callee := .builtin .append, args := #[s, x], argTypes := #[t, t] }) (v vx v' : Value) (hs : a.eval s = v) (hx : a.eval x = vx) (hrun : (Builtin.append_ #[t, t] o.type #[v, vx]).run P w = .ok v' w2)
    (h : K (a.put o.dst v') w2) : if Region.wanted o (yielded ops a.tmps) = true then Oper.wp P o a w K Q else E := by
  have hw : Region.wanted o (yielded ops a.tmps) = true := by simp [Region.wanted, hgd]
  rw [if_pos hw]
  unfold Oper.wp execOp
  simp only [ho, resolve, invoke, builtin, Sem.run_bind, Sem.run_pure, Result.andThen_ok, List.map_toArray, List.map_cons, List.map_nil, hs, hx, hrun]
  exact h
end
theorem owns_empty (w : World) : (w.alloc (.cells #[] 5)).ownsRow 0 5 1 (.slice (some ⟨w.heap.size, 0, none⟩) 0 0) 0 [] :=
  ⟨rfl, .inr ⟨w.heap.size, 0, #[], rfl, Nat.zero_le _, World.alloc_heap_new _ _, Nat.le_refl _, by simp [maxLen], by simp, by simp⟩⟩
section
variable {w w' w4 : World} {B x sz c : Nat} {A : Option Addr} {M : List ARow}
set_option maxRecDepth 100000 in
theorem rput_long (S : Option Addr) (n sc : Nat) (h : RRng w B x sz A c M) (hn : 65536 < n) : Calls Tryz.prog 16 #[.pointer (some ⟨x, 0, none⟩), .slice S n sc] w fun e w' => e = .returned (.int .i64 3) ∧ w = w' := by
  have d1 : decide ((65536 : Int) < (n : Int)) = true := decide_eq_true (by omega)
  clear h
  go_enter Tryz.func16, Tryz.ntmps16
  go_wp2
  go_ret
  exact ⟨rfl, rfl⟩
set_option maxRecDepth 100000 in
set_option maxHeartbeats 1000000 in
theorem rput_full (S : Option Addr) (n sc : Nat) (h : RRng w B x sz A c M) (hn : n ≤ 65536) (hf : sz < 8 + n + sumA M) : Calls Tryz.prog 16 #[.pointer (some ⟨x, 0, none⟩), .slice S n sc] w fun e w' => e = .returned (.int .i64 8) ∧ w = w' := by
  have HR := hide (rroom_any h)
  have hbig := h.big
  have d1 : decide ((65536 : Int) < (n : Int)) = false := decide_eq_false (by omega)
  have d2 : decide (((sz - sumA M : Nat) : Int) < ((n : Int) + 8)) = true := decide_eq_true (by omega)
  have d4 : decide (sz - sumA M < n + 8) = true := decide_eq_true (by omega)
  clear h
  generalize sz - sumA M = s at *
  go_enter Tryz.func16, Tryz.ntmps16
  go_wp2_with (go_at_call 19; refine HR.out.mono ?_; rintro e w' ⟨rfl, rfl⟩)
  go_ret
  exact ⟨rfl, rfl⟩
/-- A record was put into the document's ring. -/
def RPutTold (B x sz : Nat) (A : Option Addr) (M : List ARow) (l : List Int) (w w' : World) : Prop := ∃ r, r.bs = l ∧ r.n = l.length ∧ RTold B x sz A M (M ++ [r]) w w'
set_option maxRecDepth 100000 in
set_option maxHeartbeats 2000000 in
theorem rput_room (S : Option Addr) (n sc C : Nat) (l : List Int) (h : RRng w B x sz A c M) (hr : Rd w C 1 S n (u8s l)) (hC : C ≤ w.heap.size) (hS : S = none → n = 0) (hroom : 8 + n + sumA M ≤ sz) : Calls Tryz.prog 16 #[.pointer (some ⟨x, 0, none⟩), .slice S n sc] w fun e w' => e = .returned (.int .i64 0) ∧ RPutTold B x sz A M l w w' := by
  obtain ⟨i0, hi0, hz0, hz1, hz2⟩ := info_parts rlInfo
  obtain ⟨j0, hj0, hy0, hy1, hy2⟩ := info_parts u8info
  have HR := hide (rroom_any h)
  have hbig := h.big
  have hlen := sumA_len M
  have hll : l.length = n := by have := hr.1; simpa [u8s] using this
  have d1 : decide ((65536 : Int) < (n : Int)) = false := decide_eq_false (by omega)
  have d2 : decide (((sz - sumA M : Nat) : Int) < ((n : Int) + 8)) = false := decide_eq_false (by omega)
  have d4 : decide (sz - sumA M < n + 8) = false := decide_eq_false (by omega)
  have c4 := h.c4
  have hb0 : Below w.heap.size w w.drew := (Below.refl _ w).drew
  have c40 := (h.below hb0).c4
  have hbA : Below w.heap.size w (w.alloc (.cells #[] 5)).drew := (below1 w (.cells #[] 5)).drew
  have c4A := (h.below hbA).c4
  have c4A' := (h.below (below1 w (.cells #[] 5))).c4
  have hemp : (w.alloc (.cells #[] 5)).drew.ownsRow 0 5 1 (.slice (some ⟨w.heap.size, 0, none⟩) 0 0) 0 [] := owns_kept_below (owns_empty w) ((Below.refl _ _).drew)
  obtain ⟨v2, w2, hrun2, hl2⟩ := run_append_rd (P := Tryz.prog) (w.alloc (.cells #[] 5)).drew 27 27 5 j0 _ 1 1 Tryz.underlying27 hj0 hy0 hy1 hy2 rfl (by decide) (.slice (some ⟨w.heap.size, 0, none⟩) 0 0) 0 [] hemp
    C S n sc (u8s l) (hr.below (hbA.mono hC)) hS (u8s_one l) (by unfold maxLen; omega) (by omega)
  rw [Nat.zero_add, List.nil_append] at hl2
  have hb2 : Below w.heap.size w w2 := hbA.grown hl2.2.1 hbA.size (fun k e => by cases e; exact Nat.le_refl _)
  have hv2 : ∀ k, v2.ownBlock = some k → w.heap.size ≤ k := fun k hk => by
    rcases hl2.2.2 with h3 | h3
    · rw [hk] at h3
      simp only [Value.ownBlock, Option.some.injEq] at h3
      omega
    · rw [hk] at h3
      injection h3 with h3
      have := hbA.size
      omega
  obtain ⟨A2, m2, rfl, _⟩ := owns_slice hl2.1
  have hb3 : Below w.heap.size w (w2.alloc (.cells #[.slice A2 n m2] 27)) := hb2.trans ((below1 w2 _).mono hb2.size)
  have h3 := h.below hb3
  have c42 := (h.below hb2).c4
  have c43 := h3.c4
  have hrd3 := cells_rd w2 [.slice A2 n m2] 27 1 1 rfl
  obtain ⟨v4, w4, hrun4, hl4⟩ := run_append_rd (P := Tryz.prog) (w2.alloc (.cells #[.slice A2 n m2] 27)) 43 43 27 i0 _ 1 24 Tryz.underlying43 hi0 hz0 hz1 hz2 rfl (by decide) (.slice A M.length c) M.length (M.map ARow.sl) h3.out
    (w2.heap.size + 1) (some ⟨w2.heap.size, 0, none⟩) 1 1 [.slice A2 n m2] hrd3 (fun e => by cases e) (fun u hu => by simp at hu; subst hu; rfl) (by unfold maxLen; omega) (by omega)
  obtain ⟨A4, m4, rfl, _⟩ := owns_slice hl4.1
  have hk4 : Kept (fun g => (Value.slice A 0 0).ownBlock ≠ some g) w w4 := (Kept.of_below hb3).grown hl4.2.1 (fun k hk _ hF => hF (own_of_slice.trans hk))
  have ho2 : w4.ownsRow 0 5 1 (.slice A2 n m2) n (u8s l) := by
    have h5 := owns_kept_below hl2.1 (below1 w2 (.cells #[.slice A2 n m2] 27))
    refine owns_kept h5 ((Kept.refl (fun g => (Value.slice A 0 0).ownBlock ≠ some g) _).grown hl4.2.1 (fun k hk _ hF => hF (own_of_slice.trans hk))) (fun g hg e => ?_)
    have h6 := hv2 g hg
    have h7 := h.lt g (.inr (.inl e))
    omega
  have hml : (M ++ [(⟨A2, n, m2, l⟩ : ARow)]).length = M.length + 1 := by simp
  have ht := h.turn (u := .slice A M.length c) (A' := A4) (m' := m4) (M' := M ++ [⟨A2, n, m2, l⟩]) (w4 := w4) (hk4.mono (fun _ hh => hh.2)) ((hk4.block x (at_lt h.blk) h.x_out).trans h.blk) (by rw [sumA_append]; simp [sumA]; omega)
    (by rw [hml, List.map_append]; exact hl4.1) (fun g hg => by
      rcases hl4.2.2 with h5 | h5
      · exact .inl ((own_of_slice.trans h5.symm).trans (own_of_slice.trans hg))
      · rw [own_of_slice (n' := 0) (c' := 0), hg] at h5
        injection h5 with h5
        have := hb3.size
        exact .inr (by omega)) (fun r hr' => by
      rcases List.mem_append.1 hr' with h5 | h5
      · exact .inl h5
      · simp at h5
        subst h5
        exact .inr ⟨hv2, ho2⟩)
  rw [hml] at ht
  obtain ⟨t1, t2, t3⟩ := ht
  have hfin : RPutTold B x sz A M l w (w4.setCell ⟨x, 4, none⟩ (.slice A4 (M.length + 1) m4)) := ⟨⟨A2, n, m2, l⟩, rfl, hll.symm, t3⟩
  have HF := hide hfin
  have hn2 : n ≤ 16384 := by omega
  clear h h3 hr hb0 hbA hemp hl2 hb2 hv2 hb3 hrd3 hl4 hk4 ho2 hml t3 hfin hbig hlen hi0 hz0 hz1 hz2 hj0 hy0 hy1 hy2 hll
  generalize sz - sumA M = s at *
  generalize M.length = q at *
  go_enter Tryz.func16, Tryz.ntmps16
  go_wp2_with (go_at_call 19; refine HR.out.mono ?_; rintro e w' ⟨rfl, rfl⟩)
  go_region_law (first
    | (refine step_append_run _ w2 (by rfl) (.tmp 19) (.tmp 20) 27 (by rfl) _ _ _ (by rfl) (by rfl) hrun2 ?_)
    | (refine step_append_run _ w4 (by rfl) (.tmp 18) (.tmp 22) 43 (by rfl) _ _ _ (by rfl) (by rfl) hrun4 ?_))
  all_goals
    go_wp2_with fail
    go_ret
    exact ⟨rfl, HF.out⟩
end
set_option maxRecDepth 100000 in
set_option maxHeartbeats 1000000 in
theorem rnew_no (k key val ent : Int) (w : World) (hk : 0 ≤ k ∧ k < 256) (he : newE k key val ent ≠ 0) :
    Calls Tryz.prog 11 #[.agg #[.int .u8 k, .int .i64 key, .int .i64 val, .int .i64 ent]] w fun e w' => e = .returned (.tuple #[.pointer none, .int .i64 (newE k key val ent)]) ∧ Below w.heap.size w w' := by
  have hb1 := below1 w (.cells #[.int .u8 k, .int .i64 key, .int .i64 val, .int .i64 ent] 25)
  have hx := World.alloc_heap_new w (.cells #[.int .u8 k, .int .i64 key, .int .i64 val, .int .i64 ent] 25)
  have HS := hide (rspec_any k key val ent (w.alloc (.cells #[.int .u8 k, .int .i64 key, .int .i64 val, .int .i64 ent] 25)) hk)
  have HX := hide hx
  have HB1 := hide hb1
  have HE : Hid (newE k key val ent = if specM k key val ent = 0 then (if k = 7 then 0 else 9) else specM k key val ent) := hide rfl
  clear hx hb1
  generalize newE k key val ent = ne at *
  generalize specM k key val ent = sm at *
  by_cases hs : sm = 0
  · subst hs
    have hk1 : ¬ (k = 7) := fun h => he (by rw [HE.out, if_pos rfl, if_pos h])
    obtain rfl : ne = 9 := by rw [HE.out, if_pos rfl, if_neg hk1]
    have hkb : (k != 7) = true := by simpa using hk1
    clear he HE hk1
    go_enter Tryz.func11, Tryz.ntmps11
    go_wp2_with (go_at_call 27; refine HS.out.mono ?_; rintro e w1 ⟨rfl, hb⟩; have HB := hide (HB1.out.trans (hb.mono HB1.out.size)); have hxx := (hb.block _ (at_lt HX.out)).trans HX.out; have d0 : w1.cell? ⟨w.heap.size, 0, none⟩ = some (.int .u8 k) := (blk_cell hxx 0).trans rfl; clear hb hxx)
    go_ret2
    exact ⟨rfl, HB.out⟩
  · obtain rfl : ne = sm := by rw [HE.out, if_neg hs]
    have hkb : (ne == 0) = false := by simpa using hs
    have hkb2 : (ne != 0) = true := by simpa using hs
    clear he HE hs
    go_enter Tryz.func11, Tryz.ntmps11
    go_wp2_with (go_at_call 27; refine HS.out.mono ?_; rintro e w1 ⟨rfl, hb⟩; have HB := hide (HB1.out.trans (hb.mono HB1.out.size)); clear hb)
    go_ret2
    exact ⟨rfl, HB.out⟩
/-- What the document's New tells of a right make. -/
def RNewTold (sz : Nat) (w : World) (e : Ending) (w' : World) : Prop := ∃ x, e = .returned (.tuple #[.pointer (some ⟨x, 0, none⟩), .int .i64 0]) ∧ RRng w' w.heap.size x sz none 0 [] ∧ Below w.heap.size w w'
theorem RRng.made {w w1 : World} {sz : Nat} (hb : Below w.heap.size w w1) (hs : 16 ≤ sz ∧ sz ≤ 16384) : RNewTold sz w (.returned (.tuple #[.pointer (some ⟨w1.heap.size, 0, none⟩), .int .i64 0])) (w1.alloc (.cells #[.int .u8 7, .int .i64 0, .int .i64 0, .int .i64 sz, .slice none 0 0] 61)) := by
  have h1 := World.alloc_heap_new w1 (.cells #[.int .u8 7, .int .i64 0, .int .i64 0, .int .i64 sz, .slice none 0 0] 61)
  refine ⟨_, rfl, ⟨h1, owns_nil _ _ _, nofun, ?_, by simp [sumA]; omega⟩, hb.alloc hb.size _⟩
  rintro g (rfl | h | ⟨r, hr, _⟩)
  · exact hb.size
  · cases h
  · cases hr
set_option maxRecDepth 100000 in
set_option maxHeartbeats 1000000 in
theorem rnew_yes (sz : Nat) (w : World) (hs : 16 ≤ sz ∧ sz ≤ 16384) :
    Calls Tryz.prog 11 #[.agg #[.int .u8 7, .int .i64 0, .int .i64 0, .int .i64 sz]] w (RNewTold sz w) := by
  have hb1 := below1 w (.cells #[.int .u8 7, .int .i64 0, .int .i64 0, .int .i64 sz] 25)
  have hx := World.alloc_heap_new w (.cells #[.int .u8 7, .int .i64 0, .int .i64 0, .int .i64 sz] 25)
  have HS0 := rspec_any 7 0 0 sz (w.alloc (.cells #[.int .u8 7, .int .i64 0, .int .i64 0, .int .i64 sz] 25)) (by decide)
  rw [specM_ring hs] at HS0
  have HS := hide HS0
  have HX := hide hx
  have HB1 := hide hb1
  have HFIN : Hid (∀ w1, Below w.heap.size w w1 → RNewTold sz w _ _) := hide (fun w1 hb => RRng.made (w := w) (w1 := w1) hb hs)
  clear hx hb1 HS0
  go_enter Tryz.func11, Tryz.ntmps11
  go_wp2_with (go_at_call 27; refine HS.out.mono ?_; rintro e w1 ⟨rfl, hb⟩; have HB := hide (HB1.out.trans (hb.mono HB1.out.size)); have hxx := (hb.block _ (at_lt HX.out)).trans HX.out; have d0 : w1.cell? ⟨w.heap.size, 0, none⟩ = some (.int .u8 7) := (blk_cell hxx 0).trans rfl; have d1 : w1.cell? ⟨w.heap.size, 1, none⟩ = some (.int .i64 0) := (blk_cell hxx 1).trans rfl; have d2 : w1.cell? ⟨w.heap.size, 2, none⟩ = some (.int .i64 0) := (blk_cell hxx 2).trans rfl; have d3 : w1.cell? ⟨w.heap.size, 3, none⟩ = some (.int .i64 sz) := (blk_cell hxx 3).trans rfl; have hlt : w.heap.size < w1.heap.size := at_lt hxx; clear hb hxx)
  go_ret2
  exact HFIN.out w1 HB.out
end Go.Proofs.YtdbflopfcnkjbaaGreat
