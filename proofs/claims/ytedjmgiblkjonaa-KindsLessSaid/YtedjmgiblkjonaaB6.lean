/-
  The host's own helpers: what the program tells of each.
-/
import Derived.Test.YtedjmgiblkjonaaB5
namespace Go.Proofs.Ytedjmgiblkjonaa
open Go.RowKit Go.Maps
set_option linter.unusedVariables false

/-- What an operation tells that lasts. -/
inductive RK
  | maps (l : List Int)
  | of (l : List Int)
  | stat (v : Value)
  | args (l : List ArgM)
  | st (r0 r1 r2 r3 : Value)
def TK (n0 b3 : Nat) (ks : List RK) (j : Nat) (σ : Nat → Value) (W : World) : Prop :=
  match ks[j]? with
  | some (.maps l) => ∃ g, σ j = .slice (some ⟨g, 0, none⟩) l.length l.length ∧ n0 ≤ g ∧ W.heap[g]? = some (.cells (mks l).toArray 22 (0, 0))
  | some (.of l) => ∃ g, σ j = .agg #[.int .u8 3, .int .i64 0, .int .i64 0, .slice (some ⟨g, 0, none⟩) l.length l.length] ∧ n0 ≤ g ∧ W.heap[g]? = some (.cells (mks l).toArray 22 (0, 0))
  | some (.stat v) => σ j = v
  | some (.args l) => ∃ g gm, σ j = .slice (some ⟨g, 0, none⟩) l.length l.length ∧ OwnBlk W n0 g gm l
  | some (.st r0 r1 r2 r3) => W.heap[b3]? = some (.cells #[r0, r1, r2, r3] 30 (0, 0))
  | none => True
theorem TK.keep {n0 b3 : Nat} {ks : List RK} {j : Nat} {σ : Nat → Value} {W W' : World} (h : TK n0 b3 ks j σ W) (hk : ∀ k, n0 ≤ k → k < W.heap.size → W'.heap[k]? = W.heap[k]?) (hb : ∀ r0 r1 r2 r3, ks[j]? = some (.st r0 r1 r2 r3) → W'.heap[b3]? = W.heap[b3]?) : TK n0 b3 ks j σ W' := by
  unfold TK at h ⊢
  cases hj : ks[j]? with
  | none => trivial
  | some r =>
    rw [hj] at h
    cases r with
    | maps l =>
      obtain ⟨g, h1, h2, h3⟩ := h
      exact ⟨g, h1, h2, (hk g h2 (at_lt h3)).trans h3⟩
    | of l =>
      obtain ⟨g, h1, h2, h3⟩ := h
      exact ⟨g, h1, h2, (hk g h2 (at_lt h3)).trans h3⟩
    | stat v => exact h
    | args l =>
      obtain ⟨g, gm, h1, h2⟩ := h
      exact ⟨g, gm, h1, h2.keep hk⟩
    | st r0 r1 r2 r3 => exact (hb r0 r1 r2 r3 hj).trans h
theorem TK.below {n0 b3 : Nat} {ks : List RK} {j : Nat} {σ : Nat → Value} {W W' : World} (h : TK n0 b3 ks j σ W) (hl : b3 < W.heap.size) (hb : Below W.heap.size W W') : TK n0 b3 ks j σ W' :=
  h.keep (fun k _ hk => hb.block k hk) (fun _ _ _ _ _ => hb.block b3 hl)
theorem TK.dep {n0 b3 : Nat} {ks : List RK} {j : Nat} {σ σ' : Nat → Value} {W : World} (h : TK n0 b3 ks j σ W) (hs : σ' j = σ j) : TK n0 b3 ks j σ' W := by
  unfold TK at h ⊢
  rw [hs]
  exact h
/-- The world as it was, but for what stands in block b3. -/
def GK (b3 : Nat) (W0 W : World) : Prop := W0.grownBy W (some b3) ∧ b3 < W.heap.size ∧ ∃ r0 r1 r2 r3, W.heap[b3]? = some (.cells #[r0, r1, r2, r3] 30 (0, 0))
theorem GK.below {b3 : Nat} {W0 W W' : World} (h : GK b3 W0 W) (hb : Below W.heap.size W W') : GK b3 W0 W' := by
  obtain ⟨h1, h2, r0, r1, r2, r3, h3⟩ := h
  exact ⟨⟨hb.os.trans h1.os, hb.tape.trans h1.tape, hb.output.trans h1.output, Nat.le_trans h1.size hb.size, fun k hk hn => (hb.block k (Nat.lt_of_lt_of_le hk h1.size)).trans (h1.block k hk hn)⟩, Nat.lt_of_lt_of_le h2 hb.size, r0, r1, r2, r3, (hb.block b3 h2).trans h3⟩
theorem GK.cell {b3 g : Nat} {W0 W : World} {cs : Array Value} {t : TypeId} (h : GK b3 W0 W) (hc : W0.heap[g]? = some (.cells cs t (0, 0))) (hn : g ≠ b3) (i : Nat) : W.cell? ⟨g, i, none⟩ = cs[i]? := by
  rw [blk_cell ((h.1.block g (at_lt hc) (fun e => hn (by injection e))).trans hc)]
/-- A slice that reads as these arguments as long as the blocks that are new since w lie as they lie in w'. -/
def Fresh (w w' : World) (A : Option Addr) (n : Nat) (l : List ArgM) : Prop :=
  ∀ W : World, w'.heap.size ≤ W.heap.size → (∀ k, w.heap.size ≤ k → k < w'.heap.size → W.heap[k]? = w'.heap[k]?) → Args W W.heap.size A n l
theorem Fresh.args {w w' : World} {A : Option Addr} {n : Nat} {l : List ArgM} (h : Fresh w w' A n l) : Args w' w'.heap.size A n l := h w' (Nat.le_refl _) (fun _ _ _ => rfl)
/-- What is told of the host's own helper of a kind. -/
def PartsTold (k : Int) (w : World) (e : Ending) (w' : World) : Prop :=
  ∃ A c, e = .returned (.tuple #[.slice A (ownM k).1.length c, (ownM k).2.v]) ∧ ((ownM k).1.length ≤ c ∧ c ≤ maxLen) ∧ Fresh w w' A (ownM k).1.length (ownM k).1 ∧ Below w.heap.size w w'
set_option maxRecDepth 100000 in
set_option maxHeartbeats 2000000 in
theorem parts_1 (w : World) : Calls Try.prog 23 #[.int .u8 1] w (PartsTold 1 w) := by
  have hP := hide (fun k w => plain_any k w)
  have hS := hide (fun lo hi w => scalar_any lo hi w)
  have hA := hide (fun lo hi w => answer_any lo hi w)
  have E52 : ∀ args W, (callFunc 52 args).run Try.prog W = .ok (.enter 52 args) W := enters_of Try.func52 (by kernel_rfl) rfl
  have E53 : ∀ args W, (callFunc 53 args).run Try.prog W = .ok (.enter 53 args) W := enters_of Try.func53 (by kernel_rfl) rfl
  have E54 : ∀ args W, (callFunc 54 args).run Try.prog W = .ok (.enter 54 args) W := enters_of Try.func54 (by kernel_rfl) rfl
  have E55 : ∀ args W, (callFunc 55 args).run Try.prog W = .ok (.enter 55 args) W := enters_of Try.func55 (by kernel_rfl) rfl
  go_enter Try.func23, Try.ntmps23
  go_wp2_with fail
  refine name_call (fun W1 hW1 => ?_)
  have b3 := World.alloc_heap_new w (.cells #[.int .u8 0, .int .i64 0, .int .i64 0, .int .i64 0] 30)
  have l1 := below1 w (.cells #[.int .u8 0, .int .i64 0, .int .i64 0, .int .i64 0] 30)
  rw [← hW1] at b3 l1
  have z1 : W1.heap.size = w.heap.size + 1 := by rw [hW1]; simp
  clear hW1
  (with_reducible refine (Later.calls0 (hP.out _)).mono ?_)
  rintro e w1 ⟨rfl, x, rfl⟩
  go_wp2_with (go_at_call 52; (with_reducible refine (Later.calls _ (hP.out _)).mono ?_); rintro e w1 ⟨rfl, x, rfl⟩)
  refine name_call (fun W2 hW2 => ?_)
  obtain ⟨b4, b5, b6⟩ := blocks3 x.w (.cells #[.int .u8 4, .int .i64 0, .int .i64 0, .slice none 0 0] 46) (.cells #[.int .u8 5, .int .i64 0, .int .i64 0, .slice none 0 0] 46) (.cells #[.int .u8 6, .int .i64 0, .int .i64 0, .slice none 0 0] 46)
  have l2 := x.below.trans ((below3 x.w (.cells #[.int .u8 4, .int .i64 0, .int .i64 0, .slice none 0 0] 46) (.cells #[.int .u8 5, .int .i64 0, .int .i64 0, .slice none 0 0] 46) (.cells #[.int .u8 6, .int .i64 0, .int .i64 0, .slice none 0 0] 46)).mono x.below.size)
  rw [← hW2] at b4 b5 b6 l2
  have z2 : w.heap.size < x.w.heap.size := by have := x.below.size; omega
  clear hW2
  generalize hg4 : x.w.heap.size = g4 at *
  clear hg4
  (with_reducible refine (Later.calls0 (hS.out _ _)).mono ?_)
  rintro e w1 ⟨rfl, y, rfl⟩
  go_wp2_with fail
  refine name_call (fun W3 hW3 => ?_)
  have b7 := World.alloc_heap_new y.w (.cells #[.int .u8 1, .int .i64 0, .int .i64 2, .slice none 0 0] 46)
  have l3 := y.below.trans ((below1 y.w (.cells #[.int .u8 1, .int .i64 0, .int .i64 2, .slice none 0 0] 46)).mono y.below.size)
  rw [← hW3] at b7 l3
  have z3 : g4 + 2 < y.w.heap.size := Nat.lt_of_lt_of_le (at_lt b6) y.below.size
  clear hW3
  generalize hg7 : y.w.heap.size = g7 at *
  clear hg7
  (with_reducible refine (Later.calls0 (hA.out _ _)).mono ?_)
  rintro e w1 ⟨rfl, z, rfl⟩
  go_wp2_with fail
  refine name_world (fun W4 hW4 => ?_)
  have b8 := World.alloc_heap_new z.w (.cells #[.int .u8 1, .int .i64 (-100), .int .i64 0, .int .i64 0] 30)
  have l4 := z.below.trans ((below1 z.w (.cells #[.int .u8 1, .int .i64 (-100), .int .i64 0, .int .i64 0] 30)).mono z.below.size)
  rw [← hW4] at b8 l4
  have z4 : g7 < z.w.heap.size := Nat.lt_of_lt_of_le (at_lt b7) z.below.size
  clear hW4
  generalize hg8 : z.w.heap.size = g8 at *
  clear hg8
  have l34 := l3.trans (l4.mono l3.size)
  have l24 := l2.trans (l34.mono l2.size)
  replace b7 := (l4.block _ (at_lt b7)).trans b7
  replace b4 := (l34.block _ (at_lt b4)).trans b4
  replace b5 := (l34.block _ (at_lt b5)).trans b5
  replace b6 := (l34.block _ (at_lt b6)).trans b6
  replace b3 := (l24.block _ (at_lt b3)).trans b3
  have lw := l1.trans (l24.mono l1.size)
  have zz := at_lt b3
  clear l1 l2 l3 l4 l34 l24 x y z
  have b5' : W4.heap[g4 + 1]? = _ := b5
  have b6' : W4.heap[g4 + 1 + 1]? = _ := b6
  generalize hg5 : g4 + 1 = g5 at *
  generalize hg6 : g5 + 1 = g6 at *
  rename_i K hK
  refine wp_tells (by kernel_rfl) (TK W4.heap.size w.heap.size [.maps [1, 2, 3, 4], .of [1, 2, 3, 4], .stat (.agg #[.int .u8 4, .int .i64 0, .int .i64 0, .slice none 0 0]), .args [mapA [1, 2, 3, 4], plA 4], .stat (.agg #[.int .u8 2, .int .i64 (0), .int .i64 (0), .int .i64 0]), .args [mapA [1, 2, 3, 4], plA 4], .st (.int .u8 2) (.int .i64 (0)) (.int .i64 (0)) (.int .i64 0)]) (GK w.heap.size W4) (by kernel_rfl) (by kernel_rfl) (by kernel_rfl) (by kernel_rfl) (fun j oj σ σ' W _ h hs => h.dep (hs j (.inl rfl))) ⟨⟨rfl, rfl, rfl, Nat.le_refl _, fun _ _ _ => rfl⟩, zz, _, _, _, _, b3⟩ ?_ ?_
  · intro i o ho L a W hLi hG hold hT hh
    have hi : i < 7 := (Array.getElem?_eq_some_iff.1 ho).1
    have hi' : i = 0 ∨ i = 1 ∨ i = 2 ∨ i = 3 ∨ i = 4 ∨ i = 5 ∨ i = 6 := by omega
    have hk : ∀ {W'}, Below W.heap.size W W' → ∀ j, L j = true → TK W4.heap.size w.heap.size [.maps [1, 2, 3, 4], .of [1, 2, 3, 4], .stat (.agg #[.int .u8 4, .int .i64 0, .int .i64 0, .slice none 0 0]), .args [mapA [1, 2, 3, 4], plA 4], .stat (.agg #[.int .u8 2, .int .i64 (0), .int .i64 (0), .int .i64 0]), .args [mapA [1, 2, 3, 4], plA 4], .st (.int .u8 2) (.int .i64 (0)) (.int .i64 (0)) (.int .i64 0)] j (sl _ a) W' := fun hb j hj => (hT j hj).below hG.2.1 hb
    rcases hi' with rfl | rfl | rfl | rfl | rfl | rfl | rfl
    · cases ho
      refine step_turned (.slice (some ⟨W.heap.size, 0, none⟩) 4 4) (W.alloc (.cells (mks [1, 2, 3, 4]).toArray 22)) ?_ (by decide) (hG.below (below1 _ _)) (hk (below1 _ _)) ⟨W.heap.size, rfl, hG.1.size, World.alloc_heap_new W _⟩
      simp [execOp, go_sem, Act.eval, mks]
    · cases ho
      obtain ⟨g, e1, hg, hb⟩ : ∃ g, a.eval (.tmp 17) = .slice (some ⟨g, 0, none⟩) 4 4 ∧ W4.heap.size ≤ g ∧ W.heap[g]? = some (.cells (mks [1, 2, 3, 4]).toArray 22 (0, 0)) := hT 0 (hh 0 rfl)
      refine step_called (f := 55) (args := #[.slice (some ⟨g, 0, none⟩) 4 4]) (R := fun v W' => v = .agg #[.int .u8 3, .int .i64 0, .int .i64 0, .slice (some ⟨g, 0, none⟩) 4 4] ∧ Below W.heap.size W W') ?_ (by decide) ((oneOf_any _ _ _ W).mono (fun e w' h => ⟨_, h.1, rfl, h.2⟩)) ?_
      · have c1 : a.eval (.func 55) = .func (.func 55) #[] #[] := rfl
        generalize a.eval = ev at e1 c1 ⊢
        simp [execOp, go_sem, e1, c1, E55]
      · rintro v W' ⟨rfl, hb'⟩
        exact ⟨hG.below hb', hk hb', g, rfl, hg, (hb'.block g (at_lt hb)).trans hb⟩
    · cases ho
      refine step_told (.agg #[.int .u8 4, .int .i64 0, .int .i64 0, .slice none 0 0]) ?_ (by decide) hG (hk (Below.refl _ _)) rfl
      have e1 : a.eval (.tmp 4) = .pointer (some ⟨g4, 0, none⟩) := hold 4 (by kernel_rfl)
      have d0 := hG.cell b4 (by omega) 0
      have d1 := hG.cell b4 (by omega) 1
      have d2 := hG.cell b4 (by omega) 2
      have d3 := hG.cell b4 (by omega) 3
      simp at d0 d1 d2 d3
      generalize a.eval = ev at e1 ⊢
      simp [execOp, go_sem, e1, d0, d1, d2, d3]
    · cases ho
      obtain ⟨g, e1, hg, hb⟩ : ∃ g, a.eval (.tmp 18) = .agg #[.int .u8 3, .int .i64 0, .int .i64 0, .slice (some ⟨g, 0, none⟩) 4 4] ∧ W4.heap.size ≤ g ∧ W.heap[g]? = some (.cells (mks [1, 2, 3, 4]).toArray 22 (0, 0)) := hT 1 (hh 1 rfl)
      have e2 : a.eval (.tmp 19) = .agg #[.int .u8 4, .int .i64 0, .int .i64 0, .slice none 0 0] := hT 2 (hh 2 rfl)
      refine step_turned (.slice (some ⟨W.heap.size, 0, none⟩) 2 2) (W.alloc (.cells ([mapA [1, 2, 3, 4], plA 4].flatMap (argCells g)).toArray 46)) ?_ (by decide) (hG.below (below1 _ _)) (hk (below1 _ _)) ⟨W.heap.size, g, rfl, hG.1.size, hg, World.alloc_heap_new W _, ?_, ?_⟩
      · generalize a.eval = ev at e1 e2 ⊢
        simp [execOp, go_sem, e1, e2, argCells, mapA, plA]
      · have hb' := ((below1 W (.cells ([mapA [1, 2, 3, 4], plA 4].flatMap (argCells g)).toArray 46)).block g (at_lt hb)).trans hb
        intro q hq hm
        simp only [List.mem_cons, List.not_mem_nil, or_false] at hq
        rcases hq with rfl | rfl <;> first | exact hb' | (exact absurd hm (by decide))
      · intro q hq
        simp only [List.mem_cons, List.not_mem_nil, or_false] at hq
        rcases hq with rfl | rfl <;> decide
    · cases ho
      refine step_told (.agg #[.int .u8 2, .int .i64 (0), .int .i64 (0), .int .i64 0]) ?_ (by decide) hG (hk (Below.refl _ _)) rfl
      simp [execOp, go_sem, Act.eval]
    · cases ho
      obtain ⟨g, gm, e1, ho⟩ : ∃ g gm, a.eval (.tmp 20) = .slice (some ⟨g, 0, none⟩) 2 2 ∧ OwnBlk W W4.heap.size g gm [mapA [1, 2, 3, 4], plA 4] := hT 3 (hh 3 rfl)
      refine step_told (.slice (some ⟨g, 0, none⟩) 2 2) ?_ (by decide) hG (hk (Below.refl _ _)) ⟨g, gm, rfl, ho⟩
      generalize a.eval = ev at e1 ⊢
      simp [execOp, go_sem, e1]
    · cases ho
      obtain ⟨hG1, hG2, r0, r1, r2, r3, hr⟩ := hG
      have e3 : a.eval (.tmp 3) = .pointer (some ⟨w.heap.size, 0, none⟩) := hold 3 (by kernel_rfl)
      have e1 : a.eval (.tmp 21) = .agg #[.int .u8 2, .int .i64 (0), .int .i64 (0), .int .i64 0] := hT 4 (hh 4 rfl)
      obtain ⟨hs, hgr⟩ := store_4 hr (.int .u8 2) (.int .i64 (0)) (.int .i64 (0)) (.int .i64 0)
      have c0 := blk_cell hr 0
      have c1 := blk_cell hr 1
      have c2 := blk_cell hr 2
      have c3 := blk_cell hr 3
      have f0 := Joins.unfrozen_of_block hr 0
      have f1 := Joins.unfrozen_of_block hr 1
      have f2 := Joins.unfrozen_of_block hr 2
      have f3 := Joins.unfrozen_of_block hr 3
      simp at c0 c1 c2 c3
      refine step_skip ((((W.setCell ⟨w.heap.size, 0, none⟩ (.int .u8 2)).setCell ⟨w.heap.size, 1, none⟩ (.int .i64 (0))).setCell ⟨w.heap.size, 2, none⟩ (.int .i64 (0))).setCell ⟨w.heap.size, 3, none⟩ (.int .i64 0)) ?_ ⟨grown_row hG1 hgr, Nat.lt_of_lt_of_le hG2 hgr.size, _, _, _, _, hs⟩ (fun j hj => (hT j hj).keep (fun k hk hl => hgr.block k hl (fun e => by injection e with e; omega)) (fun r0 r1 r2 r3 hst => ?_)) hs
      · generalize a.eval = ev at e1 e3 ⊢
        simp [execOp, go_sem, e1, e3, c0, c1, c2, c3, f0, f1, f2, f3]
      · exfalso
        have hjn : j < 7 := by
          rcases Nat.lt_or_ge j 7 with h | h
          · exact h
          · rw [List.getElem?_eq_none (by simpa using h)] at hst; cases hst
        have hj' : j = 0 ∨ j = 1 ∨ j = 2 ∨ j = 3 ∨ j = 4 ∨ j = 5 ∨ j = 6 := by omega
        rcases hj' with rfl | rfl | rfl | rfl | rfl | rfl | rfl <;> first | (simp at hst; done) | (rw [hLi] at hj; cases hj)
  · intro a W hd hs hold hT hG
    refine hK _ _ ?_
    obtain ⟨g, gm, e2, ho⟩ : ∃ g gm, a.tmps.getD 2 undef = .slice (some ⟨g, 0, none⟩) 2 2 ∧ OwnBlk W W4.heap.size g gm [mapA [1, 2, 3, 4], plA 4] := hT 5 (by decide)
    have e3 : a.tmps.getD 3 undef = .pointer (some ⟨w.heap.size, 0, none⟩) := hold 3 (by kernel_rfl)
    have hr : W.heap[w.heap.size]? = some (.cells #[.int .u8 2, .int .i64 (0), .int .i64 (0), .int .i64 0] 30 (0, 0)) := hT 6 (by decide)
    have hB : Below w.heap.size w W := ⟨hG.1.os.trans lw.os, hG.1.tape.trans lw.tape, hG.1.output.trans lw.output, Nat.le_trans lw.size hG.1.size, fun k hk => (hG.1.block k (Nat.lt_of_lt_of_le hk lw.size) (fun e => by injection e with e; omega)).trans (lw.block k hk)⟩
    have c0 := blk_cell hr 0
    have c1 := blk_cell hr 1
    have c2 := blk_cell hr 2
    have c3 := blk_cell hr 3
    simp at c0 c1 c2 c3
    have H2 := hide e2
    have H3 := hide e3
    have HO := hide ho
    have HB := hide hB
    clear hT hold hG hK e2 e3 ho hB hr
    go_wp2
    refine bodyPost_ret (v := .tuple #[.slice (some ⟨g, 0, none⟩) 2 2, .agg #[.int .u8 2, .int .i64 (0), .int .i64 (0), .int .i64 0]]) ?_ hd ⟨_, _, rfl, ⟨by decide, by unfold maxLen; omega⟩, (fun W' hs' hk' => (HO.out.keep (fun k h1 h2 => hk' k (by omega) h2)).args), HB.out⟩
    have e2 := H2.out
    have e3 := H3.out
    rw [Array.getD_eq_getD_getElem?] at e2 e3
    simp [results, Try.results23, go_sem, e2, e3, c0, c1, c2, c3]
set_option maxRecDepth 100000 in
set_option maxHeartbeats 2000000 in
theorem parts_2 (w : World) : Calls Try.prog 23 #[.int .u8 2] w (PartsTold 2 w) := by
  have hP := hide (fun k w => plain_any k w)
  have hS := hide (fun lo hi w => scalar_any lo hi w)
  have hA := hide (fun lo hi w => answer_any lo hi w)
  have E52 : ∀ args W, (callFunc 52 args).run Try.prog W = .ok (.enter 52 args) W := enters_of Try.func52 (by kernel_rfl) rfl
  have E53 : ∀ args W, (callFunc 53 args).run Try.prog W = .ok (.enter 53 args) W := enters_of Try.func53 (by kernel_rfl) rfl
  have E54 : ∀ args W, (callFunc 54 args).run Try.prog W = .ok (.enter 54 args) W := enters_of Try.func54 (by kernel_rfl) rfl
  have E55 : ∀ args W, (callFunc 55 args).run Try.prog W = .ok (.enter 55 args) W := enters_of Try.func55 (by kernel_rfl) rfl
  go_enter Try.func23, Try.ntmps23
  go_wp2_with fail
  refine name_call (fun W1 hW1 => ?_)
  have b3 := World.alloc_heap_new w (.cells #[.int .u8 0, .int .i64 0, .int .i64 0, .int .i64 0] 30)
  have l1 := below1 w (.cells #[.int .u8 0, .int .i64 0, .int .i64 0, .int .i64 0] 30)
  rw [← hW1] at b3 l1
  have z1 : W1.heap.size = w.heap.size + 1 := by rw [hW1]; simp
  clear hW1
  (with_reducible refine (Later.calls0 (hP.out _)).mono ?_)
  rintro e w1 ⟨rfl, x, rfl⟩
  go_wp2_with (go_at_call 52; (with_reducible refine (Later.calls _ (hP.out _)).mono ?_); rintro e w1 ⟨rfl, x, rfl⟩)
  refine name_call (fun W2 hW2 => ?_)
  obtain ⟨b4, b5, b6⟩ := blocks3 x.w (.cells #[.int .u8 4, .int .i64 0, .int .i64 0, .slice none 0 0] 46) (.cells #[.int .u8 5, .int .i64 0, .int .i64 0, .slice none 0 0] 46) (.cells #[.int .u8 6, .int .i64 0, .int .i64 0, .slice none 0 0] 46)
  have l2 := x.below.trans ((below3 x.w (.cells #[.int .u8 4, .int .i64 0, .int .i64 0, .slice none 0 0] 46) (.cells #[.int .u8 5, .int .i64 0, .int .i64 0, .slice none 0 0] 46) (.cells #[.int .u8 6, .int .i64 0, .int .i64 0, .slice none 0 0] 46)).mono x.below.size)
  rw [← hW2] at b4 b5 b6 l2
  have z2 : w.heap.size < x.w.heap.size := by have := x.below.size; omega
  clear hW2
  generalize hg4 : x.w.heap.size = g4 at *
  clear hg4
  (with_reducible refine (Later.calls0 (hS.out _ _)).mono ?_)
  rintro e w1 ⟨rfl, y, rfl⟩
  go_wp2_with fail
  refine name_call (fun W3 hW3 => ?_)
  have b7 := World.alloc_heap_new y.w (.cells #[.int .u8 1, .int .i64 0, .int .i64 2, .slice none 0 0] 46)
  have l3 := y.below.trans ((below1 y.w (.cells #[.int .u8 1, .int .i64 0, .int .i64 2, .slice none 0 0] 46)).mono y.below.size)
  rw [← hW3] at b7 l3
  have z3 : g4 + 2 < y.w.heap.size := Nat.lt_of_lt_of_le (at_lt b6) y.below.size
  clear hW3
  generalize hg7 : y.w.heap.size = g7 at *
  clear hg7
  (with_reducible refine (Later.calls0 (hA.out _ _)).mono ?_)
  rintro e w1 ⟨rfl, z, rfl⟩
  go_wp2_with fail
  refine name_world (fun W4 hW4 => ?_)
  have b8 := World.alloc_heap_new z.w (.cells #[.int .u8 1, .int .i64 (-100), .int .i64 0, .int .i64 0] 30)
  have l4 := z.below.trans ((below1 z.w (.cells #[.int .u8 1, .int .i64 (-100), .int .i64 0, .int .i64 0] 30)).mono z.below.size)
  rw [← hW4] at b8 l4
  have z4 : g7 < z.w.heap.size := Nat.lt_of_lt_of_le (at_lt b7) z.below.size
  clear hW4
  generalize hg8 : z.w.heap.size = g8 at *
  clear hg8
  have l34 := l3.trans (l4.mono l3.size)
  have l24 := l2.trans (l34.mono l2.size)
  replace b7 := (l4.block _ (at_lt b7)).trans b7
  replace b4 := (l34.block _ (at_lt b4)).trans b4
  replace b5 := (l34.block _ (at_lt b5)).trans b5
  replace b6 := (l34.block _ (at_lt b6)).trans b6
  replace b3 := (l24.block _ (at_lt b3)).trans b3
  have lw := l1.trans (l24.mono l1.size)
  have zz := at_lt b3
  clear l1 l2 l3 l4 l34 l24 x y z
  have b5' : W4.heap[g4 + 1]? = _ := b5
  have b6' : W4.heap[g4 + 1 + 1]? = _ := b6
  generalize hg5 : g4 + 1 = g5 at *
  generalize hg6 : g5 + 1 = g6 at *
  rename_i K hK
  refine wp_tells (by kernel_rfl) (TK W4.heap.size w.heap.size [.maps [1, 2, 3, 4, 8], .of [1, 2, 3, 4, 8], .stat (.agg #[.int .u8 4, .int .i64 0, .int .i64 0, .slice none 0 0]), .stat (.agg #[.int .u8 5, .int .i64 0, .int .i64 0, .slice none 0 0]), .stat (.agg #[.int .u8 1, .int .i64 0, .int .i64 2, .slice none 0 0]), .args [mapA [1, 2, 3, 4, 8], plA 4, plA 5, scA 0 2], .stat (.agg #[.int .u8 1, .int .i64 (-100), .int .i64 0, .int .i64 0]), .args [mapA [1, 2, 3, 4, 8], plA 4, plA 5, scA 0 2], .st (.int .u8 1) (.int .i64 (-100)) (.int .i64 0) (.int .i64 0)]) (GK w.heap.size W4) (by kernel_rfl) (by kernel_rfl) (by kernel_rfl) (by kernel_rfl) (fun j oj σ σ' W _ h hs => h.dep (hs j (.inl rfl))) ⟨⟨rfl, rfl, rfl, Nat.le_refl _, fun _ _ _ => rfl⟩, zz, _, _, _, _, b3⟩ ?_ ?_
  · intro i o ho L a W hLi hG hold hT hh
    have hi : i < 9 := (Array.getElem?_eq_some_iff.1 ho).1
    have hi' : i = 0 ∨ i = 1 ∨ i = 2 ∨ i = 3 ∨ i = 4 ∨ i = 5 ∨ i = 6 ∨ i = 7 ∨ i = 8 := by omega
    have hk : ∀ {W'}, Below W.heap.size W W' → ∀ j, L j = true → TK W4.heap.size w.heap.size [.maps [1, 2, 3, 4, 8], .of [1, 2, 3, 4, 8], .stat (.agg #[.int .u8 4, .int .i64 0, .int .i64 0, .slice none 0 0]), .stat (.agg #[.int .u8 5, .int .i64 0, .int .i64 0, .slice none 0 0]), .stat (.agg #[.int .u8 1, .int .i64 0, .int .i64 2, .slice none 0 0]), .args [mapA [1, 2, 3, 4, 8], plA 4, plA 5, scA 0 2], .stat (.agg #[.int .u8 1, .int .i64 (-100), .int .i64 0, .int .i64 0]), .args [mapA [1, 2, 3, 4, 8], plA 4, plA 5, scA 0 2], .st (.int .u8 1) (.int .i64 (-100)) (.int .i64 0) (.int .i64 0)] j (sl _ a) W' := fun hb j hj => (hT j hj).below hG.2.1 hb
    rcases hi' with rfl | rfl | rfl | rfl | rfl | rfl | rfl | rfl | rfl
    · cases ho
      refine step_turned (.slice (some ⟨W.heap.size, 0, none⟩) 5 5) (W.alloc (.cells (mks [1, 2, 3, 4, 8]).toArray 22)) ?_ (by decide) (hG.below (below1 _ _)) (hk (below1 _ _)) ⟨W.heap.size, rfl, hG.1.size, World.alloc_heap_new W _⟩
      simp [execOp, go_sem, Act.eval, mks]
    · cases ho
      obtain ⟨g, e1, hg, hb⟩ : ∃ g, a.eval (.tmp 24) = .slice (some ⟨g, 0, none⟩) 5 5 ∧ W4.heap.size ≤ g ∧ W.heap[g]? = some (.cells (mks [1, 2, 3, 4, 8]).toArray 22 (0, 0)) := hT 0 (hh 0 rfl)
      refine step_called (f := 55) (args := #[.slice (some ⟨g, 0, none⟩) 5 5]) (R := fun v W' => v = .agg #[.int .u8 3, .int .i64 0, .int .i64 0, .slice (some ⟨g, 0, none⟩) 5 5] ∧ Below W.heap.size W W') ?_ (by decide) ((oneOf_any _ _ _ W).mono (fun e w' h => ⟨_, h.1, rfl, h.2⟩)) ?_
      · have c1 : a.eval (.func 55) = .func (.func 55) #[] #[] := rfl
        generalize a.eval = ev at e1 c1 ⊢
        simp [execOp, go_sem, e1, c1, E55]
      · rintro v W' ⟨rfl, hb'⟩
        exact ⟨hG.below hb', hk hb', g, rfl, hg, (hb'.block g (at_lt hb)).trans hb⟩
    · cases ho
      refine step_told (.agg #[.int .u8 4, .int .i64 0, .int .i64 0, .slice none 0 0]) ?_ (by decide) hG (hk (Below.refl _ _)) rfl
      have e1 : a.eval (.tmp 4) = .pointer (some ⟨g4, 0, none⟩) := hold 4 (by kernel_rfl)
      have d0 := hG.cell b4 (by omega) 0
      have d1 := hG.cell b4 (by omega) 1
      have d2 := hG.cell b4 (by omega) 2
      have d3 := hG.cell b4 (by omega) 3
      simp at d0 d1 d2 d3
      generalize a.eval = ev at e1 ⊢
      simp [execOp, go_sem, e1, d0, d1, d2, d3]
    · cases ho
      refine step_told (.agg #[.int .u8 5, .int .i64 0, .int .i64 0, .slice none 0 0]) ?_ (by decide) hG (hk (Below.refl _ _)) rfl
      have e1 : a.eval (.tmp 5) = .pointer (some ⟨g5, 0, none⟩) := hold 5 (by kernel_rfl)
      have d0 := hG.cell b5' (by omega) 0
      have d1 := hG.cell b5' (by omega) 1
      have d2 := hG.cell b5' (by omega) 2
      have d3 := hG.cell b5' (by omega) 3
      simp at d0 d1 d2 d3
      generalize a.eval = ev at e1 ⊢
      simp [execOp, go_sem, e1, d0, d1, d2, d3]
    · cases ho
      refine step_told (.agg #[.int .u8 1, .int .i64 0, .int .i64 2, .slice none 0 0]) ?_ (by decide) hG (hk (Below.refl _ _)) rfl
      have e1 : a.eval (.tmp 7) = .pointer (some ⟨g7, 0, none⟩) := hold 7 (by kernel_rfl)
      have d0 := hG.cell b7 (by omega) 0
      have d1 := hG.cell b7 (by omega) 1
      have d2 := hG.cell b7 (by omega) 2
      have d3 := hG.cell b7 (by omega) 3
      simp at d0 d1 d2 d3
      generalize a.eval = ev at e1 ⊢
      simp [execOp, go_sem, e1, d0, d1, d2, d3]
    · cases ho
      obtain ⟨g, e1, hg, hb⟩ : ∃ g, a.eval (.tmp 25) = .agg #[.int .u8 3, .int .i64 0, .int .i64 0, .slice (some ⟨g, 0, none⟩) 5 5] ∧ W4.heap.size ≤ g ∧ W.heap[g]? = some (.cells (mks [1, 2, 3, 4, 8]).toArray 22 (0, 0)) := hT 1 (hh 1 rfl)
      have e2 : a.eval (.tmp 26) = .agg #[.int .u8 4, .int .i64 0, .int .i64 0, .slice none 0 0] := hT 2 (hh 2 rfl)
      have e3 : a.eval (.tmp 27) = .agg #[.int .u8 5, .int .i64 0, .int .i64 0, .slice none 0 0] := hT 3 (hh 3 rfl)
      have e4 : a.eval (.tmp 28) = .agg #[.int .u8 1, .int .i64 0, .int .i64 2, .slice none 0 0] := hT 4 (hh 4 rfl)
      refine step_turned (.slice (some ⟨W.heap.size, 0, none⟩) 4 4) (W.alloc (.cells ([mapA [1, 2, 3, 4, 8], plA 4, plA 5, scA 0 2].flatMap (argCells g)).toArray 46)) ?_ (by decide) (hG.below (below1 _ _)) (hk (below1 _ _)) ⟨W.heap.size, g, rfl, hG.1.size, hg, World.alloc_heap_new W _, ?_, ?_⟩
      · generalize a.eval = ev at e1 e2 e3 e4 ⊢
        simp [execOp, go_sem, e1, e2, e3, e4, argCells, mapA, plA, scA]
      · have hb' := ((below1 W (.cells ([mapA [1, 2, 3, 4, 8], plA 4, plA 5, scA 0 2].flatMap (argCells g)).toArray 46)).block g (at_lt hb)).trans hb
        intro q hq hm
        simp only [List.mem_cons, List.not_mem_nil, or_false] at hq
        rcases hq with rfl | rfl | rfl | rfl <;> first | exact hb' | (exact absurd hm (by decide))
      · intro q hq
        simp only [List.mem_cons, List.not_mem_nil, or_false] at hq
        rcases hq with rfl | rfl | rfl | rfl <;> decide
    · cases ho
      refine step_told (.agg #[.int .u8 1, .int .i64 (-100), .int .i64 0, .int .i64 0]) ?_ (by decide) hG (hk (Below.refl _ _)) rfl
      have e1 : a.eval (.tmp 8) = .pointer (some ⟨g8, 0, none⟩) := hold 8 (by kernel_rfl)
      have d0 := hG.cell b8 (by omega) 0
      have d1 := hG.cell b8 (by omega) 1
      have d2 := hG.cell b8 (by omega) 2
      have d3 := hG.cell b8 (by omega) 3
      simp at d0 d1 d2 d3
      generalize a.eval = ev at e1 ⊢
      simp [execOp, go_sem, e1, d0, d1, d2, d3]
    · cases ho
      obtain ⟨g, gm, e1, ho⟩ : ∃ g gm, a.eval (.tmp 29) = .slice (some ⟨g, 0, none⟩) 4 4 ∧ OwnBlk W W4.heap.size g gm [mapA [1, 2, 3, 4, 8], plA 4, plA 5, scA 0 2] := hT 5 (hh 5 rfl)
      refine step_told (.slice (some ⟨g, 0, none⟩) 4 4) ?_ (by decide) hG (hk (Below.refl _ _)) ⟨g, gm, rfl, ho⟩
      generalize a.eval = ev at e1 ⊢
      simp [execOp, go_sem, e1]
    · cases ho
      obtain ⟨hG1, hG2, r0, r1, r2, r3, hr⟩ := hG
      have e3 : a.eval (.tmp 3) = .pointer (some ⟨w.heap.size, 0, none⟩) := hold 3 (by kernel_rfl)
      have e1 : a.eval (.tmp 30) = .agg #[.int .u8 1, .int .i64 (-100), .int .i64 0, .int .i64 0] := hT 6 (hh 6 rfl)
      obtain ⟨hs, hgr⟩ := store_4 hr (.int .u8 1) (.int .i64 (-100)) (.int .i64 0) (.int .i64 0)
      have c0 := blk_cell hr 0
      have c1 := blk_cell hr 1
      have c2 := blk_cell hr 2
      have c3 := blk_cell hr 3
      have f0 := Joins.unfrozen_of_block hr 0
      have f1 := Joins.unfrozen_of_block hr 1
      have f2 := Joins.unfrozen_of_block hr 2
      have f3 := Joins.unfrozen_of_block hr 3
      simp at c0 c1 c2 c3
      refine step_skip ((((W.setCell ⟨w.heap.size, 0, none⟩ (.int .u8 1)).setCell ⟨w.heap.size, 1, none⟩ (.int .i64 (-100))).setCell ⟨w.heap.size, 2, none⟩ (.int .i64 0)).setCell ⟨w.heap.size, 3, none⟩ (.int .i64 0)) ?_ ⟨grown_row hG1 hgr, Nat.lt_of_lt_of_le hG2 hgr.size, _, _, _, _, hs⟩ (fun j hj => (hT j hj).keep (fun k hk hl => hgr.block k hl (fun e => by injection e with e; omega)) (fun r0 r1 r2 r3 hst => ?_)) hs
      · generalize a.eval = ev at e1 e3 ⊢
        simp [execOp, go_sem, e1, e3, c0, c1, c2, c3, f0, f1, f2, f3]
      · exfalso
        have hjn : j < 9 := by
          rcases Nat.lt_or_ge j 9 with h | h
          · exact h
          · rw [List.getElem?_eq_none (by simpa using h)] at hst; cases hst
        have hj' : j = 0 ∨ j = 1 ∨ j = 2 ∨ j = 3 ∨ j = 4 ∨ j = 5 ∨ j = 6 ∨ j = 7 ∨ j = 8 := by omega
        rcases hj' with rfl | rfl | rfl | rfl | rfl | rfl | rfl | rfl | rfl <;> first | (simp at hst; done) | (rw [hLi] at hj; cases hj)
  · intro a W hd hs hold hT hG
    refine hK _ _ ?_
    obtain ⟨g, gm, e2, ho⟩ : ∃ g gm, a.tmps.getD 2 undef = .slice (some ⟨g, 0, none⟩) 4 4 ∧ OwnBlk W W4.heap.size g gm [mapA [1, 2, 3, 4, 8], plA 4, plA 5, scA 0 2] := hT 7 (by decide)
    have e3 : a.tmps.getD 3 undef = .pointer (some ⟨w.heap.size, 0, none⟩) := hold 3 (by kernel_rfl)
    have hr : W.heap[w.heap.size]? = some (.cells #[.int .u8 1, .int .i64 (-100), .int .i64 0, .int .i64 0] 30 (0, 0)) := hT 8 (by decide)
    have hB : Below w.heap.size w W := ⟨hG.1.os.trans lw.os, hG.1.tape.trans lw.tape, hG.1.output.trans lw.output, Nat.le_trans lw.size hG.1.size, fun k hk => (hG.1.block k (Nat.lt_of_lt_of_le hk lw.size) (fun e => by injection e with e; omega)).trans (lw.block k hk)⟩
    have c0 := blk_cell hr 0
    have c1 := blk_cell hr 1
    have c2 := blk_cell hr 2
    have c3 := blk_cell hr 3
    simp at c0 c1 c2 c3
    have H2 := hide e2
    have H3 := hide e3
    have HO := hide ho
    have HB := hide hB
    clear hT hold hG hK e2 e3 ho hB hr
    go_wp2
    refine bodyPost_ret (v := .tuple #[.slice (some ⟨g, 0, none⟩) 4 4, .agg #[.int .u8 1, .int .i64 (-100), .int .i64 0, .int .i64 0]]) ?_ hd ⟨_, _, rfl, ⟨by decide, by unfold maxLen; omega⟩, (fun W' hs' hk' => (HO.out.keep (fun k h1 h2 => hk' k (by omega) h2)).args), HB.out⟩
    have e2 := H2.out
    have e3 := H3.out
    rw [Array.getD_eq_getD_getElem?] at e2 e3
    simp [results, Try.results23, go_sem, e2, e3, c0, c1, c2, c3]
set_option maxRecDepth 100000 in
set_option maxHeartbeats 2000000 in
theorem parts_3 (w : World) : Calls Try.prog 23 #[.int .u8 3] w (PartsTold 3 w) := by
  have hP := hide (fun k w => plain_any k w)
  have hS := hide (fun lo hi w => scalar_any lo hi w)
  have hA := hide (fun lo hi w => answer_any lo hi w)
  have E52 : ∀ args W, (callFunc 52 args).run Try.prog W = .ok (.enter 52 args) W := enters_of Try.func52 (by kernel_rfl) rfl
  have E53 : ∀ args W, (callFunc 53 args).run Try.prog W = .ok (.enter 53 args) W := enters_of Try.func53 (by kernel_rfl) rfl
  have E54 : ∀ args W, (callFunc 54 args).run Try.prog W = .ok (.enter 54 args) W := enters_of Try.func54 (by kernel_rfl) rfl
  have E55 : ∀ args W, (callFunc 55 args).run Try.prog W = .ok (.enter 55 args) W := enters_of Try.func55 (by kernel_rfl) rfl
  go_enter Try.func23, Try.ntmps23
  go_wp2_with fail
  refine name_call (fun W1 hW1 => ?_)
  have b3 := World.alloc_heap_new w (.cells #[.int .u8 0, .int .i64 0, .int .i64 0, .int .i64 0] 30)
  have l1 := below1 w (.cells #[.int .u8 0, .int .i64 0, .int .i64 0, .int .i64 0] 30)
  rw [← hW1] at b3 l1
  have z1 : W1.heap.size = w.heap.size + 1 := by rw [hW1]; simp
  clear hW1
  (with_reducible refine (Later.calls0 (hP.out _)).mono ?_)
  rintro e w1 ⟨rfl, x, rfl⟩
  go_wp2_with (go_at_call 52; (with_reducible refine (Later.calls _ (hP.out _)).mono ?_); rintro e w1 ⟨rfl, x, rfl⟩)
  refine name_call (fun W2 hW2 => ?_)
  obtain ⟨b4, b5, b6⟩ := blocks3 x.w (.cells #[.int .u8 4, .int .i64 0, .int .i64 0, .slice none 0 0] 46) (.cells #[.int .u8 5, .int .i64 0, .int .i64 0, .slice none 0 0] 46) (.cells #[.int .u8 6, .int .i64 0, .int .i64 0, .slice none 0 0] 46)
  have l2 := x.below.trans ((below3 x.w (.cells #[.int .u8 4, .int .i64 0, .int .i64 0, .slice none 0 0] 46) (.cells #[.int .u8 5, .int .i64 0, .int .i64 0, .slice none 0 0] 46) (.cells #[.int .u8 6, .int .i64 0, .int .i64 0, .slice none 0 0] 46)).mono x.below.size)
  rw [← hW2] at b4 b5 b6 l2
  have z2 : w.heap.size < x.w.heap.size := by have := x.below.size; omega
  clear hW2
  generalize hg4 : x.w.heap.size = g4 at *
  clear hg4
  (with_reducible refine (Later.calls0 (hS.out _ _)).mono ?_)
  rintro e w1 ⟨rfl, y, rfl⟩
  go_wp2_with fail
  refine name_call (fun W3 hW3 => ?_)
  have b7 := World.alloc_heap_new y.w (.cells #[.int .u8 1, .int .i64 0, .int .i64 2, .slice none 0 0] 46)
  have l3 := y.below.trans ((below1 y.w (.cells #[.int .u8 1, .int .i64 0, .int .i64 2, .slice none 0 0] 46)).mono y.below.size)
  rw [← hW3] at b7 l3
  have z3 : g4 + 2 < y.w.heap.size := Nat.lt_of_lt_of_le (at_lt b6) y.below.size
  clear hW3
  generalize hg7 : y.w.heap.size = g7 at *
  clear hg7
  (with_reducible refine (Later.calls0 (hA.out _ _)).mono ?_)
  rintro e w1 ⟨rfl, z, rfl⟩
  go_wp2_with fail
  refine name_world (fun W4 hW4 => ?_)
  have b8 := World.alloc_heap_new z.w (.cells #[.int .u8 1, .int .i64 (-100), .int .i64 0, .int .i64 0] 30)
  have l4 := z.below.trans ((below1 z.w (.cells #[.int .u8 1, .int .i64 (-100), .int .i64 0, .int .i64 0] 30)).mono z.below.size)
  rw [← hW4] at b8 l4
  have z4 : g7 < z.w.heap.size := Nat.lt_of_lt_of_le (at_lt b7) z.below.size
  clear hW4
  generalize hg8 : z.w.heap.size = g8 at *
  clear hg8
  have l34 := l3.trans (l4.mono l3.size)
  have l24 := l2.trans (l34.mono l2.size)
  replace b7 := (l4.block _ (at_lt b7)).trans b7
  replace b4 := (l34.block _ (at_lt b4)).trans b4
  replace b5 := (l34.block _ (at_lt b5)).trans b5
  replace b6 := (l34.block _ (at_lt b6)).trans b6
  replace b3 := (l24.block _ (at_lt b3)).trans b3
  have lw := l1.trans (l24.mono l1.size)
  have zz := at_lt b3
  clear l1 l2 l3 l4 l34 l24 x y z
  have b5' : W4.heap[g4 + 1]? = _ := b5
  have b6' : W4.heap[g4 + 1 + 1]? = _ := b6
  generalize hg5 : g4 + 1 = g5 at *
  generalize hg6 : g5 + 1 = g6 at *
  rename_i K hK
  refine wp_tells (by kernel_rfl) (TK W4.heap.size w.heap.size [.maps [2, 3, 4, 8], .of [2, 3, 4, 8], .stat (.agg #[.int .u8 4, .int .i64 0, .int .i64 0, .slice none 0 0]), .args [mapA [2, 3, 4, 8], plA 4], .stat (.agg #[.int .u8 1, .int .i64 (-100), .int .i64 0, .int .i64 0]), .args [mapA [2, 3, 4, 8], plA 4], .st (.int .u8 1) (.int .i64 (-100)) (.int .i64 0) (.int .i64 0)]) (GK w.heap.size W4) (by kernel_rfl) (by kernel_rfl) (by kernel_rfl) (by kernel_rfl) (fun j oj σ σ' W _ h hs => h.dep (hs j (.inl rfl))) ⟨⟨rfl, rfl, rfl, Nat.le_refl _, fun _ _ _ => rfl⟩, zz, _, _, _, _, b3⟩ ?_ ?_
  · intro i o ho L a W hLi hG hold hT hh
    have hi : i < 7 := (Array.getElem?_eq_some_iff.1 ho).1
    have hi' : i = 0 ∨ i = 1 ∨ i = 2 ∨ i = 3 ∨ i = 4 ∨ i = 5 ∨ i = 6 := by omega
    have hk : ∀ {W'}, Below W.heap.size W W' → ∀ j, L j = true → TK W4.heap.size w.heap.size [.maps [2, 3, 4, 8], .of [2, 3, 4, 8], .stat (.agg #[.int .u8 4, .int .i64 0, .int .i64 0, .slice none 0 0]), .args [mapA [2, 3, 4, 8], plA 4], .stat (.agg #[.int .u8 1, .int .i64 (-100), .int .i64 0, .int .i64 0]), .args [mapA [2, 3, 4, 8], plA 4], .st (.int .u8 1) (.int .i64 (-100)) (.int .i64 0) (.int .i64 0)] j (sl _ a) W' := fun hb j hj => (hT j hj).below hG.2.1 hb
    rcases hi' with rfl | rfl | rfl | rfl | rfl | rfl | rfl
    · cases ho
      refine step_turned (.slice (some ⟨W.heap.size, 0, none⟩) 4 4) (W.alloc (.cells (mks [2, 3, 4, 8]).toArray 22)) ?_ (by decide) (hG.below (below1 _ _)) (hk (below1 _ _)) ⟨W.heap.size, rfl, hG.1.size, World.alloc_heap_new W _⟩
      simp [execOp, go_sem, Act.eval, mks]
    · cases ho
      obtain ⟨g, e1, hg, hb⟩ : ∃ g, a.eval (.tmp 33) = .slice (some ⟨g, 0, none⟩) 4 4 ∧ W4.heap.size ≤ g ∧ W.heap[g]? = some (.cells (mks [2, 3, 4, 8]).toArray 22 (0, 0)) := hT 0 (hh 0 rfl)
      refine step_called (f := 55) (args := #[.slice (some ⟨g, 0, none⟩) 4 4]) (R := fun v W' => v = .agg #[.int .u8 3, .int .i64 0, .int .i64 0, .slice (some ⟨g, 0, none⟩) 4 4] ∧ Below W.heap.size W W') ?_ (by decide) ((oneOf_any _ _ _ W).mono (fun e w' h => ⟨_, h.1, rfl, h.2⟩)) ?_
      · have c1 : a.eval (.func 55) = .func (.func 55) #[] #[] := rfl
        generalize a.eval = ev at e1 c1 ⊢
        simp [execOp, go_sem, e1, c1, E55]
      · rintro v W' ⟨rfl, hb'⟩
        exact ⟨hG.below hb', hk hb', g, rfl, hg, (hb'.block g (at_lt hb)).trans hb⟩
    · cases ho
      refine step_told (.agg #[.int .u8 4, .int .i64 0, .int .i64 0, .slice none 0 0]) ?_ (by decide) hG (hk (Below.refl _ _)) rfl
      have e1 : a.eval (.tmp 4) = .pointer (some ⟨g4, 0, none⟩) := hold 4 (by kernel_rfl)
      have d0 := hG.cell b4 (by omega) 0
      have d1 := hG.cell b4 (by omega) 1
      have d2 := hG.cell b4 (by omega) 2
      have d3 := hG.cell b4 (by omega) 3
      simp at d0 d1 d2 d3
      generalize a.eval = ev at e1 ⊢
      simp [execOp, go_sem, e1, d0, d1, d2, d3]
    · cases ho
      obtain ⟨g, e1, hg, hb⟩ : ∃ g, a.eval (.tmp 34) = .agg #[.int .u8 3, .int .i64 0, .int .i64 0, .slice (some ⟨g, 0, none⟩) 4 4] ∧ W4.heap.size ≤ g ∧ W.heap[g]? = some (.cells (mks [2, 3, 4, 8]).toArray 22 (0, 0)) := hT 1 (hh 1 rfl)
      have e2 : a.eval (.tmp 35) = .agg #[.int .u8 4, .int .i64 0, .int .i64 0, .slice none 0 0] := hT 2 (hh 2 rfl)
      refine step_turned (.slice (some ⟨W.heap.size, 0, none⟩) 2 2) (W.alloc (.cells ([mapA [2, 3, 4, 8], plA 4].flatMap (argCells g)).toArray 46)) ?_ (by decide) (hG.below (below1 _ _)) (hk (below1 _ _)) ⟨W.heap.size, g, rfl, hG.1.size, hg, World.alloc_heap_new W _, ?_, ?_⟩
      · generalize a.eval = ev at e1 e2 ⊢
        simp [execOp, go_sem, e1, e2, argCells, mapA, plA]
      · have hb' := ((below1 W (.cells ([mapA [2, 3, 4, 8], plA 4].flatMap (argCells g)).toArray 46)).block g (at_lt hb)).trans hb
        intro q hq hm
        simp only [List.mem_cons, List.not_mem_nil, or_false] at hq
        rcases hq with rfl | rfl <;> first | exact hb' | (exact absurd hm (by decide))
      · intro q hq
        simp only [List.mem_cons, List.not_mem_nil, or_false] at hq
        rcases hq with rfl | rfl <;> decide
    · cases ho
      refine step_told (.agg #[.int .u8 1, .int .i64 (-100), .int .i64 0, .int .i64 0]) ?_ (by decide) hG (hk (Below.refl _ _)) rfl
      have e1 : a.eval (.tmp 8) = .pointer (some ⟨g8, 0, none⟩) := hold 8 (by kernel_rfl)
      have d0 := hG.cell b8 (by omega) 0
      have d1 := hG.cell b8 (by omega) 1
      have d2 := hG.cell b8 (by omega) 2
      have d3 := hG.cell b8 (by omega) 3
      simp at d0 d1 d2 d3
      generalize a.eval = ev at e1 ⊢
      simp [execOp, go_sem, e1, d0, d1, d2, d3]
    · cases ho
      obtain ⟨g, gm, e1, ho⟩ : ∃ g gm, a.eval (.tmp 36) = .slice (some ⟨g, 0, none⟩) 2 2 ∧ OwnBlk W W4.heap.size g gm [mapA [2, 3, 4, 8], plA 4] := hT 3 (hh 3 rfl)
      refine step_told (.slice (some ⟨g, 0, none⟩) 2 2) ?_ (by decide) hG (hk (Below.refl _ _)) ⟨g, gm, rfl, ho⟩
      generalize a.eval = ev at e1 ⊢
      simp [execOp, go_sem, e1]
    · cases ho
      obtain ⟨hG1, hG2, r0, r1, r2, r3, hr⟩ := hG
      have e3 : a.eval (.tmp 3) = .pointer (some ⟨w.heap.size, 0, none⟩) := hold 3 (by kernel_rfl)
      have e1 : a.eval (.tmp 37) = .agg #[.int .u8 1, .int .i64 (-100), .int .i64 0, .int .i64 0] := hT 4 (hh 4 rfl)
      obtain ⟨hs, hgr⟩ := store_4 hr (.int .u8 1) (.int .i64 (-100)) (.int .i64 0) (.int .i64 0)
      have c0 := blk_cell hr 0
      have c1 := blk_cell hr 1
      have c2 := blk_cell hr 2
      have c3 := blk_cell hr 3
      have f0 := Joins.unfrozen_of_block hr 0
      have f1 := Joins.unfrozen_of_block hr 1
      have f2 := Joins.unfrozen_of_block hr 2
      have f3 := Joins.unfrozen_of_block hr 3
      simp at c0 c1 c2 c3
      refine step_skip ((((W.setCell ⟨w.heap.size, 0, none⟩ (.int .u8 1)).setCell ⟨w.heap.size, 1, none⟩ (.int .i64 (-100))).setCell ⟨w.heap.size, 2, none⟩ (.int .i64 0)).setCell ⟨w.heap.size, 3, none⟩ (.int .i64 0)) ?_ ⟨grown_row hG1 hgr, Nat.lt_of_lt_of_le hG2 hgr.size, _, _, _, _, hs⟩ (fun j hj => (hT j hj).keep (fun k hk hl => hgr.block k hl (fun e => by injection e with e; omega)) (fun r0 r1 r2 r3 hst => ?_)) hs
      · generalize a.eval = ev at e1 e3 ⊢
        simp [execOp, go_sem, e1, e3, c0, c1, c2, c3, f0, f1, f2, f3]
      · exfalso
        have hjn : j < 7 := by
          rcases Nat.lt_or_ge j 7 with h | h
          · exact h
          · rw [List.getElem?_eq_none (by simpa using h)] at hst; cases hst
        have hj' : j = 0 ∨ j = 1 ∨ j = 2 ∨ j = 3 ∨ j = 4 ∨ j = 5 ∨ j = 6 := by omega
        rcases hj' with rfl | rfl | rfl | rfl | rfl | rfl | rfl <;> first | (simp at hst; done) | (rw [hLi] at hj; cases hj)
  · intro a W hd hs hold hT hG
    refine hK _ _ ?_
    obtain ⟨g, gm, e2, ho⟩ : ∃ g gm, a.tmps.getD 2 undef = .slice (some ⟨g, 0, none⟩) 2 2 ∧ OwnBlk W W4.heap.size g gm [mapA [2, 3, 4, 8], plA 4] := hT 5 (by decide)
    have e3 : a.tmps.getD 3 undef = .pointer (some ⟨w.heap.size, 0, none⟩) := hold 3 (by kernel_rfl)
    have hr : W.heap[w.heap.size]? = some (.cells #[.int .u8 1, .int .i64 (-100), .int .i64 0, .int .i64 0] 30 (0, 0)) := hT 6 (by decide)
    have hB : Below w.heap.size w W := ⟨hG.1.os.trans lw.os, hG.1.tape.trans lw.tape, hG.1.output.trans lw.output, Nat.le_trans lw.size hG.1.size, fun k hk => (hG.1.block k (Nat.lt_of_lt_of_le hk lw.size) (fun e => by injection e with e; omega)).trans (lw.block k hk)⟩
    have c0 := blk_cell hr 0
    have c1 := blk_cell hr 1
    have c2 := blk_cell hr 2
    have c3 := blk_cell hr 3
    simp at c0 c1 c2 c3
    have H2 := hide e2
    have H3 := hide e3
    have HO := hide ho
    have HB := hide hB
    clear hT hold hG hK e2 e3 ho hB hr
    go_wp2
    refine bodyPost_ret (v := .tuple #[.slice (some ⟨g, 0, none⟩) 2 2, .agg #[.int .u8 1, .int .i64 (-100), .int .i64 0, .int .i64 0]]) ?_ hd ⟨_, _, rfl, ⟨by decide, by unfold maxLen; omega⟩, (fun W' hs' hk' => (HO.out.keep (fun k h1 h2 => hk' k (by omega) h2)).args), HB.out⟩
    have e2 := H2.out
    have e3 := H3.out
    rw [Array.getD_eq_getD_getElem?] at e2 e3
    simp [results, Try.results23, go_sem, e2, e3, c0, c1, c2, c3]
set_option maxRecDepth 100000 in
set_option maxHeartbeats 2000000 in
theorem parts_4 (w : World) : Calls Try.prog 23 #[.int .u8 4] w (PartsTold 4 w) := by
  have hP := hide (fun k w => plain_any k w)
  have hS := hide (fun lo hi w => scalar_any lo hi w)
  have hA := hide (fun lo hi w => answer_any lo hi w)
  have E52 : ∀ args W, (callFunc 52 args).run Try.prog W = .ok (.enter 52 args) W := enters_of Try.func52 (by kernel_rfl) rfl
  have E53 : ∀ args W, (callFunc 53 args).run Try.prog W = .ok (.enter 53 args) W := enters_of Try.func53 (by kernel_rfl) rfl
  have E54 : ∀ args W, (callFunc 54 args).run Try.prog W = .ok (.enter 54 args) W := enters_of Try.func54 (by kernel_rfl) rfl
  have E55 : ∀ args W, (callFunc 55 args).run Try.prog W = .ok (.enter 55 args) W := enters_of Try.func55 (by kernel_rfl) rfl
  go_enter Try.func23, Try.ntmps23
  go_wp2_with fail
  refine name_call (fun W1 hW1 => ?_)
  have b3 := World.alloc_heap_new w (.cells #[.int .u8 0, .int .i64 0, .int .i64 0, .int .i64 0] 30)
  have l1 := below1 w (.cells #[.int .u8 0, .int .i64 0, .int .i64 0, .int .i64 0] 30)
  rw [← hW1] at b3 l1
  have z1 : W1.heap.size = w.heap.size + 1 := by rw [hW1]; simp
  clear hW1
  (with_reducible refine (Later.calls0 (hP.out _)).mono ?_)
  rintro e w1 ⟨rfl, x, rfl⟩
  go_wp2_with (go_at_call 52; (with_reducible refine (Later.calls _ (hP.out _)).mono ?_); rintro e w1 ⟨rfl, x, rfl⟩)
  refine name_call (fun W2 hW2 => ?_)
  obtain ⟨b4, b5, b6⟩ := blocks3 x.w (.cells #[.int .u8 4, .int .i64 0, .int .i64 0, .slice none 0 0] 46) (.cells #[.int .u8 5, .int .i64 0, .int .i64 0, .slice none 0 0] 46) (.cells #[.int .u8 6, .int .i64 0, .int .i64 0, .slice none 0 0] 46)
  have l2 := x.below.trans ((below3 x.w (.cells #[.int .u8 4, .int .i64 0, .int .i64 0, .slice none 0 0] 46) (.cells #[.int .u8 5, .int .i64 0, .int .i64 0, .slice none 0 0] 46) (.cells #[.int .u8 6, .int .i64 0, .int .i64 0, .slice none 0 0] 46)).mono x.below.size)
  rw [← hW2] at b4 b5 b6 l2
  have z2 : w.heap.size < x.w.heap.size := by have := x.below.size; omega
  clear hW2
  generalize hg4 : x.w.heap.size = g4 at *
  clear hg4
  (with_reducible refine (Later.calls0 (hS.out _ _)).mono ?_)
  rintro e w1 ⟨rfl, y, rfl⟩
  go_wp2_with fail
  refine name_call (fun W3 hW3 => ?_)
  have b7 := World.alloc_heap_new y.w (.cells #[.int .u8 1, .int .i64 0, .int .i64 2, .slice none 0 0] 46)
  have l3 := y.below.trans ((below1 y.w (.cells #[.int .u8 1, .int .i64 0, .int .i64 2, .slice none 0 0] 46)).mono y.below.size)
  rw [← hW3] at b7 l3
  have z3 : g4 + 2 < y.w.heap.size := Nat.lt_of_lt_of_le (at_lt b6) y.below.size
  clear hW3
  generalize hg7 : y.w.heap.size = g7 at *
  clear hg7
  (with_reducible refine (Later.calls0 (hA.out _ _)).mono ?_)
  rintro e w1 ⟨rfl, z, rfl⟩
  go_wp2_with fail
  refine name_world (fun W4 hW4 => ?_)
  have b8 := World.alloc_heap_new z.w (.cells #[.int .u8 1, .int .i64 (-100), .int .i64 0, .int .i64 0] 30)
  have l4 := z.below.trans ((below1 z.w (.cells #[.int .u8 1, .int .i64 (-100), .int .i64 0, .int .i64 0] 30)).mono z.below.size)
  rw [← hW4] at b8 l4
  have z4 : g7 < z.w.heap.size := Nat.lt_of_lt_of_le (at_lt b7) z.below.size
  clear hW4
  generalize hg8 : z.w.heap.size = g8 at *
  clear hg8
  have l34 := l3.trans (l4.mono l3.size)
  have l24 := l2.trans (l34.mono l2.size)
  replace b7 := (l4.block _ (at_lt b7)).trans b7
  replace b4 := (l34.block _ (at_lt b4)).trans b4
  replace b5 := (l34.block _ (at_lt b5)).trans b5
  replace b6 := (l34.block _ (at_lt b6)).trans b6
  replace b3 := (l24.block _ (at_lt b3)).trans b3
  have lw := l1.trans (l24.mono l1.size)
  have zz := at_lt b3
  clear l1 l2 l3 l4 l34 l24 x y z
  have b5' : W4.heap[g4 + 1]? = _ := b5
  have b6' : W4.heap[g4 + 1 + 1]? = _ := b6
  generalize hg5 : g4 + 1 = g5 at *
  generalize hg6 : g5 + 1 = g6 at *
  rename_i K hK
  refine wp_tells (by kernel_rfl) (TK W4.heap.size w.heap.size [.maps [5, 6], .of [5, 6], .stat (.agg #[.int .u8 5, .int .i64 0, .int .i64 0, .slice none 0 0]), .stat (.agg #[.int .u8 1, .int .i64 0, .int .i64 2, .slice none 0 0]), .args [mapA [5, 6], plA 5, scA 0 2], .stat (.agg #[.int .u8 1, .int .i64 (-100), .int .i64 0, .int .i64 0]), .args [mapA [5, 6], plA 5, scA 0 2], .st (.int .u8 1) (.int .i64 (-100)) (.int .i64 0) (.int .i64 0)]) (GK w.heap.size W4) (by kernel_rfl) (by kernel_rfl) (by kernel_rfl) (by kernel_rfl) (fun j oj σ σ' W _ h hs => h.dep (hs j (.inl rfl))) ⟨⟨rfl, rfl, rfl, Nat.le_refl _, fun _ _ _ => rfl⟩, zz, _, _, _, _, b3⟩ ?_ ?_
  · intro i o ho L a W hLi hG hold hT hh
    have hi : i < 8 := (Array.getElem?_eq_some_iff.1 ho).1
    have hi' : i = 0 ∨ i = 1 ∨ i = 2 ∨ i = 3 ∨ i = 4 ∨ i = 5 ∨ i = 6 ∨ i = 7 := by omega
    have hk : ∀ {W'}, Below W.heap.size W W' → ∀ j, L j = true → TK W4.heap.size w.heap.size [.maps [5, 6], .of [5, 6], .stat (.agg #[.int .u8 5, .int .i64 0, .int .i64 0, .slice none 0 0]), .stat (.agg #[.int .u8 1, .int .i64 0, .int .i64 2, .slice none 0 0]), .args [mapA [5, 6], plA 5, scA 0 2], .stat (.agg #[.int .u8 1, .int .i64 (-100), .int .i64 0, .int .i64 0]), .args [mapA [5, 6], plA 5, scA 0 2], .st (.int .u8 1) (.int .i64 (-100)) (.int .i64 0) (.int .i64 0)] j (sl _ a) W' := fun hb j hj => (hT j hj).below hG.2.1 hb
    rcases hi' with rfl | rfl | rfl | rfl | rfl | rfl | rfl | rfl
    · cases ho
      refine step_turned (.slice (some ⟨W.heap.size, 0, none⟩) 2 2) (W.alloc (.cells (mks [5, 6]).toArray 22)) ?_ (by decide) (hG.below (below1 _ _)) (hk (below1 _ _)) ⟨W.heap.size, rfl, hG.1.size, World.alloc_heap_new W _⟩
      simp [execOp, go_sem, Act.eval, mks]
    · cases ho
      obtain ⟨g, e1, hg, hb⟩ : ∃ g, a.eval (.tmp 40) = .slice (some ⟨g, 0, none⟩) 2 2 ∧ W4.heap.size ≤ g ∧ W.heap[g]? = some (.cells (mks [5, 6]).toArray 22 (0, 0)) := hT 0 (hh 0 rfl)
      refine step_called (f := 55) (args := #[.slice (some ⟨g, 0, none⟩) 2 2]) (R := fun v W' => v = .agg #[.int .u8 3, .int .i64 0, .int .i64 0, .slice (some ⟨g, 0, none⟩) 2 2] ∧ Below W.heap.size W W') ?_ (by decide) ((oneOf_any _ _ _ W).mono (fun e w' h => ⟨_, h.1, rfl, h.2⟩)) ?_
      · have c1 : a.eval (.func 55) = .func (.func 55) #[] #[] := rfl
        generalize a.eval = ev at e1 c1 ⊢
        simp [execOp, go_sem, e1, c1, E55]
      · rintro v W' ⟨rfl, hb'⟩
        exact ⟨hG.below hb', hk hb', g, rfl, hg, (hb'.block g (at_lt hb)).trans hb⟩
    · cases ho
      refine step_told (.agg #[.int .u8 5, .int .i64 0, .int .i64 0, .slice none 0 0]) ?_ (by decide) hG (hk (Below.refl _ _)) rfl
      have e1 : a.eval (.tmp 5) = .pointer (some ⟨g5, 0, none⟩) := hold 5 (by kernel_rfl)
      have d0 := hG.cell b5' (by omega) 0
      have d1 := hG.cell b5' (by omega) 1
      have d2 := hG.cell b5' (by omega) 2
      have d3 := hG.cell b5' (by omega) 3
      simp at d0 d1 d2 d3
      generalize a.eval = ev at e1 ⊢
      simp [execOp, go_sem, e1, d0, d1, d2, d3]
    · cases ho
      refine step_told (.agg #[.int .u8 1, .int .i64 0, .int .i64 2, .slice none 0 0]) ?_ (by decide) hG (hk (Below.refl _ _)) rfl
      have e1 : a.eval (.tmp 7) = .pointer (some ⟨g7, 0, none⟩) := hold 7 (by kernel_rfl)
      have d0 := hG.cell b7 (by omega) 0
      have d1 := hG.cell b7 (by omega) 1
      have d2 := hG.cell b7 (by omega) 2
      have d3 := hG.cell b7 (by omega) 3
      simp at d0 d1 d2 d3
      generalize a.eval = ev at e1 ⊢
      simp [execOp, go_sem, e1, d0, d1, d2, d3]
    · cases ho
      obtain ⟨g, e1, hg, hb⟩ : ∃ g, a.eval (.tmp 41) = .agg #[.int .u8 3, .int .i64 0, .int .i64 0, .slice (some ⟨g, 0, none⟩) 2 2] ∧ W4.heap.size ≤ g ∧ W.heap[g]? = some (.cells (mks [5, 6]).toArray 22 (0, 0)) := hT 1 (hh 1 rfl)
      have e2 : a.eval (.tmp 42) = .agg #[.int .u8 5, .int .i64 0, .int .i64 0, .slice none 0 0] := hT 2 (hh 2 rfl)
      have e3 : a.eval (.tmp 43) = .agg #[.int .u8 1, .int .i64 0, .int .i64 2, .slice none 0 0] := hT 3 (hh 3 rfl)
      refine step_turned (.slice (some ⟨W.heap.size, 0, none⟩) 3 3) (W.alloc (.cells ([mapA [5, 6], plA 5, scA 0 2].flatMap (argCells g)).toArray 46)) ?_ (by decide) (hG.below (below1 _ _)) (hk (below1 _ _)) ⟨W.heap.size, g, rfl, hG.1.size, hg, World.alloc_heap_new W _, ?_, ?_⟩
      · generalize a.eval = ev at e1 e2 e3 ⊢
        simp [execOp, go_sem, e1, e2, e3, argCells, mapA, plA, scA]
      · have hb' := ((below1 W (.cells ([mapA [5, 6], plA 5, scA 0 2].flatMap (argCells g)).toArray 46)).block g (at_lt hb)).trans hb
        intro q hq hm
        simp only [List.mem_cons, List.not_mem_nil, or_false] at hq
        rcases hq with rfl | rfl | rfl <;> first | exact hb' | (exact absurd hm (by decide))
      · intro q hq
        simp only [List.mem_cons, List.not_mem_nil, or_false] at hq
        rcases hq with rfl | rfl | rfl <;> decide
    · cases ho
      refine step_told (.agg #[.int .u8 1, .int .i64 (-100), .int .i64 0, .int .i64 0]) ?_ (by decide) hG (hk (Below.refl _ _)) rfl
      have e1 : a.eval (.tmp 8) = .pointer (some ⟨g8, 0, none⟩) := hold 8 (by kernel_rfl)
      have d0 := hG.cell b8 (by omega) 0
      have d1 := hG.cell b8 (by omega) 1
      have d2 := hG.cell b8 (by omega) 2
      have d3 := hG.cell b8 (by omega) 3
      simp at d0 d1 d2 d3
      generalize a.eval = ev at e1 ⊢
      simp [execOp, go_sem, e1, d0, d1, d2, d3]
    · cases ho
      obtain ⟨g, gm, e1, ho⟩ : ∃ g gm, a.eval (.tmp 44) = .slice (some ⟨g, 0, none⟩) 3 3 ∧ OwnBlk W W4.heap.size g gm [mapA [5, 6], plA 5, scA 0 2] := hT 4 (hh 4 rfl)
      refine step_told (.slice (some ⟨g, 0, none⟩) 3 3) ?_ (by decide) hG (hk (Below.refl _ _)) ⟨g, gm, rfl, ho⟩
      generalize a.eval = ev at e1 ⊢
      simp [execOp, go_sem, e1]
    · cases ho
      obtain ⟨hG1, hG2, r0, r1, r2, r3, hr⟩ := hG
      have e3 : a.eval (.tmp 3) = .pointer (some ⟨w.heap.size, 0, none⟩) := hold 3 (by kernel_rfl)
      have e1 : a.eval (.tmp 45) = .agg #[.int .u8 1, .int .i64 (-100), .int .i64 0, .int .i64 0] := hT 5 (hh 5 rfl)
      obtain ⟨hs, hgr⟩ := store_4 hr (.int .u8 1) (.int .i64 (-100)) (.int .i64 0) (.int .i64 0)
      have c0 := blk_cell hr 0
      have c1 := blk_cell hr 1
      have c2 := blk_cell hr 2
      have c3 := blk_cell hr 3
      have f0 := Joins.unfrozen_of_block hr 0
      have f1 := Joins.unfrozen_of_block hr 1
      have f2 := Joins.unfrozen_of_block hr 2
      have f3 := Joins.unfrozen_of_block hr 3
      simp at c0 c1 c2 c3
      refine step_skip ((((W.setCell ⟨w.heap.size, 0, none⟩ (.int .u8 1)).setCell ⟨w.heap.size, 1, none⟩ (.int .i64 (-100))).setCell ⟨w.heap.size, 2, none⟩ (.int .i64 0)).setCell ⟨w.heap.size, 3, none⟩ (.int .i64 0)) ?_ ⟨grown_row hG1 hgr, Nat.lt_of_lt_of_le hG2 hgr.size, _, _, _, _, hs⟩ (fun j hj => (hT j hj).keep (fun k hk hl => hgr.block k hl (fun e => by injection e with e; omega)) (fun r0 r1 r2 r3 hst => ?_)) hs
      · generalize a.eval = ev at e1 e3 ⊢
        simp [execOp, go_sem, e1, e3, c0, c1, c2, c3, f0, f1, f2, f3]
      · exfalso
        have hjn : j < 8 := by
          rcases Nat.lt_or_ge j 8 with h | h
          · exact h
          · rw [List.getElem?_eq_none (by simpa using h)] at hst; cases hst
        have hj' : j = 0 ∨ j = 1 ∨ j = 2 ∨ j = 3 ∨ j = 4 ∨ j = 5 ∨ j = 6 ∨ j = 7 := by omega
        rcases hj' with rfl | rfl | rfl | rfl | rfl | rfl | rfl | rfl <;> first | (simp at hst; done) | (rw [hLi] at hj; cases hj)
  · intro a W hd hs hold hT hG
    refine hK _ _ ?_
    obtain ⟨g, gm, e2, ho⟩ : ∃ g gm, a.tmps.getD 2 undef = .slice (some ⟨g, 0, none⟩) 3 3 ∧ OwnBlk W W4.heap.size g gm [mapA [5, 6], plA 5, scA 0 2] := hT 6 (by decide)
    have e3 : a.tmps.getD 3 undef = .pointer (some ⟨w.heap.size, 0, none⟩) := hold 3 (by kernel_rfl)
    have hr : W.heap[w.heap.size]? = some (.cells #[.int .u8 1, .int .i64 (-100), .int .i64 0, .int .i64 0] 30 (0, 0)) := hT 7 (by decide)
    have hB : Below w.heap.size w W := ⟨hG.1.os.trans lw.os, hG.1.tape.trans lw.tape, hG.1.output.trans lw.output, Nat.le_trans lw.size hG.1.size, fun k hk => (hG.1.block k (Nat.lt_of_lt_of_le hk lw.size) (fun e => by injection e with e; omega)).trans (lw.block k hk)⟩
    have c0 := blk_cell hr 0
    have c1 := blk_cell hr 1
    have c2 := blk_cell hr 2
    have c3 := blk_cell hr 3
    simp at c0 c1 c2 c3
    have H2 := hide e2
    have H3 := hide e3
    have HO := hide ho
    have HB := hide hB
    clear hT hold hG hK e2 e3 ho hB hr
    go_wp2
    refine bodyPost_ret (v := .tuple #[.slice (some ⟨g, 0, none⟩) 3 3, .agg #[.int .u8 1, .int .i64 (-100), .int .i64 0, .int .i64 0]]) ?_ hd ⟨_, _, rfl, ⟨by decide, by unfold maxLen; omega⟩, (fun W' hs' hk' => (HO.out.keep (fun k h1 h2 => hk' k (by omega) h2)).args), HB.out⟩
    have e2 := H2.out
    have e3 := H3.out
    rw [Array.getD_eq_getD_getElem?] at e2 e3
    simp [results, Try.results23, go_sem, e2, e3, c0, c1, c2, c3]
set_option maxRecDepth 100000 in
set_option maxHeartbeats 2000000 in
theorem parts_5 (w : World) : Calls Try.prog 23 #[.int .u8 5] w (PartsTold 5 w) := by
  have hP := hide (fun k w => plain_any k w)
  have hS := hide (fun lo hi w => scalar_any lo hi w)
  have hA := hide (fun lo hi w => answer_any lo hi w)
  have E52 : ∀ args W, (callFunc 52 args).run Try.prog W = .ok (.enter 52 args) W := enters_of Try.func52 (by kernel_rfl) rfl
  have E53 : ∀ args W, (callFunc 53 args).run Try.prog W = .ok (.enter 53 args) W := enters_of Try.func53 (by kernel_rfl) rfl
  have E54 : ∀ args W, (callFunc 54 args).run Try.prog W = .ok (.enter 54 args) W := enters_of Try.func54 (by kernel_rfl) rfl
  have E55 : ∀ args W, (callFunc 55 args).run Try.prog W = .ok (.enter 55 args) W := enters_of Try.func55 (by kernel_rfl) rfl
  go_enter Try.func23, Try.ntmps23
  go_wp2_with fail
  refine name_call (fun W1 hW1 => ?_)
  have b3 := World.alloc_heap_new w (.cells #[.int .u8 0, .int .i64 0, .int .i64 0, .int .i64 0] 30)
  have l1 := below1 w (.cells #[.int .u8 0, .int .i64 0, .int .i64 0, .int .i64 0] 30)
  rw [← hW1] at b3 l1
  have z1 : W1.heap.size = w.heap.size + 1 := by rw [hW1]; simp
  clear hW1
  (with_reducible refine (Later.calls0 (hP.out _)).mono ?_)
  rintro e w1 ⟨rfl, x, rfl⟩
  go_wp2_with (go_at_call 52; (with_reducible refine (Later.calls _ (hP.out _)).mono ?_); rintro e w1 ⟨rfl, x, rfl⟩)
  refine name_call (fun W2 hW2 => ?_)
  obtain ⟨b4, b5, b6⟩ := blocks3 x.w (.cells #[.int .u8 4, .int .i64 0, .int .i64 0, .slice none 0 0] 46) (.cells #[.int .u8 5, .int .i64 0, .int .i64 0, .slice none 0 0] 46) (.cells #[.int .u8 6, .int .i64 0, .int .i64 0, .slice none 0 0] 46)
  have l2 := x.below.trans ((below3 x.w (.cells #[.int .u8 4, .int .i64 0, .int .i64 0, .slice none 0 0] 46) (.cells #[.int .u8 5, .int .i64 0, .int .i64 0, .slice none 0 0] 46) (.cells #[.int .u8 6, .int .i64 0, .int .i64 0, .slice none 0 0] 46)).mono x.below.size)
  rw [← hW2] at b4 b5 b6 l2
  have z2 : w.heap.size < x.w.heap.size := by have := x.below.size; omega
  clear hW2
  generalize hg4 : x.w.heap.size = g4 at *
  clear hg4
  (with_reducible refine (Later.calls0 (hS.out _ _)).mono ?_)
  rintro e w1 ⟨rfl, y, rfl⟩
  go_wp2_with fail
  refine name_call (fun W3 hW3 => ?_)
  have b7 := World.alloc_heap_new y.w (.cells #[.int .u8 1, .int .i64 0, .int .i64 2, .slice none 0 0] 46)
  have l3 := y.below.trans ((below1 y.w (.cells #[.int .u8 1, .int .i64 0, .int .i64 2, .slice none 0 0] 46)).mono y.below.size)
  rw [← hW3] at b7 l3
  have z3 : g4 + 2 < y.w.heap.size := Nat.lt_of_lt_of_le (at_lt b6) y.below.size
  clear hW3
  generalize hg7 : y.w.heap.size = g7 at *
  clear hg7
  (with_reducible refine (Later.calls0 (hA.out _ _)).mono ?_)
  rintro e w1 ⟨rfl, z, rfl⟩
  go_wp2_with fail
  refine name_world (fun W4 hW4 => ?_)
  have b8 := World.alloc_heap_new z.w (.cells #[.int .u8 1, .int .i64 (-100), .int .i64 0, .int .i64 0] 30)
  have l4 := z.below.trans ((below1 z.w (.cells #[.int .u8 1, .int .i64 (-100), .int .i64 0, .int .i64 0] 30)).mono z.below.size)
  rw [← hW4] at b8 l4
  have z4 : g7 < z.w.heap.size := Nat.lt_of_lt_of_le (at_lt b7) z.below.size
  clear hW4
  generalize hg8 : z.w.heap.size = g8 at *
  clear hg8
  have l34 := l3.trans (l4.mono l3.size)
  have l24 := l2.trans (l34.mono l2.size)
  replace b7 := (l4.block _ (at_lt b7)).trans b7
  replace b4 := (l34.block _ (at_lt b4)).trans b4
  replace b5 := (l34.block _ (at_lt b5)).trans b5
  replace b6 := (l34.block _ (at_lt b6)).trans b6
  replace b3 := (l24.block _ (at_lt b3)).trans b3
  have lw := l1.trans (l24.mono l1.size)
  have zz := at_lt b3
  clear l1 l2 l3 l4 l34 l24 x y z
  have b5' : W4.heap[g4 + 1]? = _ := b5
  have b6' : W4.heap[g4 + 1 + 1]? = _ := b6
  generalize hg5 : g4 + 1 = g5 at *
  generalize hg6 : g5 + 1 = g6 at *
  rename_i K hK
  refine wp_tells (by kernel_rfl) (TK W4.heap.size w.heap.size [.maps [5, 6], .of [5, 6], .stat (.agg #[.int .u8 6, .int .i64 0, .int .i64 0, .slice none 0 0]), .args [mapA [5, 6], plA 6], .stat (.agg #[.int .u8 1, .int .i64 (-100), .int .i64 0, .int .i64 0]), .args [mapA [5, 6], plA 6], .st (.int .u8 1) (.int .i64 (-100)) (.int .i64 0) (.int .i64 0)]) (GK w.heap.size W4) (by kernel_rfl) (by kernel_rfl) (by kernel_rfl) (by kernel_rfl) (fun j oj σ σ' W _ h hs => h.dep (hs j (.inl rfl))) ⟨⟨rfl, rfl, rfl, Nat.le_refl _, fun _ _ _ => rfl⟩, zz, _, _, _, _, b3⟩ ?_ ?_
  · intro i o ho L a W hLi hG hold hT hh
    have hi : i < 7 := (Array.getElem?_eq_some_iff.1 ho).1
    have hi' : i = 0 ∨ i = 1 ∨ i = 2 ∨ i = 3 ∨ i = 4 ∨ i = 5 ∨ i = 6 := by omega
    have hk : ∀ {W'}, Below W.heap.size W W' → ∀ j, L j = true → TK W4.heap.size w.heap.size [.maps [5, 6], .of [5, 6], .stat (.agg #[.int .u8 6, .int .i64 0, .int .i64 0, .slice none 0 0]), .args [mapA [5, 6], plA 6], .stat (.agg #[.int .u8 1, .int .i64 (-100), .int .i64 0, .int .i64 0]), .args [mapA [5, 6], plA 6], .st (.int .u8 1) (.int .i64 (-100)) (.int .i64 0) (.int .i64 0)] j (sl _ a) W' := fun hb j hj => (hT j hj).below hG.2.1 hb
    rcases hi' with rfl | rfl | rfl | rfl | rfl | rfl | rfl
    · cases ho
      refine step_turned (.slice (some ⟨W.heap.size, 0, none⟩) 2 2) (W.alloc (.cells (mks [5, 6]).toArray 22)) ?_ (by decide) (hG.below (below1 _ _)) (hk (below1 _ _)) ⟨W.heap.size, rfl, hG.1.size, World.alloc_heap_new W _⟩
      simp [execOp, go_sem, Act.eval, mks]
    · cases ho
      obtain ⟨g, e1, hg, hb⟩ : ∃ g, a.eval (.tmp 49) = .slice (some ⟨g, 0, none⟩) 2 2 ∧ W4.heap.size ≤ g ∧ W.heap[g]? = some (.cells (mks [5, 6]).toArray 22 (0, 0)) := hT 0 (hh 0 rfl)
      refine step_called (f := 55) (args := #[.slice (some ⟨g, 0, none⟩) 2 2]) (R := fun v W' => v = .agg #[.int .u8 3, .int .i64 0, .int .i64 0, .slice (some ⟨g, 0, none⟩) 2 2] ∧ Below W.heap.size W W') ?_ (by decide) ((oneOf_any _ _ _ W).mono (fun e w' h => ⟨_, h.1, rfl, h.2⟩)) ?_
      · have c1 : a.eval (.func 55) = .func (.func 55) #[] #[] := rfl
        generalize a.eval = ev at e1 c1 ⊢
        simp [execOp, go_sem, e1, c1, E55]
      · rintro v W' ⟨rfl, hb'⟩
        exact ⟨hG.below hb', hk hb', g, rfl, hg, (hb'.block g (at_lt hb)).trans hb⟩
    · cases ho
      refine step_told (.agg #[.int .u8 6, .int .i64 0, .int .i64 0, .slice none 0 0]) ?_ (by decide) hG (hk (Below.refl _ _)) rfl
      have e1 : a.eval (.tmp 6) = .pointer (some ⟨g6, 0, none⟩) := hold 6 (by kernel_rfl)
      have d0 := hG.cell b6' (by omega) 0
      have d1 := hG.cell b6' (by omega) 1
      have d2 := hG.cell b6' (by omega) 2
      have d3 := hG.cell b6' (by omega) 3
      simp at d0 d1 d2 d3
      generalize a.eval = ev at e1 ⊢
      simp [execOp, go_sem, e1, d0, d1, d2, d3]
    · cases ho
      obtain ⟨g, e1, hg, hb⟩ : ∃ g, a.eval (.tmp 50) = .agg #[.int .u8 3, .int .i64 0, .int .i64 0, .slice (some ⟨g, 0, none⟩) 2 2] ∧ W4.heap.size ≤ g ∧ W.heap[g]? = some (.cells (mks [5, 6]).toArray 22 (0, 0)) := hT 1 (hh 1 rfl)
      have e2 : a.eval (.tmp 51) = .agg #[.int .u8 6, .int .i64 0, .int .i64 0, .slice none 0 0] := hT 2 (hh 2 rfl)
      refine step_turned (.slice (some ⟨W.heap.size, 0, none⟩) 2 2) (W.alloc (.cells ([mapA [5, 6], plA 6].flatMap (argCells g)).toArray 46)) ?_ (by decide) (hG.below (below1 _ _)) (hk (below1 _ _)) ⟨W.heap.size, g, rfl, hG.1.size, hg, World.alloc_heap_new W _, ?_, ?_⟩
      · generalize a.eval = ev at e1 e2 ⊢
        simp [execOp, go_sem, e1, e2, argCells, mapA, plA]
      · have hb' := ((below1 W (.cells ([mapA [5, 6], plA 6].flatMap (argCells g)).toArray 46)).block g (at_lt hb)).trans hb
        intro q hq hm
        simp only [List.mem_cons, List.not_mem_nil, or_false] at hq
        rcases hq with rfl | rfl <;> first | exact hb' | (exact absurd hm (by decide))
      · intro q hq
        simp only [List.mem_cons, List.not_mem_nil, or_false] at hq
        rcases hq with rfl | rfl <;> decide
    · cases ho
      refine step_told (.agg #[.int .u8 1, .int .i64 (-100), .int .i64 0, .int .i64 0]) ?_ (by decide) hG (hk (Below.refl _ _)) rfl
      have e1 : a.eval (.tmp 8) = .pointer (some ⟨g8, 0, none⟩) := hold 8 (by kernel_rfl)
      have d0 := hG.cell b8 (by omega) 0
      have d1 := hG.cell b8 (by omega) 1
      have d2 := hG.cell b8 (by omega) 2
      have d3 := hG.cell b8 (by omega) 3
      simp at d0 d1 d2 d3
      generalize a.eval = ev at e1 ⊢
      simp [execOp, go_sem, e1, d0, d1, d2, d3]
    · cases ho
      obtain ⟨g, gm, e1, ho⟩ : ∃ g gm, a.eval (.tmp 52) = .slice (some ⟨g, 0, none⟩) 2 2 ∧ OwnBlk W W4.heap.size g gm [mapA [5, 6], plA 6] := hT 3 (hh 3 rfl)
      refine step_told (.slice (some ⟨g, 0, none⟩) 2 2) ?_ (by decide) hG (hk (Below.refl _ _)) ⟨g, gm, rfl, ho⟩
      generalize a.eval = ev at e1 ⊢
      simp [execOp, go_sem, e1]
    · cases ho
      obtain ⟨hG1, hG2, r0, r1, r2, r3, hr⟩ := hG
      have e3 : a.eval (.tmp 3) = .pointer (some ⟨w.heap.size, 0, none⟩) := hold 3 (by kernel_rfl)
      have e1 : a.eval (.tmp 53) = .agg #[.int .u8 1, .int .i64 (-100), .int .i64 0, .int .i64 0] := hT 4 (hh 4 rfl)
      obtain ⟨hs, hgr⟩ := store_4 hr (.int .u8 1) (.int .i64 (-100)) (.int .i64 0) (.int .i64 0)
      have c0 := blk_cell hr 0
      have c1 := blk_cell hr 1
      have c2 := blk_cell hr 2
      have c3 := blk_cell hr 3
      have f0 := Joins.unfrozen_of_block hr 0
      have f1 := Joins.unfrozen_of_block hr 1
      have f2 := Joins.unfrozen_of_block hr 2
      have f3 := Joins.unfrozen_of_block hr 3
      simp at c0 c1 c2 c3
      refine step_skip ((((W.setCell ⟨w.heap.size, 0, none⟩ (.int .u8 1)).setCell ⟨w.heap.size, 1, none⟩ (.int .i64 (-100))).setCell ⟨w.heap.size, 2, none⟩ (.int .i64 0)).setCell ⟨w.heap.size, 3, none⟩ (.int .i64 0)) ?_ ⟨grown_row hG1 hgr, Nat.lt_of_lt_of_le hG2 hgr.size, _, _, _, _, hs⟩ (fun j hj => (hT j hj).keep (fun k hk hl => hgr.block k hl (fun e => by injection e with e; omega)) (fun r0 r1 r2 r3 hst => ?_)) hs
      · generalize a.eval = ev at e1 e3 ⊢
        simp [execOp, go_sem, e1, e3, c0, c1, c2, c3, f0, f1, f2, f3]
      · exfalso
        have hjn : j < 7 := by
          rcases Nat.lt_or_ge j 7 with h | h
          · exact h
          · rw [List.getElem?_eq_none (by simpa using h)] at hst; cases hst
        have hj' : j = 0 ∨ j = 1 ∨ j = 2 ∨ j = 3 ∨ j = 4 ∨ j = 5 ∨ j = 6 := by omega
        rcases hj' with rfl | rfl | rfl | rfl | rfl | rfl | rfl <;> first | (simp at hst; done) | (rw [hLi] at hj; cases hj)
  · intro a W hd hs hold hT hG
    refine hK _ _ ?_
    obtain ⟨g, gm, e2, ho⟩ : ∃ g gm, a.tmps.getD 2 undef = .slice (some ⟨g, 0, none⟩) 2 2 ∧ OwnBlk W W4.heap.size g gm [mapA [5, 6], plA 6] := hT 5 (by decide)
    have e3 : a.tmps.getD 3 undef = .pointer (some ⟨w.heap.size, 0, none⟩) := hold 3 (by kernel_rfl)
    have hr : W.heap[w.heap.size]? = some (.cells #[.int .u8 1, .int .i64 (-100), .int .i64 0, .int .i64 0] 30 (0, 0)) := hT 6 (by decide)
    have hB : Below w.heap.size w W := ⟨hG.1.os.trans lw.os, hG.1.tape.trans lw.tape, hG.1.output.trans lw.output, Nat.le_trans lw.size hG.1.size, fun k hk => (hG.1.block k (Nat.lt_of_lt_of_le hk lw.size) (fun e => by injection e with e; omega)).trans (lw.block k hk)⟩
    have c0 := blk_cell hr 0
    have c1 := blk_cell hr 1
    have c2 := blk_cell hr 2
    have c3 := blk_cell hr 3
    simp at c0 c1 c2 c3
    have H2 := hide e2
    have H3 := hide e3
    have HO := hide ho
    have HB := hide hB
    clear hT hold hG hK e2 e3 ho hB hr
    go_wp2
    refine bodyPost_ret (v := .tuple #[.slice (some ⟨g, 0, none⟩) 2 2, .agg #[.int .u8 1, .int .i64 (-100), .int .i64 0, .int .i64 0]]) ?_ hd ⟨_, _, rfl, ⟨by decide, by unfold maxLen; omega⟩, (fun W' hs' hk' => (HO.out.keep (fun k h1 h2 => hk' k (by omega) h2)).args), HB.out⟩
    have e2 := H2.out
    have e3 := H3.out
    rw [Array.getD_eq_getD_getElem?] at e2 e3
    simp [results, Try.results23, go_sem, e2, e3, c0, c1, c2, c3]
set_option maxRecDepth 100000 in
set_option maxHeartbeats 2000000 in
theorem parts_6 (w : World) : Calls Try.prog 23 #[.int .u8 6] w (PartsTold 6 w) := by
  have hP := hide (fun k w => plain_any k w)
  have hS := hide (fun lo hi w => scalar_any lo hi w)
  have hA := hide (fun lo hi w => answer_any lo hi w)
  have E52 : ∀ args W, (callFunc 52 args).run Try.prog W = .ok (.enter 52 args) W := enters_of Try.func52 (by kernel_rfl) rfl
  have E53 : ∀ args W, (callFunc 53 args).run Try.prog W = .ok (.enter 53 args) W := enters_of Try.func53 (by kernel_rfl) rfl
  have E54 : ∀ args W, (callFunc 54 args).run Try.prog W = .ok (.enter 54 args) W := enters_of Try.func54 (by kernel_rfl) rfl
  have E55 : ∀ args W, (callFunc 55 args).run Try.prog W = .ok (.enter 55 args) W := enters_of Try.func55 (by kernel_rfl) rfl
  go_enter Try.func23, Try.ntmps23
  go_wp2_with fail
  refine name_call (fun W1 hW1 => ?_)
  have b3 := World.alloc_heap_new w (.cells #[.int .u8 0, .int .i64 0, .int .i64 0, .int .i64 0] 30)
  have l1 := below1 w (.cells #[.int .u8 0, .int .i64 0, .int .i64 0, .int .i64 0] 30)
  rw [← hW1] at b3 l1
  have z1 : W1.heap.size = w.heap.size + 1 := by rw [hW1]; simp
  clear hW1
  (with_reducible refine (Later.calls0 (hP.out _)).mono ?_)
  rintro e w1 ⟨rfl, x, rfl⟩
  go_wp2_with (go_at_call 52; (with_reducible refine (Later.calls _ (hP.out _)).mono ?_); rintro e w1 ⟨rfl, x, rfl⟩)
  refine name_call (fun W2 hW2 => ?_)
  obtain ⟨b4, b5, b6⟩ := blocks3 x.w (.cells #[.int .u8 4, .int .i64 0, .int .i64 0, .slice none 0 0] 46) (.cells #[.int .u8 5, .int .i64 0, .int .i64 0, .slice none 0 0] 46) (.cells #[.int .u8 6, .int .i64 0, .int .i64 0, .slice none 0 0] 46)
  have l2 := x.below.trans ((below3 x.w (.cells #[.int .u8 4, .int .i64 0, .int .i64 0, .slice none 0 0] 46) (.cells #[.int .u8 5, .int .i64 0, .int .i64 0, .slice none 0 0] 46) (.cells #[.int .u8 6, .int .i64 0, .int .i64 0, .slice none 0 0] 46)).mono x.below.size)
  rw [← hW2] at b4 b5 b6 l2
  have z2 : w.heap.size < x.w.heap.size := by have := x.below.size; omega
  clear hW2
  generalize hg4 : x.w.heap.size = g4 at *
  clear hg4
  (with_reducible refine (Later.calls0 (hS.out _ _)).mono ?_)
  rintro e w1 ⟨rfl, y, rfl⟩
  go_wp2_with fail
  refine name_call (fun W3 hW3 => ?_)
  have b7 := World.alloc_heap_new y.w (.cells #[.int .u8 1, .int .i64 0, .int .i64 2, .slice none 0 0] 46)
  have l3 := y.below.trans ((below1 y.w (.cells #[.int .u8 1, .int .i64 0, .int .i64 2, .slice none 0 0] 46)).mono y.below.size)
  rw [← hW3] at b7 l3
  have z3 : g4 + 2 < y.w.heap.size := Nat.lt_of_lt_of_le (at_lt b6) y.below.size
  clear hW3
  generalize hg7 : y.w.heap.size = g7 at *
  clear hg7
  (with_reducible refine (Later.calls0 (hA.out _ _)).mono ?_)
  rintro e w1 ⟨rfl, z, rfl⟩
  go_wp2_with fail
  refine name_world (fun W4 hW4 => ?_)
  have b8 := World.alloc_heap_new z.w (.cells #[.int .u8 1, .int .i64 (-100), .int .i64 0, .int .i64 0] 30)
  have l4 := z.below.trans ((below1 z.w (.cells #[.int .u8 1, .int .i64 (-100), .int .i64 0, .int .i64 0] 30)).mono z.below.size)
  rw [← hW4] at b8 l4
  have z4 : g7 < z.w.heap.size := Nat.lt_of_lt_of_le (at_lt b7) z.below.size
  clear hW4
  generalize hg8 : z.w.heap.size = g8 at *
  clear hg8
  have l34 := l3.trans (l4.mono l3.size)
  have l24 := l2.trans (l34.mono l2.size)
  replace b7 := (l4.block _ (at_lt b7)).trans b7
  replace b4 := (l34.block _ (at_lt b4)).trans b4
  replace b5 := (l34.block _ (at_lt b5)).trans b5
  replace b6 := (l34.block _ (at_lt b6)).trans b6
  replace b3 := (l24.block _ (at_lt b3)).trans b3
  have lw := l1.trans (l24.mono l1.size)
  have zz := at_lt b3
  clear l1 l2 l3 l4 l34 l24 x y z
  have b5' : W4.heap[g4 + 1]? = _ := b5
  have b6' : W4.heap[g4 + 1 + 1]? = _ := b6
  generalize hg5 : g4 + 1 = g5 at *
  generalize hg6 : g5 + 1 = g6 at *
  rename_i K hK
  refine wp_tells (by kernel_rfl) (TK W4.heap.size w.heap.size [.maps [5, 6], .of [5, 6], .stat (.agg #[.int .u8 6, .int .i64 0, .int .i64 0, .slice none 0 0]), .args [mapA [5, 6], plA 6], .stat (.agg #[.int .u8 1, .int .i64 (-100), .int .i64 0, .int .i64 0]), .args [mapA [5, 6], plA 6], .st (.int .u8 1) (.int .i64 (-100)) (.int .i64 0) (.int .i64 0)]) (GK w.heap.size W4) (by kernel_rfl) (by kernel_rfl) (by kernel_rfl) (by kernel_rfl) (fun j oj σ σ' W _ h hs => h.dep (hs j (.inl rfl))) ⟨⟨rfl, rfl, rfl, Nat.le_refl _, fun _ _ _ => rfl⟩, zz, _, _, _, _, b3⟩ ?_ ?_
  · intro i o ho L a W hLi hG hold hT hh
    have hi : i < 7 := (Array.getElem?_eq_some_iff.1 ho).1
    have hi' : i = 0 ∨ i = 1 ∨ i = 2 ∨ i = 3 ∨ i = 4 ∨ i = 5 ∨ i = 6 := by omega
    have hk : ∀ {W'}, Below W.heap.size W W' → ∀ j, L j = true → TK W4.heap.size w.heap.size [.maps [5, 6], .of [5, 6], .stat (.agg #[.int .u8 6, .int .i64 0, .int .i64 0, .slice none 0 0]), .args [mapA [5, 6], plA 6], .stat (.agg #[.int .u8 1, .int .i64 (-100), .int .i64 0, .int .i64 0]), .args [mapA [5, 6], plA 6], .st (.int .u8 1) (.int .i64 (-100)) (.int .i64 0) (.int .i64 0)] j (sl _ a) W' := fun hb j hj => (hT j hj).below hG.2.1 hb
    rcases hi' with rfl | rfl | rfl | rfl | rfl | rfl | rfl
    · cases ho
      refine step_turned (.slice (some ⟨W.heap.size, 0, none⟩) 2 2) (W.alloc (.cells (mks [5, 6]).toArray 22)) ?_ (by decide) (hG.below (below1 _ _)) (hk (below1 _ _)) ⟨W.heap.size, rfl, hG.1.size, World.alloc_heap_new W _⟩
      simp [execOp, go_sem, Act.eval, mks]
    · cases ho
      obtain ⟨g, e1, hg, hb⟩ : ∃ g, a.eval (.tmp 49) = .slice (some ⟨g, 0, none⟩) 2 2 ∧ W4.heap.size ≤ g ∧ W.heap[g]? = some (.cells (mks [5, 6]).toArray 22 (0, 0)) := hT 0 (hh 0 rfl)
      refine step_called (f := 55) (args := #[.slice (some ⟨g, 0, none⟩) 2 2]) (R := fun v W' => v = .agg #[.int .u8 3, .int .i64 0, .int .i64 0, .slice (some ⟨g, 0, none⟩) 2 2] ∧ Below W.heap.size W W') ?_ (by decide) ((oneOf_any _ _ _ W).mono (fun e w' h => ⟨_, h.1, rfl, h.2⟩)) ?_
      · have c1 : a.eval (.func 55) = .func (.func 55) #[] #[] := rfl
        generalize a.eval = ev at e1 c1 ⊢
        simp [execOp, go_sem, e1, c1, E55]
      · rintro v W' ⟨rfl, hb'⟩
        exact ⟨hG.below hb', hk hb', g, rfl, hg, (hb'.block g (at_lt hb)).trans hb⟩
    · cases ho
      refine step_told (.agg #[.int .u8 6, .int .i64 0, .int .i64 0, .slice none 0 0]) ?_ (by decide) hG (hk (Below.refl _ _)) rfl
      have e1 : a.eval (.tmp 6) = .pointer (some ⟨g6, 0, none⟩) := hold 6 (by kernel_rfl)
      have d0 := hG.cell b6' (by omega) 0
      have d1 := hG.cell b6' (by omega) 1
      have d2 := hG.cell b6' (by omega) 2
      have d3 := hG.cell b6' (by omega) 3
      simp at d0 d1 d2 d3
      generalize a.eval = ev at e1 ⊢
      simp [execOp, go_sem, e1, d0, d1, d2, d3]
    · cases ho
      obtain ⟨g, e1, hg, hb⟩ : ∃ g, a.eval (.tmp 50) = .agg #[.int .u8 3, .int .i64 0, .int .i64 0, .slice (some ⟨g, 0, none⟩) 2 2] ∧ W4.heap.size ≤ g ∧ W.heap[g]? = some (.cells (mks [5, 6]).toArray 22 (0, 0)) := hT 1 (hh 1 rfl)
      have e2 : a.eval (.tmp 51) = .agg #[.int .u8 6, .int .i64 0, .int .i64 0, .slice none 0 0] := hT 2 (hh 2 rfl)
      refine step_turned (.slice (some ⟨W.heap.size, 0, none⟩) 2 2) (W.alloc (.cells ([mapA [5, 6], plA 6].flatMap (argCells g)).toArray 46)) ?_ (by decide) (hG.below (below1 _ _)) (hk (below1 _ _)) ⟨W.heap.size, g, rfl, hG.1.size, hg, World.alloc_heap_new W _, ?_, ?_⟩
      · generalize a.eval = ev at e1 e2 ⊢
        simp [execOp, go_sem, e1, e2, argCells, mapA, plA]
      · have hb' := ((below1 W (.cells ([mapA [5, 6], plA 6].flatMap (argCells g)).toArray 46)).block g (at_lt hb)).trans hb
        intro q hq hm
        simp only [List.mem_cons, List.not_mem_nil, or_false] at hq
        rcases hq with rfl | rfl <;> first | exact hb' | (exact absurd hm (by decide))
      · intro q hq
        simp only [List.mem_cons, List.not_mem_nil, or_false] at hq
        rcases hq with rfl | rfl <;> decide
    · cases ho
      refine step_told (.agg #[.int .u8 1, .int .i64 (-100), .int .i64 0, .int .i64 0]) ?_ (by decide) hG (hk (Below.refl _ _)) rfl
      have e1 : a.eval (.tmp 8) = .pointer (some ⟨g8, 0, none⟩) := hold 8 (by kernel_rfl)
      have d0 := hG.cell b8 (by omega) 0
      have d1 := hG.cell b8 (by omega) 1
      have d2 := hG.cell b8 (by omega) 2
      have d3 := hG.cell b8 (by omega) 3
      simp at d0 d1 d2 d3
      generalize a.eval = ev at e1 ⊢
      simp [execOp, go_sem, e1, d0, d1, d2, d3]
    · cases ho
      obtain ⟨g, gm, e1, ho⟩ : ∃ g gm, a.eval (.tmp 52) = .slice (some ⟨g, 0, none⟩) 2 2 ∧ OwnBlk W W4.heap.size g gm [mapA [5, 6], plA 6] := hT 3 (hh 3 rfl)
      refine step_told (.slice (some ⟨g, 0, none⟩) 2 2) ?_ (by decide) hG (hk (Below.refl _ _)) ⟨g, gm, rfl, ho⟩
      generalize a.eval = ev at e1 ⊢
      simp [execOp, go_sem, e1]
    · cases ho
      obtain ⟨hG1, hG2, r0, r1, r2, r3, hr⟩ := hG
      have e3 : a.eval (.tmp 3) = .pointer (some ⟨w.heap.size, 0, none⟩) := hold 3 (by kernel_rfl)
      have e1 : a.eval (.tmp 53) = .agg #[.int .u8 1, .int .i64 (-100), .int .i64 0, .int .i64 0] := hT 4 (hh 4 rfl)
      obtain ⟨hs, hgr⟩ := store_4 hr (.int .u8 1) (.int .i64 (-100)) (.int .i64 0) (.int .i64 0)
      have c0 := blk_cell hr 0
      have c1 := blk_cell hr 1
      have c2 := blk_cell hr 2
      have c3 := blk_cell hr 3
      have f0 := Joins.unfrozen_of_block hr 0
      have f1 := Joins.unfrozen_of_block hr 1
      have f2 := Joins.unfrozen_of_block hr 2
      have f3 := Joins.unfrozen_of_block hr 3
      simp at c0 c1 c2 c3
      refine step_skip ((((W.setCell ⟨w.heap.size, 0, none⟩ (.int .u8 1)).setCell ⟨w.heap.size, 1, none⟩ (.int .i64 (-100))).setCell ⟨w.heap.size, 2, none⟩ (.int .i64 0)).setCell ⟨w.heap.size, 3, none⟩ (.int .i64 0)) ?_ ⟨grown_row hG1 hgr, Nat.lt_of_lt_of_le hG2 hgr.size, _, _, _, _, hs⟩ (fun j hj => (hT j hj).keep (fun k hk hl => hgr.block k hl (fun e => by injection e with e; omega)) (fun r0 r1 r2 r3 hst => ?_)) hs
      · generalize a.eval = ev at e1 e3 ⊢
        simp [execOp, go_sem, e1, e3, c0, c1, c2, c3, f0, f1, f2, f3]
      · exfalso
        have hjn : j < 7 := by
          rcases Nat.lt_or_ge j 7 with h | h
          · exact h
          · rw [List.getElem?_eq_none (by simpa using h)] at hst; cases hst
        have hj' : j = 0 ∨ j = 1 ∨ j = 2 ∨ j = 3 ∨ j = 4 ∨ j = 5 ∨ j = 6 := by omega
        rcases hj' with rfl | rfl | rfl | rfl | rfl | rfl | rfl <;> first | (simp at hst; done) | (rw [hLi] at hj; cases hj)
  · intro a W hd hs hold hT hG
    refine hK _ _ ?_
    obtain ⟨g, gm, e2, ho⟩ : ∃ g gm, a.tmps.getD 2 undef = .slice (some ⟨g, 0, none⟩) 2 2 ∧ OwnBlk W W4.heap.size g gm [mapA [5, 6], plA 6] := hT 5 (by decide)
    have e3 : a.tmps.getD 3 undef = .pointer (some ⟨w.heap.size, 0, none⟩) := hold 3 (by kernel_rfl)
    have hr : W.heap[w.heap.size]? = some (.cells #[.int .u8 1, .int .i64 (-100), .int .i64 0, .int .i64 0] 30 (0, 0)) := hT 6 (by decide)
    have hB : Below w.heap.size w W := ⟨hG.1.os.trans lw.os, hG.1.tape.trans lw.tape, hG.1.output.trans lw.output, Nat.le_trans lw.size hG.1.size, fun k hk => (hG.1.block k (Nat.lt_of_lt_of_le hk lw.size) (fun e => by injection e with e; omega)).trans (lw.block k hk)⟩
    have c0 := blk_cell hr 0
    have c1 := blk_cell hr 1
    have c2 := blk_cell hr 2
    have c3 := blk_cell hr 3
    simp at c0 c1 c2 c3
    have H2 := hide e2
    have H3 := hide e3
    have HO := hide ho
    have HB := hide hB
    clear hT hold hG hK e2 e3 ho hB hr
    go_wp2
    refine bodyPost_ret (v := .tuple #[.slice (some ⟨g, 0, none⟩) 2 2, .agg #[.int .u8 1, .int .i64 (-100), .int .i64 0, .int .i64 0]]) ?_ hd ⟨_, _, rfl, ⟨by decide, by unfold maxLen; omega⟩, (fun W' hs' hk' => (HO.out.keep (fun k h1 h2 => hk' k (by omega) h2)).args), HB.out⟩
    have e2 := H2.out
    have e3 := H3.out
    rw [Array.getD_eq_getD_getElem?] at e2 e3
    simp [results, Try.results23, go_sem, e2, e3, c0, c1, c2, c3]
set_option maxRecDepth 100000 in
set_option maxHeartbeats 2000000 in
theorem parts_7 (w : World) : Calls Try.prog 23 #[.int .u8 7] w (PartsTold 7 w) := by
  have hP := hide (fun k w => plain_any k w)
  have hS := hide (fun lo hi w => scalar_any lo hi w)
  have hA := hide (fun lo hi w => answer_any lo hi w)
  have E52 : ∀ args W, (callFunc 52 args).run Try.prog W = .ok (.enter 52 args) W := enters_of Try.func52 (by kernel_rfl) rfl
  have E53 : ∀ args W, (callFunc 53 args).run Try.prog W = .ok (.enter 53 args) W := enters_of Try.func53 (by kernel_rfl) rfl
  have E54 : ∀ args W, (callFunc 54 args).run Try.prog W = .ok (.enter 54 args) W := enters_of Try.func54 (by kernel_rfl) rfl
  have E55 : ∀ args W, (callFunc 55 args).run Try.prog W = .ok (.enter 55 args) W := enters_of Try.func55 (by kernel_rfl) rfl
  go_enter Try.func23, Try.ntmps23
  go_wp2_with fail
  refine name_call (fun W1 hW1 => ?_)
  have b3 := World.alloc_heap_new w (.cells #[.int .u8 0, .int .i64 0, .int .i64 0, .int .i64 0] 30)
  have l1 := below1 w (.cells #[.int .u8 0, .int .i64 0, .int .i64 0, .int .i64 0] 30)
  rw [← hW1] at b3 l1
  have z1 : W1.heap.size = w.heap.size + 1 := by rw [hW1]; simp
  clear hW1
  (with_reducible refine (Later.calls0 (hP.out _)).mono ?_)
  rintro e w1 ⟨rfl, x, rfl⟩
  go_wp2_with (go_at_call 52; (with_reducible refine (Later.calls _ (hP.out _)).mono ?_); rintro e w1 ⟨rfl, x, rfl⟩)
  refine name_call (fun W2 hW2 => ?_)
  obtain ⟨b4, b5, b6⟩ := blocks3 x.w (.cells #[.int .u8 4, .int .i64 0, .int .i64 0, .slice none 0 0] 46) (.cells #[.int .u8 5, .int .i64 0, .int .i64 0, .slice none 0 0] 46) (.cells #[.int .u8 6, .int .i64 0, .int .i64 0, .slice none 0 0] 46)
  have l2 := x.below.trans ((below3 x.w (.cells #[.int .u8 4, .int .i64 0, .int .i64 0, .slice none 0 0] 46) (.cells #[.int .u8 5, .int .i64 0, .int .i64 0, .slice none 0 0] 46) (.cells #[.int .u8 6, .int .i64 0, .int .i64 0, .slice none 0 0] 46)).mono x.below.size)
  rw [← hW2] at b4 b5 b6 l2
  have z2 : w.heap.size < x.w.heap.size := by have := x.below.size; omega
  clear hW2
  generalize hg4 : x.w.heap.size = g4 at *
  clear hg4
  (with_reducible refine (Later.calls0 (hS.out _ _)).mono ?_)
  rintro e w1 ⟨rfl, y, rfl⟩
  go_wp2_with fail
  refine name_call (fun W3 hW3 => ?_)
  have b7 := World.alloc_heap_new y.w (.cells #[.int .u8 1, .int .i64 0, .int .i64 2, .slice none 0 0] 46)
  have l3 := y.below.trans ((below1 y.w (.cells #[.int .u8 1, .int .i64 0, .int .i64 2, .slice none 0 0] 46)).mono y.below.size)
  rw [← hW3] at b7 l3
  have z3 : g4 + 2 < y.w.heap.size := Nat.lt_of_lt_of_le (at_lt b6) y.below.size
  clear hW3
  generalize hg7 : y.w.heap.size = g7 at *
  clear hg7
  (with_reducible refine (Later.calls0 (hA.out _ _)).mono ?_)
  rintro e w1 ⟨rfl, z, rfl⟩
  go_wp2_with fail
  refine name_world (fun W4 hW4 => ?_)
  have b8 := World.alloc_heap_new z.w (.cells #[.int .u8 1, .int .i64 (-100), .int .i64 0, .int .i64 0] 30)
  have l4 := z.below.trans ((below1 z.w (.cells #[.int .u8 1, .int .i64 (-100), .int .i64 0, .int .i64 0] 30)).mono z.below.size)
  rw [← hW4] at b8 l4
  have z4 : g7 < z.w.heap.size := Nat.lt_of_lt_of_le (at_lt b7) z.below.size
  clear hW4
  generalize hg8 : z.w.heap.size = g8 at *
  clear hg8
  have l34 := l3.trans (l4.mono l3.size)
  have l24 := l2.trans (l34.mono l2.size)
  replace b7 := (l4.block _ (at_lt b7)).trans b7
  replace b4 := (l34.block _ (at_lt b4)).trans b4
  replace b5 := (l34.block _ (at_lt b5)).trans b5
  replace b6 := (l34.block _ (at_lt b6)).trans b6
  replace b3 := (l24.block _ (at_lt b3)).trans b3
  have lw := l1.trans (l24.mono l1.size)
  have zz := at_lt b3
  clear l1 l2 l3 l4 l34 l24 x y z
  have b5' : W4.heap[g4 + 1]? = _ := b5
  have b6' : W4.heap[g4 + 1 + 1]? = _ := b6
  generalize hg5 : g4 + 1 = g5 at *
  generalize hg6 : g5 + 1 = g6 at *
  rename_i K hK
  refine wp_tells (by kernel_rfl) (TK W4.heap.size w.heap.size [.maps [7], .of [7], .stat (.agg #[.int .u8 7, .int .i64 0, .int .i64 0, .slice none 0 0]), .stat (.agg #[.int .u8 9, .int .i64 0, .int .i64 1024, .slice none 0 0]), .args [mapA [7], plA 7, ⟨9, 0, 1024, []⟩], .stat (.agg #[.int .u8 1, .int .i64 (-100), .int .i64 0, .int .i64 0]), .args [mapA [7], plA 7, ⟨9, 0, 1024, []⟩], .st (.int .u8 1) (.int .i64 (-100)) (.int .i64 0) (.int .i64 0)]) (GK w.heap.size W4) (by kernel_rfl) (by kernel_rfl) (by kernel_rfl) (by kernel_rfl) (fun j oj σ σ' W _ h hs => h.dep (hs j (.inl rfl))) ⟨⟨rfl, rfl, rfl, Nat.le_refl _, fun _ _ _ => rfl⟩, zz, _, _, _, _, b3⟩ ?_ ?_
  · intro i o ho L a W hLi hG hold hT hh
    have hi : i < 8 := (Array.getElem?_eq_some_iff.1 ho).1
    have hi' : i = 0 ∨ i = 1 ∨ i = 2 ∨ i = 3 ∨ i = 4 ∨ i = 5 ∨ i = 6 ∨ i = 7 := by omega
    have hk : ∀ {W'}, Below W.heap.size W W' → ∀ j, L j = true → TK W4.heap.size w.heap.size [.maps [7], .of [7], .stat (.agg #[.int .u8 7, .int .i64 0, .int .i64 0, .slice none 0 0]), .stat (.agg #[.int .u8 9, .int .i64 0, .int .i64 1024, .slice none 0 0]), .args [mapA [7], plA 7, ⟨9, 0, 1024, []⟩], .stat (.agg #[.int .u8 1, .int .i64 (-100), .int .i64 0, .int .i64 0]), .args [mapA [7], plA 7, ⟨9, 0, 1024, []⟩], .st (.int .u8 1) (.int .i64 (-100)) (.int .i64 0) (.int .i64 0)] j (sl _ a) W' := fun hb j hj => (hT j hj).below hG.2.1 hb
    rcases hi' with rfl | rfl | rfl | rfl | rfl | rfl | rfl | rfl
    · cases ho
      refine step_turned (.slice (some ⟨W.heap.size, 0, none⟩) 1 1) (W.alloc (.cells (mks [7]).toArray 22)) ?_ (by decide) (hG.below (below1 _ _)) (hk (below1 _ _)) ⟨W.heap.size, rfl, hG.1.size, World.alloc_heap_new W _⟩
      simp [execOp, go_sem, Act.eval, mks]
    · cases ho
      obtain ⟨g, e1, hg, hb⟩ : ∃ g, a.eval (.tmp 56) = .slice (some ⟨g, 0, none⟩) 1 1 ∧ W4.heap.size ≤ g ∧ W.heap[g]? = some (.cells (mks [7]).toArray 22 (0, 0)) := hT 0 (hh 0 rfl)
      refine step_called (f := 55) (args := #[.slice (some ⟨g, 0, none⟩) 1 1]) (R := fun v W' => v = .agg #[.int .u8 3, .int .i64 0, .int .i64 0, .slice (some ⟨g, 0, none⟩) 1 1] ∧ Below W.heap.size W W') ?_ (by decide) ((oneOf_any _ _ _ W).mono (fun e w' h => ⟨_, h.1, rfl, h.2⟩)) ?_
      · have c1 : a.eval (.func 55) = .func (.func 55) #[] #[] := rfl
        generalize a.eval = ev at e1 c1 ⊢
        simp [execOp, go_sem, e1, c1, E55]
      · rintro v W' ⟨rfl, hb'⟩
        exact ⟨hG.below hb', hk hb', g, rfl, hg, (hb'.block g (at_lt hb)).trans hb⟩
    · cases ho
      refine step_called (f := 52) (args := #[.int .u8 7]) (R := fun v W' => v = .agg #[.int .u8 7, .int .i64 0, .int .i64 0, .slice none 0 0] ∧ Below W.heap.size W W') (by simp [execOp, go_sem, Act.eval, E52]) (by decide) ((plain_any _ W).mono (fun e w' h => ⟨_, h.1, rfl, h.2⟩)) ?_
      rintro v W' ⟨rfl, hb'⟩
      exact ⟨hG.below hb', hk hb', rfl⟩
    · cases ho
      refine step_told (.agg #[.int .u8 9, .int .i64 0, .int .i64 1024, .slice none 0 0]) ?_ (by decide) hG (hk (Below.refl _ _)) rfl
      simp [execOp, go_sem, Act.eval]
    · cases ho
      obtain ⟨g, e1, hg, hb⟩ : ∃ g, a.eval (.tmp 57) = .agg #[.int .u8 3, .int .i64 0, .int .i64 0, .slice (some ⟨g, 0, none⟩) 1 1] ∧ W4.heap.size ≤ g ∧ W.heap[g]? = some (.cells (mks [7]).toArray 22 (0, 0)) := hT 1 (hh 1 rfl)
      have e2 : a.eval (.tmp 58) = .agg #[.int .u8 7, .int .i64 0, .int .i64 0, .slice none 0 0] := hT 2 (hh 2 rfl)
      have e3 : a.eval (.tmp 59) = .agg #[.int .u8 9, .int .i64 0, .int .i64 1024, .slice none 0 0] := hT 3 (hh 3 rfl)
      refine step_turned (.slice (some ⟨W.heap.size, 0, none⟩) 3 3) (W.alloc (.cells ([mapA [7], plA 7, ⟨9, 0, 1024, []⟩].flatMap (argCells g)).toArray 46)) ?_ (by decide) (hG.below (below1 _ _)) (hk (below1 _ _)) ⟨W.heap.size, g, rfl, hG.1.size, hg, World.alloc_heap_new W _, ?_, ?_⟩
      · generalize a.eval = ev at e1 e2 e3 ⊢
        simp [execOp, go_sem, e1, e2, e3, argCells, mapA, plA]
      · have hb' := ((below1 W (.cells ([mapA [7], plA 7, ⟨9, 0, 1024, []⟩].flatMap (argCells g)).toArray 46)).block g (at_lt hb)).trans hb
        intro q hq hm
        simp only [List.mem_cons, List.not_mem_nil, or_false] at hq
        rcases hq with rfl | rfl | rfl <;> first | exact hb' | (exact absurd hm (by decide))
      · intro q hq
        simp only [List.mem_cons, List.not_mem_nil, or_false] at hq
        rcases hq with rfl | rfl | rfl <;> decide
    · cases ho
      refine step_told (.agg #[.int .u8 1, .int .i64 (-100), .int .i64 0, .int .i64 0]) ?_ (by decide) hG (hk (Below.refl _ _)) rfl
      have e1 : a.eval (.tmp 8) = .pointer (some ⟨g8, 0, none⟩) := hold 8 (by kernel_rfl)
      have d0 := hG.cell b8 (by omega) 0
      have d1 := hG.cell b8 (by omega) 1
      have d2 := hG.cell b8 (by omega) 2
      have d3 := hG.cell b8 (by omega) 3
      simp at d0 d1 d2 d3
      generalize a.eval = ev at e1 ⊢
      simp [execOp, go_sem, e1, d0, d1, d2, d3]
    · cases ho
      obtain ⟨g, gm, e1, ho⟩ : ∃ g gm, a.eval (.tmp 60) = .slice (some ⟨g, 0, none⟩) 3 3 ∧ OwnBlk W W4.heap.size g gm [mapA [7], plA 7, ⟨9, 0, 1024, []⟩] := hT 4 (hh 4 rfl)
      refine step_told (.slice (some ⟨g, 0, none⟩) 3 3) ?_ (by decide) hG (hk (Below.refl _ _)) ⟨g, gm, rfl, ho⟩
      generalize a.eval = ev at e1 ⊢
      simp [execOp, go_sem, e1]
    · cases ho
      obtain ⟨hG1, hG2, r0, r1, r2, r3, hr⟩ := hG
      have e3 : a.eval (.tmp 3) = .pointer (some ⟨w.heap.size, 0, none⟩) := hold 3 (by kernel_rfl)
      have e1 : a.eval (.tmp 61) = .agg #[.int .u8 1, .int .i64 (-100), .int .i64 0, .int .i64 0] := hT 5 (hh 5 rfl)
      obtain ⟨hs, hgr⟩ := store_4 hr (.int .u8 1) (.int .i64 (-100)) (.int .i64 0) (.int .i64 0)
      have c0 := blk_cell hr 0
      have c1 := blk_cell hr 1
      have c2 := blk_cell hr 2
      have c3 := blk_cell hr 3
      have f0 := Joins.unfrozen_of_block hr 0
      have f1 := Joins.unfrozen_of_block hr 1
      have f2 := Joins.unfrozen_of_block hr 2
      have f3 := Joins.unfrozen_of_block hr 3
      simp at c0 c1 c2 c3
      refine step_skip ((((W.setCell ⟨w.heap.size, 0, none⟩ (.int .u8 1)).setCell ⟨w.heap.size, 1, none⟩ (.int .i64 (-100))).setCell ⟨w.heap.size, 2, none⟩ (.int .i64 0)).setCell ⟨w.heap.size, 3, none⟩ (.int .i64 0)) ?_ ⟨grown_row hG1 hgr, Nat.lt_of_lt_of_le hG2 hgr.size, _, _, _, _, hs⟩ (fun j hj => (hT j hj).keep (fun k hk hl => hgr.block k hl (fun e => by injection e with e; omega)) (fun r0 r1 r2 r3 hst => ?_)) hs
      · generalize a.eval = ev at e1 e3 ⊢
        simp [execOp, go_sem, e1, e3, c0, c1, c2, c3, f0, f1, f2, f3]
      · exfalso
        have hjn : j < 8 := by
          rcases Nat.lt_or_ge j 8 with h | h
          · exact h
          · rw [List.getElem?_eq_none (by simpa using h)] at hst; cases hst
        have hj' : j = 0 ∨ j = 1 ∨ j = 2 ∨ j = 3 ∨ j = 4 ∨ j = 5 ∨ j = 6 ∨ j = 7 := by omega
        rcases hj' with rfl | rfl | rfl | rfl | rfl | rfl | rfl | rfl <;> first | (simp at hst; done) | (rw [hLi] at hj; cases hj)
  · intro a W hd hs hold hT hG
    refine hK _ _ ?_
    obtain ⟨g, gm, e2, ho⟩ : ∃ g gm, a.tmps.getD 2 undef = .slice (some ⟨g, 0, none⟩) 3 3 ∧ OwnBlk W W4.heap.size g gm [mapA [7], plA 7, ⟨9, 0, 1024, []⟩] := hT 6 (by decide)
    have e3 : a.tmps.getD 3 undef = .pointer (some ⟨w.heap.size, 0, none⟩) := hold 3 (by kernel_rfl)
    have hr : W.heap[w.heap.size]? = some (.cells #[.int .u8 1, .int .i64 (-100), .int .i64 0, .int .i64 0] 30 (0, 0)) := hT 7 (by decide)
    have hB : Below w.heap.size w W := ⟨hG.1.os.trans lw.os, hG.1.tape.trans lw.tape, hG.1.output.trans lw.output, Nat.le_trans lw.size hG.1.size, fun k hk => (hG.1.block k (Nat.lt_of_lt_of_le hk lw.size) (fun e => by injection e with e; omega)).trans (lw.block k hk)⟩
    have c0 := blk_cell hr 0
    have c1 := blk_cell hr 1
    have c2 := blk_cell hr 2
    have c3 := blk_cell hr 3
    simp at c0 c1 c2 c3
    have H2 := hide e2
    have H3 := hide e3
    have HO := hide ho
    have HB := hide hB
    clear hT hold hG hK e2 e3 ho hB hr
    go_wp2
    refine bodyPost_ret (v := .tuple #[.slice (some ⟨g, 0, none⟩) 3 3, .agg #[.int .u8 1, .int .i64 (-100), .int .i64 0, .int .i64 0]]) ?_ hd ⟨_, _, rfl, ⟨by decide, by unfold maxLen; omega⟩, (fun W' hs' hk' => (HO.out.keep (fun k h1 h2 => hk' k (by omega) h2)).args), HB.out⟩
    have e2 := H2.out
    have e3 := H3.out
    rw [Array.getD_eq_getD_getElem?] at e2 e3
    simp [results, Try.results23, go_sem, e2, e3, c0, c1, c2, c3]
end Go.Proofs.Ytedjmgiblkjonaa
