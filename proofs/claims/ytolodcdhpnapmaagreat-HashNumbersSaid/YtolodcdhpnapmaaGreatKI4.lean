/-
  The make of a map: is it right? The program's own answer.
-/
import Derived.Test.YtolodcdhpnapmaaGreatKI3
import Derived.Test.YtolodcdhpnapmaaGreatRT
namespace Go.Proofs.YtolodcdhpnapmaaGreat
open Go.RowKit Go.Maps
set_option linter.unusedVariables false

def pvM (k : Int) : Value := ((ptM k).getD ⟨0, 0, 0, 0, 0, 0⟩).v
def specM (k key val ent : Int) : Int := match ptM k with
  | none => 9
  | some p => if inI p.kl p.kh key && inI p.vl p.vh val && inI p.el p.eh ent then 0 else 2
theorem makesL_key (p : Value × Value) (h : p ∈ makesL) : ∃ y, keyOf Tryz.prog 23 p.1 = some y := by
  simp only [makesL, List.mem_cons, List.not_mem_nil, or_false] at h
  rcases h with rfl | rfl | rfl | rfl | rfl | rfl | rfl | rfl <;> exact ⟨_, u8key _ (by decide) (by decide)⟩
theorem zero81 (W : World) : (zeroValue 77).run Tryz.prog W = .ok (pvM 0) W := by kernel_rfl
theorem look_make (W : World) (b : Nat) (k : Int) (h : Makes W b) (hk : 0 ≤ k ∧ k < 256) : (Instr.lookup 79 (.map (some b)) (.int .u8 k) true).run Tryz.prog W = .ok (.tuple #[pvM k, .bool (ptM k).isSome]) W := by
  obtain ⟨es, clock, hb, hj⟩ := h
  by_cases h8 : 1 ≤ k ∧ k ≤ 8
  · have h9 : k = 1 ∨ k = 2 ∨ k = 3 ∨ k = 4 ∨ k = 5 ∨ k = 6 ∨ k = 7 ∨ k = 8 := by omega
    rcases h9 with rfl | rfl | rfl | rfl | rfl | rfl | rfl | rfl <;> exact run_look_there u8Keyed Tryz.underlying79 hb hj makesL_key (u8key _ (by decide) (by decide)) (by simp [makesL, pvM, ptM, Pt.v]) (by simp [makesL, pvM, ptM, Pt.v])
  · have hn : ptM k = none := by
      unfold ptM
      simp [show ¬ k = 1 by omega, show ¬ k = 2 by omega, show ¬ k = 3 by omega, show ¬ k = 4 by omega, show ¬ k = 5 by omega, show ¬ k = 6 by omega, show ¬ k = 7 by omega, show ¬ k = 8 by omega]
    have hp : pvM k = pvM 0 := by unfold pvM; rw [hn]; rfl
    rw [hn, hp]
    refine run_look_none u8Keyed Tryz.underlying79 hb hj makesL_key (u8key _ hk.1 hk.2) (fun p hp => ?_) (zero81 W)
    simp only [makesL, List.mem_cons, List.not_mem_nil, or_false] at hp
    rcases hp with rfl | rfl | rfl | rfl | rfl | rfl | rfl | rfl <;> (intro h; simp at h; omega)

theorem act_lit {a : Act} {l : Array Value} (hd : a.defers = []) (hs : a.tmps.size = l.size) (h : ∀ t, t < l.size → a.tmps.getD t undef = l.getD t undef) : a = ⟨l, []⟩ := by
  obtain ⟨tmps, defers⟩ := a
  simp only at hd hs h
  subst hd
  congr 1
  apply Array.ext hs
  intro i h1 h2
  have := h i h2
  simpa [Array.getD_eq_getD_getElem?, Array.getElem?_eq_getElem h1, Array.getElem?_eq_getElem h2] using this
theorem later6 {W0 : World} {b : Nat} {u0 u1 u2 u3 u4 u5 : Value} {t : TypeId} (h : W0.heap[b]? = some (.cells #[u0, u1, u2, u3, u4, u5] t (0, 0))) : (∀ y : Later W0, y.w.cell? ⟨b, 0, none⟩ = some u0) ∧ (∀ y : Later W0, y.w.cell? ⟨b, 1, none⟩ = some u1) ∧
    (∀ y : Later W0, y.w.cell? ⟨b, 2, none⟩ = some u2) ∧ (∀ y : Later W0, y.w.cell? ⟨b, 3, none⟩ = some u3) ∧ (∀ y : Later W0, y.w.cell? ⟨b, 4, none⟩ = some u4) ∧ (∀ y : Later W0, y.w.cell? ⟨b, 5, none⟩ = some u5) :=
  ⟨Later.cell (by rw [blk_cell h]; rfl), Later.cell (by rw [blk_cell h]; rfl), Later.cell (by rw [blk_cell h]; rfl), Later.cell (by rw [blk_cell h]; rfl), Later.cell (by rw [blk_cell h]; rfl), Later.cell (by rw [blk_cell h]; rfl)⟩
/-- What lasts of the statement that looks a kind's make up: box 'g0' holds the make, new blocks lie from n on. -/
def TSpec (g0 n : Nat) (k : Int) (j : Nat) (σ : Nat → Value) (W : World) : Prop :=
  match j with
  | 0 => ∃ b, σ 0 = .map (some b) ∧ Makes W b
  | 1 => σ 1 = .pointer (some ⟨g0, 0, none⟩)
  | 2 => σ 2 = .int .u8 k
  | 3 => σ 3 = .tuple #[pvM k, .bool (ptM k).isSome]
  | 4 => σ 4 = .tuple #[pvM k, .bool (ptM k).isSome]
  | 5 => σ 5 = pvM k
  | 6 => σ 6 = .bool (ptM k).isSome
  | 7 => ∃ g, σ 7 = .pointer (some ⟨g, 0, none⟩) ∧ n ≤ g ∧ ∃ v0 v1 v2 v3 v4 v5, W.heap[g]? = some (.cells #[v0, v1, v2, v3, v4, v5] 77 (0, 0))
  | 8 => ∃ g, σ 7 = .pointer (some ⟨g, 0, none⟩) ∧ n ≤ g ∧ W.heap[g]? = some (.cells (match pvM k with | .agg c => c | _ => #[]) 77 (0, 0))
  | 9 => σ 9 = .bool (ptM k).isSome
  | _ => True
theorem TSpec.below {g0 n : Nat} {k : Int} {j : Nat} {σ : Nat → Value} {W W' : World} (h : TSpec g0 n k j σ W) (hb : Below W.heap.size W W') : TSpec g0 n k j σ W' := by
  unfold TSpec at h ⊢
  split at h
  · obtain ⟨b, h1, h2⟩ := h
    exact ⟨b, h1, h2.below hb⟩
  all_goals try exact h
  · obtain ⟨g, h1, h2, v0, v1, v2, v3, v4, v5, h3⟩ := h
    exact ⟨g, h1, h2, v0, v1, v2, v3, v4, v5, (hb.block g (at_lt h3)).trans h3⟩
  · obtain ⟨g, h1, h2, h3⟩ := h
    exact ⟨g, h1, h2, (hb.block g (at_lt h3)).trans h3⟩
set_option maxRecDepth 100000 in
set_option maxHeartbeats 1000000 in
theorem spec_any (k key val ent : Int) (w : World) (hk : 0 ≤ k ∧ k < 256) : Calls Tryz.prog 11 #[.agg #[.int .u8 k, .int .i64 key, .int .i64 val, .int .i64 ent]] w fun e w' => e = .returned (.int .i64 (specM k key val ent)) ∧ Below w.heap.size w w' := by
  have hE : ∀ args W, (callFunc 30 args).run Tryz.prog W = .ok (.enter 30 args) W := enters_of Tryz.func30 (by kernel_rfl) rfl
  have hx := World.alloc_heap_new w (.cells #[.int .u8 k, .int .i64 key, .int .i64 val, .int .i64 ent] 25)
  have HK := hide hk
  clear hk
  go_enter Tryz.func11, Tryz.ntmps11
  go_wp2
  rename_i K hK
  generalize hW0 : w.alloc (.cells #[.int .u8 k, .int .i64 key, .int .i64 val, .int .i64 ent] 25) = W0 at hx
  have hz0 : W0.heap.size = w.heap.size + 1 := by rw [← hW0]; simp
  have hb0 : Below w.heap.size w W0 := by rw [← hW0]; exact below1 _ _
  clear hW0
  have c0 := blk_cell hx 0
  simp at c0
  refine wp_tells (by kernel_rfl) (TSpec w.heap.size W0.heap.size k) (fun W => Below W0.heap.size W0 W) (by kernel_rfl) (by kernel_rfl) (by kernel_rfl) (by kernel_rfl) ?_ (Below.refl _ _).drew ?_ ?_
  · intro j oj σ σ' W hj h hs
    have hi : j < 10 := (Array.getElem?_eq_some_iff.1 hj).1
    have h0 := hs j (.inl rfl)
    have hi' : j = 0 ∨ j = 1 ∨ j = 2 ∨ j = 3 ∨ j = 4 ∨ j = 5 ∨ j = 6 ∨ j = 7 ∨ j = 8 ∨ j = 9 := by omega
    rcases hi' with rfl | rfl | rfl | rfl | rfl | rfl | rfl | rfl | rfl | rfl
    all_goals first
      | (simp only [TSpec] at h ⊢; rw [h0]; exact h)
      | (have h7 := hs 7 (.inr (by cases hj; rfl)); simp only [TSpec] at h ⊢; rw [h7]; exact h)
  · intro i o ho L a W hi hG hold hT hh
    have hi2 : i < 10 := (Array.getElem?_eq_some_iff.1 ho).1
    have hi' : i = 0 ∨ i = 1 ∨ i = 2 ∨ i = 3 ∨ i = 4 ∨ i = 5 ∨ i = 6 ∨ i = 7 ∨ i = 8 ∨ i = 9 := by omega
    have hk : ∀ {W'}, Below W.heap.size W W' → ∀ j, L j = true → TSpec w.heap.size W0.heap.size k j (sl _ a) W' := fun hb j hj => (hT j hj).below hb
    rcases hi' with rfl | rfl | rfl | rfl | rfl | rfl | rfl | rfl | rfl | rfl
    · cases ho
      refine step_called (f := 30) (args := #[]) (R := fun v W' => ∃ b, v = .map (some b) ∧ Makes W' b ∧ Below W.heap.size W W') (by simp [execOp, go_sem, Act.eval, hE]) (by decide) ((makes_any W).mono (fun e w' ⟨b, h1, h2, h3, h4⟩ => ⟨_, h1, b, rfl, h3, h4⟩)) ?_
      rintro v W' ⟨b, rfl, hm, hb⟩
      exact ⟨hG.trans (hb.mono hG.size), hk hb, b, rfl, hm⟩
    · cases ho
      refine step_told (.pointer (some ⟨w.heap.size, 0, none⟩)) ?_ (by decide) hG hT rfl
      have e1 : a.eval (.tmp 1) = .pointer (some ⟨w.heap.size, 0, none⟩) := hold 1 (by kernel_rfl)
      generalize a.eval = ev at e1 ⊢
      simp [execOp, go_sem, e1]
    · cases ho
      refine step_told (.int .u8 k) ?_ (by decide) hG (hk (Below.refl _ _)) rfl
      have e1 : a.eval (.tmp 7) = .pointer (some ⟨w.heap.size, 0, none⟩) := hT 1 (hh 1 rfl)
      have d0 := (hG.cell (p := ⟨w.heap.size, 0, none⟩) (by show w.heap.size < _; omega)).trans c0
      generalize a.eval = ev at e1 ⊢
      simp [execOp, go_sem, e1, d0]
    · cases ho
      refine step_told (.tuple #[pvM k, .bool (ptM k).isSome]) ?_ (by decide) hG (hk (Below.refl _ _)) rfl
      obtain ⟨b, e0, hm⟩ : ∃ b, a.eval (.tmp 6) = .map (some b) ∧ Makes W b := hT 0 (hh 0 rfl)
      have e1 : a.eval (.tmp 8) = .int .u8 k := hT 2 (hh 2 rfl)
      have hl := look_make W b k hm HK.out
      generalize a.eval = ev at e0 e1 ⊢
      simp [execOp, go_sem, e0, e1, hl]
    · cases ho
      refine step_told (.tuple #[pvM k, .bool (ptM k).isSome]) ?_ (by decide) hG (hk (Below.refl _ _)) rfl
      have e1 : a.eval (.tmp 9) = .tuple #[pvM k, .bool (ptM k).isSome] := hT 3 (hh 3 rfl)
      generalize a.eval = ev at e1 ⊢
      simp [execOp, go_sem, e1]
    · cases ho
      refine step_told (pvM k) ?_ (by decide) hG (hk (Below.refl _ _)) rfl
      have e1 : a.eval (.tmp 5) = .tuple #[pvM k, .bool (ptM k).isSome] := hT 4 (hh 4 rfl)
      generalize a.eval = ev at e1 ⊢
      simp [execOp, go_sem, e1]
    · cases ho
      refine step_told (.bool (ptM k).isSome) ?_ (by decide) hG (hk (Below.refl _ _)) rfl
      have e1 : a.eval (.tmp 5) = .tuple #[pvM k, .bool (ptM k).isSome] := hT 4 (hh 4 rfl)
      generalize a.eval = ev at e1 ⊢
      simp [execOp, go_sem, e1]
    · cases ho
      refine step_turned (.pointer (some ⟨W.heap.size, 0, none⟩)) (W.alloc (.cells #[.int .i64 0, .int .i64 0, .int .i64 0, .int .i64 0, .int .i64 0, .int .i64 0] 77)) ?_ (by decide) (hG.alloc hG.size _) (hk (below1 _ _)) ⟨_, rfl, hG.size, _, _, _, _, _, _, World.alloc_heap_new W _⟩
      generalize a.eval = ev
      simp [execOp, go_sem]
    · cases ho
      obtain ⟨g, e3, hg, v0, v1, v2, v3, v4, v5, hb⟩ : ∃ g, a.eval (.tmp 3) = .pointer (some ⟨g, 0, none⟩) ∧ W0.heap.size ≤ g ∧ ∃ v0 v1 v2 v3 v4 v5, W.heap[g]? = some (.cells #[v0, v1, v2, v3, v4, v5] 77 (0, 0)) := hT 7 (hh 7 rfl)
      have e5 : a.eval (.tmp 10) = pvM k := hT 5 (hh 5 rfl)
      generalize hp : (ptM k).getD ⟨0, 0, 0, 0, 0, 0⟩ = p at *
      have hpv : pvM k = p.v := by unfold pvM; rw [hp]
      obtain ⟨hs, hgr⟩ := store_6 hb (.int .i64 p.kl) (.int .i64 p.kh) (.int .i64 p.vl) (.int .i64 p.vh) (.int .i64 p.el) (.int .i64 p.eh)
      have c0 := blk_cell hb 0
      have c1 := blk_cell hb 1
      have c2 := blk_cell hb 2
      have c3 := blk_cell hb 3
      have c4 := blk_cell hb 4
      have c5 := blk_cell hb 5
      have f0 := Joins.unfrozen_of_block hb 0
      have f1 := Joins.unfrozen_of_block hb 1
      have f2 := Joins.unfrozen_of_block hb 2
      have f3 := Joins.unfrozen_of_block hb 3
      have f4 := Joins.unfrozen_of_block hb 4
      have f5 := Joins.unfrozen_of_block hb 5
      simp at c0 c1 c2 c3 c4 c5
      have HE := hide e3
      refine step_skip ((((((W.setCell ⟨g, 0, none⟩ (.int .i64 p.kl)).setCell ⟨g, 1, none⟩ (.int .i64 p.kh)).setCell ⟨g, 2, none⟩ (.int .i64 p.vl)).setCell ⟨g, 3, none⟩ (.int .i64 p.vh)).setCell ⟨g, 4, none⟩ (.int .i64 p.el)).setCell ⟨g, 5, none⟩ (.int .i64 p.eh)) ?_ (hG.grown hgr hG.size (fun k e => by cases e; exact hg)) ?_ ?_
      · rw [hpv] at e5
        generalize a.eval = ev at e3 e5 ⊢
        simp [execOp, go_sem, e3, e5, Pt.v, c0, c1, c2, c3, c4, c5, f0, f1, f2, f3, f4, f5]
      · intro j hj
        have hTj := hT j hj
        unfold TSpec at hTj ⊢
        split at hTj
        · obtain ⟨b, h1, es, clock, h2, h3⟩ := hTj
          refine ⟨b, h1, es, clock, (hgr.block b (at_lt h2) (fun e => ?_)).trans h2, h3⟩
          cases e
          rw [hb] at h2; cases h2
        · exact hTj
        · exact hTj
        · exact hTj
        · exact hTj
        · exact hTj
        · exact hTj
        · obtain ⟨g', h1, h2, v0', v1', v2', v3', v4', v5', h3⟩ := hTj
          obtain rfl : g = g' := by have := HE.out.symm.trans h1; simpa using this
          exact ⟨g, h1, h2, _, _, _, _, _, _, hs⟩
        · rw [hi] at hj; cases hj
        · exact hTj
        · trivial
      · refine ⟨g, HE.out, hg, ?_⟩
        rw [hpv]
        exact hs
    · cases ho
      refine step_told (.bool (ptM k).isSome) ?_ (by decide) hG (hk (Below.refl _ _)) rfl
      have e1 : a.eval (.tmp 11) = .bool (ptM k).isSome := hT 6 (hh 6 rfl)
      generalize a.eval = ev at e1 ⊢
      simp [execOp, go_sem, e1]
  · intro a W hd hs hold hT hG
    refine hK _ _ ?_
    obtain ⟨g, e3, hg, hgb⟩ : ∃ g, a.tmps.getD 3 undef = .pointer (some ⟨g, 0, none⟩) ∧ W0.heap.size ≤ g ∧ W.heap[g]? = some (.cells (match pvM k with | .agg c => c | _ => #[]) 77 (0, 0)) := hT 8 (by decide)
    have e4 : a.tmps.getD 4 undef = .bool (ptM k).isSome := hT 9 (by decide)
    obtain ⟨u5, hu5⟩ : ∃ u, a.tmps.getD 5 undef = u := ⟨_, rfl⟩
    obtain ⟨u6, hu6⟩ : ∃ u, a.tmps.getD 6 undef = u := ⟨_, rfl⟩
    obtain ⟨u7, hu7⟩ : ∃ u, a.tmps.getD 7 undef = u := ⟨_, rfl⟩
    obtain ⟨u8, hu8⟩ : ∃ u, a.tmps.getD 8 undef = u := ⟨_, rfl⟩
    obtain ⟨u9, hu9⟩ : ∃ u, a.tmps.getD 9 undef = u := ⟨_, rfl⟩
    obtain ⟨u10, hu10⟩ : ∃ u, a.tmps.getD 10 undef = u := ⟨_, rfl⟩
    obtain ⟨u11, hu11⟩ : ∃ u, a.tmps.getD 11 undef = u := ⟨_, rfl⟩
    have ha : a = ⟨#[.agg #[.int .u8 k, .int .i64 key, .int .i64 val, .int .i64 ent], .pointer (some ⟨w.heap.size, 0, none⟩), .int .i64 0, .pointer (some ⟨g, 0, none⟩), .bool (ptM k).isSome, u5, u6, u7, u8, u9, u10, u11, undef, undef, undef, undef, undef, undef, undef, undef, undef, undef, undef, undef, undef, undef, undef, undef, undef, undef, undef, undef, undef, undef], []⟩ := by
      refine act_lit hd hs (fun t ht => ?_)
      have ht' : t = 0 ∨ t = 1 ∨ t = 2 ∨ t = 3 ∨ t = 4 ∨ t = 5 ∨ t = 6 ∨ t = 7 ∨ t = 8 ∨ t = 9 ∨ t = 10 ∨ t = 11 ∨ t = 12 ∨ t = 13 ∨ t = 14 ∨ t = 15 ∨ t = 16 ∨ t = 17 ∨ t = 18 ∨ t = 19 ∨ t = 20 ∨ t = 21 ∨ t = 22 ∨ t = 23 ∨ t = 24 ∨ t = 25 ∨ t = 26 ∨ t = 27 ∨ t = 28 ∨ t = 29 ∨ t = 30 ∨ t = 31 ∨ t = 32 ∨ t = 33 := by
        have : t < 34 := ht
        omega
      rcases ht' with rfl | rfl | rfl | rfl | rfl | rfl | rfl | rfl | rfl | rfl | rfl | rfl | rfl | rfl | rfl | rfl | rfl | rfl | rfl | rfl | rfl | rfl | rfl | rfl | rfl | rfl | rfl | rfl | rfl | rfl | rfl | rfl | rfl | rfl
      · exact hold 0 (by kernel_rfl)
      · exact hold 1 (by kernel_rfl)
      · exact hold 2 (by kernel_rfl)
      · exact e3
      · exact e4
      · exact hu5
      · exact hu6
      · exact hu7
      · exact hu8
      · exact hu9
      · exact hu10
      · exact hu11
      · exact hold 12 (by kernel_rfl)
      · exact hold 13 (by kernel_rfl)
      · exact hold 14 (by kernel_rfl)
      · exact hold 15 (by kernel_rfl)
      · exact hold 16 (by kernel_rfl)
      · exact hold 17 (by kernel_rfl)
      · exact hold 18 (by kernel_rfl)
      · exact hold 19 (by kernel_rfl)
      · exact hold 20 (by kernel_rfl)
      · exact hold 21 (by kernel_rfl)
      · exact hold 22 (by kernel_rfl)
      · exact hold 23 (by kernel_rfl)
      · exact hold 24 (by kernel_rfl)
      · exact hold 25 (by kernel_rfl)
      · exact hold 26 (by kernel_rfl)
      · exact hold 27 (by kernel_rfl)
      · exact hold 28 (by kernel_rfl)
      · exact hold 29 (by kernel_rfl)
      · exact hold 30 (by kernel_rfl)
      · exact hold 31 (by kernel_rfl)
      · exact hold 32 (by kernel_rfl)
      · exact hold 33 (by kernel_rfl)
    subst ha
    clear hd hs hold hT hK e3 e4 hu5 hu6 hu7 hu8 hu9 hu10 hu11
    have HB := hide (hb0.trans (hG.mono (by omega)))
    have hxW := (hG.block _ (by omega)).trans hx
    obtain ⟨x0, x1, x2, x3⟩ := later4 hxW
    have HX := hide hxW
    clear hG hx c0 hb0 hxW
    cases hp : ptM k with
    | none =>
      have HM : Hid (specM k key val ent = 9) := hide (by unfold specM; rw [hp])
      clear hp
      go_wp2
      go_ret
      exact ⟨by rw [HM.out]; rfl, HB.out⟩
    | some p =>
      have HM : Hid (specM k key val ent = if inI p.kl p.kh key && inI p.vl p.vh val && inI p.el p.eh ent then 0 else 2) := hide (by unfold specM; rw [hp])
      have hpv : pvM k = p.v := by unfold pvM; rw [hp]; rfl
      rw [hpv] at hgb
      obtain ⟨y0, y1, y2, y3, y4, y5⟩ := later6 (show W.heap[g]? = some (.cells #[.int .i64 p.kl, .int .i64 p.kh, .int .i64 p.vl, .int .i64 p.vh, .int .i64 p.el, .int .i64 p.eh] 77 (0, 0)) from hgb)
      clear hp hpv hgb
      obtain ⟨kl, kh, vl, vh, el, eh⟩ := p
      have r0 := y0 ⟨W, Below.refl _ _⟩
      have r1 := y1 ⟨W, Below.refl _ _⟩
      have s1 := x1 ⟨W, Below.refl _ _⟩
      simp only [Later.w] at r0 r1 s1
      have hA := hide (fun w => has_int kl kh key w)
      have hB := hide (fun w => has_int vl vh val w)
      have hC := hide (fun w => has_int el eh ent w)
      simp only at HM y0 y1 y2 y3 y4 y5
      generalize inI kl kh key = x at *
      generalize inI vl vh val = y at *
      generalize inI el eh ent = z at *
      cases x
      all_goals cases y
      all_goals cases z
      all_goals
        go_wp2_with (first
          | (go_at_call 32; (first | (with_reducible refine (Later.calls0 hA.out).mono ?_) | (with_reducible refine (Later.calls _ hB.out).mono ?_) | (with_reducible refine (Later.calls _ hC.out).mono ?_)); rintro e w1 ⟨rfl, x, rfl⟩)
          | (go_at_call 31; ((with_reducible refine (unless_any _ _ _).mono ?_)); rintro e w1 ⟨rfl, rfl⟩))
        go_ret
        exact ⟨by rw [HM.out]; rfl, HB.out.trans ((Later.below _).mono HB.out.size)⟩
end Go.Proofs.YtolodcdhpnapmaaGreat
