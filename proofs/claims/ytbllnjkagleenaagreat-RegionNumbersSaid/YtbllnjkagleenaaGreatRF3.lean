/-
  The document's memory: a region is made.
-/
import Derived.Test.YtbllnjkagleenaaGreatRF2
namespace Go.Proofs.YtbllnjkagleenaaGreat
open Go.RowKit
set_option linter.unusedVariables false

theorem run_append_zero {P : Program} (w : World) (t ty e : TypeId) (i : TypeInfo) (sz : Nat) (ht : P.underlying t = some (.slice e)) (hi : P.info? e = some i) (g cap : Nat) (n : Nat) (xs : List Value) (hown : w.ownsRow 0 e sz (.slice (some ⟨g, 0, none⟩) n cap) n xs) (A : Option Addr) (c : Nat) :
    (Builtin.append_ #[t, t] ty #[.slice (some ⟨g, 0, none⟩) n cap, .slice A 0 c]).run P w = .ok (.slice (some ⟨g, 0, none⟩) n cap) w := by
  cases A with
  | none => exact run_append_nil w t ty e i sz ht hi _ n xs hown c
  | some a =>
    have hl : (loadCells a 0).run P w = .ok #[] w := by simpa using run_loadCells_list (P := P) w a [] (by simp)
    rcases hown.2 with ⟨h0, _⟩ | ⟨g', cap', cur, h0, _, _, hnc, _⟩
    · cases h0
    · cases h0
      simp [Builtin.append_, run_underlying ht, sizeOf, typeInfo, hi, Builtin.lenOf, Builtin.firstCells, hnc, storeCells, hl]
/-- Bytes are appended to an empty row without room. -/
theorem append_lit (W : World) (g : Nat) (h : W.ownsRow 0 5 1 (.slice (some ⟨g, 0, none⟩) 0 0) 0 []) (C : Nat) (A : Option Addr) (n c : Nat) (l : List Int) (hr : Rd W C 1 A n (u8s l)) (hA : A = none → n = 0) (hn : n ≤ 1000000) (ty : TypeId) :
    ∃ v' W', (Builtin.append_ #[26, 26] ty #[.slice (some ⟨g, 0, none⟩) 0 0, .slice A n c]).run Tryz.prog W = .ok v' W' ∧ W'.ownsRow 0 5 1 v' n (u8s l) ∧ (v'.ownBlock = some g ∨ v'.ownBlock = some W.heap.size) ∧ Below W.heap.size W W' := by
  obtain ⟨i0, hi, hz0, hz1, hz2⟩ := info_parts u8info
  rcases Nat.eq_zero_or_pos n with h0 | h0
  · subst h0
    have hl : l = [] := by
      have := hr.1
      simp [u8s] at this
      exact this
    subst hl
    exact ⟨_, W, run_append_zero W 26 ty 5 i0 1 Tryz.underlying26 hi g 0 0 [] h A c, h, .inl rfl, Below.refl _ _⟩
  · obtain ⟨ad, rfl, _, hc⟩ := hr.2 h0
    obtain ⟨v', W', hrun, hg⟩ := run_append_two (P := Tryz.prog) W 26 ty 5 i0 _ 1 1 Tryz.underlying26 hi hz0 hz1 hz2 rfl (by decide) _ 0 [] h ad n c (u8s l) hr.1 hc (u8s_one l) h0 (by unfold maxLen; omega) (by omega)
    obtain ⟨ho, hgr⟩ := hg
    rw [Nat.zero_add, List.nil_append] at ho
    rcases hgr with ⟨g', cap, h1, h2, h3⟩ | ⟨h1, h2⟩
    · cases h1
      exfalso
      rcases ho.2 with ⟨h4, _⟩ | ⟨g4, cap4, cur4, h4, _, _, h5, _⟩
      · rw [h2] at h4; cases h4
      · rw [h2] at h4
        injection h4 with _ _ h6
        omega
    · exact ⟨v', W', hrun, ho, .inr h1, h2⟩
theorem rowInfo65 : (Tryz.prog.info? 68).map (fun i => (i.zero, i.size, i.bytes)) = some (some (.agg #[.int .u8 0, .slice none 0 0, .bool false]), 3, 40) := by kernel_rfl
/-- What lasts of the statement that appends a region. -/
def TRMake (v : Value) (R : List RRow) (x : Nat) (k : Int) (A : Option Addr) (n c : Nat) (l : List Int) (B : Nat) (j : Nat) (σ : Nat → Value) (W : World) : Prop :=
  match j with
  | 0 => σ 0 = .pointer (some ⟨x, 0, none⟩)
  | 1 => σ 1 = .pointer (some ⟨x, 0, none⟩)
  | 2 => σ 2 = .pointer (some ⟨x, 0, none⟩)
  | 3 => σ 3 = .pointer (some ⟨x, 0, none⟩)
  | 4 => σ 4 = v
  | 5 => σ 5 = .int .u8 k
  | 6 => ∃ g, σ 6 = .slice (some ⟨g, 0, none⟩) 0 0 ∧ W.ownsRow 0 5 1 (.slice (some ⟨g, 0, none⟩) 0 0) 0 [] ∧ B ≤ g
  | 7 => σ 7 = .slice A n c
  | 8 => OwnB W B (σ 8) n l
  | 9 => ∃ A2 c2, σ 9 = .agg #[.int .u8 k, .slice A2 n c2, .bool true] ∧ OwnB W B (.slice A2 n c2) n l
  | 10 => ∃ g A2 c2, σ 10 = .slice (some ⟨g, 0, none⟩) 1 1 ∧ W.heap[g]? = some (.cells #[.int .u8 k, .slice A2 n c2, .bool true] 68 (0, 0)) ∧ B ≤ g ∧ OwnB W B (.slice A2 n c2) n l
  | 11 => ∃ A2 c2, OwnB W B (.slice A2 n c2) n l ∧ W.ownsRow 0 68 3 (σ 11) (R.length + 1) (rcells (R ++ [⟨k, A2, n, c2, l, true⟩])) ∧ ((σ 11).ownBlock = v.ownBlock ∨ ∀ g, (σ 11).ownBlock = some g → B ≤ g)
  | _ => True
theorem TRMake.below {v : Value} {R : List RRow} {x : Nat} {k : Int} {A : Option Addr} {n c : Nat} {l : List Int} {B : Nat} {j : Nat} {σ : Nat → Value} {W W' : World} (h : TRMake v R x k A n c l B j σ W) (hb : Below W.heap.size W W') : TRMake v R x k A n c l B j σ W' := by
  unfold TRMake at h ⊢
  split at h
  all_goals try exact h
  · obtain ⟨g, h1, h2, h3⟩ := h
    exact ⟨g, h1, owns_kept_below h2 hb, h3⟩
  · exact ⟨owns_kept_below h.1 hb, h.2⟩
  · obtain ⟨A2, c2, h1, h2⟩ := h
    exact ⟨A2, c2, h1, owns_kept_below h2.1 hb, h2.2⟩
  · obtain ⟨g, A2, c2, h1, h2, h3, h4⟩ := h
    exact ⟨g, A2, c2, h1, (hb.block g (at_lt h2)).trans h2, h3, owns_kept_below h4.1 hb, h4.2⟩
  · obtain ⟨A2, c2, h1, h2, h3⟩ := h
    exact ⟨A2, c2, ⟨owns_kept_below h1.1 hb, h1.2⟩, owns_kept_below h2 hb, h3⟩
theorem TRMake.turn {v : Value} {R : List RRow} {x : Nat} {k : Int} {A : Option Addr} {n c : Nat} {l : List Int} {B : Nat} {j : Nat} {σ : Nat → Value} {W W' : World} (h : TRMake v R x k A n c l B j σ W) (hj : j ≠ 11) (hk : Kept (fun g => v.ownBlock ≠ some g) W W') (hv : ∀ g, v.ownBlock = some g → g < B) : TRMake v R x k A n c l B j σ W' := by
  have hF : ∀ g, B ≤ g → v.ownBlock ≠ some g := fun g hg e => by have := hv g e; omega
  unfold TRMake at h ⊢
  split at h
  all_goals try exact h
  · obtain ⟨g, h1, h2, h3⟩ := h
    exact ⟨g, h1, owns_kept h2 hk (fun g' hg' => hF g' (by cases hg'; exact h3)), h3⟩
  · exact ⟨owns_kept h.1 hk (fun g hg => hF g (h.2 g hg)), h.2⟩
  · obtain ⟨A2, c2, h1, h2⟩ := h
    exact ⟨A2, c2, h1, owns_kept h2.1 hk (fun g hg => hF g (h2.2 g hg)), h2.2⟩
  · obtain ⟨g, A2, c2, h1, h2, h3, h4⟩ := h
    exact ⟨g, A2, c2, h1, (hk.block g (at_lt h2) (hF g h3)).trans h2, h3, owns_kept h4.1 hk (fun g hg => hF g (h4.2 g hg)), h4.2⟩
  · exact absurd rfl hj
theorem rcells_app (R : List RRow) (r : RRow) : rcells (R ++ [r]) = rcells R ++ r.cells := by simp [rcells]
set_option maxRecDepth 100000 in
theorem rmake_kind {x : Nat} {k : Int} {A : Option Addr} {n c : Nat} {w : World} (hk : k < 1 ∨ 5 < k) :
    Calls Tryz.prog 14 #[.pointer (some ⟨x, 0, none⟩), .int .u8 k, .slice A n c] w fun e w' => e = .returned (.tuple #[.int .i64 0, .int .i64 2]) ∧ w = w' := by
  by_cases h1 : k < 1
  · clear hk
    go_enter Tryz.func14, Tryz.ntmps14
    go_wp2
    go_ret2
    exact ⟨rfl, rfl⟩
  · have h2 : 5 < k := by omega
    clear hk
    go_enter Tryz.func14, Tryz.ntmps14
    go_wp2
    go_ret2
    exact ⟨rfl, rfl⟩
set_option maxRecDepth 100000 in
theorem rmake_long {x : Nat} {k : Int} {A : Option Addr} {n c : Nat} {w : World} (h1 : ¬ k < 1) (h2 : ¬ 5 < k) (hn : 4096 < n) (hn2 : n ≤ 1000000) :
    Calls Tryz.prog 14 #[.pointer (some ⟨x, 0, none⟩), .int .u8 k, .slice A n c] w fun e w' => e = .returned (.tuple #[.int .i64 0, .int .i64 3]) ∧ w = w' := by
  go_enter Tryz.func14, Tryz.ntmps14
  go_wp2
  go_ret2
  exact ⟨rfl, rfl⟩
theorem made_new {B x : Nat} {v v' : Value} {R : List RRow} {w W : World} {k : Int} {A2 : Option Addr} {n c2 : Nat} {l : List Int} (h : RMem w B x v R) (hk : Kept (fun g => v.ownBlock ≠ some g) w W) (hu : OwnB W w.heap.size (.slice A2 n c2) n l) (hn : W.ownsRow 0 68 3 v' (R.length + 1) (rcells (R ++ [⟨k, A2, n, c2, l, true⟩]))) (hw : v'.ownBlock = v.ownBlock ∨ ∀ g, v'.ownBlock = some g → w.heap.size ≤ g) (h4 : n ≤ 4096) (hB : B ≤ w.heap.size) :
    RMem (W.setCell ⟨x, 0, none⟩ v') B x v' (R ++ [⟨k, A2, n, c2, l, true⟩]) ∧ Kept (fun g => ¬ OfR x v R g) w (W.setCell ⟨x, 0, none⟩ v') ∧ (∀ g, OfR x v' (R ++ [⟨k, A2, n, c2, l, true⟩]) g → OfR x v R g ∨ w.heap.size ≤ g) := by
  have hxl := at_lt h.blk
  have hvx : v.ownBlock ≠ some x := fun e => by
    rcases h.lst.2 with ⟨h0, _⟩ | ⟨g', cap, cur, h0, _, h2, _⟩
    · rw [h0] at e; cases e
    · rw [h0] at e
      simp only [Value.ownBlock, Option.some.injEq] at e
      subst e
      have := h.blk
      rw [h2] at this
      injection this with this
      injection this with _ h5
      cases h5
  have hvx' : v'.ownBlock ≠ some x := fun e => by
    rcases hw with hw | hw
    · exact hvx (hw ▸ e)
    · have := hw x e; omega
  have hrx : ∀ (i : Nat) (s : RRow), R[i]? = some s → s.sl.ownBlock ≠ some x := fun i s hi e => by
    rcases (h.row i s hi).1.2 with ⟨h0, _⟩ | ⟨g', cap, cur, h0, _, h2, _⟩
    · rw [h0] at e; cases e
    · rw [h0] at e
      simp only [Value.ownBlock, Option.some.injEq] at e
      subst e
      have := h.blk
      rw [h2] at this
      injection this with this
      injection this with _ h5
      cases h5
  have hrv : ∀ (i : Nat) (s : RRow), R[i]? = some s → ∀ g, s.sl.ownBlock = some g → v.ownBlock ≠ some g := fun i s hi g hg e => by
    rcases owns_ne (h.row i s hi).1 h.lst (by decide) with h1 | h1
    · rw [h1] at hg; cases hg
    · exact h1 (hg.trans e.symm)
  have hrl : ∀ (i : Nat) (s : RRow), R[i]? = some s → ∀ g, s.sl.ownBlock = some g → g < w.heap.size := fun i s hi g hg => ((h.row i s hi).1.lt g hg).2
  have hs : Kept (fun g => g ≠ x) W (W.setCell ⟨x, 0, none⟩ v') := (Kept.refl _ W).setCell (fun _ hn => hn rfl) _
  have bx := (hk.block x hxl hvx).trans h.blk
  have hcase : ∀ (i : Nat) (s : RRow), (R ++ [(⟨k, A2, n, c2, l, true⟩ : RRow)])[i]? = some s → (i < R.length ∧ R[i]? = some s) ∨ (i = R.length ∧ s = ⟨k, A2, n, c2, l, true⟩) := fun i s hi => by
    rcases Nat.lt_trichotomy i R.length with hlt | heq | hgt
    · rw [List.getElem?_append_left hlt] at hi
      exact .inl ⟨hlt, hi⟩
    · subst heq
      simp at hi
      exact .inr ⟨rfl, hi.symm⟩
    · rw [List.getElem?_eq_none (by simp; omega)] at hi
      cases hi
  have hsub : ∀ g, OfR x v' (R ++ [⟨k, A2, n, c2, l, true⟩]) g → OfR x v R g ∨ w.heap.size ≤ g := by
    rintro g (rfl | hg | ⟨s, hs2, hg⟩)
    · exact .inl (.inl rfl)
    · rcases hw with hw | hw
      · exact .inl (.inr (.inl (hw ▸ hg)))
      · exact .inr (hw g hg)
    · obtain ⟨i, hi⟩ := List.mem_iff_getElem?.1 hs2
      rcases hcase i s hi with ⟨_, h2⟩ | ⟨_, rfl⟩
      · exact .inl (.inr (.inr ⟨s, List.mem_of_getElem? h2, hg⟩))
      · exact .inr (hu.2 g hg)
  refine ⟨⟨?_, ?_, fun i s hi => ?_, ?_, fun i j s t hi hj hne g hg ht => ?_⟩, ?_, hsub⟩
  · have := Joins.block_setCell (i := 0) bx v'
    simpa using this
  · rw [List.length_append]
    exact owns_kept hn hs (fun g hg e => hvx' (e ▸ hg))
  · rcases hcase i s hi with ⟨_, h2⟩ | ⟨_, rfl⟩
    · obtain ⟨a1, a2⟩ := h.row i s h2
      exact ⟨owns_kept (owns_kept a1 hk (fun g hg => hrv i s h2 g hg)) hs (fun g hg e => hrx i s h2 (e ▸ hg)), a2⟩
    · exact ⟨owns_kept hu.1 hs (fun g hg e => by have := hu.2 g hg; omega), h4⟩
  · intro g hg
    rcases hsub g hg with h1 | h1
    · exact h.low g h1
    · exact Nat.le_trans hB h1
  · rcases hcase i s hi with ⟨h1, h2⟩ | ⟨h1, rfl⟩
    · rcases hcase j t hj with ⟨h3, h5⟩ | ⟨h3, rfl⟩
      · exact h.sep i j s t h2 h5 hne g hg ht
      · have a1 := hrl i s h2 g hg
        have a2 := hu.2 g ht
        omega
    · rcases hcase j t hj with ⟨h3, h5⟩ | ⟨h3, rfl⟩
      · have a1 := hrl j t h5 g ht
        have a2 := hu.2 g hg
        omega
      · exact hne (h1.trans h3.symm)
  · exact keptTrans (hk.mono (fun g hg e => hg (.inr (.inl e)))) ((Kept.refl _ W).setCell (fun _ hn => hn (.inl rfl)) _ |>.mono (fun g hg => hg))
set_option maxRecDepth 100000 in
set_option maxHeartbeats 2000000 in
theorem rmake_some {B x : Nat} {v : Value} {R : List RRow} {w : World} (h : RMem w B x v R) (hl : R.length + 1 ≤ 1000000) (k : Int) (A : Option Addr) (n c C : Nat) (l : List Int) (h1 : ¬ k < 1) (h2 : ¬ 5 < k) (hn : n ≤ 4096) (hr : Rd w C 1 A n (u8s l)) (hA : A = none → n = 0) (hC : C ≤ B) (hB : B ≤ w.heap.size) :
    Calls Tryz.prog 14 #[.pointer (some ⟨x, 0, none⟩), .int .u8 k, .slice A n c] w fun e w' => ∃ v' A2 c2, e = .returned (.tuple #[.int .i64 ((R.length : Int) + 1), .int .i64 0]) ∧ RMem w' B x v' (R ++ [⟨k, A2, n, c2, l, true⟩]) ∧ Kept (fun g => ¬ OfR x v R g) w w' ∧ (∀ g, OfR x v' (R ++ [⟨k, A2, n, c2, l, true⟩]) g → OfR x v R g ∨ w.heap.size ≤ g) := by
  obtain ⟨LA0, Lc0, rfl⟩ := h.slice
  obtain ⟨v, hv⟩ : ∃ v, v = Value.slice LA0 R.length Lc0 := ⟨_, rfl⟩
  have HV := hide hv
  have cx := blk_cell h.blk 0
  simp at cx
  have HX := hide h.blk
  have HH := hide h
  have HR := hide hr
  have HA := hide hA
  have hxl := at_lt h.blk
  have hlow : ∀ g, (Value.slice LA0 R.length Lc0).ownBlock = some g → g < w.heap.size := fun g hg => (h.lst.lt g hg).2
  have hxv : (Value.slice LA0 R.length Lc0).ownBlock ≠ some x := fun e => by
    rcases h.lst.2 with ⟨h0, _⟩ | ⟨g', cap, cur, h0, _, h2, _⟩
    · rw [h0] at e; cases e
    · rw [h0] at e
      simp only [Value.ownBlock, Option.some.injEq] at e
      subst e
      have := h.blk
      rw [h2] at this
      injection this with this
      injection this with _ h5
      cases h5
  have HLOW := hide hlow
  have HXV := hide hxv
  clear h hr hA hlow hxv hv
  obtain ⟨i65, hi, hz0, hz1, hz2⟩ := info_parts rowInfo65
  have HI := hide hi
  have HZ := hide (And.intro hz0 (And.intro hz1 hz2))
  clear hi hz0 hz1 hz2
  go_enter Tryz.func14, Tryz.ntmps14
  go_wp2
  rename_i K hK hk1
  refine wp_tells_tail 12 (by kernel_rfl) (TRMake (.slice LA0 R.length Lc0) R x k A n c l w.heap.size) (fun W => Kept (fun g => (Value.slice LA0 R.length Lc0).ownBlock ≠ some g) w W ∧ W.ownsRow 0 68 3 (.slice LA0 R.length Lc0) R.length (rcells R)) (by kernel_rfl) (by kernel_rfl) (by kernel_rfl) (by kernel_rfl) (by kernel_rfl) (by kernel_rfl) (by kernel_rfl) (by decide) ?_ ⟨(Kept.refl _ _).drew, owns_kept HH.out.lst (F := fun _ => True) ⟨rfl, rfl, rfl, Nat.le_refl _, fun _ _ _ => rfl⟩ (fun _ _ => trivial)⟩ ?_ ?_
  · intro j oj σ σ' W hj h hs
    have h0 := hs j (.inl rfl)
    have hi : j < 15 := (Array.getElem?_eq_some_iff.1 hj).1
    have hi' : j = 0 ∨ j = 1 ∨ j = 2 ∨ j = 3 ∨ j = 4 ∨ j = 5 ∨ j = 6 ∨ j = 7 ∨ j = 8 ∨ j = 9 ∨ j = 10 ∨ j = 11 ∨ j = 12 ∨ j = 13 ∨ j = 14 := by omega
    rcases hi' with rfl | rfl | rfl | rfl | rfl | rfl | rfl | rfl | rfl | rfl | rfl | rfl | rfl | rfl | rfl
    all_goals first
      | trivial
      | (simp only [TRMake] at h ⊢; rw [h0]; exact h)
  · intro i o hi2 ho L a W hi hG hold hT hh
    have hi' : i = 0 ∨ i = 1 ∨ i = 2 ∨ i = 3 ∨ i = 4 ∨ i = 5 ∨ i = 6 ∨ i = 7 ∨ i = 8 ∨ i = 9 ∨ i = 10 ∨ i = 11 := by omega
    have hkb : ∀ {W'}, Below W.heap.size W W' → ∀ j, L j = true → TRMake (.slice LA0 R.length Lc0) R x k A n c l w.heap.size j (sl _ a) W' := fun hb j hj => (hT j hj).below hb
    have hGb : ∀ {W'}, Below W.heap.size W W' → Kept (fun g => (Value.slice LA0 R.length Lc0).ownBlock ≠ some g) w W' ∧ W'.ownsRow 0 68 3 (.slice LA0 R.length Lc0) R.length (rcells R) := fun hb => ⟨hG.1.later hb, owns_kept_below hG.2 hb⟩
    rcases hi' with rfl | rfl | rfl | rfl | rfl | rfl | rfl | rfl | rfl | rfl | rfl | rfl
    · cases ho
      refine step_told (.pointer (some ⟨x, 0, none⟩)) ?_ (by decide) hG hT rfl
      have e1 : a.eval (.tmp 0) = .pointer (some ⟨x, 0, none⟩) := hold 0 (by kernel_rfl)
      generalize a.eval = ev at e1 ⊢
      simp [execOp, go_sem, e1]
    · cases ho
      refine step_told (.pointer (some ⟨x, 0, none⟩)) ?_ (by decide) hG hT rfl
      have e1 : a.eval (.tmp 0) = .pointer (some ⟨x, 0, none⟩) := hold 0 (by kernel_rfl)
      generalize a.eval = ev at e1 ⊢
      simp [execOp, go_sem, e1]
    · cases ho
      refine step_told (.pointer (some ⟨x, 0, none⟩)) ?_ (by decide) hG hT rfl
      have e1 : a.eval (.tmp 18) = .pointer (some ⟨x, 0, none⟩) := hT 1 (hh 1 rfl)
      generalize a.eval = ev at e1 ⊢
      simp [execOp, go_sem, e1]
    · cases ho
      refine step_told (.pointer (some ⟨x, 0, none⟩)) ?_ (by decide) hG hT rfl
      have e1 : a.eval (.tmp 19) = .pointer (some ⟨x, 0, none⟩) := hT 2 (hh 2 rfl)
      generalize a.eval = ev at e1 ⊢
      simp [execOp, go_sem, e1]
    · cases ho
      refine step_told (.slice LA0 R.length Lc0) ?_ (by decide) hG hT rfl
      have e1 : a.eval (.tmp 20) = .pointer (some ⟨x, 0, none⟩) := hT 3 (hh 3 rfl)
      have d0 : W.cell? ⟨x, 0, none⟩ = some (.slice LA0 R.length Lc0) := (World.cell?_of_block (hG.1.block x hxl HXV.out)).trans cx
      generalize a.eval = ev at e1 ⊢
      simp [execOp, go_sem, e1, d0]
    · cases ho
      refine step_told (.int .u8 k) ?_ (by decide) hG hT rfl
      have e1 : a.eval (.tmp 1) = .int .u8 k := hold 1 (by kernel_rfl)
      generalize a.eval = ev at e1 ⊢
      simp [execOp, go_sem, e1]
    · cases ho
      refine step_turned (.slice (some ⟨W.heap.size, 0, none⟩) 0 0) (W.alloc (.cells #[] 5)) ?_ (by decide) (hGb (below1 _ _)) (hkb (below1 _ _)) ⟨W.heap.size, rfl, empty_row W, hG.1.size⟩
      generalize a.eval = ev
      simp [execOp, go_sem]
    · cases ho
      refine step_told (.slice A n c) ?_ (by decide) hG hT rfl
      have e1 : a.eval (.tmp 2) = .slice A n c := hold 2 (by kernel_rfl)
      generalize a.eval = ev at e1 ⊢
      simp [execOp, go_sem, e1]
    · cases ho
      obtain ⟨g, e1, hg, hgl⟩ : ∃ g, a.eval (.tmp 23) = .slice (some ⟨g, 0, none⟩) 0 0 ∧ W.ownsRow 0 5 1 (.slice (some ⟨g, 0, none⟩) 0 0) 0 [] ∧ w.heap.size ≤ g := hT 6 (hh 6 rfl)
      have e2 : a.eval (.tmp 24) = .slice A n c := hT 7 (hh 7 rfl)
      have hrW : Rd W W.heap.size 1 A n (u8s l) := (HR.out.below (hG.1.to_below (fun g hg e => by have := HH.out.low g (.inr (.inl e)); omega) (Nat.le_trans hC hB))).mono (Nat.le_trans (Nat.le_trans hC hB) hG.1.size)
      obtain ⟨v', W', hrun, ho', hb', hbl⟩ := append_lit W g hg _ A n c l hrW HA.out (by omega) 26
      refine step_turned v' W' ?_ (by decide) (hGb hbl) (hkb hbl) ⟨ho', fun b hb => ?_⟩
      · generalize a.eval = ev at e1 e2 ⊢
        simp [execOp, resolve, invoke, builtin, e1, e2, hrun, Result.andThen]
      · rcases hb' with hb' | hb'
        · rw [show upd (sl _ a) 8 v' 8 = v' from rfl, hb'] at hb
          injection hb with hb
          omega
        · rw [show upd (sl _ a) 8 v' 8 = v' from rfl, hb'] at hb
          injection hb with hb
          have := hG.1.size
          omega
    · cases ho
      have e1 : a.eval (.tmp 22) = .int .u8 k := hT 5 (hh 5 rfl)
      have e2 : OwnB W w.heap.size (a.eval (.tmp 25)) n l := hT 8 (hh 8 rfl)
      obtain ⟨A2, c2, e3, _⟩ := owns_slice e2.1
      refine step_told (.agg #[.int .u8 k, .slice A2 n c2, .bool true]) ?_ (by decide) hG hT ⟨A2, c2, rfl, by rw [← e3]; exact e2⟩
      have e0 : a.eval (.const (.bool true)) = .bool true := rfl
      generalize a.eval = ev at e0 e1 e3 ⊢
      simp [execOp, go_sem, e0, e1, e3]
    · cases ho
      obtain ⟨A2, c2, e1, hu⟩ : ∃ A2 c2, a.eval (.tmp 26) = .agg #[.int .u8 k, .slice A2 n c2, .bool true] ∧ OwnB W w.heap.size (.slice A2 n c2) n l := hT 9 (hh 9 rfl)
      refine step_turned (.slice (some ⟨W.heap.size, 0, none⟩) 1 1) (W.alloc (.cells #[.int .u8 k, .slice A2 n c2, .bool true] 68)) ?_ (by decide) (hGb (below1 _ _)) (hkb (below1 _ _)) ⟨W.heap.size, A2, c2, rfl, World.alloc_heap_new W _, hG.1.size, owns_kept_below hu.1 (below1 _ _), hu.2⟩
      generalize a.eval = ev at e1 ⊢
      simp [execOp, go_sem, e1]
    · cases ho
      obtain ⟨g, A2, c2, e1, hg, hgl, hu⟩ : ∃ g A2 c2, a.eval (.tmp 27) = .slice (some ⟨g, 0, none⟩) 1 1 ∧ W.heap[g]? = some (.cells #[.int .u8 k, .slice A2 n c2, .bool true] 68 (0, 0)) ∧ w.heap.size ≤ g ∧ OwnB W w.heap.size (.slice A2 n c2) n l := hT 10 (hh 10 rfl)
      have e2 : a.eval (.tmp 21) = .slice LA0 R.length Lc0 := hT 4 (hh 4 rfl)
      have hnews : ∀ j u, (RRow.cells ⟨k, A2, n, c2, l, true⟩)[j]? = some u → W.cell? ((⟨g, 0, none⟩ : Addr).add j) = some u := fun j u hu => by
        rw [add_own, blk_cell hg]
        simpa [RRow.cells] using hu
      obtain ⟨v', W', hrun, hgr⟩ := run_append_two (P := Tryz.prog) W 63 63 68 i65 _ 3 40 Tryz.underlying63 HI.out HZ.out.1 HZ.out.2.1 HZ.out.2.2 rfl (by decide) _ R.length (rcells R) hG.2 ⟨g, 0, none⟩ 1 1 (RRow.cells ⟨k, A2, n, c2, l, true⟩) rfl hnews (by simp [RRow.cells, Value.oneCell']) (by decide) (by unfold maxLen; omega) (by omega)
      obtain ⟨hnew, hway⟩ := hgr
      have hkt : Kept (fun g => (Value.slice LA0 R.length Lc0).ownBlock ≠ some g) W W' ∧ W'.ownsRow 0 68 3 (.slice LA0 R.length Lc0) R.length (rcells R) ∧ (v'.ownBlock = (Value.slice LA0 R.length Lc0).ownBlock ∨ ∀ g, v'.ownBlock = some g → w.heap.size ≤ g) := by
        rcases hway with ⟨g', cap, h3, h4, h5⟩ | ⟨h3, h4⟩
        · refine ⟨(Kept.refl _ W).grown h5 (fun b e _ hh => hh (by rw [h3]; exact e)), ?_, .inl (by rw [h4, h3]; rfl)⟩
          rw [h4] at hnew
          have h6 := owns_prefix (n := R.length) hnew (by omega)
          rw [List.take_append_of_le_length (by rw [hG.2.1]; exact Nat.le_refl _), ← hG.2.1, List.take_length] at h6
          rw [h3]
          exact h6
        · refine ⟨Kept.of_below h4, owns_kept_below hG.2 h4, .inr (fun b hb => ?_)⟩
          rw [h3] at hb
          injection hb with hb
          have := hG.1.size
          omega
      refine step_turned v' W' ?_ (by decide) ⟨keptTrans hG.1 hkt.1, hkt.2.1⟩ (fun j hj => (hT j hj).turn (fun e => by rw [e, hi] at hj; cases hj) hkt.1 HLOW.out) ⟨A2, c2, ⟨owns_kept hu.1 hkt.1 (fun b hb e => by have := hu.2 b hb; have := HLOW.out b e; omega), hu.2⟩, by rw [rcells_app]; exact hnew, hkt.2.2⟩
      generalize a.eval = ev at e1 e2 ⊢
      simp [execOp, resolve, invoke, builtin, e1, e2, hrun, Result.andThen]
  · intro a W hd hs hold hT hG
    have h11 := hT 11 (by decide)
    unfold TRMake at h11
    obtain ⟨A2, c2, hu, hnew, hway⟩ := h11
    change W.ownsRow 0 68 3 (a.tmps.getD 28 undef) _ _ at hnew
    change ((a.tmps.getD 28 undef).ownBlock = _ ∨ ∀ g, (a.tmps.getD 28 undef).ownBlock = some g → _) at hway
    obtain ⟨LA, Lc, e28, _⟩ := owns_slice hnew
    rw [e28] at hnew hway
    have e17 : a.tmps.getD 17 undef = .pointer (some ⟨x, 0, none⟩) := hT 0 (by decide)
    have e00 : a.tmps.getD 0 undef = .pointer (some ⟨x, 0, none⟩) := hold 0 (by kernel_rfl)
    obtain ⟨u1, hu1⟩ : ∃ u, a.tmps.getD 1 undef = u := ⟨_, rfl⟩
    obtain ⟨u2, hu2⟩ : ∃ u, a.tmps.getD 2 undef = u := ⟨_, rfl⟩
    obtain ⟨u3, hu3⟩ : ∃ u, a.tmps.getD 3 undef = u := ⟨_, rfl⟩
    obtain ⟨u4, hu4⟩ : ∃ u, a.tmps.getD 4 undef = u := ⟨_, rfl⟩
    obtain ⟨u5, hu5⟩ : ∃ u, a.tmps.getD 5 undef = u := ⟨_, rfl⟩
    obtain ⟨u6, hu6⟩ : ∃ u, a.tmps.getD 6 undef = u := ⟨_, rfl⟩
    obtain ⟨u7, hu7⟩ : ∃ u, a.tmps.getD 7 undef = u := ⟨_, rfl⟩
    obtain ⟨u8, hu8⟩ : ∃ u, a.tmps.getD 8 undef = u := ⟨_, rfl⟩
    obtain ⟨u9, hu9⟩ : ∃ u, a.tmps.getD 9 undef = u := ⟨_, rfl⟩
    obtain ⟨u10, hu10⟩ : ∃ u, a.tmps.getD 10 undef = u := ⟨_, rfl⟩
    obtain ⟨u11, hu11⟩ : ∃ u, a.tmps.getD 11 undef = u := ⟨_, rfl⟩
    obtain ⟨u12, hu12⟩ : ∃ u, a.tmps.getD 12 undef = u := ⟨_, rfl⟩
    obtain ⟨u13, hu13⟩ : ∃ u, a.tmps.getD 13 undef = u := ⟨_, rfl⟩
    obtain ⟨u14, hu14⟩ : ∃ u, a.tmps.getD 14 undef = u := ⟨_, rfl⟩
    obtain ⟨u15, hu15⟩ : ∃ u, a.tmps.getD 15 undef = u := ⟨_, rfl⟩
    obtain ⟨u16, hu16⟩ : ∃ u, a.tmps.getD 16 undef = u := ⟨_, rfl⟩
    obtain ⟨u18, hu18⟩ : ∃ u, a.tmps.getD 18 undef = u := ⟨_, rfl⟩
    obtain ⟨u19, hu19⟩ : ∃ u, a.tmps.getD 19 undef = u := ⟨_, rfl⟩
    obtain ⟨u20, hu20⟩ : ∃ u, a.tmps.getD 20 undef = u := ⟨_, rfl⟩
    obtain ⟨u21, hu21⟩ : ∃ u, a.tmps.getD 21 undef = u := ⟨_, rfl⟩
    obtain ⟨u22, hu22⟩ : ∃ u, a.tmps.getD 22 undef = u := ⟨_, rfl⟩
    obtain ⟨u23, hu23⟩ : ∃ u, a.tmps.getD 23 undef = u := ⟨_, rfl⟩
    obtain ⟨u24, hu24⟩ : ∃ u, a.tmps.getD 24 undef = u := ⟨_, rfl⟩
    obtain ⟨u25, hu25⟩ : ∃ u, a.tmps.getD 25 undef = u := ⟨_, rfl⟩
    obtain ⟨u26, hu26⟩ : ∃ u, a.tmps.getD 26 undef = u := ⟨_, rfl⟩
    obtain ⟨u27, hu27⟩ : ∃ u, a.tmps.getD 27 undef = u := ⟨_, rfl⟩
    obtain ⟨u29, hu29⟩ : ∃ u, a.tmps.getD 29 undef = u := ⟨_, rfl⟩
    obtain ⟨u30, hu30⟩ : ∃ u, a.tmps.getD 30 undef = u := ⟨_, rfl⟩
    obtain ⟨u31, hu31⟩ : ∃ u, a.tmps.getD 31 undef = u := ⟨_, rfl⟩
    obtain ⟨u32, hu32⟩ : ∃ u, a.tmps.getD 32 undef = u := ⟨_, rfl⟩
    obtain ⟨u33, hu33⟩ : ∃ u, a.tmps.getD 33 undef = u := ⟨_, rfl⟩
    obtain ⟨u34, hu34⟩ : ∃ u, a.tmps.getD 34 undef = u := ⟨_, rfl⟩
    obtain ⟨u35, hu35⟩ : ∃ u, a.tmps.getD 35 undef = u := ⟨_, rfl⟩
    have ha : a = ⟨#[.pointer (some ⟨x, 0, none⟩), u1, u2, u3, u4, u5, u6, u7, u8, u9, u10, u11, u12, u13, u14, u15, u16, .pointer (some ⟨x, 0, none⟩), u18, u19, u20, u21, u22, u23, u24, u25, u26, u27, .slice LA (R.length + 1) Lc, u29, u30, u31, u32, u33, u34, u35], []⟩ := by
      refine act_lit hd (by rw [hs]; rfl) (fun t ht => ?_)
      have ht' : t < 36 := ht
      have hi' : t = 0 ∨ t = 1 ∨ t = 2 ∨ t = 3 ∨ t = 4 ∨ t = 5 ∨ t = 6 ∨ t = 7 ∨ t = 8 ∨ t = 9 ∨ t = 10 ∨ t = 11 ∨ t = 12 ∨ t = 13 ∨ t = 14 ∨ t = 15 ∨ t = 16 ∨ t = 17 ∨ t = 18 ∨ t = 19 ∨ t = 20 ∨ t = 21 ∨ t = 22 ∨ t = 23 ∨ t = 24 ∨ t = 25 ∨ t = 26 ∨ t = 27 ∨ t = 28 ∨ t = 29 ∨ t = 30 ∨ t = 31 ∨ t = 32 ∨ t = 33 ∨ t = 34 ∨ t = 35 := by omega
      rcases hi' with rfl | rfl | rfl | rfl | rfl | rfl | rfl | rfl | rfl | rfl | rfl | rfl | rfl | rfl | rfl | rfl | rfl | rfl | rfl | rfl | rfl | rfl | rfl | rfl | rfl | rfl | rfl | rfl | rfl | rfl | rfl | rfl | rfl | rfl | rfl | rfl
      all_goals first | assumption
    subst ha
    have dx : W.cell? ⟨x, 0, none⟩ = some (.slice LA0 R.length Lc0) := (World.cell?_of_block (hG.1.block x hxl HXV.out)).trans cx
    have bx : W.heap[x]? = some (.cells #[.slice LA0 R.length Lc0] 65 (0, 0)) := (hG.1.block x hxl HXV.out).trans HX.out
    have fx := blk_free' bx
    have HU := hide hu
    have HN := hide hnew
    have HW := hide hway
    have HG := hide hG
    have HBX := hide bx
    clear hold hT hd hs hu hnew hway e28 e17 e00 hu1 hu2 hu3 hu4 hu5 hu6 hu7 hu8 hu9 hu10 hu11 hu12 hu13 hu14 hu15 hu16 hu18 hu19 hu20 hu21 hu22 hu23 hu24 hu25 hu26 hu27 hu29 hu30 hu31 hu32 hu33 hu34 hu35 hG bx cx
    simp only [List.drop_succ_cons, List.drop_zero]
    go_wp2
    go_ret2
    exact ⟨_, A2, c2, rfl, made_new HH.out HG.out.1 HU.out HN.out HW.out hn hB⟩
end Go.Proofs.YtbllnjkagleenaaGreat
