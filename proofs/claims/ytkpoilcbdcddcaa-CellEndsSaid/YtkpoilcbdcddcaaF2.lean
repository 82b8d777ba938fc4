/-
  What cells of each kind have; whether a cell is one.
-/
import Derived.Test.YtkpoilcbdcddcaaF1
import Derived.Test.YtkpoilcbdcddcaaMP
import Derived.Test.YtkpoilcbdcddcaaRT
import Derived.StillTailTactics
import Derived.Deep.Cut
namespace Go.Proofs.Ytkpoilcbdcddcaa
open Go.RowKit
set_option linter.unusedVariables false

def pv (a b c d : Bool) : Value := .agg #[.bool a, .bool b, .bool c, .bool d]
def kindsF : Int → Option Value := setAt (setAt (setAt (setAt (fun _ => none) 0 (some (pv false false false false))) 1 (some (pv true false false false))) 2 (some (pv false true true true))) 3 (some (pv false true false true))
theorem wf_u8 {n : Int} (h : 0 ≤ n ∧ n < 256) : (Lit.int .u8 n).wf = true := by
  exact WalkArith.wf_u8 (by omega)
set_option maxRecDepth 100000 in
theorem kinds_any (w : World) : Calls Try.prog 47 #[] w fun e w' => e = .returned (.map (some w.heap.size)) ∧ Below w.heap.size w w' ∧ HasMap w' w.heap.size kindsF := by
  have hmm := @run_makeMap Try.prog
  have h0 : HasMap (w.alloc (.map #[] 0)) w.heap.size (fun _ => none) := HasMap.made (World.alloc_heap_new w _)
  obtain ⟨o0, p0, m0⟩ := h0.put (P := Try.prog) (t := 90) (k := 30) (e := 76) (n := 0) (val := pv false false false false) Try.underlying90 Try.underlying30 (by decide) rfl
  obtain ⟨o1, p1, m1⟩ := m0.put (P := Try.prog) (t := 90) (k := 30) (e := 76) (n := 1) (val := pv true false false false) Try.underlying90 Try.underlying30 (by decide) (by simp [setAt])
  obtain ⟨o2, p2, m2⟩ := m1.put (P := Try.prog) (t := 90) (k := 30) (e := 76) (n := 2) (val := pv false true true true) Try.underlying90 Try.underlying30 (by decide) (by simp [setAt])
  obtain ⟨o3, p3, m3⟩ := m2.put (P := Try.prog) (t := 90) (k := 30) (e := 76) (n := 3) (val := pv false true false true) Try.underlying90 Try.underlying30 (by decide) (by simp [setAt])
  have HB : Hid (Below w.heap.size w (ChangeMaps.setBlock (ChangeMaps.setBlock (ChangeMaps.setBlock (ChangeMaps.setBlock (w.alloc (.map #[] 0)) w.heap.size o0) w.heap.size o1) w.heap.size o2) w.heap.size o3)) := by
    have k := fun (W : World) (o : Obj) (h : Below w.heap.size w W) => h.grown (grown_setBlock W w.heap.size o) h.size (fun k e => by cases e; exact Nat.le_refl _)
    exact k _ _ (k _ _ (k _ _ (k _ _ (below1 w _))))
  have HM := hide m3
  clear h0 m0 m1 m2 m3
  simp only [pv] at p0 p1 p2 p3
  go_enter Try.func47, Try.ntmps47
  go_wp2
  go_ret
  exact ⟨rfl, HB.out, HM.out⟩

theorem zeroParts (w : World) : (zeroValue 76).run Try.prog w = .ok (pv false false false false) w := by kernel_rfl
def partsV (k : Int) : Value := pv (k == 1) (k == 2 || k == 3) (k == 2) (k == 2 || k == 3)
theorem kindsF_at {k : Int} (h : k = 0 ∨ k = 1 ∨ k = 2 ∨ k = 3) : kindsF k = some (partsV k) := by
  rcases h with rfl | rfl | rfl | rfl <;> rfl
theorem kindsF_none {k : Int} (h0 : k ≠ 0) (h1 : k ≠ 1) (h2 : k ≠ 2) (h3 : k ≠ 3) : kindsF k = none := by simp [kindsF, setAt, h0, h1, h2, h3]
theorem act_lit {a : Act} {l : Array Value} (hd : a.defers = []) (hs : a.tmps.size = l.size) (h : ∀ t, t < l.size → a.tmps.getD t undef = l.getD t undef) : a = ⟨l, []⟩ := by
  obtain ⟨tmps, defers⟩ := a
  simp only at hd hs h
  subst hd
  congr 1
  apply Array.ext hs
  intro i h1 h2
  have := h i h2
  simpa [Array.getD_eq_getD_getElem?, Array.getElem?_eq_getElem h1, Array.getElem?_eq_getElem h2] using this
def thereB (k : Int) : Bool := k == 0 || k == 1 || k == 2 || k == 3
theorem look_kinds {w : World} {m : Nat} (h : HasMap w m kindsF) (k : Int) (hk : 0 ≤ k ∧ k < 256) : (Instr.lookup 90 (.map (some m)) (.int .u8 k) true).run Try.prog w = .ok (.tuple #[partsV k, .bool (thereB k)]) w := by
  by_cases h4 : k = 0 ∨ k = 1 ∨ k = 2 ∨ k = 3
  · rw [show thereB k = true by unfold thereB; rcases h4 with rfl | rfl | rfl | rfl <;> rfl]
    exact h.look Try.underlying90 Try.underlying30 (wf_u8 hk) (kindsF_at h4)
  · have e0 : k ≠ 0 := fun e => h4 (.inl e)
    have e1 : k ≠ 1 := fun e => h4 (.inr (.inl e))
    have e2 : k ≠ 2 := fun e => h4 (.inr (.inr (.inl e)))
    have e3 : k ≠ 3 := fun e => h4 (.inr (.inr (.inr e)))
    rw [show thereB k = false by simp [thereB, e0, e1, e2, e3], show partsV k = pv false false false false by simp only [partsV, show (k == 1) = false by simpa using e1, show (k == 2) = false by simpa using e2, show (k == 3) = false by simpa using e3, Bool.or_false]]
    exact h.look_none Try.underlying90 Try.underlying30 (wf_u8 hk) (kindsF_none e0 e1 e2 e3) (zeroParts w)
/-- What lasts of the statement that asks what a kind has. -/
def TPt (B : Nat) (k : Int) (j : Nat) (σ : Nat → Value) (W : World) : Prop :=
  match j with
  | 0 => ∃ m, σ 0 = .map (some m) ∧ HasMap W m kindsF
  | 1 => σ 1 = .pointer (some ⟨B, 0, none⟩)
  | 2 => σ 2 = .int .u8 k
  | 3 => σ 3 = .tuple #[partsV k, .bool (thereB k)]
  | 4 => σ 4 = .tuple #[partsV k, .bool (thereB k)]
  | 5 => σ 5 = partsV k
  | 6 => σ 6 = .bool (thereB k)
  | 7 => ∃ q x0 x1 x2 x3, σ 7 = .pointer (some ⟨q, 0, none⟩) ∧ W.heap[q]? = some (.cells #[x0, x1, x2, x3] 76 (0, 0)) ∧ B + 2 ≤ q
  | 8 => ∃ q, σ 7 = .pointer (some ⟨q, 0, none⟩) ∧ W.heap[q]? = some (.cells #[.bool (k == 1), .bool (k == 2 || k == 3), .bool (k == 2), .bool (k == 2 || k == 3)] 76 (0, 0)) ∧ B + 2 ≤ q
  | 9 => σ 9 = .bool (thereB k)
  | _ => True
theorem HasMap.below {w w' : World} {m : Nat} {f : Int → Option Value} (h : HasMap w m f) (hb : Below w.heap.size w w') : HasMap w' m f := h.same (hb.block _ h.lt)
theorem TPt.below {B : Nat} {k : Int} {j : Nat} {σ : Nat → Value} {W W' : World} (h : TPt B k j σ W) (hb : Below W.heap.size W W') : TPt B k j σ W' := by
  unfold TPt at h ⊢
  split at h
  all_goals try exact h
  · obtain ⟨m, h1, h2⟩ := h
    exact ⟨m, h1, h2.below hb⟩
  · obtain ⟨q, x0, x1, x2, x3, h1, h2, h3⟩ := h
    exact ⟨q, x0, x1, x2, x3, h1, (hb.block _ (at_lt h2)).trans h2, h3⟩
  · obtain ⟨q, h1, h2, h3⟩ := h
    exact ⟨q, h1, (hb.block _ (at_lt h2)).trans h2, h3⟩
theorem TPt.stored {B : Nat} {k : Int} {j q : Nat} {σ : Nat → Value} {W W' : World} {cs : Array Value} {x0 x1 x2 x3 : Value} (hj : j ≠ 8) (h : TPt B k j σ W) (hσ : σ 7 = .pointer (some ⟨q, 0, none⟩)) (hq : W.heap[q]? = some (.cells cs 76 (0, 0))) (hg : W.grownBy W' (some q))
    (hq' : W'.heap[q]? = some (.cells #[x0, x1, x2, x3] 76 (0, 0))) : TPt B k j σ W' := by
  unfold TPt at h ⊢
  split at h
  all_goals try exact h
  · obtain ⟨m, h1, h2⟩ := h
    refine ⟨m, h1, h2.same (hg.block m h2.lt (fun e => ?_))⟩
    cases e
    obtain ⟨es, c, hm⟩ := h2
    have := hm.at_
    rw [hq] at this
    cases this
  · obtain ⟨q', y0, y1, y2, y3, h1, h2, h3⟩ := h
    rw [h1] at hσ
    cases hσ
    exact ⟨q, _, _, _, _, h1, hq', h3⟩
  · exact absurd rfl hj
set_option maxRecDepth 100000 in
set_option maxHeartbeats 4000000 in
theorem partsOf_any (c : C4) (w : World) (hk : 0 ≤ c.k ∧ c.k < 256) :
    Calls Try.prog 39 #[c.val] w fun e w' => e = .returned (.tuple #[partsV c.k, .bool (rightB c)]) ∧ Below w.heap.size w w' := by
  obtain ⟨k, wd, rg, of⟩ := c
  have hE : ∀ args (W : World), (callFunc 47 args).run Try.prog W = .ok (.enter 47 args) W := by intro args W; kernel_rfl
  obtain ⟨h0, h1⟩ := two_boxes w (.cells #[.int .u8 k, .int .u64 wd, .int .i64 rg, .int .i64 of] 33) (.cells #[.bool false, .bool false, .bool false, .bool false] 76)
  have hbw := below2 w (.cells #[.int .u8 k, .int .u64 wd, .int .i64 rg, .int .i64 of] 33) (.cells #[.bool false, .bool false, .bool false, .bool false] 76)
  simp only [C4.val]
  go_enter Try.func39, Try.ntmps39
  go_upto_region 1 with fail
  have hsz : ((w.alloc (.cells #[.int .u8 k, .int .u64 wd, .int .i64 rg, .int .i64 of] 33)).alloc (.cells #[.bool false, .bool false, .bool false, .bool false] 76)).heap.size = w.heap.size + 2 := by simp
  generalize (w.alloc (.cells _ 33)).alloc (.cells #[.bool false, .bool false, .bool false, .bool false] 76) = W0 at h0 h1 hbw hsz ⊢
  have H0 := hide h0
  have H1 := hide h1
  have HB := hide hbw
  have HZ := hide hsz
  clear h0 h1 hbw hsz
  refine wp_tells (by kernel_rfl) (TPt w.heap.size k) (fun W => Below W0.heap.size W0 W) (by kernel_rfl) (by kernel_rfl) (by kernel_rfl) (by kernel_rfl) ?_ (Below.refl _ _).drew ?_ ?_
  · intro j oj σ σ' W hj h hs
    have h0 := hs j (.inl rfl)
    have hi : j < 10 := (Array.getElem?_eq_some_iff.1 hj).1
    have hi' : j = 0 ∨ j = 1 ∨ j = 2 ∨ j = 3 ∨ j = 4 ∨ j = 5 ∨ j = 6 ∨ j = 7 ∨ j = 8 ∨ j = 9 := by omega
    rcases hi' with rfl | rfl | rfl | rfl | rfl | rfl | rfl | rfl | rfl | rfl
    all_goals first
      | (simp only [TPt] at h ⊢; rw [h0]; exact h)
      | (cases hj; have h7 := hs 7 (.inr rfl); simp only [TPt] at h ⊢; rw [h7]; exact h)
  · intro i o ho L a W hi hG hold hT hh
    have hi2 : i < 10 := (Array.getElem?_eq_some_iff.1 ho).1
    have hi' : i = 0 ∨ i = 1 ∨ i = 2 ∨ i = 3 ∨ i = 4 ∨ i = 5 ∨ i = 6 ∨ i = 7 ∨ i = 8 ∨ i = 9 := by omega
    have hkb : ∀ {W'}, Below W.heap.size W W' → ∀ j, L j = true → TPt w.heap.size k j (sl _ a) W' := fun hb j hj => (hT j hj).below hb
    rcases hi' with rfl | rfl | rfl | rfl | rfl | rfl | rfl | rfl | rfl | rfl
    · cases ho
      refine step_called (f := 47) (args := #[]) (R := fun v W' => (∃ m, v = .map (some m) ∧ HasMap W' m kindsF) ∧ Below W.heap.size W W') ?_ (by decide) ((kinds_any W).mono (fun e w' ⟨h1, h2, h3⟩ => ⟨_, h1, ⟨_, rfl, h3⟩, h2⟩)) ?_
      · have e0 : a.eval (.func 47) = .func (.func 47) #[] #[] := rfl
        generalize a.eval = ev at e0 ⊢
        simp [execOp, go_sem, e0, hE]
      · rintro v W' ⟨⟨m, rfl, hm⟩, hb⟩
        exact ⟨hG.trans (hb.mono hG.size), hkb hb, m, rfl, hm⟩
    · cases ho
      refine step_told (.pointer (some ⟨w.heap.size, 0, none⟩)) ?_ (by decide) hG hT rfl
      have e1 : a.eval (.tmp 1) = .pointer (some ⟨w.heap.size, 0, none⟩) := hold 1 (by kernel_rfl)
      generalize a.eval = ev at e1 ⊢
      simp [execOp, go_sem, e1]
    · cases ho
      refine step_told (.int .u8 k) ?_ (by decide) hG hT rfl
      have e1 : a.eval (.tmp 9) = .pointer (some ⟨w.heap.size, 0, none⟩) := hT 1 (hh 1 rfl)
      have c0 := blk_cell ((hG.block _ (at_lt H0.out)).trans H0.out) 0
      simp at c0
      generalize a.eval = ev at e1 ⊢
      simp [execOp, go_sem, e1, c0]
    · cases ho
      obtain ⟨m, e1, hm⟩ : ∃ m, a.eval (.tmp 8) = .map (some m) ∧ HasMap W m kindsF := hT 0 (hh 0 rfl)
      have e2 : a.eval (.tmp 10) = .int .u8 k := hT 2 (hh 2 rfl)
      have hl := look_kinds hm k hk
      refine step_told (.tuple #[partsV k, .bool (thereB k)]) ?_ (by decide) hG hT rfl
      generalize a.eval = ev at e1 e2 ⊢
      simp [execOp, go_sem, e1, e2, hl]
    · cases ho
      refine step_told (.tuple #[partsV k, .bool (thereB k)]) ?_ (by decide) hG hT rfl
      have e1 : a.eval (.tmp 11) = .tuple #[partsV k, .bool (thereB k)] := hT 3 (hh 3 rfl)
      generalize a.eval = ev at e1 ⊢
      simp [execOp, go_sem, e1]
    · cases ho
      refine step_told (partsV k) ?_ (by decide) hG hT rfl
      have e1 : a.eval (.tmp 7) = .tuple #[partsV k, .bool (thereB k)] := hT 4 (hh 4 rfl)
      generalize a.eval = ev at e1 ⊢
      simp [execOp, go_sem, e1]
    · cases ho
      refine step_told (.bool (thereB k)) ?_ (by decide) hG hT rfl
      have e1 : a.eval (.tmp 7) = .tuple #[partsV k, .bool (thereB k)] := hT 4 (hh 4 rfl)
      generalize a.eval = ev at e1 ⊢
      simp [execOp, go_sem, e1]
    · cases ho
      have hz := zeroParts W
      refine step_turned (.pointer (some ⟨W.heap.size, 0, none⟩)) (W.alloc (.cells #[.bool false, .bool false, .bool false, .bool false] 76)) ?_ (by decide) (hG.alloc hG.size _) (hkb (below1 W _)) ⟨W.heap.size, _, _, _, _, rfl, World.alloc_heap_new W _, ?_⟩
      · unfold pv at hz
        simp [execOp, go_sem, hz]
      · have := hG.size
        have := HZ.out
        omega
    · cases ho
      obtain ⟨q, x0, x1, x2, x3, e1, hq, hqB⟩ : ∃ q x0 x1 x2 x3, a.eval (.tmp 4) = .pointer (some ⟨q, 0, none⟩) ∧ W.heap[q]? = some (.cells #[x0, x1, x2, x3] 76 (0, 0)) ∧ w.heap.size + 2 ≤ q := hT 7 (hh 7 rfl)
      have e2 : a.eval (.tmp 12) = partsV k := hT 5 (hh 5 rfl)
      obtain ⟨s1, s2⟩ := store_4 hq (.bool (k == 1)) (.bool (k == 2 || k == 3)) (.bool (k == 2)) (.bool (k == 2 || k == 3))
      refine step_skip _ ?_ (hG.grown s2 hG.size (fun g e => ?_)) (fun j hj => (hT j hj).stored (fun e => by subst e; rw [hi] at hj; cases hj) e1 hq s2 s1) ⟨q, e1, s1, hqB⟩
      · have f0 := blk_free hq 0
        have f1 := blk_free hq 1
        have f2 := blk_free hq 2
        have f3 := blk_free hq 3
        have g0 := blk_cell hq 0
        have g1 := blk_cell hq 1
        have g2 := blk_cell hq 2
        have g3 := blk_cell hq 3
        simp at g0 g1 g2 g3
        unfold partsV pv at e2
        generalize a.eval = ev at e1 e2 ⊢
        simp [execOp, go_sem, e1, e2, f0, f1, f2, f3, g0, g1, g2, g3]
      · cases e
        have := HZ.out
        omega
    · cases ho
      refine step_told (.bool (thereB k)) ?_ (by decide) hG hT rfl
      have e1 : a.eval (.tmp 13) = .bool (thereB k) := hT 6 (hh 6 rfl)
      generalize a.eval = ev at e1 ⊢
      simp [execOp, go_sem, e1]
  · intro a W hd hs hold hT hG
    obtain ⟨q, e4, hq, hqB⟩ : ∃ q, a.tmps.getD 4 undef = .pointer (some ⟨q, 0, none⟩) ∧ W.heap[q]? = some (.cells #[.bool (k == 1), .bool (k == 2 || k == 3), .bool (k == 2), .bool (k == 2 || k == 3)] 76 (0, 0)) ∧ w.heap.size + 2 ≤ q := hT 8 (by decide)
    have e5 : a.tmps.getD 5 undef = .bool (thereB k) := hT 9 (by decide)
    have e0 : a.tmps.getD 0 undef = .agg #[.int .u8 k, .int .u64 wd, .int .i64 rg, .int .i64 of] := hold 0 (by kernel_rfl)
    have e1 : a.tmps.getD 1 undef = .pointer (some ⟨w.heap.size, 0, none⟩) := hold 1 (by kernel_rfl)
    have e2 : a.tmps.getD 2 undef = .pointer (some ⟨w.heap.size + 1, 0, none⟩) := hold 2 (by kernel_rfl)
    have e3 : a.tmps.getD 3 undef = .bool false := hold 3 (by kernel_rfl)
    obtain ⟨u6, hu6⟩ : ∃ u, a.tmps.getD 6 undef = u := ⟨_, rfl⟩
    obtain ⟨u7, hu7⟩ : ∃ u, a.tmps.getD 7 undef = u := ⟨_, rfl⟩
    obtain ⟨u8, hu8⟩ : ∃ u, a.tmps.getD 8 undef = u := ⟨_, rfl⟩
    obtain ⟨u9, hu9⟩ : ∃ u, a.tmps.getD 9 undef = u := ⟨_, rfl⟩
    obtain ⟨u10, hu10⟩ : ∃ u, a.tmps.getD 10 undef = u := ⟨_, rfl⟩
    obtain ⟨u11, hu11⟩ : ∃ u, a.tmps.getD 11 undef = u := ⟨_, rfl⟩
    obtain ⟨u12, hu12⟩ : ∃ u, a.tmps.getD 12 undef = u := ⟨_, rfl⟩
    obtain ⟨u13, hu13⟩ : ∃ u, a.tmps.getD 13 undef = u := ⟨_, rfl⟩
    obtain ⟨u14, hu14⟩ : ∃ u, a.tmps.getD 14 undef = u := ⟨_, rfl⟩
    obtain ⟨u15, hu15⟩ : ∃ u, a.tmps.getD 15 undef = u := ⟨_, rfl⟩
    obtain ⟨u16, hu16⟩ : ∃ u, a.tmps.getD 16 undef = u := ⟨_, rfl⟩
    obtain ⟨u17, hu17⟩ : ∃ u, a.tmps.getD 17 undef = u := ⟨_, rfl⟩
    obtain ⟨u18, hu18⟩ : ∃ u, a.tmps.getD 18 undef = u := ⟨_, rfl⟩
    obtain ⟨u19, hu19⟩ : ∃ u, a.tmps.getD 19 undef = u := ⟨_, rfl⟩
    obtain ⟨u20, hu20⟩ : ∃ u, a.tmps.getD 20 undef = u := ⟨_, rfl⟩
    obtain ⟨u21, hu21⟩ : ∃ u, a.tmps.getD 21 undef = u := ⟨_, rfl⟩
    obtain ⟨u22, hu22⟩ : ∃ u, a.tmps.getD 22 undef = u := ⟨_, rfl⟩
    obtain ⟨u23, hu23⟩ : ∃ u, a.tmps.getD 23 undef = u := ⟨_, rfl⟩
    obtain ⟨u24, hu24⟩ : ∃ u, a.tmps.getD 24 undef = u := ⟨_, rfl⟩
    obtain ⟨u25, hu25⟩ : ∃ u, a.tmps.getD 25 undef = u := ⟨_, rfl⟩
    obtain ⟨u26, hu26⟩ : ∃ u, a.tmps.getD 26 undef = u := ⟨_, rfl⟩
    obtain ⟨u27, hu27⟩ : ∃ u, a.tmps.getD 27 undef = u := ⟨_, rfl⟩
    obtain ⟨u28, hu28⟩ : ∃ u, a.tmps.getD 28 undef = u := ⟨_, rfl⟩
    obtain ⟨u29, hu29⟩ : ∃ u, a.tmps.getD 29 undef = u := ⟨_, rfl⟩
    obtain ⟨u30, hu30⟩ : ∃ u, a.tmps.getD 30 undef = u := ⟨_, rfl⟩
    obtain ⟨u31, hu31⟩ : ∃ u, a.tmps.getD 31 undef = u := ⟨_, rfl⟩
    obtain ⟨u32, hu32⟩ : ∃ u, a.tmps.getD 32 undef = u := ⟨_, rfl⟩
    obtain ⟨u33, hu33⟩ : ∃ u, a.tmps.getD 33 undef = u := ⟨_, rfl⟩
    obtain ⟨u34, hu34⟩ : ∃ u, a.tmps.getD 34 undef = u := ⟨_, rfl⟩
    obtain ⟨u35, hu35⟩ : ∃ u, a.tmps.getD 35 undef = u := ⟨_, rfl⟩
    obtain ⟨u36, hu36⟩ : ∃ u, a.tmps.getD 36 undef = u := ⟨_, rfl⟩
    obtain ⟨u37, hu37⟩ : ∃ u, a.tmps.getD 37 undef = u := ⟨_, rfl⟩
    obtain ⟨u38, hu38⟩ : ∃ u, a.tmps.getD 38 undef = u := ⟨_, rfl⟩
    obtain ⟨u39, hu39⟩ : ∃ u, a.tmps.getD 39 undef = u := ⟨_, rfl⟩
    obtain ⟨u40, hu40⟩ : ∃ u, a.tmps.getD 40 undef = u := ⟨_, rfl⟩
    obtain ⟨u41, hu41⟩ : ∃ u, a.tmps.getD 41 undef = u := ⟨_, rfl⟩
    obtain ⟨u42, hu42⟩ : ∃ u, a.tmps.getD 42 undef = u := ⟨_, rfl⟩
    obtain ⟨u43, hu43⟩ : ∃ u, a.tmps.getD 43 undef = u := ⟨_, rfl⟩
    have ha : a = ⟨#[.agg #[.int .u8 k, .int .u64 wd, .int .i64 rg, .int .i64 of], .pointer (some ⟨w.heap.size, 0, none⟩), .pointer (some ⟨w.heap.size + 1, 0, none⟩), .bool false, .pointer (some ⟨q, 0, none⟩), .bool (thereB k), u6, u7, u8, u9, u10, u11, u12, u13, u14, u15, u16, u17, u18, u19, u20, u21, u22, u23, u24, u25, u26, u27, u28, u29, u30, u31, u32, u33, u34, u35, u36, u37, u38, u39, u40, u41, u42, u43], []⟩ := by
      refine act_lit hd (by rw [hs]; rfl) (fun t ht => ?_)
      have ht' : t < 44 := ht
      have hi' : t = 0 ∨ t = 1 ∨ t = 2 ∨ t = 3 ∨ t = 4 ∨ t = 5 ∨ t = 6 ∨ t = 7 ∨ t = 8 ∨ t = 9 ∨ t = 10 ∨ t = 11 ∨ t = 12 ∨ t = 13 ∨ t = 14 ∨ t = 15 ∨ t = 16 ∨ t = 17 ∨ t = 18 ∨ t = 19 ∨ t = 20 ∨ t = 21 ∨ t = 22 ∨ t = 23 ∨ t = 24 ∨ t = 25 ∨ t = 26 ∨ t = 27 ∨ t = 28 ∨ t = 29 ∨ t = 30 ∨ t = 31 ∨ t = 32 ∨ t = 33 ∨ t = 34 ∨ t = 35 ∨ t = 36 ∨ t = 37 ∨ t = 38 ∨ t = 39 ∨ t = 40 ∨ t = 41 ∨ t = 42 ∨ t = 43 := by omega
      rcases hi' with rfl | rfl | rfl | rfl | rfl | rfl | rfl | rfl | rfl | rfl | rfl | rfl | rfl | rfl | rfl | rfl | rfl | rfl | rfl | rfl | rfl | rfl | rfl | rfl | rfl | rfl | rfl | rfl | rfl | rfl | rfl | rfl | rfl | rfl | rfl | rfl | rfl | rfl | rfl | rfl | rfl | rfl | rfl | rfl
      all_goals first | assumption
    subst ha
    have h0 := (hG.block _ (at_lt H0.out)).trans H0.out
    have h1 := (hG.block _ (at_lt H1.out)).trans H1.out
    have HG := hide (HB.out.trans (hG.mono HB.out.size))
    have c0 := blk_cell h0 0
    have c1 := blk_cell h0 1
    have c2 := blk_cell h0 2
    have c3 := blk_cell h0 3
    have d0 := blk_cell h1 0
    have d1 := blk_cell h1 1
    have d2 := blk_cell h1 2
    have d3 := blk_cell h1 3
    have q0 := blk_cell hq 0
    have q1 := blk_cell hq 1
    have q2 := blk_cell hq 2
    have q3 := blk_cell hq 3
    simp at c0 c1 c2 c3 d0 d1 d2 d3 q0 q1 q2 q3
    have H1' := hide h1
    have f0 := blk_free h1 0
    have f1 := blk_free h1 1
    have f2 := blk_free h1 2
    have f3 := blk_free h1 3
    clear hold hT hd hs e0 e1 e2 e3 e4 e5 hG H0 H1 h0 h1 hq hu6 hu7 hu8 hu9 hu10 hu11 hu12 hu13 hu14 hu15 hu16 hu17 hu18 hu19 hu20 hu21 hu22 hu23 hu24 hu25 hu26 hu27 hu28 hu29 hu30 hu31 hu32 hu33 hu34 hu35 hu36 hu37 hu38 hu39 hu40 hu41 hu42 hu43
    by_cases k0 : k = 0
    · subst k0
      have ht : thereB 0 = true := rfl
      simp at q0 q1 q2 q3
      rw [ht]
      by_cases ewd : wd = 0
      · have hwd : (wd == 0) = true := by simpa using ewd
        by_cases erg : rg = 0
        · have hrg : (rg == 0) = true := by simpa using erg
          go_wp2
          obtain ⟨s1, s2⟩ := store_4 H1'.out (.bool false) (.bool false) (.bool false) (.bool false)
          have r0 := blk_cell s1 0
          have r1 := blk_cell s1 1
          have r2 := blk_cell s1 2
          have r3 := blk_cell s1 3
          simp at r0 r1 r2 r3
          refine bodyPost_ret (v := .tuple #[.agg #[.bool false, .bool false, .bool false, .bool false], .bool (of == 0)]) (by simp [results, Try.results39, go_sem, r0, r1, r2, r3]) rfl ⟨?_, ?_⟩
          · simp [rightB, partsV, pv, ewd, erg]
          · exact HG.out.grown s2 (Nat.le_of_lt (Nat.lt_of_lt_of_le (Nat.lt_succ_self _) (Nat.le_of_lt (at_lt H1'.out)))) (fun g e => by cases e; omega)
        · have hrg : (rg == 0) = false := by simpa using erg
          go_wp2
          obtain ⟨s1, s2⟩ := store_4 H1'.out (.bool false) (.bool false) (.bool false) (.bool false)
          have r0 := blk_cell s1 0
          have r1 := blk_cell s1 1
          have r2 := blk_cell s1 2
          have r3 := blk_cell s1 3
          simp at r0 r1 r2 r3
          refine bodyPost_ret (v := .tuple #[.agg #[.bool false, .bool false, .bool false, .bool false], .bool false]) (by simp [results, Try.results39, go_sem, r0, r1, r2, r3]) rfl ⟨?_, ?_⟩
          · simp [rightB, partsV, pv, erg]
          · exact HG.out.grown s2 (Nat.le_of_lt (Nat.lt_of_lt_of_le (Nat.lt_succ_self _) (Nat.le_of_lt (at_lt H1'.out)))) (fun g e => by cases e; omega)
      · have hwd : (wd == 0) = false := by simpa using ewd
        go_wp2
        obtain ⟨s1, s2⟩ := store_4 H1'.out (.bool false) (.bool false) (.bool false) (.bool false)
        have r0 := blk_cell s1 0
        have r1 := blk_cell s1 1
        have r2 := blk_cell s1 2
        have r3 := blk_cell s1 3
        simp at r0 r1 r2 r3
        refine bodyPost_ret (v := .tuple #[.agg #[.bool false, .bool false, .bool false, .bool false], .bool false]) (by simp [results, Try.results39, go_sem, r0, r1, r2, r3]) rfl ⟨?_, ?_⟩
        · simp [rightB, partsV, pv, ewd]
        · exact HG.out.grown s2 (Nat.le_of_lt (Nat.lt_of_lt_of_le (Nat.lt_succ_self _) (Nat.le_of_lt (at_lt H1'.out)))) (fun g e => by cases e; omega)
    by_cases k1 : k = 1
    · subst k1
      have ht : thereB 1 = true := rfl
      simp at q0 q1 q2 q3
      rw [ht]
      by_cases erg : rg = 0
      · have hrg : (rg == 0) = true := by simpa using erg
        go_wp2
        obtain ⟨s1, s2⟩ := store_4 H1'.out (.bool true) (.bool false) (.bool false) (.bool false)
        have r0 := blk_cell s1 0
        have r1 := blk_cell s1 1
        have r2 := blk_cell s1 2
        have r3 := blk_cell s1 3
        simp at r0 r1 r2 r3
        refine bodyPost_ret (v := .tuple #[.agg #[.bool true, .bool false, .bool false, .bool false], .bool (of == 0)]) (by simp [results, Try.results39, go_sem, r0, r1, r2, r3]) rfl ⟨?_, ?_⟩
        · simp [rightB, partsV, pv, erg]
        · exact HG.out.grown s2 (Nat.le_of_lt (Nat.lt_of_lt_of_le (Nat.lt_succ_self _) (Nat.le_of_lt (at_lt H1'.out)))) (fun g e => by cases e; omega)
      · have hrg : (rg == 0) = false := by simpa using erg
        go_wp2
        obtain ⟨s1, s2⟩ := store_4 H1'.out (.bool true) (.bool false) (.bool false) (.bool false)
        have r0 := blk_cell s1 0
        have r1 := blk_cell s1 1
        have r2 := blk_cell s1 2
        have r3 := blk_cell s1 3
        simp at r0 r1 r2 r3
        refine bodyPost_ret (v := .tuple #[.agg #[.bool true, .bool false, .bool false, .bool false], .bool false]) (by simp [results, Try.results39, go_sem, r0, r1, r2, r3]) rfl ⟨?_, ?_⟩
        · simp [rightB, partsV, pv, erg]
        · exact HG.out.grown s2 (Nat.le_of_lt (Nat.lt_of_lt_of_le (Nat.lt_succ_self _) (Nat.le_of_lt (at_lt H1'.out)))) (fun g e => by cases e; omega)
    by_cases k2 : k = 2
    · subst k2
      have ht : thereB 2 = true := rfl
      simp at q0 q1 q2 q3
      rw [ht]
      by_cases ewd : wd = 0
      · have hwd : (wd == 0) = true := by simpa using ewd
        go_wp2
        obtain ⟨s1, s2⟩ := store_4 H1'.out (.bool false) (.bool true) (.bool true) (.bool true)
        have r0 := blk_cell s1 0
        have r1 := blk_cell s1 1
        have r2 := blk_cell s1 2
        have r3 := blk_cell s1 3
        simp at r0 r1 r2 r3
        refine bodyPost_ret (v := .tuple #[.agg #[.bool false, .bool true, .bool true, .bool true], .bool true]) (by simp [results, Try.results39, go_sem, r0, r1, r2, r3]) rfl ⟨?_, ?_⟩
        · simp [rightB, partsV, pv, ewd]
        · exact HG.out.grown s2 (Nat.le_of_lt (Nat.lt_of_lt_of_le (Nat.lt_succ_self _) (Nat.le_of_lt (at_lt H1'.out)))) (fun g e => by cases e; omega)
      · have hwd : (wd == 0) = false := by simpa using ewd
        go_wp2
        obtain ⟨s1, s2⟩ := store_4 H1'.out (.bool false) (.bool true) (.bool true) (.bool true)
        have r0 := blk_cell s1 0
        have r1 := blk_cell s1 1
        have r2 := blk_cell s1 2
        have r3 := blk_cell s1 3
        simp at r0 r1 r2 r3
        refine bodyPost_ret (v := .tuple #[.agg #[.bool false, .bool true, .bool true, .bool true], .bool false]) (by simp [results, Try.results39, go_sem, r0, r1, r2, r3]) rfl ⟨?_, ?_⟩
        · simp [rightB, partsV, pv, ewd]
        · exact HG.out.grown s2 (Nat.le_of_lt (Nat.lt_of_lt_of_le (Nat.lt_succ_self _) (Nat.le_of_lt (at_lt H1'.out)))) (fun g e => by cases e; omega)
    by_cases k3 : k = 3
    · subst k3
      have ht : thereB 3 = true := rfl
      simp at q0 q1 q2 q3
      rw [ht]
      by_cases ewd : wd = 0
      · have hwd : (wd == 0) = true := by simpa using ewd
        go_wp2
        obtain ⟨s1, s2⟩ := store_4 H1'.out (.bool false) (.bool true) (.bool false) (.bool true)
        have r0 := blk_cell s1 0
        have r1 := blk_cell s1 1
        have r2 := blk_cell s1 2
        have r3 := blk_cell s1 3
        simp at r0 r1 r2 r3
        refine bodyPost_ret (v := .tuple #[.agg #[.bool false, .bool true, .bool false, .bool true], .bool (of == 0)]) (by simp [results, Try.results39, go_sem, r0, r1, r2, r3]) rfl ⟨?_, ?_⟩
        · simp [rightB, partsV, pv, ewd]
        · exact HG.out.grown s2 (Nat.le_of_lt (Nat.lt_of_lt_of_le (Nat.lt_succ_self _) (Nat.le_of_lt (at_lt H1'.out)))) (fun g e => by cases e; omega)
      · have hwd : (wd == 0) = false := by simpa using ewd
        go_wp2
        obtain ⟨s1, s2⟩ := store_4 H1'.out (.bool false) (.bool true) (.bool false) (.bool true)
        have r0 := blk_cell s1 0
        have r1 := blk_cell s1 1
        have r2 := blk_cell s1 2
        have r3 := blk_cell s1 3
        simp at r0 r1 r2 r3
        refine bodyPost_ret (v := .tuple #[.agg #[.bool false, .bool true, .bool false, .bool true], .bool false]) (by simp [results, Try.results39, go_sem, r0, r1, r2, r3]) rfl ⟨?_, ?_⟩
        · simp [rightB, partsV, pv, ewd]
        · exact HG.out.grown s2 (Nat.le_of_lt (Nat.lt_of_lt_of_le (Nat.lt_succ_self _) (Nat.le_of_lt (at_lt H1'.out)))) (fun g e => by cases e; omega)
    · have e1 : (k == 1) = false := by simpa using k1
      have e2 : (k == 2) = false := by simpa using k2
      have e3 : (k == 3) = false := by simpa using k3
      have ht : thereB k = false := by simp [thereB, k0, k1, k2, k3]
      rw [ht]
      simp only [e1, e2, e3, Bool.or_false] at q0 q1 q2 q3
      go_wp2
      obtain ⟨s1, s2⟩ := store_4 H1'.out (.bool false) (.bool false) (.bool false) (.bool false)
      have r0 := blk_cell s1 0
      have r1 := blk_cell s1 1
      have r2 := blk_cell s1 2
      have r3 := blk_cell s1 3
      simp at r0 r1 r2 r3
      refine bodyPost_ret (v := .tuple #[.agg #[.bool false, .bool false, .bool false, .bool false], .bool false]) (by simp [results, Try.results39, go_sem, r0, r1, r2, r3]) rfl ⟨?_, ?_⟩
      · simp [rightB, partsV, pv, k0, k1, k2, k3]
      · exact HG.out.grown s2 (Nat.le_of_lt (Nat.lt_of_lt_of_le (Nat.lt_succ_self _) (Nat.le_of_lt (at_lt H1'.out)))) (fun g e => by cases e; omega)
end Go.Proofs.Ytkpoilcbdcddcaa
