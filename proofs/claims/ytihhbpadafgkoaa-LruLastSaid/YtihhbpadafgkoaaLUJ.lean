/-
  A step that stores, among those of a drawn region.
-/
import Derived.Test.YtihhbpadafgkoaaLU1
namespace Go.Proofs.Ytihhbpadafgkoaa
open Go.RowKit Go.Maps
set_option linter.unusedVariables false
set_option linter.unusedSimpArgs false
section
variable {P : Program} {ops : Array Oper} {Q : Exit → Act → World → Prop} {T : Nat → (Nat → Value) → World → Prop} {G : (Nat → Bool) → World → Prop} {L : Nat → Bool} {a : Act} {W : World} {i : Nat} {o : Oper}
theorem step4_stored (W' : World) (hrun : (execOp a.eval o).run P W = .ok .skip W') (hd : o.dst = none) (hG : G (fun j => L j || j == i) W') (hT : ∀ j, L j = true → T j (sl ops a) W') (hTi : T i (upd (sl ops a) i undef) W') : o.wp P a W (Stepped4 ops T G L a i o) Q := by
  unfold Oper.wp
  rw [hrun]
  exact ⟨undef, by rw [hd], fun _ => rfl, hG, hT, hTi⟩
end
theorem or_same {L : Nat → Bool} {p i : Nat} (h : i ≠ p) : (L p || p == i) = L p := by
  have : (p == i) = false := by simpa using fun e => h e.symm
  rw [this, Bool.or_false]
theorem or_now {L : Nat → Bool} {i : Nat} : (L i || i == i) = true := by simp
/-- join: what stands in the slots. -/
def TJ1 (x bx e l : Nat) (j : Nat) (σ : Nat → Value) (W : World) : Prop :=
  match j with
  | 0 => σ 0 = .pointer (some ⟨x, 0, none⟩)
  | 1 => σ 1 = .pointer (some ⟨x, 0, none⟩)
  | 2 => σ 2 = .pointer (some ⟨bx, 0, none⟩)
  | 3 => σ 3 = .pointer (some ⟨e, 0, none⟩)
  | 4 => σ 4 = .pointer (some ⟨e, 0, none⟩)
  | 5 => σ 5 = .pointer (some ⟨e, 2, none⟩)
  | 6 => σ 6 = .pointer (some ⟨l, 0, none⟩)
  | 7 => σ 7 = .pointer (some ⟨bx, 0, none⟩)
  | 8 => σ 8 = .pointer (some ⟨e, 0, none⟩)
  | 9 => σ 9 = .pointer (some ⟨x, 0, none⟩)
  | 10 => σ 10 = .pointer (some ⟨x, 2, none⟩)
  | 12 => σ 12 = .pointer (some ⟨x, 0, none⟩)
  | 13 => σ 13 = .pointer (some ⟨x, 3, none⟩)
  | _ => True
theorem TJ1.at_ {x bx e l j : Nat} {σ : Nat → Value} {W W' : World} (h : TJ1 x bx e l j σ W) : TJ1 x bx e l j σ W' := h
def GJ1 (W0 : World) (x bx e l p : Nat) (q n : Value) (k : List UInt8) (D : Nat → Bool) (W : World) : Prop :=
  LinkV W x k p (if D 11 = true then .pointer (some ⟨l, 0, none⟩) else q) (if D 14 = true then .pointer (some ⟨e, 0, none⟩) else n) ∧ (∀ (u : Nat) (k : List UInt8) (p q n : Nat), u ≠ x → LinkAt W0 u k p q n → LinkAt W u k p q n) ∧ Kept (fun g => g ≠ x) W0 W
theorem GJ1.same {W0 W : World} {x bx e l p i : Nat} {q n : Value} {k : List UInt8} {D : Nat → Bool} (h : GJ1 W0 x bx e l p q n k D W) (h1 : i ≠ 11) (h2 : i ≠ 14) : GJ1 W0 x bx e l p q n k (fun j => D j || j == i) W := by
  unfold GJ1 at h ⊢
  simp only [or_same h1, or_same h2]
  exact h
def TJ2 (x e l : Nat) (j : Nat) (σ : Nat → Value) (W : World) : Prop :=
  match j with
  | 0 => σ 0 = .pointer (some ⟨x, 0, none⟩)
  | 1 => σ 1 = .pointer (some ⟨x, 0, none⟩)
  | 2 => σ 2 = .pointer (some ⟨x, 2, none⟩)
  | 3 => σ 3 = .pointer (some ⟨l, 0, none⟩)
  | 4 => σ 4 = .pointer (some ⟨x, 0, none⟩)
  | 5 => σ 5 = .pointer (some ⟨x, 0, none⟩)
  | 6 => σ 6 = .pointer (some ⟨x, 3, none⟩)
  | 7 => σ 7 = .pointer (some ⟨e, 0, none⟩)
  | 8 => σ 8 = .pointer (some ⟨x, 0, none⟩)
  | 9 => σ 9 = .pointer (some ⟨x, 0, none⟩)
  | 10 => σ 10 = .pointer (some ⟨l, 0, none⟩)
  | 11 => σ 11 = .pointer (some ⟨l, 3, none⟩)
  | 13 => σ 13 = .pointer (some ⟨e, 0, none⟩)
  | 14 => σ 14 = .pointer (some ⟨e, 2, none⟩)
  | _ => True
theorem TJ2.at_ {x e l j : Nat} {σ : Nat → Value} {W W' : World} (h : TJ2 x e l j σ W) : TJ2 x e l j σ W' := h
def GJ2 (W0 : World) (x e l : Nat) (D : Nat → Bool) (W : World) : Prop :=
  (∀ (u : Nat) (k : List UInt8) (p q n : Nat), LinkAt W0 u k p q n → LinkAt W u k p (if D 15 = true ∧ u = e then x else q) (if D 12 = true ∧ u = l then x else n)) ∧ Kept (fun g => g ≠ l ∧ g ≠ e) W0 W
theorem GJ2.same {W0 W : World} {x e l i : Nat} {D : Nat → Bool} (h : GJ2 W0 x e l D W) (h1 : i ≠ 12) (h2 : i ≠ 15) : GJ2 W0 x e l (fun j => D j || j == i) W := by
  unfold GJ2 at h ⊢
  simp only [or_same h1, or_same h2]
  exact h
theorem GJ2.x {W0 W : World} {x e l p q n : Nat} {k : List UInt8} {D : Nat → Bool} (h : GJ2 W0 x e l D W) (hx : LinkAt W0 x k p q n) (h1 : x ≠ e) (h2 : x ≠ l) : LinkAt W x k p q n := by
  have := h.1 _ _ _ _ _ hx
  rwa [if_neg (fun hh => h1 hh.2), if_neg (fun hh => h2 hh.2)] at this
set_option maxRecDepth 100000 in
set_option maxHeartbeats 2000000 in
theorem join_any (e : Nat) (L : List LK) (r : LK) (q n : Value) (nx pv : Nat → Nat) (w : World) (h : RingM w e L nx pv) (hr : r.g ∉ e :: L.map LK.g) (hl : LinkV w r.g r.k r.p q n) :
    Calls Try.prog 54 #[.agg #[.pointer (some ⟨e, 0, none⟩)], .pointer (some ⟨r.g, 0, none⟩)] w fun en w' => en = .returned (.tuple #[]) ∧ (∃ nx' pv', RingM w' e (L ++ [r]) nx' pv') ∧ Kept (fun g => g ∉ e :: L.map LK.g ∧ g ≠ r.g) w w' := by
  have hb1 := below1 w (.cells #[.pointer (some ⟨e, 0, none⟩)] 56)
  have hx1 := World.alloc_heap_new w (.cells #[.pointer (some ⟨e, 0, none⟩)] 56)
  go_enter Try.func54, Try.ntmps54
  go_wp2_with fail
  rename_i K hK
  generalize w.alloc (.cells #[.pointer (some ⟨e, 0, none⟩)] 56) = W0 at *
  have h1 := h.below hb1
  have hl1 := hl.same (hb1.block _ hl.lt)
  have hpe := (h1.lnk.in_ (show e ∈ e :: L.map LK.g by simp)).2
  have n1 : r.g ≠ pv e := fun e2 => hr (e2 ▸ hpe)
  have n2 : r.g ≠ e := fun e2 => hr (by simp [e2])
  have nb : w.heap.size ≠ r.g := fun e2 => by have := hl.lt; omega
  have HX : Hid (LinkV W0 r.g r.k r.p q n) := hide hl1
  have HE : Hid (LinkAt W0 e [] 0 (pv e) (nx e)) := hide h1.ends
  have HNE : Hid (e ≠ r.g) := hide (fun e2 => n2 e2.symm)
  have HBX : Hid (∀ W, Kept (fun g => g ≠ r.g) W0 W → W.cell? ⟨w.heap.size, 0, none⟩ = some (.pointer (some ⟨e, 0, none⟩))) := hide (fun W hk => (blk_cell ((hk.block _ (at_lt hx1) nb).trans hx1) 0).trans rfl)
  have HR1 := hide h1
  have HB1 := hide hb1
  have HPE := hide hpe
  have HN1 := hide n1
  have HHR := hide hr
  obtain ⟨l, hle⟩ : ∃ l, l = pv e := ⟨_, rfl⟩
  rw [← hle] at HE HN1 HPE
  have HLE := hide hle
  obtain ⟨bx, hbx⟩ : ∃ bx, bx = w.heap.size := ⟨_, rfl⟩
  rw [← hbx] at HBX ⊢
  obtain ⟨x, hx⟩ : ∃ x, x = r.g := ⟨_, rfl⟩
  obtain ⟨k, hk⟩ : ∃ k, k = r.k := ⟨_, rfl⟩
  obtain ⟨p, hp⟩ : ∃ p, p = r.p := ⟨_, rfl⟩
  have HHX := hide hx
  have HHK := hide hk
  have HHP := hide hp
  rw [← hx] at HX HNE HBX HN1 ⊢
  rw [← hk] at HX
  rw [← hp] at HX
  clear h h1 hl hl1 hpe hx1 hb1 hr nb n1 n2 hle hbx hx hk hp
  refine wp_tells4 (by kernel_rfl) (TJ1 x bx e l) (GJ1 W0 x bx e l p q n k) (by kernel_rfl) (by kernel_rfl) (by kernel_rfl) (by kernel_rfl) ?_ ?_ ?_ ?_
  · intro q oj σ σ' W hj h hs
    have hi : q < 15 := (Array.getElem?_eq_some_iff.1 hj).1
    have h0 := hs q (.inl rfl)
    have hi' : q = 0 ∨ q = 1 ∨ q = 2 ∨ q = 3 ∨ q = 4 ∨ q = 5 ∨ q = 6 ∨ q = 7 ∨ q = 8 ∨ q = 9 ∨ q = 10 ∨ q = 11 ∨ q = 12 ∨ q = 13 ∨ q = 14 := by omega
    rcases hi' with rfl | rfl | rfl | rfl | rfl | rfl | rfl | rfl | rfl | rfl | rfl | rfl | rfl | rfl | rfl
    all_goals (simp only [TJ1] at h ⊢; try rw [h0]; exact h)
  · exact ⟨by simpa using HX.out.same (w' := W0.drew) rfl, fun u k p q n _ h => h.below (Below.refl _ _).drew, (Kept.refl _ _).drew_⟩
  · intro q o ho L a W hi hG hold hT hcl hh
    have hi2 : q < 15 := (Array.getElem?_eq_some_iff.1 ho).1
    have hi' : q = 0 ∨ q = 1 ∨ q = 2 ∨ q = 3 ∨ q = 4 ∨ q = 5 ∨ q = 6 ∨ q = 7 ∨ q = 8 ∨ q = 9 ∨ q = 10 ∨ q = 11 ∨ q = 12 ∨ q = 13 ∨ q = 14 := by omega
    rcases hi' with rfl | rfl | rfl | rfl | rfl | rfl | rfl | rfl | rfl | rfl | rfl | rfl | rfl | rfl | rfl
    · cases ho
      refine step4_told (.pointer (some ⟨x, 0, none⟩)) ?_ (by decide) (hG.same (by decide) (by decide)) hT rfl
      have e0 : a.eval (.tmp 1) = .pointer (some ⟨x, 0, none⟩) := hold 1 (unyet_of (by kernel_rfl))
      generalize a.eval = ev at e0 ⊢
      simp [execOp, go_sem, e0]
    · cases ho
      refine step4_told (.pointer (some ⟨x, 0, none⟩)) ?_ (by decide) (hG.same (by decide) (by decide)) hT rfl
      have e0 : a.eval (.tmp 1) = .pointer (some ⟨x, 0, none⟩) := hold 1 (unyet_of (by kernel_rfl))
      generalize a.eval = ev at e0 ⊢
      simp [execOp, go_sem, e0]
    · cases ho
      refine step4_told (.pointer (some ⟨bx, 0, none⟩)) ?_ (by decide) (hG.same (by decide) (by decide)) hT rfl
      have e0 : a.eval (.tmp 2) = .pointer (some ⟨bx, 0, none⟩) := hold 2 (unyet_of (by kernel_rfl))
      generalize a.eval = ev at e0 ⊢
      simp [execOp, go_sem, e0]
    · cases ho
      have cbx : W.cell? ⟨bx, 0, none⟩ = some (.pointer (some ⟨e, 0, none⟩)) := HBX.out W hG.2.2
      refine step4_told (.pointer (some ⟨e, 0, none⟩)) ?_ (by decide) (hG.same (by decide) (by decide)) hT rfl
      have e0 : a.eval (.tmp 6) = .pointer (some ⟨bx, 0, none⟩) := hT 2 (hh 2 rfl)
      generalize a.eval = ev at e0 ⊢
      simp [execOp, go_sem, e0, cbx]
    · cases ho
      refine step4_told (.pointer (some ⟨e, 0, none⟩)) ?_ (by decide) (hG.same (by decide) (by decide)) hT rfl
      have e0 : a.eval (.tmp 7) = .pointer (some ⟨e, 0, none⟩) := hT 3 (hh 3 rfl)
      generalize a.eval = ev at e0 ⊢
      simp [execOp, go_sem, e0]
    · cases ho
      refine step4_told (.pointer (some ⟨e, 2, none⟩)) ?_ (by decide) (hG.same (by decide) (by decide)) hT rfl
      have e0 : a.eval (.tmp 8) = .pointer (some ⟨e, 0, none⟩) := hT 4 (hh 4 rfl)
      generalize a.eval = ev at e0 ⊢
      simp [execOp, go_sem, e0]
    · cases ho
      have ce : W.cell? ⟨e, 2, none⟩ = some (.pointer (some ⟨l, 0, none⟩)) := (hG.2.1 _ _ _ _ _ HNE.out HE.out).c2
      refine step4_told (.pointer (some ⟨l, 0, none⟩)) ?_ (by decide) (hG.same (by decide) (by decide)) hT rfl
      have e0 : a.eval (.tmp 9) = .pointer (some ⟨e, 2, none⟩) := hT 5 (hh 5 rfl)
      generalize a.eval = ev at e0 ⊢
      simp [execOp, go_sem, e0, ce]
    · cases ho
      refine step4_told (.pointer (some ⟨bx, 0, none⟩)) ?_ (by decide) (hG.same (by decide) (by decide)) hT rfl
      have e0 : a.eval (.tmp 2) = .pointer (some ⟨bx, 0, none⟩) := hold 2 (unyet_of (by kernel_rfl))
      generalize a.eval = ev at e0 ⊢
      simp [execOp, go_sem, e0]
    · cases ho
      have cbx : W.cell? ⟨bx, 0, none⟩ = some (.pointer (some ⟨e, 0, none⟩)) := HBX.out W hG.2.2
      refine step4_told (.pointer (some ⟨e, 0, none⟩)) ?_ (by decide) (hG.same (by decide) (by decide)) hT rfl
      have e0 : a.eval (.tmp 11) = .pointer (some ⟨bx, 0, none⟩) := hT 7 (hh 7 rfl)
      generalize a.eval = ev at e0 ⊢
      simp [execOp, go_sem, e0, cbx]
    · cases ho
      refine step4_told (.pointer (some ⟨x, 0, none⟩)) ?_ (by decide) (hG.same (by decide) (by decide)) hT rfl
      have e0 : a.eval (.tmp 4) = .pointer (some ⟨x, 0, none⟩) := hT 0 (hh 0 rfl)
      generalize a.eval = ev at e0 ⊢
      simp [execOp, go_sem, e0]
    · cases ho
      refine step4_told (.pointer (some ⟨x, 2, none⟩)) ?_ (by decide) (hG.same (by decide) (by decide)) hT rfl
      have e0 : a.eval (.tmp 13) = .pointer (some ⟨x, 0, none⟩) := hT 9 (hh 9 rfl)
      generalize a.eval = ev at e0 ⊢
      simp [execOp, go_sem, e0]
    · cases ho
      have cx := hG.1.c2
      have fx := hG.1.free 2
      refine step4_stored (W.setCell ⟨x, 2, none⟩ (.pointer (some ⟨l, 0, none⟩))) ?_ rfl ⟨by
        have := hG.1.prev (.pointer (some ⟨l, 0, none⟩))
        simp only [or_same (show 11 ≠ 14 by decide), or_now]
        simpa using this, fun u k p q n hu h => (hG.2.1 u k p q n hu h).same (set_off hu), keptTrans hG.2.2 (kept_set _ _ _ _)⟩ (fun j hj => (hT j hj).at_) trivial
      have e0 : a.eval (.tmp 14) = .pointer (some ⟨x, 2, none⟩) := hT 10 (hh 10 rfl)
      have e1 : a.eval (.tmp 10) = .pointer (some ⟨l, 0, none⟩) := hT 6 (hh 6 rfl)
      generalize a.eval = ev at e0 e1 ⊢
      simp [execOp, go_sem, e0, e1, cx, fx]
    · cases ho
      refine step4_told (.pointer (some ⟨x, 0, none⟩)) ?_ (by decide) (hG.same (by decide) (by decide)) hT rfl
      have e0 : a.eval (.tmp 5) = .pointer (some ⟨x, 0, none⟩) := hT 1 (hh 1 rfl)
      generalize a.eval = ev at e0 ⊢
      simp [execOp, go_sem, e0]
    · cases ho
      refine step4_told (.pointer (some ⟨x, 3, none⟩)) ?_ (by decide) (hG.same (by decide) (by decide)) hT rfl
      have e0 : a.eval (.tmp 15) = .pointer (some ⟨x, 0, none⟩) := hT 12 (hh 12 rfl)
      generalize a.eval = ev at e0 ⊢
      simp [execOp, go_sem, e0]
    · cases ho
      have cx := hG.1.c3
      have fx := hG.1.free 3
      refine step4_stored (W.setCell ⟨x, 3, none⟩ (.pointer (some ⟨e, 0, none⟩))) ?_ rfl ⟨by
        have := hG.1.next (.pointer (some ⟨e, 0, none⟩))
        simp only [or_same (show 14 ≠ 11 by decide), or_now]
        simpa using this, fun u k p q n hu h => (hG.2.1 u k p q n hu h).same (set_off hu), keptTrans hG.2.2 (kept_set _ _ _ _)⟩ (fun j hj => (hT j hj).at_) trivial
      have e0 : a.eval (.tmp 16) = .pointer (some ⟨x, 3, none⟩) := hT 13 (hh 13 rfl)
      have e1 : a.eval (.tmp 12) = .pointer (some ⟨e, 0, none⟩) := hT 8 (hh 8 rfl)
      generalize a.eval = ev at e0 e1 ⊢
      simp [execOp, go_sem, e0, e1, cx, fx]
  · intro a W hd hs hold hT hG
    obtain ⟨f, hf, ha⟩ := act_puts [4, 5, 6, 7, 8, 9, 10, 11, 12, 13, 14, 15, 16] (fun t ht => by
      by_cases h : t ∈ [4, 5, 6, 7, 8, 9, 10, 11, 12, 13, 14, 15, 16]
      · exact h
      · exfalso
        simp [unwritten] at ht
        simp only [List.mem_cons, not_or] at h
        obtain ⟨h0, h1, h2, h3, h4, h5, h6, h7, h8, h9, h10, h11, h12, _⟩ := h
        exact absurd (ht (fun e => h0 e.symm) (fun e => h1 e.symm) (fun e => h2 e.symm) (fun e => h3 e.symm) (fun e => h4 e.symm) (fun e => h5 e.symm) (fun e => h6 e.symm) (fun e => h7 e.symm) (fun e => h8 e.symm) (fun e => h9 e.symm) (fun e => h10 e.symm) (fun e => h11 e.symm)) (fun e => h12 e.symm)) (fun t ht => by
      have hsz : t < 31 := by
        simp only [List.mem_cons, List.mem_nil_iff, or_false] at ht
        omega
      exact hsz) hd hs hold
    have HX2 : Hid (LinkAt W x k p l e) := hide (by unfold LinkAt; simpa using hG.1)
    have HE2 : Hid (LinkAt W e [] 0 l (nx e)) := hide (hG.2.1 _ _ _ _ _ HNE.out HE.out)
    have HL2 : Hid (∃ kl pl q n, LinkAt W l kl pl q n) := hide (by
      obtain ⟨kl, pl, h⟩ := HR1.out.some HPE.out
      exact ⟨kl, pl, _, _, hG.2.1 _ _ _ _ _ (fun e2 => HN1.out e2.symm) h⟩)
    obtain ⟨kl, pl, ql, nl, hL2⟩ := HL2.out
    have HL2 := hide hL2
    have HNE2 : Hid (x ≠ e) := hide (fun e2 => HNE.out e2.symm)
    have HNL : Hid (x ≠ l) := hide HN1.out
    have HG1 := hide hG
    subst ha
    clear hd hs hold hT hf hG hL2
    show K _ _
    refine hK _ _ ?_
    simp only [List.foldl_cons, List.foldl_nil]
    obtain ⟨u4, hu4⟩ : ∃ u, u = f 4 := ⟨_, rfl⟩
    obtain ⟨u5, hu5⟩ : ∃ u, u = f 5 := ⟨_, rfl⟩
    obtain ⟨u6, hu6⟩ : ∃ u, u = f 6 := ⟨_, rfl⟩
    obtain ⟨u7, hu7⟩ : ∃ u, u = f 7 := ⟨_, rfl⟩
    obtain ⟨u8, hu8⟩ : ∃ u, u = f 8 := ⟨_, rfl⟩
    obtain ⟨u9, hu9⟩ : ∃ u, u = f 9 := ⟨_, rfl⟩
    obtain ⟨u10, hu10⟩ : ∃ u, u = f 10 := ⟨_, rfl⟩
    obtain ⟨u11, hu11⟩ : ∃ u, u = f 11 := ⟨_, rfl⟩
    obtain ⟨u12, hu12⟩ : ∃ u, u = f 12 := ⟨_, rfl⟩
    obtain ⟨u13, hu13⟩ : ∃ u, u = f 13 := ⟨_, rfl⟩
    obtain ⟨u14, hu14⟩ : ∃ u, u = f 14 := ⟨_, rfl⟩
    obtain ⟨u15, hu15⟩ : ∃ u, u = f 15 := ⟨_, rfl⟩
    obtain ⟨u16, hu16⟩ : ∃ u, u = f 16 := ⟨_, rfl⟩
    rw [← hu4, ← hu5, ← hu6, ← hu7, ← hu8, ← hu9, ← hu10, ← hu11, ← hu12, ← hu13, ← hu14, ← hu15, ← hu16]
    clear hu4 hu5 hu6 hu7 hu8 hu9 hu10 hu11 hu12 hu13 hu14 hu15 hu16
    go_simp
    clear hK
    refine wp_tells4 (by kernel_rfl) (TJ2 x e l) (GJ2 W x e l) (by kernel_rfl) (by kernel_rfl) (by kernel_rfl) (by kernel_rfl) ?_ ?_ ?_ ?_
    · intro q oj σ σ' W hj h hs
      have hi : q < 16 := (Array.getElem?_eq_some_iff.1 hj).1
      have h0 := hs q (.inl rfl)
      have hi' : q = 0 ∨ q = 1 ∨ q = 2 ∨ q = 3 ∨ q = 4 ∨ q = 5 ∨ q = 6 ∨ q = 7 ∨ q = 8 ∨ q = 9 ∨ q = 10 ∨ q = 11 ∨ q = 12 ∨ q = 13 ∨ q = 14 ∨ q = 15 := by omega
      rcases hi' with rfl | rfl | rfl | rfl | rfl | rfl | rfl | rfl | rfl | rfl | rfl | rfl | rfl | rfl | rfl | rfl
      all_goals (simp only [TJ2] at h ⊢; try rw [h0]; exact h)
    · exact ⟨fun u k p q n h => by simpa using h.below (Below.refl _ _).drew, (Kept.refl _ _).drew_⟩
    · intro q o ho L a W hi hG hold hT hcl hh
      have hi2 : q < 16 := (Array.getElem?_eq_some_iff.1 ho).1
      have hi' : q = 0 ∨ q = 1 ∨ q = 2 ∨ q = 3 ∨ q = 4 ∨ q = 5 ∨ q = 6 ∨ q = 7 ∨ q = 8 ∨ q = 9 ∨ q = 10 ∨ q = 11 ∨ q = 12 ∨ q = 13 ∨ q = 14 ∨ q = 15 := by omega
      rcases hi' with rfl | rfl | rfl | rfl | rfl | rfl | rfl | rfl | rfl | rfl | rfl | rfl | rfl | rfl | rfl | rfl
      · cases ho
        refine step4_told (.pointer (some ⟨x, 0, none⟩)) ?_ (by decide) (hG.same (by decide) (by decide)) hT rfl
        have e0 : a.eval (.tmp 1) = .pointer (some ⟨x, 0, none⟩) := hold 1 (unyet_of (by kernel_rfl))
        generalize a.eval = ev at e0 ⊢
        simp [execOp, go_sem, e0]
      · cases ho
        refine step4_told (.pointer (some ⟨x, 0, none⟩)) ?_ (by decide) (hG.same (by decide) (by decide)) hT rfl
        have e0 : a.eval (.tmp 17) = .pointer (some ⟨x, 0, none⟩) := hT 0 (hh 0 rfl)
        generalize a.eval = ev at e0 ⊢
        simp [execOp, go_sem, e0]
      · cases ho
        refine step4_told (.pointer (some ⟨x, 2, none⟩)) ?_ (by decide) (hG.same (by decide) (by decide)) hT rfl
        have e0 : a.eval (.tmp 18) = .pointer (some ⟨x, 0, none⟩) := hT 1 (hh 1 rfl)
        generalize a.eval = ev at e0 ⊢
        simp [execOp, go_sem, e0]
      · cases ho
        have cx := (hG.x HX2.out HNE2.out HNL.out).c2
        refine step4_told (.pointer (some ⟨l, 0, none⟩)) ?_ (by decide) (hG.same (by decide) (by decide)) hT rfl
        have e0 : a.eval (.tmp 19) = .pointer (some ⟨x, 2, none⟩) := hT 2 (hh 2 rfl)
        generalize a.eval = ev at e0 ⊢
        simp [execOp, go_sem, e0, cx]
      · cases ho
        refine step4_told (.pointer (some ⟨x, 0, none⟩)) ?_ (by decide) (hG.same (by decide) (by decide)) hT rfl
        have e0 : a.eval (.tmp 1) = .pointer (some ⟨x, 0, none⟩) := hold 1 (unyet_of (by kernel_rfl))
        generalize a.eval = ev at e0 ⊢
        simp [execOp, go_sem, e0]
      · cases ho
        refine step4_told (.pointer (some ⟨x, 0, none⟩)) ?_ (by decide) (hG.same (by decide) (by decide)) hT rfl
        have e0 : a.eval (.tmp 21) = .pointer (some ⟨x, 0, none⟩) := hT 4 (hh 4 rfl)
        generalize a.eval = ev at e0 ⊢
        simp [execOp, go_sem, e0]
      · cases ho
        refine step4_told (.pointer (some ⟨x, 3, none⟩)) ?_ (by decide) (hG.same (by decide) (by decide)) hT rfl
        have e0 : a.eval (.tmp 22) = .pointer (some ⟨x, 0, none⟩) := hT 5 (hh 5 rfl)
        generalize a.eval = ev at e0 ⊢
        simp [execOp, go_sem, e0]
      · cases ho
        have cx := (hG.x HX2.out HNE2.out HNL.out).c3
        refine step4_told (.pointer (some ⟨e, 0, none⟩)) ?_ (by decide) (hG.same (by decide) (by decide)) hT rfl
        have e0 : a.eval (.tmp 23) = .pointer (some ⟨x, 3, none⟩) := hT 6 (hh 6 rfl)
        generalize a.eval = ev at e0 ⊢
        simp [execOp, go_sem, e0, cx]
      · cases ho
        refine step4_told (.pointer (some ⟨x, 0, none⟩)) ?_ (by decide) (hG.same (by decide) (by decide)) hT rfl
        have e0 : a.eval (.tmp 1) = .pointer (some ⟨x, 0, none⟩) := hold 1 (unyet_of (by kernel_rfl))
        generalize a.eval = ev at e0 ⊢
        simp [execOp, go_sem, e0]
      · cases ho
        refine step4_told (.pointer (some ⟨x, 0, none⟩)) ?_ (by decide) (hG.same (by decide) (by decide)) hT rfl
        have e0 : a.eval (.tmp 1) = .pointer (some ⟨x, 0, none⟩) := hold 1 (unyet_of (by kernel_rfl))
        generalize a.eval = ev at e0 ⊢
        simp [execOp, go_sem, e0]
      · cases ho
        refine step4_told (.pointer (some ⟨l, 0, none⟩)) ?_ (by decide) (hG.same (by decide) (by decide)) hT rfl
        have e0 : a.eval (.tmp 20) = .pointer (some ⟨l, 0, none⟩) := hT 3 (hh 3 rfl)
        generalize a.eval = ev at e0 ⊢
        simp [execOp, go_sem, e0]
      · cases ho
        refine step4_told (.pointer (some ⟨l, 3, none⟩)) ?_ (by decide) (hG.same (by decide) (by decide)) hT rfl
        have e0 : a.eval (.tmp 27) = .pointer (some ⟨l, 0, none⟩) := hT 10 (hh 10 rfl)
        generalize a.eval = ev at e0 ⊢
        simp [execOp, go_sem, e0]
      · cases ho
        have cx := (hG.1 _ _ _ _ _ HL2.out).c3
        have fx := (hG.1 _ _ _ _ _ HL2.out).free 3
        refine step4_stored (W.setCell ⟨l, 3, none⟩ (.pointer (some ⟨x, 0, none⟩))) ?_ rfl ⟨fun u k p q n h => by
        have := (hG.1 u k p q n h).next_any l x
        simp only [or_same (show 12 ≠ 15 by decide), or_now]
        by_cases hu : u = l
        · simpa [hu, hi] using this
        · simpa [hu, hi] using this, keptTrans hG.2 ((kept_set _ _ _ _).mono (fun g hg => hg.1))⟩ (fun j hj => (hT j hj).at_) trivial
        have e0 : a.eval (.tmp 28) = .pointer (some ⟨l, 3, none⟩) := hT 11 (hh 11 rfl)
        have e1 : a.eval (.tmp 25) = .pointer (some ⟨x, 0, none⟩) := hT 8 (hh 8 rfl)
        generalize a.eval = ev at e0 e1 ⊢
        simp [execOp, go_sem, e0, e1, cx, fx]
      · cases ho
        refine step4_told (.pointer (some ⟨e, 0, none⟩)) ?_ (by decide) (hG.same (by decide) (by decide)) hT rfl
        have e0 : a.eval (.tmp 24) = .pointer (some ⟨e, 0, none⟩) := hT 7 (hh 7 rfl)
        generalize a.eval = ev at e0 ⊢
        simp [execOp, go_sem, e0]
      · cases ho
        refine step4_told (.pointer (some ⟨e, 2, none⟩)) ?_ (by decide) (hG.same (by decide) (by decide)) hT rfl
        have e0 : a.eval (.tmp 29) = .pointer (some ⟨e, 0, none⟩) := hT 13 (hh 13 rfl)
        generalize a.eval = ev at e0 ⊢
        simp [execOp, go_sem, e0]
      · cases ho
        have cx := (hG.1 _ _ _ _ _ HE2.out).c2
        have fx := (hG.1 _ _ _ _ _ HE2.out).free 2
        refine step4_stored (W.setCell ⟨e, 2, none⟩ (.pointer (some ⟨x, 0, none⟩))) ?_ rfl ⟨fun u k p q n h => by
        have := (hG.1 u k p q n h).prev_any e x
        simp only [or_same (show 15 ≠ 12 by decide), or_now]
        by_cases hu : u = e
        · simpa [hu, hi] using this
        · simpa [hu, hi] using this, keptTrans hG.2 ((kept_set _ _ _ _).mono (fun g hg => hg.2))⟩ (fun j hj => (hT j hj).at_) trivial
        have e0 : a.eval (.tmp 30) = .pointer (some ⟨e, 2, none⟩) := hT 14 (hh 14 rfl)
        have e1 : a.eval (.tmp 26) = .pointer (some ⟨x, 0, none⟩) := hT 9 (hh 9 rfl)
        generalize a.eval = ev at e0 e1 ⊢
        simp [execOp, go_sem, e0, e1, cx, fx]
    · intro a W2 hd hs hold hT hG
      obtain ⟨f, hf, ha⟩ := act_puts [17, 18, 19, 20, 21, 22, 23, 24, 25, 26, 27, 28, 29, 30] (fun t ht => by
        by_cases h : t ∈ [17, 18, 19, 20, 21, 22, 23, 24, 25, 26, 27, 28, 29, 30]
        · exact h
        · exfalso
          simp [unwritten] at ht
          simp only [List.mem_cons, not_or] at h
          obtain ⟨h0, h1, h2, h3, h4, h5, h6, h7, h8, h9, h10, h11, h12, h13, _⟩ := h
          exact absurd (ht (fun e => h0 e.symm) (fun e => h1 e.symm) (fun e => h2 e.symm) (fun e => h3 e.symm) (fun e => h4 e.symm) (fun e => h5 e.symm) (fun e => h6 e.symm) (fun e => h7 e.symm) (fun e => h8 e.symm) (fun e => h9 e.symm) (fun e => h10 e.symm) (fun e => h11 e.symm) (fun e => h12 e.symm)) (fun e => h13 e.symm)) (fun t ht => by
        have hsz : t < 31 := by
          simp only [List.mem_cons, List.mem_nil_iff, or_false] at ht
          omega
        exact hsz) hd hs hold
      have HF : Hid (RingM W2 e (L ++ [r]) _ _) := hide (HR1.out.more (w' := W2) HHR.out (by
        have := hG.x HX2.out HNE2.out HNL.out
        rw [HHX.out, HHK.out, HHP.out, HLE.out] at this
        exact this) (fun u k p q n hu hh => by
        rw [← HLE.out, ← HHX.out]
        have hu' : u ≠ x := by rw [HHX.out]; exact hu
        simpa using hG.1 _ _ _ _ _ (HG1.out.2.1 _ _ _ _ _ hu' hh)))
      have HKK : Hid (Kept (fun g => g ∉ e :: L.map LK.g ∧ g ≠ r.g) w W2) := hide (below_then HB1.out (keptTrans (HG1.out.2.2.mono (fun g hg => by rw [HHX.out]; exact hg.2)) (hG.2.mono (fun g hg => ⟨fun e2 => hg.1 (by rw [e2]; exact HPE.out), fun e2 => hg.1 (by rw [e2]; simp)⟩))))
      subst ha
      clear hd hs hold hT hf hG
      simp only [List.foldl_cons, List.foldl_nil]
      go_simp
      go_end0
      exact ⟨rfl, ⟨_, _, HF.out⟩, HKK.out⟩
end Go.Proofs.Ytihhbpadafgkoaa
