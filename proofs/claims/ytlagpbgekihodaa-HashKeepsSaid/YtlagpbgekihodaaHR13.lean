/-
  Update of a hash: a value stands at its key's place, or the error.
-/
import Derived.Test.YtlagpbgekihodaaHR12
import Derived.Test.YtlagpbgekihodaaRT9
namespace Go.Proofs.Ytlagpbgekihodaa
open Go.RowKit Go.Maps
set_option linter.unusedVariables false

theorem step4_panics {P : Program} {ops : Array Oper} {Q : Exit → Act → World → Prop} {T : Nat → (Nat → Value) → World → Prop} {G : (Nat → Bool) → World → Prop} {L : Nat → Bool} {a : Act} {W : World} {i : Nat} {o : Oper} {f : FuncId} {args : Array Value} {chain : List PanicEntry} {R : World → Prop}
    (hrun : (execOp a.eval o).run P W = .ok (.enter f args) W) (hc : Calls P f args W fun e w' => e = .panicked chain ∧ R w') (h : ∀ w', R w' → Q (.panic chain) a w') : o.wp P a W (Stepped4 ops T G L a i o) Q := by
  unfold Oper.wp
  rw [hrun, Oper.upon_enter]
  refine hc.mono ?_
  rintro e w' ⟨rfl, hR⟩
  exact h w' hR
theorem Boxes4.kept {F : Nat → Prop} {W W' : World} {q : Nat} {v0 v1 v2 v3 : Value} {t0 t1 t2 t3 : TypeId} (h : Boxes4 W q v0 v1 v2 v3 t0 t1 t2 t3) (hk : Kept F W W') (hF : ∀ g, q ≤ g → F g) : Boxes4 W' q v0 v1 v2 v3 t0 t1 t2 t3 :=
  ⟨(hk.block _ h.b0.lt (hF _ (by omega))).trans h.b0, (hk.block _ h.b1.lt (hF _ (by omega))).trans h.b1, (hk.block _ h.b2.lt (hF _ (by omega))).trans h.b2, (hk.block _ h.b3.lt (hF _ (by omega))).trans h.b3⟩
/-- What lasts of the statement that puts a value; ok: may the key have a place? -/
def TUpd (b ks cb i : Nat) (A S : Option Addr) (c sz sc : Nat) (fl : Int) (ok : Prop) (j : Nat) (σ : Nat → Value) (W : World) : Prop :=
  match j with
  | 0 => σ 0 = .pointer (some ⟨b, 0, none⟩)
  | 1 => σ 1 = .pointer (some ⟨b, 0, none⟩)
  | 2 => σ 2 = .pointer (some ⟨b, 3, none⟩)
  | 3 => σ 3 = .pointer (some ⟨b, 0, none⟩)
  | 4 => σ 4 = .slice A ks c
  | 5 => σ 5 = .int .u64 fl
  | 6 => σ 6 = .int .i64 i ∧ ok
  | 7 => σ 7 = .pointer (some ⟨cb, i * 2, none⟩)
  | 8 => σ 8 = .slice S sz sc
  | _ => True
def GUpdN (W0 : World) (B b cb mb ks sz q : Nat) (L : List HS) (v1 v2 v3 : Value) (_ : Nat → Bool) (X : World) : Prop :=
  Boxes4 X q (.pointer (some ⟨b, 0, none⟩)) v1 v2 v3 27 22 22 23 ∧ Hsh X B b cb mb ks sz L ∧ Below W0.heap.size W0 X
def GUpd (W0 : World) (B b cb mb ks sz q : Nat) (L LK : List HS) (i : Nat) (d : List Int) (v1 v2 v3 : Value) (D : Nat → Bool) (X : World) : Prop :=
  Boxes4 X q (.pointer (some ⟨b, 0, none⟩)) v1 v2 v3 27 22 22 23 ∧
    (if D 9 = true then Hsh X B b cb mb ks sz (putB LK i 0 d) ∧ Kept (fun g => ¬ OfH b cb mb sz L g) W0 X else if D 6 = true then Hsh X B b cb mb ks sz LK ∧ Kept (fun g => g ≠ cb ∧ g ≠ mb) W0 X else Hsh X B b cb mb ks sz L ∧ Below W0.heap.size W0 X)
theorem GUpd.same {W0 X : World} {B b cb mb ks sz q i j : Nat} {L LK : List HS} {d : List Int} {v1 v2 v3 : Value} {D : Nat → Bool} (h : GUpd W0 B b cb mb ks sz q L LK i d v1 v2 v3 D X) (h6 : j ≠ 6) (h9 : j ≠ 9) : GUpd W0 B b cb mb ks sz q L LK i d v1 v2 v3 (fun k => D k || k == j) X := by
  unfold GUpd at h ⊢
  have e6 : (6 == j) = false := by simpa using fun e : 6 = j => h6 e.symm
  have e9 : (9 == j) = false := by simpa using fun e : 9 = j => h9 e.symm
  simp only [e6, e9, Bool.or_false]
  exact h
set_option maxRecDepth 100000 in
set_option maxHeartbeats 4000000 in
theorem updIn_no (B b cb mb ks sz q : Nat) (L : List HS) (A S : Option Addr) (c C sc : Nat) (fl : Int) (l d : List Int) (W : World) (h : Hsh W B b cb mb ks sz L) (hq : Boxes4 W q (.pointer (some ⟨b, 0, none⟩)) (.slice A ks c) (.slice S sz sc) (.int .u64 fl) 27 22 22 23) (hql : ∀ g, OfH b cb mb sz L g → g < q)
    (hr : KRow W C A ks l) (hC : C ≤ W.heap.size) (hfl : fl ≤ 2) (he : pickE L (kb l) fl ≠ 0) :
    Calls Try.prog 26 #[.pointer (some ⟨q, 0, none⟩), .pointer (some ⟨q + 1, 0, none⟩), .pointer (some ⟨q + 2, 0, none⟩), .pointer (some ⟨q + 3, 0, none⟩)] W fun e w' => e = .panicked (panicOf (pickE L (kb l) fl)) ∧ Below W.heap.size W w' := by
  have HM := hide (made_yes b W (by rw [blk_cell h.blk]; rfl))
  have HK := hide (key_yes b ks A c W h.c1)
  have c0 := hq.b0.cell
  have c1 := hq.b1.cell
  have c2 := hq.b2.cell
  have c3 := hq.b3.cell
  have cs := h.c3
  have HQ := hide hq
  have HH := hide h
  have HR := hide hr
  have hEF : ∀ args (W : World), (callFunc 28 args).run Try.prog W = .ok (.enter 28 args) W := enters_of Try.func28 (by kernel_rfl) rfl
  have hEA : ∀ args (W : World), (callFunc 23 args).run Try.prog W = .ok (.enter 23 args) W := enters_of Try.func23 (by kernel_rfl) rfl
  have hEP : ∀ args (W : World), (callFunc 29 args).run Try.prog W = .ok (.enter 29 args) W := enters_of Try.func29 (by kernel_rfl) rfl
  have hfl2 : decide (fl ≤ 2) = true := by simpa using hfl
  have hkk : ((sz : Int) == (sz : Int)) = true := by simp
  clear h hq hr
  go_enter Try.func26, Try.ntmps26
  go_wp2_with (first
    | (go_at_call 18; refine HM.out.mono ?_; rintro e w' ⟨rfl, rfl⟩)
    | (go_at_call 19; refine HK.out.mono ?_; rintro e w' ⟨rfl, rfl⟩))
  refine wp_region_still_tail 12 (by kernel_rfl) (by kernel_rfl) ?_
  simp only [List.take_succ_cons, List.take_zero, List.drop_succ_cons, List.drop_zero]
  repeat still_step
  refine wpStill_nil ?_
  go_wp2_with (go_at_call 27; ((with_reducible refine (demand_yes _ _).mono ?_)); rintro e w' ⟨rfl, rfl⟩)
  clear HM HK c0 c1 c2 c3 cs
  refine wp_tells9 (by kernel_rfl) (TUpd b ks cb 0 A S c sz sc fl False) (GUpdN W.drew B b cb mb ks sz q L (.slice A ks c) (.slice S sz sc) (.int .u64 fl)) (by kernel_rfl) (by kernel_rfl) (by kernel_rfl) (by kernel_rfl) ?_ ?_ ?_ ?_
  · intro j oj σ σ' W hj h hs
    have hi : j < 10 := (Array.getElem?_eq_some_iff.1 hj).1
    have h0 := hs j (.inl rfl)
    have hi' : j = 0 ∨ j = 1 ∨ j = 2 ∨ j = 3 ∨ j = 4 ∨ j = 5 ∨ j = 6 ∨ j = 7 ∨ j = 8 ∨ j = 9 := by omega
    rcases hi' with rfl | rfl | rfl | rfl | rfl | rfl | rfl | rfl | rfl | rfl
    all_goals first | exact trivial | (simp only [TUpd] at h ⊢; rw [h0]; exact h)
  · have hbd := ((Below.refl W.heap.size W).drew).drew
    exact ⟨HQ.out.below hbd, HH.out.below hbd, (Below.refl W.drew.heap.size W.drew).drew⟩
  · intro i o ho D a X hi hG hdf hold hT hcl hh
    have hi2 : i < 10 := (Array.getElem?_eq_some_iff.1 ho).1
    have hi' : i = 0 ∨ i = 1 ∨ i = 2 ∨ i = 3 ∨ i = 4 ∨ i = 5 ∨ i = 6 ∨ i = 7 ∨ i = 8 ∨ i = 9 := by omega
    rcases hi' with rfl | rfl | rfl | rfl | rfl | rfl | rfl | rfl | rfl | rfl
    · cases ho
      have k0 := hG.1.b0.cell
      refine step4_told (.pointer (some ⟨b, 0, none⟩)) ?_ (by decide) hG hT rfl
      have e0 : a.eval (.tmp 0) = .pointer (some ⟨q, 0, none⟩) := hold 0 (unyet_of (by kernel_rfl))
      generalize a.eval = ev at e0 ⊢
      simp [execOp, go_sem, e0, k0]
    · cases ho
      refine step4_told (.pointer (some ⟨b, 0, none⟩)) ?_ (by decide) hG hT rfl
      have e0 : a.eval (.tmp 22) = .pointer (some ⟨b, 0, none⟩) := hT 0 (hh 0 rfl)
      generalize a.eval = ev at e0 ⊢
      simp [execOp, go_sem, e0]
    · cases ho
      refine step4_told (.pointer (some ⟨b, 3, none⟩)) ?_ (by decide) hG hT rfl
      have e0 : a.eval (.tmp 23) = .pointer (some ⟨b, 0, none⟩) := hT 1 (hh 1 rfl)
      generalize a.eval = ev at e0 ⊢
      simp [execOp, go_sem, e0]
    · cases ho
      have k0 := hG.1.b0.cell
      refine step4_told (.pointer (some ⟨b, 0, none⟩)) ?_ (by decide) hG hT rfl
      have e0 : a.eval (.tmp 0) = .pointer (some ⟨q, 0, none⟩) := hold 0 (unyet_of (by kernel_rfl))
      generalize a.eval = ev at e0 ⊢
      simp [execOp, go_sem, e0, k0]
    · cases ho
      have k1 := hG.1.b1.cell
      refine step4_told (.slice A ks c) ?_ (by decide) hG hT rfl
      have e0 : a.eval (.tmp 1) = .pointer (some ⟨q + 1, 0, none⟩) := hold 1 (unyet_of (by kernel_rfl))
      generalize a.eval = ev at e0 ⊢
      simp [execOp, go_sem, e0, k1]
    · cases ho
      have k3 := hG.1.b3.cell
      refine step4_told (.int .u64 fl) ?_ (by decide) hG hT rfl
      have e0 : a.eval (.tmp 3) = .pointer (some ⟨q + 3, 0, none⟩) := hold 3 (unyet_of (by kernel_rfl))
      generalize a.eval = ev at e0 ⊢
      simp [execOp, go_sem, e0, k3]
    · cases ho
      obtain ⟨g1, g2, g3⟩ := hG
      have e0 : a.eval (.tmp 25) = .pointer (some ⟨b, 0, none⟩) := hT 3 (hh 3 rfl)
      have e1 : a.eval (.tmp 26) = .slice A ks c := hT 4 (hh 4 rfl)
      have e2 : a.eval (.tmp 27) = .int .u64 fl := hT 5 (hh 5 rfl)
      have hk := g2.kbig
      have hkr := HR.out.below ((Below.refl W.heap.size W).drew.mono hC |>.trans (g3.mono hC))
      refine step4_panics (f := 28) (args := #[.pointer (some ⟨b, 0, none⟩), .slice A ks c, .int .u64 fl]) ?_ (for_no B b cb mb ks sz L A ks c C l fl X g2 hkr.byte hkr.rd hkr.nil (by omega) he) ?_
      · have ef : a.eval (.func 28) = .func (.func 28) #[] #[] := rfl
        generalize a.eval = ev at e0 e1 e2 ef ⊢
        simp [execOp, go_sem, e0, e1, e2, ef, hEF]
      · intro w' hb
        have hb2 := (Below.refl W.heap.size W).drew.trans (g3.trans (hb.mono g3.size))
        exact ⟨hdf, rfl, hb2⟩
    · exact absurd (hT 6 (hh 6 (by cases ho; rfl))).2 id
    · cases ho
      have k2 := hG.1.b2.cell
      refine step4_told (.slice S sz sc) ?_ (by decide) hG hT rfl
      have e0 : a.eval (.tmp 2) = .pointer (some ⟨q + 2, 0, none⟩) := hold 2 (unyet_of (by kernel_rfl))
      generalize a.eval = ev at e0 ⊢
      simp [execOp, go_sem, e0, k2]
    · exact absurd (hT 6 (hcl 7 _ (hh 7 (by cases ho; rfl)) rfl 6 (by kernel_rfl))).2 id
  · intro a X hd hsz hold hT hG
    exact absurd (hT 6 (by decide)).2 id
set_option maxRecDepth 100000 in
set_option maxHeartbeats 4000000 in
theorem updIn_yes (B b cb mb ks sz q : Nat) (L : List HS) (A S : Option Addr) (c C sc : Nat) (fl : Int) (l d : List Int) (W : World) (h : Hsh W B b cb mb ks sz L) (hq : Boxes4 W q (.pointer (some ⟨b, 0, none⟩)) (.slice A ks c) (.slice S sz sc) (.int .u64 fl) 27 22 22 23) (hql : ∀ g, OfH b cb mb sz L g → g < q)
    (hr : KRow W C A ks l) (hC : C ≤ W.heap.size) (hfl : fl ≤ 2) (hd : Rd W C 1 S sz (u8s d)) (hk1 : 1 ≤ ks) (he : pickE L (kb l) fl = 0) :
    Calls Try.prog 26 #[.pointer (some ⟨q, 0, none⟩), .pointer (some ⟨q + 1, 0, none⟩), .pointer (some ⟨q + 2, 0, none⟩), .pointer (some ⟨q + 3, 0, none⟩)] W fun e w' => e = .returned (.tuple #[]) ∧ Hsh w' B b cb mb ks sz (putB (putK L (kb l)) (putAt L (kb l)) 0 d) ∧ Kept (fun g => ¬ OfH b cb mb sz L g) W w' := by
  obtain ⟨r, hrow⟩ := putAt_row he
  have hbig := h.big
  have hap := h.apart
  have hcq := hql cb (.inr (.inl rfl))
  have hmq := hql mb (.inr (.inr (.inl rfl)))
  have hbq := hql b (.inl rfl)
  have HRD : Hid (∀ X, Kept (fun g => g ≠ cb ∧ g ≠ mb) W X → Rd X C 1 S sz (u8s d)) := hide (fun X hX => hd.beside2 (h.far2 hd (by omega)) (fun p hp hne => World.cell?_of_block (hX.block p.block (by omega) hne)))
  clear hd
  have HM := hide (made_yes b W (by rw [blk_cell h.blk]; rfl))
  have HK := hide (key_yes b ks A c W h.c1)
  have c0 := hq.b0.cell
  have c1 := hq.b1.cell
  have c2 := hq.b2.cell
  have c3 := hq.b3.cell
  have cs := h.c3
  have HQ := hide hq
  have HH := hide h
  have HR := hide hr
  have hEF : ∀ args (W : World), (callFunc 28 args).run Try.prog W = .ok (.enter 28 args) W := enters_of Try.func28 (by kernel_rfl) rfl
  have hEA : ∀ args (W : World), (callFunc 23 args).run Try.prog W = .ok (.enter 23 args) W := enters_of Try.func23 (by kernel_rfl) rfl
  have hEP : ∀ args (W : World), (callFunc 29 args).run Try.prog W = .ok (.enter 29 args) W := enters_of Try.func29 (by kernel_rfl) rfl
  have hfl2 : decide (fl ≤ 2) = true := by simpa using hfl
  have hkk : ((sz : Int) == (sz : Int)) = true := by simp
  clear h hq hr
  go_enter Try.func26, Try.ntmps26
  go_wp2_with (first
    | (go_at_call 18; refine HM.out.mono ?_; rintro e w' ⟨rfl, rfl⟩)
    | (go_at_call 19; refine HK.out.mono ?_; rintro e w' ⟨rfl, rfl⟩))
  refine wp_region_still_tail 12 (by kernel_rfl) (by kernel_rfl) ?_
  simp only [List.take_succ_cons, List.take_zero, List.drop_succ_cons, List.drop_zero]
  repeat still_step
  refine wpStill_nil ?_
  go_wp2_with (go_at_call 27; ((with_reducible refine (demand_yes _ _).mono ?_)); rintro e w' ⟨rfl, rfl⟩)
  clear HM HK c0 c1 c2 c3 cs
  have HW := hide ((Below.refl W.heap.size W).drew)
  refine wp_tells9 (by kernel_rfl) (TUpd b ks cb (putAt L (kb l)) A S c sz sc fl True) (GUpd W.drew B b cb mb ks sz q L (putK L (kb l)) (putAt L (kb l)) d (.slice A ks c) (.slice S sz sc) (.int .u64 fl)) (by kernel_rfl) (by kernel_rfl) (by kernel_rfl) (by kernel_rfl) ?_ ?_ ?_ ?_
  · intro j oj σ σ' W hj h hs
    have hi : j < 10 := (Array.getElem?_eq_some_iff.1 hj).1
    have h0 := hs j (.inl rfl)
    have hi' : j = 0 ∨ j = 1 ∨ j = 2 ∨ j = 3 ∨ j = 4 ∨ j = 5 ∨ j = 6 ∨ j = 7 ∨ j = 8 ∨ j = 9 := by omega
    rcases hi' with rfl | rfl | rfl | rfl | rfl | rfl | rfl | rfl | rfl | rfl
    all_goals first | exact trivial | (simp only [TUpd] at h ⊢; rw [h0]; exact h)
  · have hbd := ((Below.refl W.heap.size W).drew).drew
    exact ⟨HQ.out.below hbd, HH.out.below hbd, (Below.refl W.drew.heap.size W.drew).drew⟩
  · intro i o ho D a X hi hG hdf hold hT hcl hh
    have hi2 : i < 10 := (Array.getElem?_eq_some_iff.1 ho).1
    have hi' : i = 0 ∨ i = 1 ∨ i = 2 ∨ i = 3 ∨ i = 4 ∨ i = 5 ∨ i = 6 ∨ i = 7 ∨ i = 8 ∨ i = 9 := by omega
    rcases hi' with rfl | rfl | rfl | rfl | rfl | rfl | rfl | rfl | rfl | rfl
    · cases ho
      have k0 := hG.1.b0.cell
      refine step4_told (.pointer (some ⟨b, 0, none⟩)) ?_ (by decide) (hG.same (by decide) (by decide)) hT rfl
      have e0 : a.eval (.tmp 0) = .pointer (some ⟨q, 0, none⟩) := hold 0 (unyet_of (by kernel_rfl))
      generalize a.eval = ev at e0 ⊢
      simp [execOp, go_sem, e0, k0]
    · cases ho
      refine step4_told (.pointer (some ⟨b, 0, none⟩)) ?_ (by decide) (hG.same (by decide) (by decide)) hT rfl
      have e0 : a.eval (.tmp 22) = .pointer (some ⟨b, 0, none⟩) := hT 0 (hh 0 rfl)
      generalize a.eval = ev at e0 ⊢
      simp [execOp, go_sem, e0]
    · cases ho
      refine step4_told (.pointer (some ⟨b, 3, none⟩)) ?_ (by decide) (hG.same (by decide) (by decide)) hT rfl
      have e0 : a.eval (.tmp 23) = .pointer (some ⟨b, 0, none⟩) := hT 1 (hh 1 rfl)
      generalize a.eval = ev at e0 ⊢
      simp [execOp, go_sem, e0]
    · cases ho
      have k0 := hG.1.b0.cell
      refine step4_told (.pointer (some ⟨b, 0, none⟩)) ?_ (by decide) (hG.same (by decide) (by decide)) hT rfl
      have e0 : a.eval (.tmp 0) = .pointer (some ⟨q, 0, none⟩) := hold 0 (unyet_of (by kernel_rfl))
      generalize a.eval = ev at e0 ⊢
      simp [execOp, go_sem, e0, k0]
    · cases ho
      have k1 := hG.1.b1.cell
      refine step4_told (.slice A ks c) ?_ (by decide) (hG.same (by decide) (by decide)) hT rfl
      have e0 : a.eval (.tmp 1) = .pointer (some ⟨q + 1, 0, none⟩) := hold 1 (unyet_of (by kernel_rfl))
      generalize a.eval = ev at e0 ⊢
      simp [execOp, go_sem, e0, k1]
    · cases ho
      have k3 := hG.1.b3.cell
      refine step4_told (.int .u64 fl) ?_ (by decide) (hG.same (by decide) (by decide)) hT rfl
      have e0 : a.eval (.tmp 3) = .pointer (some ⟨q + 3, 0, none⟩) := hold 3 (unyet_of (by kernel_rfl))
      generalize a.eval = ev at e0 ⊢
      simp [execOp, go_sem, e0, k3]
    · have h7 : D 7 = false := by
        cases h7 : D 7 with
        | false => rfl
        | true => rw [hcl 7 _ h7 rfl 6 (by kernel_rfl)] at hi; cases hi
      have h9 : D 9 = false := by
        cases h9 : D 9 with
        | false => rfl
        | true => rw [hcl 9 _ h9 rfl 7 (by kernel_rfl)] at h7; cases h7
      obtain ⟨g1, g2⟩ := hG
      rw [if_neg (by rw [h9]; decide), if_neg (by rw [hi]; decide)] at g2
      obtain ⟨g2, g3⟩ := g2
      cases ho
      have e0 : a.eval (.tmp 25) = .pointer (some ⟨b, 0, none⟩) := hT 3 (hh 3 rfl)
      have e1 : a.eval (.tmp 26) = .slice A ks c := hT 4 (hh 4 rfl)
      have e2 : a.eval (.tmp 27) = .int .u64 fl := hT 5 (hh 5 rfl)
      have hkr := HR.out.below (HW.out.mono hC |>.trans (g3.mono hC))
      refine step4_called (R := fun v W' => v = .int .i64 (putAt L (kb l) : Nat) ∧ Hsh W' B b cb mb ks sz (putK L (kb l)) ∧ Kept (fun g => g ≠ cb ∧ g ≠ mb) X W') ?_ (by decide) ((for_any B b cb mb ks sz L A c C l fl X g2 hkr (Nat.le_trans hC g3.size) he).mono ?_) ?_
      · have ef : a.eval (.func 28) = .func (.func 28) #[] #[] := rfl
        generalize a.eval = ev at e0 e1 e2 ef ⊢
        simp [execOp, go_sem, e0, e1, e2, ef, hEF]
      · rintro e W' ⟨h1, h2⟩
        exact ⟨_, h1, rfl, h2⟩
      · rintro v W' ⟨rfl, h2, h3⟩
        refine ⟨⟨g1.kept h3 (fun g hg => by omega), ?_⟩, hT, rfl, trivial⟩
        rw [if_neg (by simp [h9]), if_pos (by simp)]
        exact ⟨h2, keptTrans (Kept.of_below g3) h3⟩
    · have h6 : D 6 = true := hh 6 (by cases ho; rfl)
      have h9 : D 9 = false := by
        cases h9 : D 9 with
        | false => rfl
        | true => rw [hcl 9 _ h9 rfl 7 (by kernel_rfl)] at hi; cases hi
      obtain ⟨g1, g2⟩ := hG
      rw [if_neg (by rw [h9]; decide), if_pos h6] at g2
      obtain ⟨g2, g3⟩ := g2
      cases ho
      have e0 : a.eval (.tmp 24) = .pointer (some ⟨b, 3, none⟩) := hT 2 (hh 2 rfl)
      have e1 : a.eval (.tmp 28) = .int .i64 (putAt L (kb l) : Nat) := (hT 6 h6).1
      refine step4_called (R := fun v W' => v = .pointer (some ⟨cb, putAt L (kb l) * 2, none⟩) ∧ X = W') ?_ (by decide) ((at_yes b (putK L (kb l)).length cb (putAt L (kb l)) X g2.c4 (List.getElem?_eq_some_iff.1 hrow).1).mono ?_) ?_
      · have ef : a.eval (.func 23) = .func (.func 23) #[] #[] := rfl
        generalize a.eval = ev at e0 e1 ef ⊢
        simp [execOp, go_sem, e0, e1, ef, hEA]
      · rintro e W' ⟨h1, h2⟩
        exact ⟨_, h1, rfl, h2⟩
      · rintro v W' ⟨rfl, rfl⟩
        refine ⟨⟨g1, ?_⟩, hT, rfl⟩
        rw [if_neg (by simp [h9]), if_pos (by simp [h6])]
        exact ⟨g2, g3⟩
    · cases ho
      have k2 := hG.1.b2.cell
      refine step4_told (.slice S sz sc) ?_ (by decide) (hG.same (by decide) (by decide)) hT rfl
      have e0 : a.eval (.tmp 2) = .pointer (some ⟨q + 2, 0, none⟩) := hold 2 (unyet_of (by kernel_rfl))
      generalize a.eval = ev at e0 ⊢
      simp [execOp, go_sem, e0, k2]
    · have h7 : D 7 = true := hh 7 (by cases ho; rfl)
      have h6 : D 6 = true := hcl 7 _ h7 rfl 6 (by kernel_rfl)
      obtain ⟨g1, g2⟩ := hG
      rw [if_neg (by rw [hi]; decide), if_pos h6] at g2
      obtain ⟨g2, g3⟩ := g2
      cases ho
      have e0 : a.eval (.tmp 29) = .pointer (some ⟨cb, putAt L (kb l) * 2, none⟩) := hT 7 (hh 7 rfl)
      have e1 : a.eval (.tmp 30) = .slice S sz sc := hT 8 (hh 8 rfl)
      have ec : a.eval (.const (.int .i64 0)) = .int .i64 0 := rfl
      have hdd := HRD.out X (keptTrans (Kept.of_below HW.out) g3)
      have hrl := g2.len hrow
      refine step4_called (R := fun v W' => v = .tuple #[] ∧ W'.ownsRow 0 5 1 (.slice r.A sz r.c) sz (u8s (splice r.bs 0 d)) ∧ Kept (fun j => (Value.slice r.A sz r.c).ownBlock ≠ some j) X W') ?_ (by decide) ((put_any cb (putAt L (kb l) * 2) 0 sz r.A S sz r.c sc C r.bs d X (g2.parts hrow) (g2.row _ r hrow) hdd (Nat.le_trans hC g3.size) (by omega) (by omega)).mono ?_) ?_
      · have ef : a.eval (.func 29) = .func (.func 29) #[] #[] := rfl
        generalize a.eval = ev at e0 e1 ef ec ⊢
        simp [execOp, go_sem, e0, e1, ef, ec, hEP]
      · rintro e W' ⟨h1, h2⟩
        exact ⟨_, h1, rfl, h2⟩
      · rintro v W' ⟨rfl, h2, h3⟩
        obtain ⟨h4, h5⟩ := g2.put hrow h2 h3
        have hlow : ∀ g, OfH b cb mb sz (putK L (kb l)) g → g < q := fun g hg => hql g (hg.same (sameA_putK L _))
        refine ⟨⟨g1.kept h5 (fun g hg ho => by have := hlow g ho; omega), ?_⟩, hT, trivial⟩
        rw [if_pos (by simp)]
        exact ⟨h4, keptTrans (g3.mono (fun g hg => ⟨fun e => hg (.inr (.inl e)), fun e => hg (.inr (.inr (.inl e)))⟩)) (h5.mono (fun g hg ho => hg (ho.same (sameA_putK L _))))⟩
  · intro a X hd hsz hold hT hG
    obtain ⟨g1, g2⟩ := hG
    rw [if_pos (by decide)] at g2
    refine bodyPost_end (results_none rfl _ _ _) hd ?_
    exact ⟨rfl, g2.1, keptTrans (Kept.of_below HW.out) g2.2⟩
end Go.Proofs.Ytlagpbgekihodaa
