/-
  A key that is not there comes to the least free place.
-/
import Derived.Test.YtihhbpadafgkoaaLUA
namespace Go.Proofs.Ytihhbpadafgkoaa
open Go.RowKit Go.Maps
set_option linter.unusedVariables false
set_option linter.unusedSimpArgs false

/-- A free place was taken. -/
def TakeT (cb sz p : Nat) (P : List HS) (w w' : World) : Prop := w'.heap[cb]? = some (.cells ((cellsH sz P).set (p * 2 + 1) (.bool true)).toArray 90 (0, 0)) ∧ Kept (fun g => g ≠ cb) w w'
/-- .. and a link made. -/
def AddT (cb e sz p : Nat) (L : List LK) (P : List HS) (k : List UInt8) (x : Nat) (w w' : World) : Prop :=
  w.heap.size ≤ x ∧ (∃ nx pv, RingM w' e (L ++ [⟨x, k, p⟩]) nx pv) ∧ w'.heap[cb]? = some (.cells ((cellsH sz P).set (p * 2 + 1) (.bool true)).toArray 90 (0, 0)) ∧ Kept (fun g => g ≠ cb ∧ g ∉ e :: L.map LK.g) w w'
section
variable {w w1 w2 : World} {B b mb cb e ks sz : Nat} {L : List LK} {P : List HS}
theorem TakeT.ring {p : Nat} (h : Lru w B b mb cb e ks sz L P) (ht : TakeT cb sz p P w w1) : ∃ nx pv, RingM w1 e L nx pv := by
  obtain ⟨nx, pv, hr⟩ := h.ring
  exact ⟨nx, pv, hr.kept ht.2 (fun u hu => (h.apart.2.2.2.1 u hu).2.1)⟩
theorem take_told {i : Nat} {r : HS} (h : Lru w B b mb cb e ks sz L P) (hr : P[i]? = some r) (hb : Below w.heap.size w w1) : TakeT cb sz i P w (w1.setCell ⟨cb, i * 2 + 1, none⟩ (.bool true)) := by
  refine ⟨?_, below_then hb (kept_set _ _ _ _)⟩
  rw [← List.setIfInBounds_toArray]
  exact Joins.block_setCell (i := i * 2 + 1) ((hb.block cb (at_lt h.cel)).trans h.cel) (.bool true)
/-- The map learns of a new link. -/
theorem Lru.added {p x : Nat} {s : HS} {k : List UInt8} (h : Lru w B b mb cb e ks sz L P) (hf : findL L k = none) (hp : freeK P = some p) (hs : P[p]? = some s) (hk : k.length = ks) (ha : AddT cb e sz p L P k x w w1) :
    ∃ w2, (Instr.mapUpdate 53 (.map (some mb)) (encStr k) (.pointer (some ⟨x, 0, none⟩))).run Try.prog w1 = .ok () w2 ∧ LGo B b mb cb e ks sz L P (L ++ [⟨x, k, p⟩]) (P.set p { s with key := some k }) w w2 := by
  obtain ⟨hx, ⟨nx, pv, hring⟩, hcel, hkk⟩ := ha
  obtain ⟨a1, a2, a3, a4, a5⟩ := h.apart
  have hnb : b ∉ e :: L.map LK.g := fun hh => (a4 b hh).1 rfl
  have hnm : mb ∉ e :: L.map LK.g := fun hh => (a4 mb hh).2.2 rfl
  have hkb := h.kbig
  have hmany := h.many.2
  have hN : L.length < maxLen := by have := full_lt h.fit; unfold maxLen; omega
  have hm1 := h.map.same (hkk.block mb h.map.lt ⟨fun e2 => a3 e2.symm, hnm⟩)
  obtain ⟨w2, g1, g2, g3⟩ := hm1.put strK Try.underlying53 hN (keyOf_str_mk Try.underlying9 (show k.length ≤ maxLen by unfold maxLen; omega)) trivial (show ptrR (.pointer (some ⟨x, 0, none⟩)) = some (.lit (.int .i64 (x : Int)), []) from rfl)
  have hb1 := (hkk.block b (at_lt h.blk) ⟨a1, hnb⟩).trans h.blk
  have hb2 := (g3.block b (at_lt hb1) (fun e => a2 (by injection e))).trans hb1
  have hc2 := (g3.block cb (at_lt hcel) (fun e => a3 (by injection e))).trans hcel
  have hxm : x ≠ mb := fun e2 => by have := h.map.lt; omega
  have hK2 : Kept (fun g => g ≠ cb ∧ g ∉ e :: L.map LK.g ∧ g ≠ mb) w w2 := (hkk.mono (fun g hg => ⟨hg.1, hg.2.1⟩)).grown g3 (fun g e hlt hh => hh.2.2 (by cases e; rfl))
  have hA : SameA (P.set p { s with key := some k }) P := SameA.set hs rfl rfl
  have hsub : ∀ g, OfU b mb cb e sz (L ++ [⟨x, k, p⟩]) (P.set p { s with key := some k }) g → OfU b mb cb e sz L P g ∨ g = x := fun g hg => by
    have hg2 := OfU.rows hA hg
    rcases hg2 with h1 | h1 | h1 | h1 | h1
    · exact .inl (.inl h1)
    · exact .inl (.inr (.inl h1))
    · exact .inl (.inr (.inr (.inl h1)))
    · rw [List.map_append] at h1
      rcases List.mem_cons.1 h1 with h1 | h1
      · exact .inl (.inr (.inr (.inr (.inl (by simp [h1])))))
      · rcases List.mem_append.1 h1 with h1 | h1
        · exact .inl (.inr (.inr (.inr (.inl (List.mem_cons_of_mem _ h1)))))
        · simp at h1; exact .inr h1
    · exact .inl (.inr (.inr (.inr (.inr h1))))
  have hlowB : B ≤ w.heap.size := by have h1 := h.low b (.inl rfl); have h2 := at_lt h.blk; omega
  refine ⟨w2, g1, ⟨?_, ?_, ⟨nx, pv, hring.lnk, hring.nodup, hring.ends.same (g3.block e hring.ends.lt (fun e2 => (a4 e (by simp)).2.2 (by injection e2))), fun t ht => (hring.each t ht).same (g3.block t.g (hring.each t ht).lt (fun e2 => ?_))⟩, ?_, fun j t ht => ?_, fun g hg => ?_, ?_, h.fit.added hf hp hs hk, h.big, by rw [List.length_set]; exact h.many, h.kbig⟩, hK2.mono (fun g hg => ⟨fun e2 => hg (.inr (.inr (.inl e2))), fun hh => hg (.inr (.inr (.inr (.inl hh)))), fun e2 => hg (.inr (.inl e2))⟩), fun g hg => (hsub g hg).imp id (fun e2 => by omega)⟩
  · rw [List.length_set]
    exact hb2
  · have e0 : (linkF L (.string k)).isSome = false := by rw [linkF_none hf]; rfl
    rw [e0] at g2
    simp only [Bool.false_eq_true, if_false] at g2
    rw [List.length_append]
    refine GMap.congr g2 (fun y hy => ?_)
    obtain ⟨key, hkey⟩ := hy
    obtain ⟨z, _, rfl, _⟩ := Maps.keyOf_str Try.underlying9 hkey
    rw [setK_str]
    exact linkF_more (r := ⟨x, k, p⟩) h.fit.keys hf z
  · rcases List.mem_append.1 ht with ht | ht
    · exact (a4 t.g (List.mem_cons_of_mem _ (List.mem_map_of_mem ht))).2.2 (by injection e2)
    · simp at ht
      subst ht
      exact hxm (by injection e2)
  · rw [show (P.set p { s with key := some k }) = P.set p { s with key := some k, bs := s.bs } from rfl, cellsH_set_key sz P p s (some k) s.bs hs]
    exact hc2
  · have : ∃ t0, P[j]? = some t0 ∧ t.A = t0.A ∧ t.c = t0.c ∧ t.bs = t0.bs := by
      rcases set_at ht with ⟨rfl, rfl, _⟩ | ⟨_, ht⟩
      · exact ⟨s, hs, rfl, rfl, rfl⟩
      · exact ⟨t, ht, rfl, rfl, rfl⟩
    obtain ⟨t0, h1, h2, h3, h4⟩ := this
    rw [h2, h3, h4]
    exact owns_kept (h.row j t0 h1) hK2 (fun g hg => by
      have := a5 j t0 h1 g hg
      exact ⟨this.2.1, this.2.2.2, this.2.2.1⟩)
  · rcases hsub g hg with hg | hg
    · exact h.low g hg
    · omega
  · intro j m t u ht hu hjm g hg
    have hlt : ∀ (j : Nat) (t : HS), (P.set p { s with key := some k })[j]? = some t → ∃ t0, P[j]? = some t0 ∧ t.sl sz = t0.sl sz := fun j t ht => by
      have hl : j < P.length := hA.1 ▸ (List.getElem?_eq_some_iff.1 ht).1
      obtain ⟨h1, h2⟩ := hA.2 j t _ ht (List.getElem?_eq_getElem hl)
      exact ⟨P[j], List.getElem?_eq_getElem hl, by unfold HS.sl; rw [h1, h2]⟩
    obtain ⟨t0, h1, h2⟩ := hlt j t ht
    obtain ⟨u0, h3, h4⟩ := hlt m u hu
    rw [h2] at hg
    rw [h4]
    exact h.sep j m t0 u0 h1 h3 hjm g hg
end
/-- What stands in the slots while a key is added. -/
def TAdd (b cb e sz p : Nat) (L : List LK) (P : List HS) (k : List UInt8) (w0 : World) (j : Nat) (σ : Nat → Value) (W : World) : Prop :=
  match j with
  | 0 => σ 0 = .pointer (some ⟨b, 0, none⟩)
  | 1 => σ 1 = .pointer (some ⟨b, 0, none⟩)
  | 2 => σ 2 = .pointer (some ⟨b, 3, none⟩)
  | 3 => σ 3 = .agg #[.pointer (some ⟨e, 0, none⟩)]
  | 4 => σ 4 = encStr k
  | 5 => σ 5 = .pointer (some ⟨b, 0, none⟩)
  | 6 => σ 6 = .pointer (some ⟨b, 0, none⟩)
  | 7 => σ 7 = .pointer (some ⟨b, 4, none⟩)
  | 8 => σ 8 = .int .i64 p
  | 9 => σ 9 = .agg #[encStr k, .int .i64 p]
  | 10 => ∃ x, σ 10 = .pointer (some ⟨x, 0, none⟩) ∧ AddT cb e sz p L P k x w0 W
  | 11 => ∃ x, σ 11 = .pointer (some ⟨x, 0, none⟩) ∧ AddT cb e sz p L P k x w0 W
  | _ => True
theorem TAdd.other {b cb e sz p : Nat} {L : List LK} {P : List HS} {k : List UInt8} {w0 : World} {j : Nat} {σ : Nat → Value} {W W' : World} (h : TAdd b cb e sz p L P k w0 j σ W) (h1 : j ≠ 10) (h2 : j ≠ 11) : TAdd b cb e sz p L P k w0 j σ W' := by
  unfold TAdd at h ⊢
  split at h <;> first
    | exact h
    | exact absurd rfl h1
    | exact absurd rfl h2
/-- What the world is meanwhile. -/
def GAdd (cb b e sz p : Nat) (P : List HS) (w0 : World) (D : Nat → Bool) (W : World) : Prop :=
  (W.cell? ⟨b, 3, none⟩ = some (.pointer (some ⟨e, 0, none⟩))) ∧ (D 10 = true ∨ (D 8 = true ∧ TakeT cb sz p P w0 W) ∨ (D 8 = false ∧ Below w0.heap.size w0 W))
theorem GAdd.same {cb b e sz p i : Nat} {P : List HS} {w0 : World} {D : Nat → Bool} {W : World} (h : GAdd cb b e sz p P w0 D W) (h1 : i ≠ 8) (h2 : i ≠ 10) : GAdd cb b e sz p P w0 (fun j => D j || j == i) W := by
  unfold GAdd at h ⊢
  simp only [or_same h1, or_same h2]
  exact h
theorem nyet {ops : Array Oper} {L : Nat → Bool} (hcl : ∀ j oj, L j = true → ops[j]? = some oj → ∀ k, hangs oj k = true → L k = true) {i j : Nat} {oj : Oper} (hi : L i = false) (hj : ops[j]? = some oj) (hh : hangs oj i = true) : L j = false := by
  cases h : L j with
  | false => rfl
  | true => rw [hcl j oj h hj i hh] at hi; cases hi
theorem room_free {ks : Nat} {L : List LK} {P : List HS} (h : Fits ks (roomL L P) (roomP L P)) (hle : L.length ≤ P.length) (hP : 1 ≤ P.length) : ∃ p s, freeK (roomP L P) = some p ∧ (roomP L P)[p]? = some s := by
  have hpl : (roomP L P).length = P.length := by unfold roomP; split <;> simp [dropK_len]
  have hll : (roomL L P).length ≠ P.length := by
    unfold roomL
    split
    · rename_i hf
      have := List.length_eraseIdx_of_lt (show 0 < L.length by omega)
      omega
    · assumption
  have h2 := h.full
  rw [hpl] at h2
  cases hf : freeK (roomP L P) with
  | none => exact absurd (h2.2 hf) hll
  | some p =>
    obtain ⟨s, hs, _⟩ := freeK_some hf
    exact ⟨p, s, rfl, hs⟩
theorem room_sub {L : List LK} {P : List HS} : ∀ r ∈ roomL L P, r ∈ L := fun r hr => by
  unfold roomL at hr
  split at hr
  · exact List.mem_of_mem_eraseIdx hr
  · exact hr
set_option maxRecDepth 100000 in
set_option maxHeartbeats 2000000 in
theorem add_any (B b mb cb e ks sz : Nat) (L : List LK) (P : List HS) (k : List UInt8) (w : World) (h : Lru w B b mb cb e ks sz L P) (hf : findL L k = none) (hk : k.length = ks) :
    Calls Try.prog 46 #[.pointer (some ⟨b, 0, none⟩), encStr k] w fun en w' => ∃ x p s, en = .returned (.pointer (some ⟨x, 0, none⟩)) ∧ freeK (roomP L P) = some p ∧ (roomP L P)[p]? = some s ∧ LGo B b mb cb e ks sz L P (roomL L P ++ [⟨x, k, p⟩]) ((roomP L P).set p { s with key := some k }) w w' := by
  have HRO := hide (room_any B b mb cb e ks sz L P w h)
  have hle := full_lt h.fit
  have hmany := h.many.1
  have hf2 : findL (roomL L P) k = none := findL_no fun r hr => findL_none hf r (room_sub r hr)
  have HF2 := hide hf2
  have HK := hide hk
  clear h hf hf2 hk
  have hET : ∀ args (W : World), (callFunc 60 args).run Try.prog W = .ok (.enter 60 args) W := by intro args W; kernel_rfl
  have hEA : ∀ args (W : World), (callFunc 59 args).run Try.prog W = .ok (.enter 59 args) W := by intro args W; kernel_rfl
  go_enter Try.func46, Try.ntmps46
  go_wp2_with fail
  refine HRO.out.mono ?_
  rintro en w1 ⟨rfl, hl, hk1, hsub⟩
  obtain ⟨p, s, hp, hs⟩ := room_free hl.fit hle hmany
  have HG0 : Hid (LGo B b mb cb e ks sz L P (roomL L P) (roomP L P) w w1) := hide ⟨hl, hk1, fun g hg => .inl (hsub g hg)⟩
  clear hle hmany
  obtain ⟨R, hR⟩ : ∃ R, R = roomL L P := ⟨_, rfl⟩
  obtain ⟨Q, hQ⟩ : ∃ Q, Q = roomP L P := ⟨_, rfl⟩
  rw [← hR, ← hQ] at hl HG0
  rw [← hR] at HF2
  rw [← hQ] at hp hs
  have HRR := hide hR
  have HQQ := hide hQ
  have HL := hide hl
  have HF := hide hp
  have HS := hide hs
  clear hl hk1 hsub hp hs hR hQ
  go_wp2_with fail
  rename_i K hK
  refine wp_tells4 (by kernel_rfl) (TAdd b cb e sz p R Q k w1) (GAdd cb b e sz p Q w1) (by kernel_rfl) (by kernel_rfl) (by kernel_rfl) (by kernel_rfl) ?_ ?_ ?_ ?_
  · intro q oj σ σ' W hj h hs
    have hi : q < 12 := (Array.getElem?_eq_some_iff.1 hj).1
    have h0 := hs q (.inl rfl)
    have hi' : q = 0 ∨ q = 1 ∨ q = 2 ∨ q = 3 ∨ q = 4 ∨ q = 5 ∨ q = 6 ∨ q = 7 ∨ q = 8 ∨ q = 9 ∨ q = 10 ∨ q = 11 := by omega
    rcases hi' with rfl | rfl | rfl | rfl | rfl | rfl | rfl | rfl | rfl | rfl | rfl | rfl
    all_goals (simp only [TAdd] at h ⊢; rw [h0]; exact h)
  · exact ⟨HL.out.c3, .inr (.inr ⟨rfl, (Below.refl _ _).drew⟩)⟩
  · intro q o ho L a W hi hG hold hT hcl hh
    have hi2 : q < 12 := (Array.getElem?_eq_some_iff.1 ho).1
    have hi' : q = 0 ∨ q = 1 ∨ q = 2 ∨ q = 3 ∨ q = 4 ∨ q = 5 ∨ q = 6 ∨ q = 7 ∨ q = 8 ∨ q = 9 ∨ q = 10 ∨ q = 11 := by omega
    rcases hi' with rfl | rfl | rfl | rfl | rfl | rfl | rfl | rfl | rfl | rfl | rfl | rfl
    · cases ho
      refine step4_told (.pointer (some ⟨b, 0, none⟩)) ?_ (by decide) (hG.same (by decide) (by decide)) hT rfl
      have e0 : a.eval (.tmp 0) = .pointer (some ⟨b, 0, none⟩) := hold 0 (unyet_of (by kernel_rfl))
      generalize a.eval = ev at e0 ⊢
      simp [execOp, go_sem, e0]
    · cases ho
      refine step4_told (.pointer (some ⟨b, 0, none⟩)) ?_ (by decide) (hG.same (by decide) (by decide)) hT rfl
      have e0 : a.eval (.tmp 8) = .pointer (some ⟨b, 0, none⟩) := hT 0 (hh 0 rfl)
      generalize a.eval = ev at e0 ⊢
      simp [execOp, go_sem, e0]
    · cases ho
      refine step4_told (.pointer (some ⟨b, 3, none⟩)) ?_ (by decide) (hG.same (by decide) (by decide)) hT rfl
      have e0 : a.eval (.tmp 9) = .pointer (some ⟨b, 0, none⟩) := hT 1 (hh 1 rfl)
      generalize a.eval = ev at e0 ⊢
      simp [execOp, go_sem, e0]
    · cases ho
      have c3 := hG.1
      refine step4_told (.agg #[.pointer (some ⟨e, 0, none⟩)]) ?_ (by decide) (hG.same (by decide) (by decide)) hT rfl
      have e0 : a.eval (.tmp 10) = .pointer (some ⟨b, 3, none⟩) := hT 2 (hh 2 rfl)
      generalize a.eval = ev at e0 ⊢
      simp [execOp, go_sem, e0, c3]
    · cases ho
      refine step4_told (encStr k) ?_ (by decide) (hG.same (by decide) (by decide)) hT rfl
      have e0 : a.eval (.tmp 1) = encStr k := hold 1 (unyet_of (by kernel_rfl))
      generalize a.eval = ev at e0 ⊢
      simp [execOp, go_sem, e0]
    · cases ho
      refine step4_told (.pointer (some ⟨b, 0, none⟩)) ?_ (by decide) (hG.same (by decide) (by decide)) hT rfl
      have e0 : a.eval (.tmp 0) = .pointer (some ⟨b, 0, none⟩) := hold 0 (unyet_of (by kernel_rfl))
      generalize a.eval = ev at e0 ⊢
      simp [execOp, go_sem, e0]
    · cases ho
      refine step4_told (.pointer (some ⟨b, 0, none⟩)) ?_ (by decide) (hG.same (by decide) (by decide)) hT rfl
      have e0 : a.eval (.tmp 13) = .pointer (some ⟨b, 0, none⟩) := hT 5 (hh 5 rfl)
      generalize a.eval = ev at e0 ⊢
      simp [execOp, go_sem, e0]
    · cases ho
      refine step4_told (.pointer (some ⟨b, 4, none⟩)) ?_ (by decide) (hG.same (by decide) (by decide)) hT rfl
      have e0 : a.eval (.tmp 14) = .pointer (some ⟨b, 0, none⟩) := hT 6 (hh 6 rfl)
      generalize a.eval = ev at e0 ⊢
      simp [execOp, go_sem, e0]
    · cases ho
      have n9 := nyet hcl hi (j := 9) rfl rfl
      have n10 := nyet hcl n9 (j := 10) rfl rfl
      have n11 := nyet hcl n10 (j := 11) rfl rfl
      obtain ⟨g0, g1⟩ := hG
      have hbw : Below w1.heap.size w1 W := by
        rcases g1 with g1 | ⟨g1, _⟩ | ⟨_, g1⟩
        · rw [n10] at g1; cases g1
        · rw [hi] at g1; cases g1
        · exact g1
      have e0 : a.eval (.tmp 15) = .pointer (some ⟨b, 4, none⟩) := hT 7 (hh 7 rfl)
      refine step4_called (R := fun u W' => u = .int .i64 (p : Int) ∧ TakeT cb sz p Q w1 W') ?_ (by decide) ((take_any B b mb cb e ks sz p R Q W (HL.out.below hbw) HF.out).mono ?_) ?_
      · have ef : a.eval (.func 60) = .func (.func 60) #[] #[] := rfl
        generalize a.eval = ev at e0 ef ⊢
        simp [execOp, go_sem, e0, ef, hET]
      · rintro en W' ⟨h1, w3, h2, rfl⟩
        exact ⟨_, h1, rfl, take_told HL.out HS.out (hbw.trans (h2.mono hbw.size))⟩
      · rintro u W' ⟨rfl, h2⟩
        refine ⟨⟨?_, .inr (.inl ⟨by simp, h2⟩)⟩, fun j hj => (hT j hj).other (fun e2 => by rw [e2, n10] at hj; cases hj) (fun e2 => by rw [e2, n11] at hj; cases hj), rfl⟩
        rw [blk_cell ((h2.2.block b (at_lt HL.out.blk) HL.out.apart.1).trans HL.out.blk)]; rfl
    · cases ho
      refine step4_told (.agg #[encStr k, .int .i64 (p : Int)]) ?_ (by decide) (hG.same (by decide) (by decide)) hT rfl
      have e0 : a.eval (.tmp 12) = encStr k := hT 4 (hh 4 rfl)
      have e1 : a.eval (.tmp 16) = .int .i64 (p : Int) := hT 8 (hh 8 rfl)
      generalize a.eval = ev at e0 e1 ⊢
      simp [execOp, go_sem, e0, e1]
    · cases ho
      have n11 := nyet hcl hi (j := 11) rfl rfl
      have y9 := hh 9 rfl
      have y8 := hcl 9 _ y9 rfl 8 rfl
      obtain ⟨g0, g1⟩ := hG
      have ht : TakeT cb sz p Q w1 W := by
        rcases g1 with g1 | ⟨_, g1⟩ | ⟨g1, _⟩
        · rw [hi] at g1; cases g1
        · exact g1
        · rw [y8] at g1; cases g1
      have e0 : a.eval (.tmp 11) = .agg #[.pointer (some ⟨e, 0, none⟩)] := hT 3 (hh 3 rfl)
      have e1 : a.eval (.tmp 17) = .agg #[encStr k, .int .i64 (p : Int)] := hT 9 y9
      refine step4_called (R := fun u W' => ∃ x, u = .pointer (some ⟨x, 0, none⟩) ∧ AddT cb e sz p R Q k x w1 W') ?_ (by decide) ((cadd_any e p k R W (TakeT.ring HL.out ht)).mono ?_) ?_
      · have ef : a.eval (.func 59) = .func (.func 59) #[] #[] := rfl
        generalize a.eval = ev at e0 e1 ef ⊢
        simp [execOp, go_sem, e0, e1, ef, hEA]
      · rintro en W' ⟨x, h1, h2, h3, h4⟩
        have hnc : cb ∉ e :: R.map LK.g := fun hh2 => (HL.out.apart.2.2.2.1 cb hh2).2.1 rfl
        exact ⟨_, h1, x, rfl, Nat.le_trans ht.2.size h2, h3, (h4.block cb (at_lt ht.1) hnc).trans ht.1, keptTrans (ht.2.mono (fun g hg => hg.1)) (h4.mono (fun g hg => hg.2))⟩
      · rintro u W' ⟨x, rfl, h2⟩
        refine ⟨⟨?_, .inl (by simp)⟩, fun j hj => (hT j hj).other (fun e2 => by rw [e2, hi] at hj; cases hj) (fun e2 => by rw [e2, n11] at hj; cases hj), x, rfl, h2⟩
        have hnb : b ∉ e :: R.map LK.g := fun hh2 => (HL.out.apart.2.2.2.1 b hh2).1 rfl
        rw [blk_cell ((h2.2.2.2.block b (at_lt HL.out.blk) ⟨HL.out.apart.1, hnb⟩).trans HL.out.blk)]; rfl
    · cases ho
      obtain ⟨x, e0, h2⟩ : ∃ x, a.eval (.tmp 18) = .pointer (some ⟨x, 0, none⟩) ∧ AddT cb e sz p R Q k x w1 W := hT 10 (hh 10 rfl)
      refine step4_told (.pointer (some ⟨x, 0, none⟩)) ?_ (by decide) (hG.same (by decide) (by decide)) hT ⟨x, rfl, h2⟩
      generalize a.eval = ev at e0 ⊢
      simp [execOp, go_sem, e0]
  · intro a W hd hs hold hT hG
    obtain ⟨x, e5, hadd⟩ : ∃ x, a.tmps.getD 5 undef = .pointer (some ⟨x, 0, none⟩) ∧ AddT cb e sz p R Q k x w1 W := hT 11 (by decide)
    obtain ⟨f, hf, ha⟩ := act_puts [8, 9, 10, 11, 12, 13, 14, 15, 16, 17, 18, 5] (fun t ht => by
      by_cases h : t ∈ [8, 9, 10, 11, 12, 13, 14, 15, 16, 17, 18, 5]
      · exact h
      · exfalso
        simp [unwritten] at ht
        simp only [List.mem_cons, not_or] at h
        obtain ⟨h0, h1, h2, h3, h4, h5, h6, h7, h8, h9, h10, h11, _⟩ := h
        exact absurd (ht (fun e => h0 e.symm) (fun e => h1 e.symm) (fun e => h2 e.symm) (fun e => h3 e.symm) (fun e => h4 e.symm) (fun e => h5 e.symm) (fun e => h6 e.symm) (fun e => h7 e.symm) (fun e => h8 e.symm) (fun e => h9 e.symm) (fun e => h10 e.symm)) (fun e => h11 e.symm)) (fun t ht => by
      have hsz : t < 26 := by
        simp only [List.mem_cons, List.mem_nil_iff, or_false] at ht
        omega
      exact hsz) hd hs hold
    rw [← hf 5] at e5
    obtain ⟨w3, g1, g2⟩ := HL.out.added HF2.out HF.out HS.out HK.out hadd
    have c2 : W.cell? ⟨b, 2, none⟩ = some (.map (some mb)) := by
      have hnb : b ∉ e :: R.map LK.g := fun hh2 => (HL.out.apart.2.2.2.1 b hh2).1 rfl
      rw [blk_cell ((hadd.2.2.2.block b (at_lt HL.out.blk) ⟨HL.out.apart.1, hnb⟩).trans HL.out.blk)]; rfl
    have HG := hide (HG0.out.trans g2)
    subst ha
    clear hd hs hold hT hf hG hadd g2
    show K _ _
    refine hK _ _ ?_
    clear hK
    simp only [List.foldl_cons, List.foldl_nil, e5]
    obtain ⟨u8, hu8⟩ : ∃ u, u = f 8 := ⟨_, rfl⟩
    obtain ⟨u9, hu9⟩ : ∃ u, u = f 9 := ⟨_, rfl⟩
    obtain ⟨u10, hu10⟩ : ∃ u, u = f 10 := ⟨_, rfl⟩
    obtain ⟨u11, hu11⟩ : ∃ u, u = f 11 := ⟨_, rfl⟩
    obtain ⟨u12, hu12⟩ : ∃ u, u = f 12 := ⟨_, rfl⟩
    obtain ⟨u13, hu13⟩ : ∃ u, u = f 13 := ⟨_, rfl⟩
    obtain ⟨u14, hu14⟩ : ∃ u, u = f 14 := ⟨_, rfl⟩
    obtain ⟨u15, hu15⟩ : ∃ u, u = f 15 := ⟨_, rfl⟩
    obtain ⟨u16, hu16⟩ : ∃ u, u = f 16 := ⟨_, rfl⟩
    obtain ⟨u17, hu17⟩ : ∃ u, u = f 17 := ⟨_, rfl⟩
    obtain ⟨u18, hu18⟩ : ∃ u, u = f 18 := ⟨_, rfl⟩
    rw [← hu8, ← hu9, ← hu10, ← hu11, ← hu12, ← hu13, ← hu14, ← hu15, ← hu16, ← hu17, ← hu18]
    clear hu8 hu9 hu10 hu11 hu12 hu13 hu14 hu15 hu16 hu17 hu18 e5
    go_simp
    obtain ⟨kv, hkv⟩ : ∃ kv, kv = encStr k := ⟨_, rfl⟩
    rw [← hkv] at g1 ⊢
    clear hkv
    go_wp2
    go_ret
    exact ⟨x, p, s, rfl, by rw [← HQQ.out]; exact HF.out, by rw [← HQQ.out]; exact HS.out, by rw [← HRR.out, ← HQQ.out]; exact HG.out⟩
end Go.Proofs.Ytihhbpadafgkoaa
