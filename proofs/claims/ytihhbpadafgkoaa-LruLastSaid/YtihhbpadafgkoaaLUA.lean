/-
  Room is made: the eldest key goes, if no place is free.
-/
import Derived.Test.YtihhbpadafgkoaaLU9
import Derived.Test.YtihhbpadafgkoaaRTI
import Derived.Test.YtihhbpadafgkoaaAP4
import Derived.RangeFuncNested
import Derived.RangeFuncBox
namespace Go.Proofs.Ytihhbpadafgkoaa
open Go.RowKit Go.Maps
set_option linter.unusedVariables false
set_option linter.unusedSimpArgs false
attribute [local go_sem] Oper.semAt_some

def roomL (L : List LK) (P : List HS) : List LK := if L.length = P.length then L.eraseIdx 0 else L
def roomP (L : List LK) (P : List HS) : List HS := if L.length = P.length then dropK P ((L[0]?.map LK.p).getD 0) else P
/-- What stands of an lru behind the loop's rounds so far. -/
def Rm (B b mb cb e ks sz : Nat) (L : List LK) (P : List HS) (L' : List LK) (P' : List HS) (w W : World) : Prop :=
  Lru W B b mb cb e ks sz L' P' ∧ Kept (fun g => ¬ OfU b mb cb e sz L P g) w W ∧ ∀ g, OfU b mb cb e sz L' P' g → OfU b mb cb e sz L P g
theorem stays_kept {n : Nat} {X Y : World} (hst : Stays n X Y) : Kept (fun g => g < n) X Y :=
  ⟨hst.os, hst.tape, hst.output, hst.size, fun i hi hF => by
    have h6 : X.heap[i]? = some X.heap[i] := Array.getElem?_eq_getElem hi
    rw [h6]
    exact hst.same _ _ h6 (.inl hF)⟩
theorem kept_stays {n : Nat} {F : Nat → Prop} {w X Y : World} (h : Kept F w X) (hn : w.heap.size ≤ n) (hst : Stays n X Y) : Kept F w Y := by
  have h2 := stays_kept hst
  exact ⟨h2.os.trans h.os, h2.tape.trans h.tape, h2.output.trans h.output, Nat.le_trans h.size h2.size, fun k hk hF => (h2.block k (Nat.lt_of_lt_of_le hk h.size) (by omega)).trans (h.block k hk hF)⟩
theorem Rm.stays {n B b mb cb e ks sz : Nat} {L L' : List LK} {P P' : List HS} {w X Y : World} (h : Rm B b mb cb e ks sz L P L' P' w X) (hlt : ∀ g, OfU b mb cb e sz L P g → g < w.heap.size) (hn : w.heap.size ≤ n) (hst : Stays n X Y) : Rm B b mb cb e ks sz L P L' P' w Y :=
  ⟨h.1.kept (stays_kept hst) (fun g hg => by have := hlt g (h.2.2 g hg); omega), kept_stays h.2.1 hn hst, h.2.2⟩
theorem full_lt {ks : Nat} {L : List LK} {P : List HS} (h : Fits ks L P) : L.length ≤ P.length := by rw [← h.cnt]; exact takenK_le P
set_option maxRecDepth 100000 in
set_option maxHeartbeats 2000000 in
theorem room_any (B b mb cb e ks sz : Nat) (L : List LK) (P : List HS) (w : World) (h : Lru w B b mb cb e ks sz L P) :
    Calls Try.prog 58 #[.pointer (some ⟨b, 0, none⟩)] w fun en w' => en = .returned (.tuple #[]) ∧ Rm B b mb cb e ks sz L P (roomL L P) (roomP L P) w w' := by
  have hlen := h.many.2
  have hle := full_lt h.fit
  refine (callsIn_wide (n := 3)).1 ?_
  refine callsIn_of_wp_marks Try.func58 rfl trivial ?_ rfl
  simp only [Try.ntmps58, List.size_toArray, List.length_cons, List.length_nil, Nat.reduceAdd, Nat.reduceSub, Array.replicate_succ, Array.replicate_zero, List.push_toArray, List.append_toArray, List.nil_append, List.cons_append]
  have hb1 := below1 w (.cells #[.pointer (some ⟨b, 0, none⟩)] 28)
  have hx1 := World.alloc_heap_new w (.cells #[.pointer (some ⟨b, 0, none⟩)] 28)
  have hz1 : (w.alloc (.cells #[.pointer (some ⟨b, 0, none⟩)] 28)).heap.size = w.heap.size + 1 := by simp
  have h1 := h.below hb1
  have c3 := h1.c3
  have kx : (w.alloc (.cells #[.pointer (some ⟨b, 0, none⟩)] 28)).cell? ⟨w.heap.size, 0, none⟩ = some (.pointer (some ⟨b, 0, none⟩)) := (blk_cell hx1 0).trans rfl
  have H1 := hide h1
  have HX1 := hide hx1
  have HB1 := hide hb1
  have HH := hide h
  clear h h1 hx1 hb1
  gi_wp2_with fail
  refine ⟨trivial, (callsIn_wide.2 (links_any _ _)).mono ?_⟩
  rintro en w2 ⟨rfl, rfl⟩
  have hb2 := below1 (w.alloc (.cells #[.pointer (some ⟨b, 0, none⟩)] 28)) (.cells #[.pointer (some ⟨e, 0, none⟩)] 56)
  have hx2 := World.alloc_heap_new (w.alloc (.cells #[.pointer (some ⟨b, 0, none⟩)] 28)) (.cells #[.pointer (some ⟨e, 0, none⟩)] 56)
  rw [hz1] at hx2 hb2
  clear c3 kx
  gi_wp2_with fail
  generalize (w.alloc (.cells #[.pointer (some ⟨b, 0, none⟩)] 28)).alloc (.cells #[.pointer (some ⟨e, 0, none⟩)] 56) = W0 at *
  have hbw : Below w.heap.size w W0 := HB1.out.trans (hb2.mono (by omega))
  have hbx : W0.heap[w.heap.size]? = some (.cells #[.pointer (some ⟨b, 0, none⟩)] 28 (0, 0)) := (hb2.block _ (by omega)).trans HX1.out
  have hz0 : w.heap.size + 1 < W0.heap.size := at_lt hx2
  obtain ⟨nx, pv, hring⟩ := (HH.out.below hbw).ring
  have HLT : Hid (∀ g, OfU b mb cb e sz L P g → g < w.heap.size) := hide HH.out.lt
  have HRI := hide hring
  have HX2 := hide hx2
  have HBX := hide hbx
  have HBW := hide hbw
  have hst0 : Rm B b mb cb e ks sz L P L P w W0 := ⟨HH.out.below hbw, Kept.of_below hbw, fun g hg => hg⟩
  have HFU : Hid (Fits ks L P) := hide HH.out.fit
  clear hz1 H1 HX1 HB1 hb2
  refine range_ends (α := LK) (F := Fence.wide) (n := 3) rfl (by omega) (gf := 57) (lb := #[.pointer (some ⟨w.heap.size + 1, 0, none⟩)]) rfl trivial (enters_of Try.func57 (by kernel_rfl) rfl)
    (links_iter (3 - 1) (w.heap.size + 1) e L nx pv W0 hx2 hring (by omega)) (Below.refl _ _)
    (fun h k => h.trans k) (fun X l o o' hl _ h ho => KpL.same (by simp) (fun g c t hg => (World.putObj_heap_other (fun e2 => by rw [e2, h] at hg; injection hg with hg; subst hg; cases ho)).trans hg)) (fun _ => rfl)
    (fun pre W => Boxed W w.heap.size 28 (.pointer (some ⟨b, 0, none⟩)) ∧ ((pre = [] ∧ Rm B b mb cb e ks sz L P L P w W) ∨ (∃ r, pre = [r] ∧ L[0]? = some r ∧ L.length = P.length ∧ Rm B b mb cb e ks sz L P (L.eraseIdx 0) (dropK P r.p) w W)))
    (fun pre W => Rm B b mb cb e ks sz L P (roomL L P) (roomP L P) w W)
    ?_ ?_ ⟨hbx, .inl ⟨rfl, hst0⟩⟩ ?round ?done ?stop
  · rintro s X Y ⟨h1, h2⟩ hst
    refine ⟨hst.boxed h1, ?_⟩
    rcases h2 with ⟨h2, h3⟩ | ⟨r, h2, h3, h4, h5⟩
    · exact .inl ⟨h2, h3.stays HLT.out (by omega) hst⟩
    · exact .inr ⟨r, h2, h3, h4, h5.stays HLT.out (by omega) hst⟩
  · rintro s X Y h1 hst
    exact h1.stays HLT.out (by omega) hst
  case round =>
    rintro lp pre x W hle2 hloop hws ⟨h1, h2⟩ ⟨j, hpre, hx⟩
    have H1 := hide h1
    have H2 := hide h2
    have HP := hide hpre
    have HX := hide hx
    have HL := hide hloop
    clear h1 h2 hpre hx hloop hst0 hx2 hbx hbw hring
    gi_wp2
    refine ⟨KeepsFrom.refl _ _, KpL.same (Nat.le_refl _) (fun _ _ _ h => h), ⟨H1.out, H2.out⟩, fun W2 hst => ?_⟩
    have b1 := hst.boxed H1.out
    have c0 := b1.cell
    have HST := hide hst
    obtain ⟨Q, R, hrm, hql, hcase⟩ : ∃ (Q : List LK) (R : List HS), Rm B b mb cb e ks sz L P Q R w W2 ∧ R.length = P.length ∧ ((Q = L ∧ R = P ∧ L[0]? = some x ∧ pre = []) ∨ (∃ r, L[0]? = some r ∧ L.length = P.length ∧ Q = L.eraseIdx 0 ∧ R = dropK P r.p)) := by
      rcases H2.out with ⟨hp, hrm⟩ | ⟨r0, hp, hr0, hfull, hrm⟩
      · have hj : j = 0 := by
          have h1 := HP.out
          rw [hp] at h1
          have h2 := congrArg List.length h1
          have h3 := (List.getElem?_eq_some_iff.1 HX.out).1
          simp at h2
          omega
        exact ⟨L, P, hrm.stays HLT.out (by omega) hst, rfl, .inl ⟨rfl, rfl, by rw [← hj]; exact HX.out, hp⟩⟩
      · exact ⟨_, _, hrm.stays HLT.out (by omega) hst, dropK_len _ _, .inr ⟨r0, hr0, hfull, rfl, rfl⟩⟩
    have HRM := hide hrm
    have HCS := hide hcase
    have HQL := hide hql
    have HC0 := hide (show W2.drew.cell? ⟨w.heap.size, 0, none⟩ = some (.pointer (some ⟨b, 0, none⟩)) from c0)
    have HC2 := hide (show W2.drew.cell? ⟨b, 2, none⟩ = some (.map (some mb)) from hrm.1.c2)
    have HC5 := hide (show W2.drew.cell? ⟨b, 5, none⟩ = some (.slice (some ⟨cb, 0, none⟩) P.length P.length) from by have := hrm.1.c5; rw [hql] at this; exact this)
    have HLN := hide ((hrm.1.below (Below.refl _ _).drew).map.len Try.underlying53 3)
    obtain ⟨dd, hdd⟩ : ∃ dd, dd = decide ((Q.length : Int) < (P.length : Int)) := ⟨_, rfl⟩
    have HDN : Hid (decide (Q.length < P.length) = dd) := hide (by rw [hdd]; simp)
    have HDD : Hid (decide ((Q.length : Int) < (P.length : Int)) = dd) := hide hdd.symm
    have HB1 := hide b1
    clear hrm hcase hql c0 hdd b1 hst
    gi_wp2
    rename_i K hK
    refine wpIn_static (fun _ => trivial) (by kernel_rfl) (fun i => ([.pointer (some ⟨b, 0, none⟩), .pointer (some ⟨b, 0, none⟩), .pointer (some ⟨b, 2, none⟩), .map (some mb), .int .i64 (Q.length : Int), .pointer (some ⟨b, 0, none⟩), .pointer (some ⟨b, 0, none⟩), .pointer (some ⟨b, 4, none⟩), .pointer (some ⟨b, 5, none⟩), .slice (some ⟨cb, 0, none⟩) P.length P.length, .int .i64 (P.length : Int), .bool dd] : List Value).getD i undef) (fun W => W = W2.drew) (by kernel_rfl) (by kernel_rfl) (by kernel_rfl) (by kernel_rfl) (by kernel_rfl) ?_ ?_ rfl ?_ ?_
    · intro i o jj bb ho hg
      have hi : i < 12 := (Array.getElem?_eq_some_iff.1 ho).1
      have hi' : i = 0 ∨ i = 1 ∨ i = 2 ∨ i = 3 ∨ i = 4 ∨ i = 5 ∨ i = 6 ∨ i = 7 ∨ i = 8 ∨ i = 9 ∨ i = 10 ∨ i = 11 := by omega
      rcases hi' with rfl | rfl | rfl | rfl | rfl | rfl | rfl | rfl | rfl | rfl | rfl | rfl <;> (cases ho; cases hg)
    · intro i o ho hg
      have hi : i < 12 := (Array.getElem?_eq_some_iff.1 ho).1
      have hi' : i = 0 ∨ i = 1 ∨ i = 2 ∨ i = 3 ∨ i = 4 ∨ i = 5 ∨ i = 6 ∨ i = 7 ∨ i = 8 ∨ i = 9 ∨ i = 10 ∨ i = 11 := by omega
      rcases hi' with rfl | rfl | rfl | rfl | rfl | rfl | rfl | rfl | rfl | rfl | rfl | rfl <;> (cases ho; exact Bool.noConfusion (show true = false from hg))
    · intro i o ho hg a W3 hG hold hh
      have hi : i < 12 := (Array.getElem?_eq_some_iff.1 ho).1
      have hi' : i = 0 ∨ i = 1 ∨ i = 2 ∨ i = 3 ∨ i = 4 ∨ i = 5 ∨ i = 6 ∨ i = 7 ∨ i = 8 ∨ i = 9 ∨ i = 10 ∨ i = 11 := by omega
      subst hG
      rcases hi' with rfl | rfl | rfl | rfl | rfl | rfl | rfl | rfl | rfl | rfl | rfl | rfl
      · cases ho
        refine static_told ?_ rfl
        have e0 : a.eval (.tmp 1) = .pointer (some ⟨w.heap.size, 0, none⟩) := hold 1 (by kernel_rfl)
        have xHC0 := HC0.out
        generalize a.eval = ev at e0 ⊢
        simp [Oper.semAt_some, execOp, go_sem, e0, xHC0]
      · cases ho
        refine static_told ?_ rfl
        have e0 : a.eval (.tmp 9) = .pointer (some ⟨b, 0, none⟩) := hh 0 rfl
        generalize a.eval = ev at e0 ⊢
        simp [Oper.semAt_some, execOp, go_sem, e0]
      · cases ho
        refine static_told ?_ rfl
        have e0 : a.eval (.tmp 10) = .pointer (some ⟨b, 0, none⟩) := hh 1 rfl
        generalize a.eval = ev at e0 ⊢
        simp [Oper.semAt_some, execOp, go_sem, e0]
      · cases ho
        refine static_told ?_ rfl
        have e0 : a.eval (.tmp 11) = .pointer (some ⟨b, 2, none⟩) := hh 2 rfl
        have xHC2 := HC2.out
        generalize a.eval = ev at e0 ⊢
        simp [Oper.semAt_some, execOp, go_sem, e0, xHC2]
      · cases ho
        refine static_told ?_ rfl
        have e0 : a.eval (.tmp 12) = .map (some mb) := hh 3 rfl
        have xHLN := HLN.out
        generalize a.eval = ev at e0 ⊢
        simp [Oper.semAt_some, execOp, go_sem, e0, xHLN]
      · cases ho
        refine static_told ?_ rfl
        have e0 : a.eval (.tmp 1) = .pointer (some ⟨w.heap.size, 0, none⟩) := hold 1 (by kernel_rfl)
        have xHC0 := HC0.out
        generalize a.eval = ev at e0 ⊢
        simp [Oper.semAt_some, execOp, go_sem, e0, xHC0]
      · cases ho
        refine static_told ?_ rfl
        have e0 : a.eval (.tmp 14) = .pointer (some ⟨b, 0, none⟩) := hh 5 rfl
        generalize a.eval = ev at e0 ⊢
        simp [Oper.semAt_some, execOp, go_sem, e0]
      · cases ho
        refine static_told ?_ rfl
        have e0 : a.eval (.tmp 15) = .pointer (some ⟨b, 0, none⟩) := hh 6 rfl
        generalize a.eval = ev at e0 ⊢
        simp [Oper.semAt_some, execOp, go_sem, e0]
      · cases ho
        refine static_told ?_ rfl
        have e0 : a.eval (.tmp 16) = .pointer (some ⟨b, 4, none⟩) := hh 7 rfl
        generalize a.eval = ev at e0 ⊢
        simp [Oper.semAt_some, execOp, go_sem, e0]
      · cases ho
        refine static_told ?_ rfl
        have e0 : a.eval (.tmp 17) = .pointer (some ⟨b, 5, none⟩) := hh 8 rfl
        have xHC5 := HC5.out
        generalize a.eval = ev at e0 ⊢
        simp [Oper.semAt_some, execOp, go_sem, e0, xHC5]
      · cases ho
        refine static_told ?_ rfl
        have e0 : a.eval (.tmp 18) = .slice (some ⟨cb, 0, none⟩) P.length P.length := hh 9 rfl
        generalize a.eval = ev at e0 ⊢
        simp [Oper.semAt_some, execOp, go_sem, e0]
      · cases ho
        refine static_told ?_ rfl
        have e0 : a.eval (.tmp 13) = .int .i64 (Q.length : Int) := hh 4 rfl
        have e1 : a.eval (.tmp 19) = .int .i64 (P.length : Int) := hh 10 rfl
        generalize a.eval = ev at e0 e1 ⊢
        simp [Oper.semAt_some, execOp, go_sem, e0, e1]
        exact HDN.out
    · intro a W3 hd hs hold hh hG
      subst hG
      have e20 : a.tmps.getD 20 undef = .bool dd := hh 11 (by decide)
      obtain ⟨f, hf, ha⟩ := act_puts [9, 10, 11, 12, 13, 14, 15, 16, 17, 18, 19, 20] (fun t ht => by
        by_cases h : t ∈ [9, 10, 11, 12, 13, 14, 15, 16, 17, 18, 19, 20]
        · exact h
        · exfalso
          simp [unwritten] at ht
          simp only [List.mem_cons, not_or] at h
          obtain ⟨h0, h1, h2, h3, h4, h5, h6, h7, h8, h9, h10, h11, _⟩ := h
          exact absurd (ht (fun e => h0 e.symm) (fun e => h1 e.symm) (fun e => h2 e.symm) (fun e => h3 e.symm) (fun e => h4 e.symm) (fun e => h5 e.symm) (fun e => h6 e.symm) (fun e => h7 e.symm) (fun e => h8 e.symm) (fun e => h9 e.symm) (fun e => h10 e.symm)) (fun e => h11 e.symm)) (fun t ht => by
        have hsz : t < 24 := by
          simp only [List.mem_cons, List.mem_nil_iff, or_false] at ht
          omega
        exact hsz) hd hs hold
      rw [← hf 20] at e20
      subst ha
      clear hd hs hold hh hf
      show K _ _
      refine hK _ _ ?_
      clear hK
      simp only [List.foldl_cons, List.foldl_nil, e20]
      obtain ⟨u9, hu9⟩ : ∃ u, u = f 9 := ⟨_, rfl⟩
      obtain ⟨u10, hu10⟩ : ∃ u, u = f 10 := ⟨_, rfl⟩
      obtain ⟨u11, hu11⟩ : ∃ u, u = f 11 := ⟨_, rfl⟩
      obtain ⟨u12, hu12⟩ : ∃ u, u = f 12 := ⟨_, rfl⟩
      obtain ⟨u13, hu13⟩ : ∃ u, u = f 13 := ⟨_, rfl⟩
      obtain ⟨u14, hu14⟩ : ∃ u, u = f 14 := ⟨_, rfl⟩
      obtain ⟨u15, hu15⟩ : ∃ u, u = f 15 := ⟨_, rfl⟩
      obtain ⟨u16, hu16⟩ : ∃ u, u = f 16 := ⟨_, rfl⟩
      obtain ⟨u17, hu17⟩ : ∃ u, u = f 17 := ⟨_, rfl⟩
      obtain ⟨u18, hu18⟩ : ∃ u, u = f 18 := ⟨_, rfl⟩
      obtain ⟨u19, hu19⟩ : ∃ u, u = f 19 := ⟨_, rfl⟩
      rw [← hu9, ← hu10, ← hu11, ← hu12, ← hu13, ← hu14, ← hu15, ← hu16, ← hu17, ← hu18, ← hu19]
      clear hu9 hu10 hu11 hu12 hu13 hu14 hu15 hu16 hu17 hu18 hu19 e20
      go_simp
      have c0 : W2.drew.cell? ⟨w.heap.size, 0, none⟩ = some (.pointer (some ⟨b, 0, none⟩)) := HC0.out
      cases dd with
      | true =>
        gi_wp2
        refine ⟨(KeepsOthers.drew W2).from _, ?_⟩
        have hlt : Q.length < P.length := by simpa using HDN.out
        have hrm := HRM.out
        have hst : Rm B b mb cb e ks sz L P Q R w W2.drew := ⟨hrm.1.below (Below.refl _ _).drew, hrm.2.1.drew_, hrm.2.2⟩
        rcases HCS.out with ⟨rfl, rfl, _, _⟩ | ⟨r, hr0, hfull, rfl, rfl⟩
        · have e1 : roomL Q R = Q := by unfold roomL; rw [if_neg (by omega)]
          have e2 : roomP Q R = R := by unfold roomP; rw [if_neg (by omega)]
          show Rm B b mb cb e ks sz Q R (roomL Q R) (roomP Q R) w W2.drew
          rw [e1, e2]
          exact hst
        · have e1 : roomL L P = L.eraseIdx 0 := by unfold roomL; rw [if_pos hfull]
          have e2 : roomP L P = dropK P r.p := by unfold roomP; rw [if_pos hfull, hr0]; rfl
          show Rm B b mb cb e ks sz L P (roomL L P) (roomP L P) w W2.drew
          rw [e1, e2]
          exact hst
      | false =>
        gi_wp2
        have hge : ¬ Q.length < P.length := by simpa using HDN.out
        rcases HCS.out with ⟨rfl, rfl, hx0, hpn⟩ | ⟨r, hr0, hfull, rfl, rfl⟩
        · have hrm := HRM.out
          have hL0 := hrm.1.below (Below.refl _ _).drew
          refine ⟨trivial, (CallsIn.inRound lp (callsIn_wide.2 (drop_any B b mb cb e ks sz 0 Q R x W2.drew hL0 hx0))).mono ?_⟩
          rintro en W4 ⟨rfl, hg, a, ha, hnx⟩
          have hae : a = e := by injection ha with ha; exact ha.symm
          subst hae
          have hfl : Q.length = R.length := by omega
          have hnd := (List.nodup_cons.1 HRI.out.nodup).1
          have hofl : ∀ g, OfU b mb cb a sz (Q.eraseIdx 0) (dropK R x.p) g → OfU b mb cb a sz Q R g := fun g hg => OfU.rows (sameA_dropK R x.p) (OfU.links (fun t ht => List.mem_of_mem_eraseIdx ht) hg)
          have hk4 : Kept (fun g => ¬ OfU b mb cb a sz Q R g) w W4 := keptTrans hrm.2.1.drew_ hg.2.1
          have hbx4 := (hg.2.1.block w.heap.size (at_lt HB1.out) (fun hc => by have := HLT.out _ hc; omega)).trans HB1.out
          have hcx4 : ∀ (c : Array Value) (t : TypeId), W2.heap[w.heap.size + 1]? = some (.cells c t (0, 0)) → W4.heap[w.heap.size + 1]? = some (.cells c t (0, 0)) := fun c t hc => (hg.2.1.block _ (at_lt hc) (fun hc2 => by have := HLT.out _ hc2; omega)).trans hc
          gi_wp2
          have hkf : KeepsFrom W0.heap.size W2 W4 := ⟨hg.2.1.size, fun k o hB hk _ => (hg.2.1.block k (at_lt hk) (fun hc => by have := HLT.out _ hc; omega)).trans hk⟩
          refine ⟨hkf, ⟨hg.2.1.size, hcx4, fun k p q n hl => ?_, fun r hr q n hl => ?_⟩, hbx4, .inr ⟨x, by rw [hpn]; rfl, hx0, hfl, hg.1, hk4, hofl⟩⟩
          · obtain ⟨q', n', h1, _⟩ := hnx a (by simp) k p q n hl
            exact ⟨q', n', h1⟩
          · obtain ⟨q', n', h1, h2⟩ := hnx r.g (List.mem_cons_of_mem _ (List.mem_map_of_mem hr)) r.k r.p q n hl
            rw [h2 (fun e2 => hnd (by rw [← e2]; exact List.mem_map_of_mem hr))] at h1
            exact ⟨q', h1⟩
        · have h1 : (L.eraseIdx 0).length = L.length - 1 := List.length_eraseIdx_of_lt (List.getElem?_eq_some_iff.1 hr0).1
          have h2 := (List.getElem?_eq_some_iff.1 hr0).1
          omega
  case done =>
    rintro D xs W hD hxs ⟨h1, h2⟩ hdef
    have hst := Stays.putObj (B := W0.heap.size) (.deferred none) hD hdef rfl
    have hfin : Rm B b mb cb e ks sz L P (roomL L P) (roomP L P) w (W.putObj D (.deferred none)) := by
      rcases h2 with ⟨h2, h3⟩ | ⟨r, h2, h3, h4, h5⟩
      · have hL0 : L.length = 0 := by rw [← hxs, h2]; rfl
        have hP0 := HH.out.many.1
        have e1 : roomL L P = L := by unfold roomL; rw [if_neg (by omega)]
        have e2 : roomP L P = P := by unfold roomP; rw [if_neg (by omega)]
        rw [e1, e2]
        exact h3.stays HLT.out (by omega) hst
      · have e1 : roomL L P = L.eraseIdx 0 := by unfold roomL; rw [if_pos h4]
        have e2 : roomP L P = dropK P r.p := by unfold roomP; rw [if_pos h4, h3]; rfl
        rw [e1, e2]
        exact h5.stays HLT.out (by omega) hst
    refine ⟨by simp, .inl ⟨_, _, rfl, run_takeDeferred hdef, ?_⟩⟩
    exact ⟨_, results_none rfl _ _ _, rfl, hfin⟩
  case stop =>
    rintro D pre W hD h1 hdef
    gi_wp2
    have hst := Stays.putObj (B := W0.heap.size) (.deferred none) hD hdef rfl
    refine ⟨by simp, .inl ⟨_, _, rfl, run_takeDeferred hdef, ?_⟩⟩
    exact ⟨_, results_none rfl _ _ _, rfl, h1.stays HLT.out (by omega) hst⟩
end Go.Proofs.Ytihhbpadafgkoaa
