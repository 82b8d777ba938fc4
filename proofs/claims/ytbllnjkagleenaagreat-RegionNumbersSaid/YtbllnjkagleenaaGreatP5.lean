/-
  A region is made.
-/
import Derived.Test.YtbllnjkagleenaaGreatP4
import Derived.Test.YtbllnjkagleenaaGreatRTT
namespace Go.Proofs.YtbllnjkagleenaaGreat
open Go.RowKit
set_option linter.unusedVariables false

set_option maxRecDepth 100000 in
theorem make_not (p : Option Addr) (k : Int) (A : Option Addr) (n c : Nat) (w : World) (h : Calls Tryz.prog 29 #[.pointer p] w fun e w' => e = .returned (.bool false) ∧ w = w') :
    Calls Tryz.prog 6 #[.pointer p, .int .u8 k, .slice A n c] w fun e w' => e = .returned (.tuple #[.int .i64 0, .int .i64 1]) ∧ w = w' := by
  have H := hide h
  clear h
  go_enter Tryz.func6, Tryz.ntmps6
  go_wp2_with (go_at_call 29; refine (H.out).mono ?_; rintro e w1 ⟨rfl, rfl⟩)
  go_ret2
  exact ⟨rfl, rfl⟩
set_option maxRecDepth 100000 in
theorem make_kind (p : Option Addr) (k : Int) (A : Option Addr) (n c : Nat) (w : World) (h : Calls Tryz.prog 29 #[.pointer p] w fun e w' => e = .returned (.bool true) ∧ w = w') (hk : k < 1 ∨ 5 < k) :
    Calls Tryz.prog 6 #[.pointer p, .int .u8 k, .slice A n c] w fun e w' => e = .returned (.tuple #[.int .i64 0, .int .i64 2]) ∧ w = w' := by
  have H := hide h
  clear h
  by_cases h1 : k < 1
  · clear hk
    go_enter Tryz.func6, Tryz.ntmps6
    go_wp2_with (go_at_call 29; refine (H.out).mono ?_; rintro e w1 ⟨rfl, rfl⟩)
    go_ret2
    exact ⟨rfl, rfl⟩
  · have h2 : 5 < k := by omega
    clear hk
    go_enter Tryz.func6, Tryz.ntmps6
    go_wp2_with (go_at_call 29; refine (H.out).mono ?_; rintro e w1 ⟨rfl, rfl⟩)
    go_ret2
    exact ⟨rfl, rfl⟩
set_option maxRecDepth 100000 in
theorem make_long (p : Option Addr) (k : Int) (A : Option Addr) (n c : Nat) (w : World) (h : Calls Tryz.prog 29 #[.pointer p] w fun e w' => e = .returned (.bool true) ∧ w = w') (h1 : ¬ k < 1) (h2 : ¬ 5 < k) (hn : 4096 < n) (hn2 : n ≤ 1000000) :
    Calls Tryz.prog 6 #[.pointer p, .int .u8 k, .slice A n c] w fun e w' => e = .returned (.tuple #[.int .i64 0, .int .i64 3]) ∧ w = w' := by
  have H := hide h
  clear h
  go_enter Tryz.func6, Tryz.ntmps6
  go_wp2_with (go_at_call 29; refine (H.out).mono ?_; rintro e w1 ⟨rfl, rfl⟩)
  go_ret2
  exact ⟨rfl, rfl⟩
theorem PM.off {W : World} {b mm : Nat} {last : Int} {f : Int → Option Value} {v : Value} {n : Nat} {xs : List Value} (h : PM W b mm last f) (ho : W.ownsRow 0 5 1 v n xs) : ∀ g, v.ownBlock = some g → g ≠ b ∧ g ≠ mm := by
  intro g hg
  rcases ho.2 with ⟨h0, _⟩ | ⟨g', cap, cur, h0, _, h2, _⟩
  · rw [h0] at hg; cases hg
  · rw [h0] at hg
    simp only [Value.ownBlock, Option.some.injEq] at hg
    subst hg
    constructor
    · rintro rfl
      have := h.blk
      rw [h2] at this
      injection this with this
      injection this with _ h5
      cases h5
    · rintro rfl
      obtain ⟨es, c, hm⟩ := h.map
      have := hm.at_
      rw [h2] at this
      cases this
/-- What lasts of the statement that lays a region. -/
def TMake (b : Nat) (k : Int) (A : Option Addr) (n c : Nat) (l : List Int) (B : Nat) (j : Nat) (σ : Nat → Value) (W : World) : Prop :=
  match j with
  | 0 => σ 0 = .pointer (some ⟨b, 0, none⟩)
  | 1 => σ 1 = .pointer (some ⟨b, 0, none⟩)
  | 2 => σ 2 = .pointer (some ⟨b, 1, none⟩)
  | 3 => σ 3 = .int .u8 k
  | 4 => σ 4 = .slice A n c
  | 5 => OwnB W B (σ 5) n l
  | 6 => ∃ v, σ 6 = .agg #[.int .u8 k, v] ∧ OwnB W B v n l
  | _ => True
theorem TMake.below {b : Nat} {k : Int} {A : Option Addr} {n c : Nat} {l : List Int} {B : Nat} {j : Nat} {σ : Nat → Value} {W W' : World} (h : TMake b k A n c l B j σ W) (hb : Below W.heap.size W W') : TMake b k A n c l B j σ W' := by
  unfold TMake at h ⊢
  split at h
  all_goals try exact h
  · exact ⟨owns_kept_below h.1 hb, h.2⟩
  · obtain ⟨v, h1, h2⟩ := h
    exact ⟨v, h1, owns_kept_below h2.1 hb, h2.2⟩
theorem act_lit {a : Act} {l : Array Value} (hd : a.defers = []) (hs : a.tmps.size = l.size) (h : ∀ t, t < l.size → a.tmps.getD t undef = l.getD t undef) : a = ⟨l, []⟩ := by
  obtain ⟨tmps, defers⟩ := a
  simp only at hd hs h
  subst hd
  congr 1
  apply Array.ext hs
  intro i h1 h2
  have := h i h2
  simpa [Array.getD_eq_getD_getElem?, Array.getElem?_eq_getElem h1, Array.getElem?_eq_getElem h2] using this
set_option maxRecDepth 100000 in
set_option maxHeartbeats 1000000 in
theorem make_yes (b mm q : Nat) (f : Int → Option Value) (k : Int) (A : Option Addr) (n c B : Nat) (l : List Int) (w : World) (h : PM w b mm q f) (hq : q + 1 ≤ 1000000000) (hf : f ((q : Int) + 1) = none) (h1 : ¬ k < 1) (h2 : ¬ 5 < k) (hn : n ≤ 4096)
    (hr : Rd w B 1 A n (u8s l)) (hA : A = none → n = 0) (hB : B ≤ w.heap.size) :
    Calls Tryz.prog 6 #[.pointer (some ⟨b, 0, none⟩), .int .u8 k, .slice A n c] w fun e w' => ∃ v, e = .returned (.tuple #[.int .i64 ((q : Int) + 1), .int .i64 0]) ∧ OwnB w' w.heap.size v n l ∧ PM w' b mm ((q : Int) + 1) (setAt f ((q : Int) + 1) (some (.agg #[.int .u8 k, v]))) ∧ Kept (fun j => j ≠ b ∧ j ≠ mm) w w' := by
  have hE : ∀ args (W : World), (callFunc 31 args).run Tryz.prog W = .ok (.enter 31 args) W := by intro args W; kernel_rfl
  have HM := hide (made_yes b _ _ w h.blk)
  have HH := hide h
  have HF := hide hf
  have HR := hide hr
  have HA := hide hA
  clear h hf hr hA
  go_enter Tryz.func6, Tryz.ntmps6
  go_wp2_with (go_at_call 29; refine (HM.out).mono ?_; rintro e w1 ⟨rfl, rfl⟩)
  rename_i K hK hk1
  refine wp_tells_tail 7 (by kernel_rfl) (TMake b k A n c l w.heap.size) (fun W => Below w.heap.size w W) (by kernel_rfl) (by kernel_rfl) (by kernel_rfl) (by kernel_rfl) (by kernel_rfl) (by kernel_rfl) (by kernel_rfl) (by decide) ?_ (Below.refl _ _).drew ?_ ?_
  · intro j oj σ σ' W hj h hs
    have h0 := hs j (.inl rfl)
    have hi : j < 10 := (Array.getElem?_eq_some_iff.1 hj).1
    have hi' : j = 0 ∨ j = 1 ∨ j = 2 ∨ j = 3 ∨ j = 4 ∨ j = 5 ∨ j = 6 ∨ j = 7 ∨ j = 8 ∨ j = 9 := by omega
    rcases hi' with rfl | rfl | rfl | rfl | rfl | rfl | rfl | rfl | rfl | rfl
    all_goals first
      | trivial
      | (simp only [TMake] at h ⊢; rw [h0]; exact h)
  · intro i o hi2 ho L a W hi hG hold hT hh
    have hi' : i = 0 ∨ i = 1 ∨ i = 2 ∨ i = 3 ∨ i = 4 ∨ i = 5 ∨ i = 6 := by omega
    have hk : ∀ {W'}, Below W.heap.size W W' → ∀ j, L j = true → TMake b k A n c l w.heap.size j (sl _ a) W' := fun hb j hj => (hT j hj).below hb
    rcases hi' with rfl | rfl | rfl | rfl | rfl | rfl | rfl
    · cases ho
      refine step_told (.pointer (some ⟨b, 0, none⟩)) ?_ (by decide) hG hT rfl
      have e1 : a.eval (.tmp 0) = .pointer (some ⟨b, 0, none⟩) := hold 0 (by kernel_rfl)
      generalize a.eval = ev at e1 ⊢
      simp [execOp, go_sem, e1]
    · cases ho
      refine step_told (.pointer (some ⟨b, 0, none⟩)) ?_ (by decide) hG hT rfl
      have e1 : a.eval (.tmp 23) = .pointer (some ⟨b, 0, none⟩) := hT 0 (hh 0 rfl)
      generalize a.eval = ev at e1 ⊢
      simp [execOp, go_sem, e1]
    · cases ho
      refine step_told (.pointer (some ⟨b, 1, none⟩)) ?_ (by decide) hG hT rfl
      have e1 : a.eval (.tmp 24) = .pointer (some ⟨b, 0, none⟩) := hT 1 (hh 1 rfl)
      generalize a.eval = ev at e1 ⊢
      simp [execOp, go_sem, e1]
    · cases ho
      refine step_told (.int .u8 k) ?_ (by decide) hG hT rfl
      have e1 : a.eval (.tmp 1) = .int .u8 k := hold 1 (by kernel_rfl)
      generalize a.eval = ev at e1 ⊢
      simp [execOp, go_sem, e1]
    · cases ho
      refine step_told (.slice A n c) ?_ (by decide) hG hT rfl
      have e1 : a.eval (.tmp 2) = .slice A n c := hold 2 (by kernel_rfl)
      generalize a.eval = ev at e1 ⊢
      simp [execOp, go_sem, e1]
    · cases ho
      have e1 : a.eval (.tmp 27) = .slice A n c := hT 4 (hh 4 rfl)
      refine step_called (f := 31) (args := #[.slice A n c]) (R := fun v W' => OwnB W' W.heap.size v n l ∧ Below W.heap.size W W') ?_ (by decide) ((copied_any A n c B l W (HR.out.below (hG.mono hB)) HA.out (Nat.le_trans hB hG.size) (by omega)).mono (fun e w' ⟨v, h1, h2, h3⟩ => ⟨v, h1, h2, h3⟩)) ?_
      · have e0 : a.eval (.func 31) = .func (.func 31) #[] #[] := rfl
        generalize a.eval = ev at e0 e1 ⊢
        simp [execOp, go_sem, e0, e1, hE]
      · rintro v W' ⟨hv, hb⟩
        exact ⟨hG.trans (hb.mono hG.size), hk hb, hv.1, fun g hg => Nat.le_trans hG.size (hv.2 g hg)⟩
    · cases ho
      have e1 : a.eval (.tmp 26) = .int .u8 k := hT 3 (hh 3 rfl)
      have e2 : OwnB W w.heap.size (a.eval (.tmp 28)) n l := hT 5 (hh 5 rfl)
      obtain ⟨A2, c2, e3, _⟩ := owns_slice e2.1
      refine step_told (.agg #[.int .u8 k, .slice A2 n c2]) ?_ (by decide) hG hT ⟨_, rfl, by rw [← e3]; exact e2⟩
      generalize a.eval = ev at e1 e3 ⊢
      simp [execOp, go_sem, e1, e3]
  · intro a W hd hs hold hT hG
    obtain ⟨v, e29, hv⟩ : ∃ v, a.tmps.getD 29 undef = .agg #[.int .u8 k, v] ∧ OwnB W w.heap.size v n l := hT 6 (by decide)
    obtain ⟨A2, c2, rfl, _⟩ := owns_slice hv.1
    have e25 : a.tmps.getD 25 undef = .pointer (some ⟨b, 1, none⟩) := hT 2 (by decide)
    obtain ⟨u0, hu0⟩ : ∃ u, a.tmps.getD 0 undef = u := ⟨_, rfl⟩
    obtain ⟨u1, hu1⟩ : ∃ u, a.tmps.getD 1 undef = u := ⟨_, rfl⟩
    obtain ⟨u2, hu2⟩ : ∃ u, a.tmps.getD 2 undef = u := ⟨_, rfl⟩
    obtain ⟨u3, hu3⟩ : ∃ u, a.tmps.getD 3 undef = u := ⟨_, rfl⟩
    obtain ⟨u4, hu4⟩ : ∃ u, a.tmps.getD 4 undef = u := ⟨_, rfl⟩
    obtain ⟨u5, hu5⟩ : ∃ u, a.tmps.getD 5 undef = u := ⟨_, rfl⟩
    obtain ⟨u6, hu6⟩ : ∃ u, a.tmps.getD 6 undef = u := ⟨_, rfl⟩
    obtain ⟨u7, hu7⟩ : ∃ u, a.tmps.getD 7 undef = u := ⟨_, rfl⟩
    obtain ⟨u8, hu8⟩ : ∃ u, a.tmps.getD 8 undef = u := ⟨_, rfl⟩
    obtain ⟨u9, hu9⟩ : ∃ u, a.tmps.getD 9 undef = u := ⟨_, rfl⟩
    obtain ⟨u10, hu10⟩ : ∃ u, a.tmps.getD 10 undef = u := ⟨_, rfl⟩
    obtain ⟨u11, hu11⟩ : ∃ u, a.tmps.getD 11 undef = u := ⟨_, rfl⟩
    obtain ⟨u12, hu12⟩ : ∃ u, a.tmps.getD 12 undef = u := ⟨_, rfl⟩
    obtain ⟨u13, hu13⟩ : ∃ u, a.tmps.getD 13 undef = u := ⟨_, rfl⟩
    obtain ⟨u14, hu14⟩ : ∃ u, a.tmps.getD 14 undef = u := ⟨_, rfl⟩
    obtain ⟨u15, hu15⟩ : ∃ u, a.tmps.getD 15 undef = u := ⟨_, rfl⟩
    obtain ⟨u16, hu16⟩ : ∃ u, a.tmps.getD 16 undef = u := ⟨_, rfl⟩
    obtain ⟨u17, hu17⟩ : ∃ u, a.tmps.getD 17 undef = u := ⟨_, rfl⟩
    obtain ⟨u18, hu18⟩ : ∃ u, a.tmps.getD 18 undef = u := ⟨_, rfl⟩
    obtain ⟨u19, hu19⟩ : ∃ u, a.tmps.getD 19 undef = u := ⟨_, rfl⟩
    obtain ⟨u20, hu20⟩ : ∃ u, a.tmps.getD 20 undef = u := ⟨_, rfl⟩
    obtain ⟨u21, hu21⟩ : ∃ u, a.tmps.getD 21 undef = u := ⟨_, rfl⟩
    obtain ⟨u22, hu22⟩ : ∃ u, a.tmps.getD 22 undef = u := ⟨_, rfl⟩
    obtain ⟨u23, hu23⟩ : ∃ u, a.tmps.getD 23 undef = u := ⟨_, rfl⟩
    obtain ⟨u24, hu24⟩ : ∃ u, a.tmps.getD 24 undef = u := ⟨_, rfl⟩
    obtain ⟨u26, hu26⟩ : ∃ u, a.tmps.getD 26 undef = u := ⟨_, rfl⟩
    obtain ⟨u27, hu27⟩ : ∃ u, a.tmps.getD 27 undef = u := ⟨_, rfl⟩
    obtain ⟨u28, hu28⟩ : ∃ u, a.tmps.getD 28 undef = u := ⟨_, rfl⟩
    obtain ⟨u30, hu30⟩ : ∃ u, a.tmps.getD 30 undef = u := ⟨_, rfl⟩
    have ha : a = ⟨#[u0, u1, u2, u3, u4, u5, u6, u7, u8, u9, u10, u11, u12, u13, u14, u15, u16, u17, u18, u19, u20, u21, u22, u23, u24, .pointer (some ⟨b, 1, none⟩), u26, u27, u28, .agg #[.int .u8 k, .slice A2 n c2], u30], []⟩ := by
      refine act_lit hd (by rw [hs]; rfl) (fun t ht => ?_)
      have ht' : t < 31 := ht
      have hi' : t = 0 ∨ t = 1 ∨ t = 2 ∨ t = 3 ∨ t = 4 ∨ t = 5 ∨ t = 6 ∨ t = 7 ∨ t = 8 ∨ t = 9 ∨ t = 10 ∨ t = 11 ∨ t = 12 ∨ t = 13 ∨ t = 14 ∨ t = 15 ∨ t = 16 ∨ t = 17 ∨ t = 18 ∨ t = 19 ∨ t = 20 ∨ t = 21 ∨ t = 22 ∨ t = 23 ∨ t = 24 ∨ t = 25 ∨ t = 26 ∨ t = 27 ∨ t = 28 ∨ t = 29 ∨ t = 30 := by omega
      rcases hi' with rfl | rfl | rfl | rfl | rfl | rfl | rfl | rfl | rfl | rfl | rfl | rfl | rfl | rfl | rfl | rfl | rfl | rfl | rfl | rfl | rfl | rfl | rfl | rfl | rfl | rfl | rfl | rfl | rfl | rfl | rfl
      all_goals first | assumption
    subst ha
    have HV := hide hv
    have HA1 := hide (add_any b mm q f k A2 n c2 W (HH.out.below hG) hq HF.out)
    have HG := hide hG
    clear hold hT hd hs hv e29 e25 hu0 hu1 hu2 hu3 hu4 hu5 hu6 hu7 hu8 hu9 hu10 hu11 hu12 hu13 hu14 hu15 hu16 hu17 hu18 hu19 hu20 hu21 hu22 hu23 hu24 hu26 hu27 hu28 hu30 hG
    simp only [List.drop_succ_cons, List.drop_zero]
    go_wp2_with (go_at_call 30; refine (HA1.out).mono ?_; rintro e w2 ⟨rfl, hp, hk⟩; have HP := hide hp; have HK2 := hide hk; clear hp hk)
    go_ret2
    refine ⟨_, rfl, ⟨?_, HV.out.2⟩, HP.out, keptTrans ((Kept.refl _ w).later HG.out) HK2.out⟩
    exact owns_kept HV.out.1 HK2.out ((HH.out.below HG.out).off HV.out.1)
end Go.Proofs.YtbllnjkagleenaaGreat
