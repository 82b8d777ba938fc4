/-
  Set: bytes stand in a value, or the error.
-/
import Derived.Test.YtihhbpadafgkoaaGreatAR9
namespace Go.Proofs.YtihhbpadafgkoaaGreat
open Go.RowKit
set_option linter.unusedVariables false

def putL (L : List AR) (i off : Nat) (d : List Int) : List AR := match L[i]? with
  | some r => L.set i { r with bs := splice r.bs off d }
  | none => L
theorem putL_len (L : List AR) (i off : Nat) (d : List Int) : (putL L i off d).length = L.length := by unfold putL; split <;> simp
theorem putL_some {L : List AR} {i : Nat} {r : AR} (h : L[i]? = some r) (off : Nat) (d : List Int) : putL L i off d = L.set i { r with bs := splice r.bs off d } := by unfold putL; rw [h]
theorem owns_cells {w : World} {e : TypeId} {sz n : Nat} {v : Value} {xs : List Value} (h : w.ownsRow 0 e sz v n xs) {g : Nat} (hg : v.ownBlock = some g) : ∃ cur, w.heap[g]? = some (.cells cur e (0, 0)) := by
  rcases h.2 with ⟨rfl, _⟩ | ⟨g', cap, cur, rfl, _, h1, _⟩
  · cases hg
  · have : g' = g := by simpa [Value.ownBlock] using hg
    subst this
    exact ⟨cur, h1⟩
theorem Arr.off {w : World} {B b cb sz : Nat} {L : List AR} (h : Arr w B b cb sz L) {i : Nat} {r : AR} (hr : L[i]? = some r) : (Value.slice r.A sz r.c).ownBlock ≠ some b ∧ (Value.slice r.A sz r.c).ownBlock ≠ some cb := by
  refine ⟨fun e => ?_, fun e => ?_⟩
  · obtain ⟨cur, hc⟩ := owns_cells (h.row i r hr) e
    rw [h.blk] at hc; cases hc
  · obtain ⟨cur, hc⟩ := owns_cells (h.row i r hr) e
    rw [h.cel] at hc; cases hc
theorem Arr.put {w w' : World} {B b cb sz i off : Nat} {L : List AR} {r : AR} {d : List Int} (h : Arr w B b cb sz L) (hr : L[i]? = some r) (ho : w'.ownsRow 0 5 1 (.slice r.A sz r.c) sz (u8s (splice r.bs off d))) (hk : Kept (fun j => (Value.slice r.A sz r.c).ownBlock ≠ some j) w w') :
    Arr w' B b cb sz (putL L i off d) ∧ Kept (fun g => ¬ OfA b cb sz L g) w w' := by
  obtain ⟨h1, h2⟩ := h.off hr
  have hlt := (List.getElem?_eq_some_iff.1 hr).1
  rw [putL_some hr]
  have hmap : (L.set i { r with bs := splice r.bs off d }).map (AR.sl sz) = L.map (AR.sl sz) := by
    apply List.ext_getElem
    · simp
    · intro j a1 a2
      simp only [List.getElem_map, List.getElem_set]
      by_cases e : i = j
      · subst e
        have : L[i] = r := (List.getElem?_eq_some_iff.1 hr).2
        simp [this, AR.sl]
      · simp [e]
  have hold : ∀ (j : Nat) (s : AR), (L.set i { r with bs := splice r.bs off d })[j]? = some s → ∃ t, L[j]? = some t ∧ s.sl sz = t.sl sz ∧ (j ≠ i → s = t) ∧ (j = i → s = { r with bs := splice r.bs off d }) := by
    intro j s hj
    by_cases e : i = j
    · subst e
      simp [hlt] at hj
      exact ⟨r, hr, by rw [← hj]; rfl, fun h => absurd rfl h, fun _ => hj.symm⟩
    · rw [List.getElem?_set_ne e] at hj
      exact ⟨s, hj, rfl, fun _ => rfl, fun h => absurd h.symm e⟩
  refine ⟨⟨?_, ?_, fun j s hj => ?_, ?_, fun j k s t hj hk2 hjk g hg => ?_, h.big, by simpa using h.many⟩, hk.mono (fun g hg e => hg (.inr (.inr ⟨r, List.mem_of_getElem? hr, e⟩)))⟩
  · rw [List.length_set]
    exact (hk.block b (at_lt h.blk) h1).trans h.blk
  · rw [hmap]
    exact (hk.block cb (at_lt h.cel) h2).trans h.cel
  · obtain ⟨t, ht, _, hne, heq⟩ := hold j s hj
    by_cases e : j = i
    · rw [heq e]; exact ho
    · rw [hne e]
      exact owns_kept (h.row j t ht) hk (fun g hg e2 => h.sep j i t r ht hr e g hg e2)
  · rintro g (rfl | rfl | ⟨s, hs, hg⟩)
    · exact h.low _ (.inl rfl)
    · exact h.low _ (.inr (.inl rfl))
    · obtain ⟨j, hj⟩ := List.mem_iff_getElem?.1 hs
      obtain ⟨t, ht, hst, _, _⟩ := hold j s hj
      exact h.low _ (.inr (.inr ⟨t, List.mem_of_getElem? ht, by rw [← hst]; exact hg⟩))
  · obtain ⟨s', hs', e1, _, _⟩ := hold j s hj
    obtain ⟨t', ht', e2, _, _⟩ := hold k t hk2
    rw [e1] at hg
    rw [e2]
    exact h.sep j k s' t' hs' ht' hjk g hg
theorem OfA.put {b cb sz i off : Nat} {L : List AR} {d : List Int} {g : Nat} (h : OfA b cb sz (putL L i off d) g) : OfA b cb sz L g := by
  cases hr : L[i]? with
  | none => unfold putL at h; rw [hr] at h; exact h
  | some r =>
    rw [putL_some hr] at h
    rcases h with rfl | rfl | ⟨s, hs, hg⟩
    · exact .inl rfl
    · exact .inr (.inl rfl)
    · rcases List.mem_or_eq_of_mem_set hs with hs | rfl
      · exact .inr (.inr ⟨s, hs, hg⟩)
      · exact .inr (.inr ⟨r, List.mem_of_getElem? hr, hg⟩)
set_option maxRecDepth 100000 in
set_option maxHeartbeats 1000000 in
theorem setIn_not (p : Option Addr) (q : Nat) (W : World) (h0 : W.cell? ⟨q, 0, none⟩ = some (.pointer p)) (h : NoA p W) :
    Calls Tryz.prog 87 #[.pointer (some ⟨q, 0, none⟩), .pointer (some ⟨q + 1, 0, none⟩), .pointer (some ⟨q + 2, 0, none⟩), .pointer (some ⟨q + 3, 0, none⟩)] W fun e w' => e = .panicked (panicOf 1) ∧ Below W.heap.size W w' := by
  have H := hide (h W (Below.refl _ _))
  clear h
  go_enter Tryz.func87, Tryz.ntmps87
  go_wp2_with (go_at_call 77; refine H.out.mono ?_; rintro e w' ⟨rfl, rfl⟩)
  exact ⟨rfl, rfl, Below.refl _ _⟩
/-- What Set tells. -/
def setE (len sz : Nat) (i off : Int) (k : Nat) : Int := if hasB len i = true then (if fitsB sz off k = true then 0 else 32) else 6
/-- The four boxes of a call. -/
structure Boxes4 (W : World) (q : Nat) (v0 v1 v2 v3 : Value) (t0 t1 t2 t3 : TypeId) : Prop where
  b0 : Boxed W q t0 v0
  b1 : Boxed W (q + 1) t1 v1
  b2 : Boxed W (q + 2) t2 v2
  b3 : Boxed W (q + 3) t3 v3
theorem Boxes4.below {W W' : World} {q : Nat} {v0 v1 v2 v3 : Value} {t0 t1 t2 t3 : TypeId} (h : Boxes4 W q v0 v1 v2 v3 t0 t1 t2 t3) (hb : Below W.heap.size W W') : Boxes4 W' q v0 v1 v2 v3 t0 t1 t2 t3 :=
  ⟨boxed_below h.b0 hb, boxed_below h.b1 hb, boxed_below h.b2 hb, boxed_below h.b3 hb⟩
theorem boxes4_new (w : World) (v0 v1 v2 v3 : Value) (t0 t1 t2 t3 : TypeId) : Boxes4 ((((w.alloc (.cells #[v0] t0)).alloc (.cells #[v1] t1)).alloc (.cells #[v2] t2)).alloc (.cells #[v3] t3)) w.heap.size v0 v1 v2 v3 t0 t1 t2 t3 ∧
    Below w.heap.size w ((((w.alloc (.cells #[v0] t0)).alloc (.cells #[v1] t1)).alloc (.cells #[v2] t2)).alloc (.cells #[v3] t3)) := by
  obtain ⟨h1, h2, h3⟩ := three_boxes w (.cells #[v0] t0) (.cells #[v1] t1) (.cells #[v2] t2)
  have hb := below1 (((w.alloc (.cells #[v0] t0)).alloc (.cells #[v1] t1)).alloc (.cells #[v2] t2)) (.cells #[v3] t3)
  have h4 := World.alloc_heap_new (((w.alloc (.cells #[v0] t0)).alloc (.cells #[v1] t1)).alloc (.cells #[v2] t2)) (.cells #[v3] t3)
  have hz : (((w.alloc (.cells #[v0] t0)).alloc (.cells #[v1] t1)).alloc (.cells #[v2] t2)).heap.size = w.heap.size + 3 := by simp
  rw [hz] at h4
  have hb3 := below3 w (.cells #[v0] t0) (.cells #[v1] t1) (.cells #[v2] t2)
  exact ⟨⟨boxed_below h1 hb, boxed_below h2 hb, boxed_below h3 hb, h4⟩, hb3.trans (hb.mono hb3.size)⟩
set_option maxRecDepth 100000 in
set_option maxHeartbeats 1000000 in
theorem setIn_no (B b cb sz q : Nat) (L : List AR) (i off : Int) (S : Option Addr) (k sc : Nat) (W : World) (h : Arr W B b cb sz L) (hq : Boxes4 W q (.pointer (some ⟨b, 0, none⟩)) (.int .i64 i) (.int .i64 off) (.slice S k sc) 26 3 3 34)
    (ho : off ≤ 9223372036854775807) (he : setE L.length sz i off k ≠ 0) :
    Calls Tryz.prog 87 #[.pointer (some ⟨q, 0, none⟩), .pointer (some ⟨q + 1, 0, none⟩), .pointer (some ⟨q + 2, 0, none⟩), .pointer (some ⟨q + 3, 0, none⟩)] W fun e w' => e = .panicked (panicOf (setE L.length sz i off k)) ∧ Below W.heap.size W w' := by
  have HM := hide (made_yes b W (by rw [blk_cell h.blk]; rfl))
  have c0 := hq.b0.cell
  have c1 := hq.b1.cell
  have c2 := hq.b2.cell
  have c3 := hq.b3.cell
  unfold setE at he ⊢
  by_cases hi : hasB L.length i = true
  · rw [if_pos hi] at he ⊢
    obtain ⟨j, rfl, hj⟩ : ∃ j : Nat, i = j ∧ j < L.length := by
      simp only [hasB, Bool.and_eq_true, decide_eq_true_eq] at hi
      exact ⟨i.toNat, by omega, by omega⟩
    have hr : L[j]? = some L[j] := List.getElem?_eq_getElem hj
    by_cases hf : fitsB sz off k = true
    · rw [if_pos hf] at he; exact absurd rfl he
    · rw [if_neg hf]
      have HA := hide (at_yes b L.length cb j (L[j].A, sz, L[j].c) W.drew h.cells hj (h.cell hr))
      have HT := hide (fun W' => takes_any L[j].A sz L[j].c k off W' ho (by have := h.big.2; omega))
      rw [show fitsB sz off k = false by simpa using hf] at HT
      clear h hq he hi hf hr
      generalize L[j].A = rA at *
      generalize L[j].c = rc at *
      go_enter Tryz.func87, Tryz.ntmps87
      go_wp2_with (go_at_call 77; refine HM.out.mono ?_; rintro e w' ⟨rfl, rfl⟩)
      refine wp_region_still_tail 4 (by kernel_rfl) (by kernel_rfl) ?_
      simp only [List.take_succ_cons, List.take_zero, List.drop_succ_cons, List.drop_zero]
      repeat still_step
      refine wpStill_nil ?_
      go_wp2_with (first
        | (go_at_call 78; refine HA.out.mono ?_; rintro e w' ⟨rfl, rfl⟩)
        | (go_at_call 88; refine (HT.out _).mono ?_; rintro e w' ⟨rfl, rfl⟩)
        | (go_at_call 28; ((with_reducible refine (demand_no _ _).mono ?_)); rintro e w' ⟨rfl, rfl⟩))
      exact ⟨rfl, rfl, (Below.refl _ W).drew⟩
  · rw [if_neg hi]
    have HA := hide (at_no b L.length (some ⟨cb, 0, none⟩) i W.drew h.cells (by simpa using hi))
    clear h hq he hi
    go_enter Tryz.func87, Tryz.ntmps87
    go_wp2_with (go_at_call 77; refine HM.out.mono ?_; rintro e w' ⟨rfl, rfl⟩)
    refine wp_region_still_tail 4 (by kernel_rfl) (by kernel_rfl) ?_
    simp only [List.take_succ_cons, List.take_zero, List.drop_succ_cons, List.drop_zero]
    repeat still_step
    refine wpStill_nil ?_
    go_wp2_with (go_at_call 78; refine HA.out.mono ?_; rintro e w' ⟨rfl, rfl⟩)
    exact ⟨rfl, rfl, (Below.refl _ W).drew⟩
set_option maxRecDepth 100000 in
set_option maxHeartbeats 1000000 in
theorem setIn_yes (B b cb sz q i off C : Nat) (L : List AR) (r : AR) (S : Option Addr) (k sc : Nat) (d : List Int) (W : World) (h : Arr W B b cb sz L) (hq : Boxes4 W q (.pointer (some ⟨b, 0, none⟩)) (.int .i64 i) (.int .i64 off) (.slice S k sc) 26 3 3 34)
    (hr : L[i]? = some r) (hd : Rd W C 1 S k (u8s d)) (hC : C ≤ W.heap.size) (hfit : off + k ≤ sz) :
    Calls Tryz.prog 87 #[.pointer (some ⟨q, 0, none⟩), .pointer (some ⟨q + 1, 0, none⟩), .pointer (some ⟨q + 2, 0, none⟩), .pointer (some ⟨q + 3, 0, none⟩)] W fun e w' => e = .returned (.tuple #[]) ∧ Arr w' B b cb sz (putL L i off d) ∧ Kept (fun g => ¬ OfA b cb sz L g) W w' := by
  have HM := hide (made_yes b W (by rw [blk_cell h.blk]; rfl))
  have c0 := hq.b0.cell
  have c1 := hq.b1.cell
  have c2 := hq.b2.cell
  have c3 := hq.b3.cell
  have hj := (List.getElem?_eq_some_iff.1 hr).1
  have hbig := h.big.2
  have HA := hide (at_yes b L.length cb i (r.A, sz, r.c) W.drew h.cells hj (h.cell hr))
  have HT := hide (takes_any r.A sz r.c k (off : Int) W.drew (by omega) (by omega))
  rw [show fitsB sz (off : Int) k = true by simp [fitsB]; omega] at HT
  have hbw := (Below.refl W.heap.size W).drew
  have HP := hide (put_any off k r.A S sz r.c sc C r.bs d W.drew (owns_kept_below (h.row i r hr) hbw) (hd.below (hbw.mono hC)) hC hfit (by omega))
  have HH := hide (h.below hbw)
  clear h hq hd hbw
  have HR := hide hr
  clear hr
  obtain ⟨rA, rc, rb⟩ := r
  simp only at HA HT HP
  go_enter Tryz.func87, Tryz.ntmps87
  go_wp2_with (go_at_call 77; refine HM.out.mono ?_; rintro e w' ⟨rfl, rfl⟩)
  refine wp_region_still_tail 4 (by kernel_rfl) (by kernel_rfl) ?_
  simp only [List.take_succ_cons, List.take_zero, List.drop_succ_cons, List.drop_zero]
  repeat still_step
  refine wpStill_nil ?_
  go_wp2_with (first
    | (go_at_call 78; refine HA.out.mono ?_; rintro e w' ⟨rfl, rfl⟩)
    | (go_at_call 88; refine (HT.out).mono ?_; rintro e w' ⟨rfl, rfl⟩)
    | (go_at_call 28; ((with_reducible refine (demand_yes _ _).mono ?_)); rintro e w' ⟨rfl, rfl⟩)
    | (go_at_call 85; refine (HP.out).mono ?_; rintro e w1 ⟨rfl, ho, hk⟩; have HO := hide ho; have HK := hide hk; clear ho hk))
  go_end0
  obtain ⟨h1, h2⟩ := HH.out.put HR.out HO.out HK.out
  exact ⟨rfl, h1, keptTrans ((Kept.refl _ W).drew) h2⟩
end Go.Proofs.YtihhbpadafgkoaaGreat
