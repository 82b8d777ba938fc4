/-
  Update of an array with a key of four bytes.
-/
import Derived.Test.YtihhbpadafgkoaaGreatAR11
namespace Go.Proofs.YtihhbpadafgkoaaGreat
open Go.RowKit
set_option linter.unusedVariables false

set_option maxRecDepth 100000 in
set_option maxHeartbeats 1000000 in
theorem updIn_arg (B b cb sz q : Nat) (L : List AR) (A S : Option Addr) (c C k sc : Nat) (fl : Int) (l : List Int) (W : World) (h : Arr W B b cb sz L) (hq : Boxes4 W q (.pointer (some ⟨b, 0, none⟩)) (.slice A 4 c) (.slice S k sc) (.int .u64 fl) 26 34 34 35)
    (hr : Rd W C 1 A 4 (u8s l)) (hC : C ≤ W.heap.size) (hb : ∀ x ∈ l, IsByte x) (he : ¬ (k = sz ∧ fl ≤ 2)) :
    Calls Tryz.prog 84 #[.pointer (some ⟨q, 0, none⟩), .pointer (some ⟨q + 1, 0, none⟩), .pointer (some ⟨q + 2, 0, none⟩), .pointer (some ⟨q + 3, 0, none⟩)] W fun e w' => e = .panicked (panicOf 2) ∧ Below W.heap.size W w' := by
  have HM := hide (made_yes b W (by rw [blk_cell h.blk]; rfl))
  have hl : l.length = 4 := by have := hr.1; simpa [u8s] using this
  have HP := hide (place_any A c C l W hl hb hr hC)
  have c0 := hq.b0.cell
  have c1 := hq.b1.cell
  have l0 := hq.b0.lt
  have l2 := hq.b2.lt
  have l3 := hq.b3.lt
  have lb := at_lt h.blk
  have C2 := hide hq.b2.cell
  have C3 := hide hq.b3.cell
  have CS := hide h.size
  clear h hr hb hl hq
  generalize keyV l = kv at *
  by_cases hk : k = sz
  · have hfl : decide (fl ≤ 2) = false := by simp; omega
    have hkk : ((k : Int) == (sz : Int)) = true := by simp [hk]
    clear he hk
    go_enter Tryz.func84, Tryz.ntmps84
    go_wp2_with (first
      | (go_at_call 77; refine HM.out.mono ?_; rintro e w' ⟨rfl, rfl⟩)
      | (go_at_call 82; refine HP.out.mono ?_; rintro e w1 ⟨rfl, hbb⟩; have HB := hide hbb; have d0 := (hbb.cell (p := ⟨q, 0, none⟩) l0).trans c0; have d2 := (hbb.cell (p := ⟨q + 2, 0, none⟩) l2).trans C2.out; have d3 := (hbb.cell (p := ⟨q + 3, 0, none⟩) l3).trans C3.out; have ds := (hbb.cell (p := ⟨b, 1, none⟩) lb).trans CS.out; clear hbb))
    refine wp_region_still_tail 12 (by kernel_rfl) (by kernel_rfl) ?_
    simp only [List.take_succ_cons, List.take_zero, List.drop_succ_cons, List.drop_zero]
    repeat still_step
    refine wpStill_nil ?_
    go_wp2_with (go_at_call 28; ((with_reducible refine (demand_no _ _).mono ?_)); rintro e w' ⟨rfl, rfl⟩)
    exact ⟨rfl, rfl, HB.out.drew⟩
  · have hkk : ((k : Int) == (sz : Int)) = false := by simp; omega
    clear he hk
    go_enter Tryz.func84, Tryz.ntmps84
    go_wp2_with (first
      | (go_at_call 77; refine HM.out.mono ?_; rintro e w' ⟨rfl, rfl⟩)
      | (go_at_call 82; refine HP.out.mono ?_; rintro e w1 ⟨rfl, hbb⟩; have HB := hide hbb; have d0 := (hbb.cell (p := ⟨q, 0, none⟩) l0).trans c0; have d2 := (hbb.cell (p := ⟨q + 2, 0, none⟩) l2).trans C2.out; have d3 := (hbb.cell (p := ⟨q + 3, 0, none⟩) l3).trans C3.out; have ds := (hbb.cell (p := ⟨b, 1, none⟩) lb).trans CS.out; clear hbb))
    refine wp_region_still_tail 12 (by kernel_rfl) (by kernel_rfl) ?_
    simp only [List.take_succ_cons, List.take_zero, List.drop_succ_cons, List.drop_zero]
    repeat still_step
    refine wpStill_nil ?_
    go_wp2_with (go_at_call 28; ((with_reducible refine (demand_no _ _).mono ?_)); rintro e w' ⟨rfl, rfl⟩)
    exact ⟨rfl, rfl, HB.out.drew⟩
set_option maxRecDepth 100000 in
set_option maxHeartbeats 1000000 in
theorem updIn_none (B b cb sz q : Nat) (L : List AR) (A S : Option Addr) (c C sc : Nat) (fl : Int) (l : List Int) (W : World) (h : Arr W B b cb sz L) (hq : Boxes4 W q (.pointer (some ⟨b, 0, none⟩)) (.slice A 4 c) (.slice S sz sc) (.int .u64 fl) 26 34 34 35)
    (hr : Rd W C 1 A 4 (u8s l)) (hC : C ≤ W.heap.size) (hb : ∀ x ∈ l, IsByte x) (hf : fl ≤ 2) (hk : ¬ keyV l < L.length) :
    Calls Tryz.prog 84 #[.pointer (some ⟨q, 0, none⟩), .pointer (some ⟨q + 1, 0, none⟩), .pointer (some ⟨q + 2, 0, none⟩), .pointer (some ⟨q + 3, 0, none⟩)] W fun e w' => e = .panicked (panicOf 6) ∧ Below W.heap.size W w' := by
  have HM := hide (made_yes b W (by rw [blk_cell h.blk]; rfl))
  have hl : l.length = 4 := by have := hr.1; simpa [u8s] using this
  have HP := hide (place_any A c C l W hl hb hr hC)
  have c0 := hq.b0.cell
  have c1 := hq.b1.cell
  have l0 := hq.b0.lt
  have l2 := hq.b2.lt
  have l3 := hq.b3.lt
  have lb := at_lt h.blk
  have C2 := hide hq.b2.cell
  have C3 := hide hq.b3.cell
  have CS := hide h.size
  have hkk : ((sz : Int) == (sz : Int)) = true := by simp
  have hfl : decide (fl ≤ 2) = true := by simp; omega
  have HA := hide (fun W' (hw : Below W.heap.size W W') => at_no b L.length (some ⟨cb, 0, none⟩) (keyV l) W' ((h.below hw).cells) (by simp [hasB]; omega))
  clear h hr hb hl hq hk hf
  generalize keyV l = kv at *
  go_enter Tryz.func84, Tryz.ntmps84
  go_wp2_with (first
    | (go_at_call 77; refine HM.out.mono ?_; rintro e w' ⟨rfl, rfl⟩)
    | (go_at_call 82; refine HP.out.mono ?_; rintro e w1 ⟨rfl, hbb⟩; have HB := hide hbb; have d0 := (hbb.cell (p := ⟨q, 0, none⟩) l0).trans c0; have d2 := (hbb.cell (p := ⟨q + 2, 0, none⟩) l2).trans C2.out; have d3 := (hbb.cell (p := ⟨q + 3, 0, none⟩) l3).trans C3.out; have ds := (hbb.cell (p := ⟨b, 1, none⟩) lb).trans CS.out; clear hbb))
  refine wp_region_still_tail 12 (by kernel_rfl) (by kernel_rfl) ?_
  simp only [List.take_succ_cons, List.take_zero, List.drop_succ_cons, List.drop_zero]
  repeat still_step
  refine wpStill_nil ?_
  have HBd := hide HB.out.drew
  go_wp2_with (first
    | (go_at_call 28; ((with_reducible refine (demand_yes _ _).mono ?_)); rintro e w' ⟨rfl, rfl⟩)
    | (go_at_call 78; refine (HA.out _ HBd.out).mono ?_; rintro e w' ⟨rfl, rfl⟩))
  exact ⟨rfl, rfl, HBd.out⟩
set_option maxRecDepth 100000 in
set_option maxHeartbeats 1000000 in
theorem updIn_there (r : AR) (B b cb sz q : Nat) (L : List AR) (A S : Option Addr) (c C sc : Nat) (fl : Int) (l : List Int) (W : World) (h : Arr W B b cb sz L) (hq : Boxes4 W q (.pointer (some ⟨b, 0, none⟩)) (.slice A 4 c) (.slice S sz sc) (.int .u64 fl) 26 34 34 35)
    (hr : Rd W C 1 A 4 (u8s l)) (hC : C ≤ W.heap.size) (hb : ∀ x ∈ l, IsByte x) (hf : fl ≤ 2) (hrow : L[keyV l]? = some r) (h1 : fl = 1) :
    Calls Tryz.prog 84 #[.pointer (some ⟨q, 0, none⟩), .pointer (some ⟨q + 1, 0, none⟩), .pointer (some ⟨q + 2, 0, none⟩), .pointer (some ⟨q + 3, 0, none⟩)] W fun e w' => e = .panicked (panicOf 7) ∧ Below W.heap.size W w' := by
  have HM := hide (made_yes b W (by rw [blk_cell h.blk]; rfl))
  have hl : l.length = 4 := by have := hr.1; simpa [u8s] using this
  have HP := hide (place_any A c C l W hl hb hr hC)
  have c0 := hq.b0.cell
  have c1 := hq.b1.cell
  have l0 := hq.b0.lt
  have l2 := hq.b2.lt
  have l3 := hq.b3.lt
  have lb := at_lt h.blk
  have C2 := hide hq.b2.cell
  have C3 := hide hq.b3.cell
  have CS := hide h.size
  have hkk : ((sz : Int) == (sz : Int)) = true := by simp
  have hfl : decide (fl ≤ 2) = true := by simp; omega
  have hrr : L[keyV l]? = some r := hrow
  have HA := hide (fun W' (hw : Below W.heap.size W W') => at_yes b L.length cb (keyV l) (r.A, sz, r.c) W' ((h.below hw).cells) (List.getElem?_eq_some_iff.1 hrr).1 ((h.below hw).cell hrr))
  have hne : (fl != 1) = false := by simp [h1]
  obtain ⟨rA, rc, rb⟩ := r
  clear h hr hb hl hq hf hrow hrr h1
  generalize keyV l = kv at *
  go_enter Tryz.func84, Tryz.ntmps84
  go_wp2_with (first
    | (go_at_call 77; refine HM.out.mono ?_; rintro e w' ⟨rfl, rfl⟩)
    | (go_at_call 82; refine HP.out.mono ?_; rintro e w1 ⟨rfl, hbb⟩; have HB := hide hbb; have d0 := (hbb.cell (p := ⟨q, 0, none⟩) l0).trans c0; have d2 := (hbb.cell (p := ⟨q + 2, 0, none⟩) l2).trans C2.out; have d3 := (hbb.cell (p := ⟨q + 3, 0, none⟩) l3).trans C3.out; have ds := (hbb.cell (p := ⟨b, 1, none⟩) lb).trans CS.out; clear hbb))
  refine wp_region_still_tail 12 (by kernel_rfl) (by kernel_rfl) ?_
  simp only [List.take_succ_cons, List.take_zero, List.drop_succ_cons, List.drop_zero]
  repeat still_step
  refine wpStill_nil ?_
  have HBd := hide HB.out.drew
  go_wp2_with (first
    | (go_at_call 28; ((with_reducible refine (demand_yes _ _).mono ?_)); rintro e w' ⟨rfl, rfl⟩)
    | (go_at_call 28; ((with_reducible refine (demand_no _ _).mono ?_)); rintro e w' ⟨rfl, rfl⟩)
    | (go_at_call 78; refine (HA.out _ HBd.out).mono ?_; rintro e w' ⟨rfl, rfl⟩))
  exact ⟨rfl, rfl, HBd.out⟩
set_option maxRecDepth 100000 in
set_option maxHeartbeats 1000000 in
theorem updIn_yes (r : AR) (B b cb sz q : Nat) (L : List AR) (A S : Option Addr) (c C sc : Nat) (fl : Int) (l : List Int) (W : World) (h : Arr W B b cb sz L) (hq : Boxes4 W q (.pointer (some ⟨b, 0, none⟩)) (.slice A 4 c) (.slice S sz sc) (.int .u64 fl) 26 34 34 35)
    (hr : Rd W C 1 A 4 (u8s l)) (hC : C ≤ W.heap.size) (hb : ∀ x ∈ l, IsByte x) (hf : fl ≤ 2) (D : Nat) (d : List Int) (hrow : L[keyV l]? = some r) (h1 : fl ≠ 1) (hd : Rd W D 1 S sz (u8s d)) (hD : D ≤ W.heap.size) :
    Calls Tryz.prog 84 #[.pointer (some ⟨q, 0, none⟩), .pointer (some ⟨q + 1, 0, none⟩), .pointer (some ⟨q + 2, 0, none⟩), .pointer (some ⟨q + 3, 0, none⟩)] W fun e w' => e = .returned (.tuple #[]) ∧ Arr w' B b cb sz (putL L (keyV l) 0 d) ∧ Kept (fun g => ¬ OfA b cb sz L g) W w' := by
  have HM := hide (made_yes b W (by rw [blk_cell h.blk]; rfl))
  have hl : l.length = 4 := by have := hr.1; simpa [u8s] using this
  have HP := hide (place_any A c C l W hl hb hr hC)
  have c0 := hq.b0.cell
  have c1 := hq.b1.cell
  have l0 := hq.b0.lt
  have l2 := hq.b2.lt
  have l3 := hq.b3.lt
  have lb := at_lt h.blk
  have C2 := hide hq.b2.cell
  have C3 := hide hq.b3.cell
  have CS := hide h.size
  have hkk : ((sz : Int) == (sz : Int)) = true := by simp
  have hfl : decide (fl ≤ 2) = true := by simp; omega
  have hrr : L[keyV l]? = some r := hrow
  have HA := hide (fun W' (hw : Below W.heap.size W W') => at_yes b L.length cb (keyV l) (r.A, sz, r.c) W' ((h.below hw).cells) (List.getElem?_eq_some_iff.1 hrr).1 ((h.below hw).cell hrr))
  have hne : (fl != 1) = true := by simp [h1]
  have HPut := hide (fun W' (hw : Below W.heap.size W W') => put_any 0 sz r.A S sz r.c sc D r.bs d W' (owns_kept_below (h.row _ r hrr) hw) (hd.below (hw.mono hD)) (Nat.le_trans hD hw.size) (by omega) (by have := h.big.2; omega))
  have HH := hide (fun W' (hw : Below W.heap.size W W') => h.below hw)
  have HR := hide hrr
  obtain ⟨rA, rc, rb⟩ := r
  simp only at HA HPut
  clear h hr hb hl hq hf hrow hrr h1 hd
  generalize keyV l = kv at *
  go_enter Tryz.func84, Tryz.ntmps84
  go_wp2_with (first
    | (go_at_call 77; refine HM.out.mono ?_; rintro e w' ⟨rfl, rfl⟩)
    | (go_at_call 82; refine HP.out.mono ?_; rintro e w1 ⟨rfl, hbb⟩; have HB := hide hbb; have d0 := (hbb.cell (p := ⟨q, 0, none⟩) l0).trans c0; have d2 := (hbb.cell (p := ⟨q + 2, 0, none⟩) l2).trans C2.out; have d3 := (hbb.cell (p := ⟨q + 3, 0, none⟩) l3).trans C3.out; have ds := (hbb.cell (p := ⟨b, 1, none⟩) lb).trans CS.out; clear hbb))
  refine wp_region_still_tail 12 (by kernel_rfl) (by kernel_rfl) ?_
  simp only [List.take_succ_cons, List.take_zero, List.drop_succ_cons, List.drop_zero]
  repeat still_step
  refine wpStill_nil ?_
  have HBd := hide HB.out.drew
  go_wp2_with (first
    | (go_at_call 28; ((with_reducible refine (demand_yes _ _).mono ?_)); rintro e w' ⟨rfl, rfl⟩)
    | (go_at_call 78; refine (HA.out _ HBd.out).mono ?_; rintro e w' ⟨rfl, rfl⟩)
    | (go_at_call 85; refine (HPut.out _ HBd.out).mono ?_; rintro e w3 ⟨rfl, ho, hk⟩; have HO := hide ho; have HK := hide hk; clear ho hk))
  go_end0
  obtain ⟨h1, h2⟩ := (HH.out _ HBd.out).put HR.out HO.out HK.out
  exact ⟨rfl, h1, keptTrans (Kept.of_below HBd.out) h2⟩
set_option maxRecDepth 100000 in
set_option maxHeartbeats 1000000 in
theorem upd_of (p : Option Addr) (A S : Option Addr) (n c k sc : Nat) (fl er : Int) (w : World) (R : World → Prop)
    (h : Calls Tryz.prog 66 #[.func (.func 84) #[] #[.pointer (some ⟨w.heap.size, 0, none⟩), .pointer (some ⟨w.heap.size + 1, 0, none⟩), .pointer (some ⟨w.heap.size + 2, 0, none⟩), .pointer (some ⟨w.heap.size + 3, 0, none⟩)]] ((((w.alloc (.cells #[.pointer p] 26)).alloc (.cells #[.slice A n c] 34)).alloc (.cells #[.slice S k sc] 34)).alloc (.cells #[.int .u64 fl] 35)) fun e w' => e = .returned (.int .i64 er) ∧ R w') :
    Calls Tryz.prog 36 #[.pointer p, .slice A n c, .slice S k sc, .int .u64 fl] w fun e w' => e = .returned (.int .i64 er) ∧ R w' := by
  have hmf : ∀ (fn : Fn) (first cap : Array Value) (w : World), (Instr.makeFunc fn first cap).run Tryz.prog w = .ok (.func fn first cap) w := fun _ _ _ _ => rfl
  have H := hide h
  clear h
  go_enter Tryz.func36, Tryz.ntmps36
  go_wp2_with (go_at_call 66; refine H.out.mono ?_; rintro e w1 ⟨rfl, hl⟩; have HL := hide hl; clear hl)
  go_ret
  exact ⟨rfl, HL.out⟩
theorem hF_upd : ∀ (args : Array Value) (W : World), (callFunc 84 args).run Tryz.prog W = .ok (.enter 84 args) W := enters_of Tryz.func84 (by kernel_rfl) rfl
theorem upd_not (p : Option Addr) (A S : Option Addr) (n c k sc : Nat) (fl : Int) (w : World) (h : NoA p w) :
    Calls Tryz.prog 36 #[.pointer p, .slice A n c, .slice S k sc, .int .u64 fl] w fun e w' => e = .returned (.int .i64 1) ∧ Below w.heap.size w w' :=
  upd_of p A S n c k sc fl 1 w _ (tried4_no _ 1 _ _ _ _ _ _ _ _ w hF_upd (fun W hb hq => updIn_not p _ W hq.b0.cell (h.later hb)))
theorem upd_no (B b cb sz : Nat) (L : List AR) (A S : Option Addr) (n c C k sc : Nat) (fl : Int) (l : List Int) (w : World) (h : Arr w B b cb sz L) (hr : Rd w C 1 A n (u8s l)) (hC : C ≤ w.heap.size) (hb : ∀ x ∈ l, IsByte x) (he : updE L.length sz n l k fl ≠ 0) :
    Calls Tryz.prog 36 #[.pointer (some ⟨b, 0, none⟩), .slice A n c, .slice S k sc, .int .u64 fl] w fun e w' => e = .returned (.int .i64 (updE L.length sz n l k fl)) ∧ Below w.heap.size w w' := by
  refine upd_of _ A S n c k sc fl _ w _ (tried4_no _ _ _ _ _ _ _ _ _ _ w hF_upd (fun W hbW hq => ?_))
  have hW := h.below hbW
  have hrW := hr.below (hbW.mono hC)
  have hCW := Nat.le_trans hC hbW.size
  unfold updE at he ⊢
  by_cases hn : n = 4
  · subst hn
    rw [if_pos rfl] at he ⊢
    by_cases hk : k = sz ∧ fl ≤ 2
    · obtain ⟨rfl, hf⟩ := hk
      rw [if_pos ⟨rfl, hf⟩] at he ⊢
      by_cases hv : keyV l < L.length
      · rw [if_pos hv] at he ⊢
        by_cases h1 : fl = 1
        · rw [if_pos h1]
          exact updIn_there _ B b cb k _ L A S c C sc fl l W hW hq hrW hCW hb hf (List.getElem?_eq_getElem hv) h1
        · rw [if_neg h1] at he; exact absurd rfl he
      · rw [if_neg hv]
        exact updIn_none B b cb k _ L A S c C sc fl l W hW hq hrW hCW hb hf hv
    · rw [if_neg hk]
      exact updIn_arg B b cb sz _ L A S c C k sc fl l W hW hq hrW hCW hb hk
  · rw [if_neg hn]
    exact updIn_key b _ A n c W (by rw [blk_cell hW.blk]; rfl) hq.b0.cell hq.b1.cell hn
theorem upd_yes (B b cb sz : Nat) (L : List AR) (A S : Option Addr) (n c C k sc D : Nat) (fl : Int) (l d : List Int) (w : World) (h : Arr w B b cb sz L) (hr : Rd w C 1 A n (u8s l)) (hC : C ≤ w.heap.size) (hb : ∀ x ∈ l, IsByte x) (hd : Rd w D 1 S k (u8s d)) (hD : D ≤ w.heap.size) (he : updE L.length sz n l k fl = 0) :
    Calls Tryz.prog 36 #[.pointer (some ⟨b, 0, none⟩), .slice A n c, .slice S k sc, .int .u64 fl] w fun e w' => e = .returned (.int .i64 0) ∧ Arr w' B b cb sz (putL L (keyV l) 0 d) ∧ Kept (fun g => ¬ OfA b cb sz L g) w w' := by
  have hy : n = 4 ∧ k = sz ∧ fl ≤ 2 ∧ keyV l < L.length ∧ fl ≠ 1 := by
    unfold updE at he
    by_cases hn : n = 4
    · rw [if_pos hn] at he
      by_cases hk : k = sz ∧ fl ≤ 2
      · rw [if_pos hk] at he
        by_cases hv : keyV l < L.length
        · rw [if_pos hv] at he
          by_cases h1 : fl = 1
          · rw [if_pos h1] at he; cases he
          · exact ⟨hn, hk.1, hk.2, hv, h1⟩
        · rw [if_neg hv] at he; cases he
      · rw [if_neg hk] at he; cases he
    · rw [if_neg hn] at he; cases he
  obtain ⟨rfl, rfl, hf, hv, h1⟩ := hy
  exact upd_of _ A S 4 c k sc fl 0 w _ (tried4_yes _ B b cb k L (putL L (keyV l) 0 d) _ _ _ _ _ _ _ _ w hF_upd h (fun g hg => hg.put) (fun W hbW hq => updIn_yes _ B b cb k _ L A S c C sc fl l W (h.below hbW) hq (hr.below (hbW.mono hC)) (Nat.le_trans hC hbW.size) hb hf D d (List.getElem?_eq_getElem hv) h1 (hd.below (hbW.mono hD)) (Nat.le_trans hD hbW.size)))
end Go.Proofs.YtihhbpadafgkoaaGreat
