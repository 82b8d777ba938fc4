/-
  Lookup and Value, called.
-/
import Derived.Test.YtihhbpadafgkoaaGreatAR7
namespace Go.Proofs.YtihhbpadafgkoaaGreat
open Go.RowKit
set_option linter.unusedVariables false

theorem NoA.later {p : Option Addr} {w W : World} (h : NoA p w) (hb : Below w.heap.size w W) : NoA p W := fun W2 h2 => h W2 (hb.trans (h2.mono hb.size))
theorem noA_nil (w : World) : NoA none w := fun W _ => made_nil W
theorem noA_zero {b : Nat} {w : World} (h : w.cell? ⟨b, 0, none⟩ = some (.pointer none)) : NoA (some ⟨b, 0, none⟩) w := fun W hb => made_zero b W ((hb.cell (p := ⟨b, 0, none⟩) (World.block_lt_of_cell? w _ h)).trans h)
theorem box_cell {w : World} {b : Nat} {v : Value} {t : TypeId} (h : w.heap[b]? = some (.cells #[v] t (0, 0))) : w.cell? ⟨b, 0, none⟩ = some v := by rw [blk_cell h]; rfl
set_option maxRecDepth 100000 in
set_option maxHeartbeats 1000000 in
theorem lookup_not (p : Option Addr) (A : Option Addr) (n c : Nat) (w : World) (h : NoA p w) :
    Calls Tryz.prog 35 #[.pointer p, .slice A n c] w fun e w' => e = .returned (.tuple #[.int .i64 0, .int .i64 1]) ∧ Below w.heap.size w w' := by
  have hmf : ∀ (fn : Fn) (first cap : Array Value) (w : World), (Instr.makeFunc fn first cap).run Tryz.prog w = .ok (.func fn first cap) w := fun _ _ _ _ => rfl
  have hF : ∀ (args : Array Value) (W : World), (callFunc 81 args).run Tryz.prog W = .ok (.enter 81 args) W := enters_of Tryz.func81 (by kernel_rfl) rfl
  obtain ⟨q0, q1⟩ := two_boxes w (.cells #[.pointer p] 26) (.cells #[.slice A n c] 34)
  have hb2 := below2 w (.cells #[.pointer p] 26) (.cells #[.slice A n c] 34)
  have HC := hide (caughtInt_no 81 #[.pointer (some ⟨w.heap.size, 0, none⟩), .pointer (some ⟨w.heap.size + 1, 0, none⟩)] 1 _ hF (fun W hb _ => lookIn_not p _ W (box_cell ((hb.block _ (at_lt q0)).trans q0)) (h.later (hb2.trans (hb.mono hb2.size)))))
  have HB2 := hide hb2
  clear q0 q1 hb2 hF h
  go_enter Tryz.func35, Tryz.ntmps35
  go_wp2_with (go_at_call 80; refine HC.out.mono ?_; rintro e w1 ⟨rfl, hb⟩; have HB := hide hb; clear hb)
  go_ret2
  exact ⟨rfl, HB2.out.trans (HB.out.mono (by simp; omega))⟩
set_option maxRecDepth 100000 in
set_option maxHeartbeats 1000000 in
theorem lookup_any (B b cb sz : Nat) (L : List AR) (A : Option Addr) (n c C : Nat) (l : List Int) (w : World) (h : Arr w B b cb sz L) (hr : Rd w C 1 A n (u8s l)) (hC : C ≤ w.heap.size) (hb : ∀ x ∈ l, IsByte x) :
    Calls Tryz.prog 35 #[.pointer (some ⟨b, 0, none⟩), .slice A n c] w fun e w' => e = .returned (.tuple #[.int .i64 (lookV n l L.length).1, .int .i64 (lookV n l L.length).2]) ∧ Below w.heap.size w w' := by
  have hmf : ∀ (fn : Fn) (first cap : Array Value) (w : World), (Instr.makeFunc fn first cap).run Tryz.prog w = .ok (.func fn first cap) w := fun _ _ _ _ => rfl
  have hF : ∀ (args : Array Value) (W : World), (callFunc 81 args).run Tryz.prog W = .ok (.enter 81 args) W := enters_of Tryz.func81 (by kernel_rfl) rfl
  obtain ⟨q0, q1⟩ := two_boxes w (.cells #[.pointer (some ⟨b, 0, none⟩)] 26) (.cells #[.slice A n c] 34)
  have hb2 := below2 w (.cells #[.pointer (some ⟨b, 0, none⟩)] 26) (.cells #[.slice A n c] 34)
  have hz2 : ((w.alloc (.cells #[.pointer (some ⟨b, 0, none⟩)] 26)).alloc (.cells #[.slice A n c] 34)).heap.size = w.heap.size + 2 := by simp
  have HB2 := hide hb2
  by_cases he : (lookV n l L.length).2 = 0
  · have hy : n = 4 ∧ keyV l < L.length := by
      unfold lookV at he
      by_cases hn : n = 4
      · rw [if_pos hn] at he
        by_cases hk : keyV l < L.length
        · exact ⟨hn, hk⟩
        · rw [if_neg hk] at he; cases he
      · rw [if_neg hn] at he; cases he
    obtain ⟨rfl, hk⟩ := hy
    rw [show lookV 4 l L.length = ((keyV l : Int), 0) by unfold lookV; rw [if_pos rfl, if_pos hk]]
    have HC := hide (caughtInt_ok 81 #[.pointer (some ⟨w.heap.size, 0, none⟩), .pointer (some ⟨w.heap.size + 1, 0, none⟩)] _ (fun x _ => x = (keyV l : Int)) hF (fun W hbW hzW => (lookIn_yes B b cb sz w.heap.size L A c C l W ((h.below hb2).below hbW) (box_cell ((hbW.block _ (at_lt q0)).trans q0)) (box_cell ((hbW.block _ (at_lt q1)).trans q1)) (by omega)
      (hr.below ((hb2.trans (hbW.mono hb2.size)).mono hC)) (by have := hbW.size; omega) hb hk).mono (fun e w' ⟨h1, h2⟩ => ⟨(keyV l : Int), h1, h2, rfl⟩)))
    clear q0 q1 hb2 hF h hr hb he hz2
    go_enter Tryz.func35, Tryz.ntmps35
    go_wp2_with (go_at_call 80; refine HC.out.mono ?_; rintro e w1 ⟨x, rfl, hb, w0, rfl, hnr⟩; have HB := hide hb; clear hb hnr)
    go_ret2
    exact ⟨rfl, HB2.out.trans (HB.out.mono (by simp; omega))⟩
  · have h1 : (lookV n l L.length).1 = 0 := by
      unfold lookV at he ⊢
      by_cases hn : n = 4
      · rw [if_pos hn] at he ⊢
        by_cases hk : keyV l < L.length
        · rw [if_pos hk] at he; exact absurd rfl he
        · rw [if_neg hk]
      · rw [if_neg hn]
    rw [h1]
    have HC := hide (caughtInt_no 81 #[.pointer (some ⟨w.heap.size, 0, none⟩), .pointer (some ⟨w.heap.size + 1, 0, none⟩)] (lookV n l L.length).2 _ hF (fun W hbW hzW => lookIn_no B b cb sz w.heap.size L A n c C l W ((h.below hb2).below hbW) (box_cell ((hbW.block _ (at_lt q0)).trans q0)) (box_cell ((hbW.block _ (at_lt q1)).trans q1)) (by omega)
      (hr.below ((hb2.trans (hbW.mono hb2.size)).mono hC)) (by have := hbW.size; omega) hb he))
    clear q0 q1 hb2 hF h hr hb he hz2 h1
    generalize (lookV n l L.length).2 = er at *
    go_enter Tryz.func35, Tryz.ntmps35
    go_wp2_with (go_at_call 80; refine HC.out.mono ?_; rintro e w1 ⟨rfl, hb⟩; have HB := hide hb; clear hb)
    go_ret2
    exact ⟨rfl, HB2.out.trans (HB.out.mono (by simp; omega))⟩
set_option maxRecDepth 100000 in
set_option maxHeartbeats 1000000 in
theorem valIn_not (p : Option Addr) (q : Nat) (W : World) (h0 : W.cell? ⟨q, 0, none⟩ = some (.pointer p)) (h : NoA p W) :
    Calls Tryz.prog 76 #[.pointer (some ⟨q, 0, none⟩), .pointer (some ⟨q + 1, 0, none⟩)] W fun e w' => e = .panicked (panicOf 1) ∧ Below W.heap.size W w' := by
  have H := hide (h W (Below.refl _ _))
  clear h
  go_enter Tryz.func76, Tryz.ntmps76
  go_wp2_with (go_at_call 77; refine H.out.mono ?_; rintro e w' ⟨rfl, rfl⟩)
  exact ⟨rfl, rfl, Below.refl _ _⟩
set_option maxRecDepth 100000 in
set_option maxHeartbeats 1000000 in
theorem valIn_no (B b cb sz q : Nat) (L : List AR) (i : Int) (W : World) (h : Arr W B b cb sz L) (h0 : W.cell? ⟨q, 0, none⟩ = some (.pointer (some ⟨b, 0, none⟩))) (h1 : W.cell? ⟨q + 1, 0, none⟩ = some (.int .i64 i)) (hi : hasB L.length i = false) :
    Calls Tryz.prog 76 #[.pointer (some ⟨q, 0, none⟩), .pointer (some ⟨q + 1, 0, none⟩)] W fun e w' => e = .panicked (panicOf 6) ∧ Below W.heap.size W w' := by
  have HM := hide (made_yes b W (by rw [blk_cell h.blk]; rfl))
  have HA := hide (at_no b L.length (some ⟨cb, 0, none⟩) i W.drew h.cells hi)
  clear h hi
  go_enter Tryz.func76, Tryz.ntmps76
  go_wp2_with (go_at_call 77; refine HM.out.mono ?_; rintro e w' ⟨rfl, rfl⟩)
  refine wp_region_still_tail 4 (by kernel_rfl) (by kernel_rfl) ?_
  simp only [List.take_succ_cons, List.take_zero, List.drop_succ_cons, List.drop_zero]
  repeat still_step
  refine wpStill_nil ?_
  go_wp2_with (go_at_call 78; refine HA.out.mono ?_; rintro e w' ⟨rfl, rfl⟩)
  exact ⟨rfl, rfl, (Below.refl _ W).drew⟩
set_option maxRecDepth 100000 in
set_option maxHeartbeats 1000000 in
theorem valIn_yes (B b cb sz q i : Nat) (L : List AR) (r : AR) (W : World) (h : Arr W B b cb sz L) (h0 : W.cell? ⟨q, 0, none⟩ = some (.pointer (some ⟨b, 0, none⟩))) (h1 : W.cell? ⟨q + 1, 0, none⟩ = some (.int .i64 i)) (hi : L[i]? = some r) :
    Calls Tryz.prog 76 #[.pointer (some ⟨q, 0, none⟩), .pointer (some ⟨q + 1, 0, none⟩)] W fun e w' => ∃ x : Option Addr × Nat × Nat, e = .returned (.slice x.1 x.2.1 x.2.2) ∧ Below W.heap.size W w' ∧ OwnB w' W.heap.size (.slice x.1 x.2.1 x.2.2) sz r.bs := by
  have HM := hide (made_yes b W (by rw [blk_cell h.blk]; rfl))
  have HA := hide (at_yes b L.length cb i (r.A, sz, r.c) W.drew h.cells (List.getElem?_eq_some_iff.1 hi).1 (h.cell hi))
  have hro := h.row i r hi
  have HT := hide (told_any r.A sz r.c W.heap.size r.bs W.drew (Rd.of_own hro) (by
    rcases hro.2 with ⟨e1, _⟩ | ⟨g, cap, cur, e1, _⟩
    · intro _
      have : sz = 0 := by injection e1
      have := h.big.1
      omega
    · intro e2
      rw [e2] at e1; cases e1) (Nat.le_refl _) (by have := h.big.2; omega))
  clear h hi hro
  go_enter Tryz.func76, Tryz.ntmps76
  go_wp2_with (go_at_call 77; refine HM.out.mono ?_; rintro e w' ⟨rfl, rfl⟩)
  refine wp_region_still_tail 4 (by kernel_rfl) (by kernel_rfl) ?_
  simp only [List.take_succ_cons, List.take_zero, List.drop_succ_cons, List.drop_zero]
  repeat still_step
  refine wpStill_nil ?_
  go_wp2_with (first
    | (go_at_call 78; refine HA.out.mono ?_; rintro e w' ⟨rfl, rfl⟩)
    | (go_at_call 79; refine HT.out.mono ?_; rintro e w1 ⟨x, rfl, ho, hb⟩; have HO := hide ho; have HB := hide hb; clear ho hb))
  go_ret
  exact ⟨x, rfl, (Below.refl _ W).drew.trans HB.out, HO.out⟩
end Go.Proofs.YtihhbpadafgkoaaGreat
