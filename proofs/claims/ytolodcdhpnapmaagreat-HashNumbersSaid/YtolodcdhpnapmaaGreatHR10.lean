/-
  Lookup of a hash; Value.
-/
import Derived.Test.YtolodcdhpnapmaaGreatHR6
import Derived.StillTailTactics
namespace Go.Proofs.YtolodcdhpnapmaaGreat
open Go.RowKit Go.Maps
set_option linter.unusedVariables false

/-- A row of bytes that is asked for: it can be read, below C. -/
structure KRow (W : World) (C : Nat) (A : Option Addr) (n : Nat) (l : List Int) : Prop where
  rd : Rd W C 1 A n (u8s l)
  nil : A = none → n = 0
  byte : ∀ x ∈ l, IsByte x
theorem KRow.below {W W' : World} {C n : Nat} {A : Option Addr} {l : List Int} (h : KRow W C A n l) (hb : Below C W W') : KRow W' C A n l := ⟨h.rd.below hb, h.nil, h.byte⟩
set_option maxRecDepth 100000 in
set_option maxHeartbeats 1000000 in
theorem lookIn_not (p : Option Addr) (q : Nat) (W : World) (h0 : W.cell? ⟨q, 0, none⟩ = some (.pointer p)) (h : NoH p W) :
    Calls Tryz.prog 54 #[.pointer (some ⟨q, 0, none⟩), .pointer (some ⟨q + 1, 0, none⟩)] W fun e w' => e = .panicked (panicOf 1) ∧ Below W.heap.size W w' := by
  have H := hide (made_no p W h)
  clear h
  go_enter Tryz.func54, Tryz.ntmps54
  go_wp2_with (go_at_call 45; refine H.out.mono ?_; rintro e w' ⟨rfl, rfl⟩)
  exact ⟨rfl, rfl, Below.refl _ _⟩
set_option maxRecDepth 100000 in
set_option maxHeartbeats 1000000 in
theorem lookIn_no (B b cb mb ks sz q : Nat) (L : List HS) (A : Option Addr) (n c C : Nat) (l : List Int) (W : World) (h : Hsh W B b cb mb ks sz L) (h0 : W.cell? ⟨q, 0, none⟩ = some (.pointer (some ⟨b, 0, none⟩))) (h1 : W.cell? ⟨q + 1, 0, none⟩ = some (.slice A n c))
    (hr : KRow W C A n l) (he : (lookE ks n L (kb l)).2 ≠ 0) :
    Calls Tryz.prog 54 #[.pointer (some ⟨q, 0, none⟩), .pointer (some ⟨q + 1, 0, none⟩)] W fun e w' => e = .panicked (panicOf (lookE ks n L (kb l)).2) ∧ Below W.heap.size W w' := by
  have HM := hide (made_yes b W (by rw [blk_cell h.blk]; rfl))
  unfold lookE at he ⊢
  by_cases hn : n = ks
  · subst hn
    have hk := h.kbig
    rw [if_pos rfl] at he ⊢
    have HK := hide (key_yes b n A c W h.c1)
    cases hf : findK L (kb l) with
    | some i =>
      rw [hf] at he
      exact absurd rfl he
    | none =>
      have HP := hide (placeOf_no B b cb mb n sz L A n c C l W h hr.byte hr.rd hr.nil (by omega) hf)
      clear h hr he hf
      simp only
      go_enter Tryz.func54, Tryz.ntmps54
      go_wp2_with (first
        | (go_at_call 45; refine HM.out.mono ?_; rintro e w' ⟨rfl, rfl⟩)
        | (go_at_call 55; refine HK.out.mono ?_; rintro e w' ⟨rfl, rfl⟩)
        | (go_at_call 56; refine HP.out.mono ?_; rintro e w1 ⟨rfl, hbb⟩))
      exact ⟨rfl, rfl, hbb⟩
  · have HK := hide (key_no b ks n A c W h.c1 hn)
    rw [if_neg hn]
    clear h hr he
    go_enter Tryz.func54, Tryz.ntmps54
    go_wp2_with (first
      | (go_at_call 45; refine HM.out.mono ?_; rintro e w' ⟨rfl, rfl⟩)
      | (go_at_call 55; refine HK.out.mono ?_; rintro e w' ⟨rfl, rfl⟩))
    exact ⟨rfl, rfl, Below.refl _ _⟩
set_option maxRecDepth 100000 in
set_option maxHeartbeats 1000000 in
theorem lookIn_yes (B b cb mb ks sz q i : Nat) (L : List HS) (A : Option Addr) (c C : Nat) (l : List Int) (W : World) (h : Hsh W B b cb mb ks sz L) (h0 : W.cell? ⟨q, 0, none⟩ = some (.pointer (some ⟨b, 0, none⟩))) (h1 : W.cell? ⟨q + 1, 0, none⟩ = some (.slice A ks c))
    (hr : KRow W C A ks l) (hf : findK L (kb l) = some i) :
    Calls Tryz.prog 54 #[.pointer (some ⟨q, 0, none⟩), .pointer (some ⟨q + 1, 0, none⟩)] W fun e w' => e = .returned (.int .i64 i) ∧ Below W.heap.size W w' := by
  have HM := hide (made_yes b W (by rw [blk_cell h.blk]; rfl))
  have HK := hide (key_yes b ks A c W h.c1)
  have hk := h.kbig
  have HP := hide (placeOf_yes B b cb mb ks sz L A ks c C i l W h hr.byte hr.rd hr.nil (by omega) hf)
  clear h hr hf hk
  go_enter Tryz.func54, Tryz.ntmps54
  go_wp2_with (first
    | (go_at_call 45; refine HM.out.mono ?_; rintro e w' ⟨rfl, rfl⟩)
    | (go_at_call 55; refine HK.out.mono ?_; rintro e w' ⟨rfl, rfl⟩)
    | (go_at_call 56; refine HP.out.mono ?_; rintro e w1 ⟨rfl, hbb⟩; have HB := hide hbb; clear hbb))
  go_ret
  exact ⟨rfl, HB.out⟩
theorem hF_look : ∀ (args : Array Value) (W : World), (callFunc 54 args).run Tryz.prog W = .ok (.enter 54 args) W := enters_of Tryz.func54 (by kernel_rfl) rfl
theorem hF_value : ∀ (args : Array Value) (W : World), (callFunc 44 args).run Tryz.prog W = .ok (.enter 44 args) W := enters_of Tryz.func44 (by kernel_rfl) rfl
set_option maxRecDepth 100000 in
set_option maxHeartbeats 1000000 in
theorem lookup_not (p : Option Addr) (A : Option Addr) (n c : Nat) (w : World) (h : NoH p w) :
    Calls Tryz.prog 24 #[.pointer p, .slice A n c] w fun e w' => e = .returned (.tuple #[.int .i64 0, .int .i64 1]) ∧ Below w.heap.size w w' := by
  have hmf : ∀ (fn : Fn) (first cap : Array Value) (w : World), (Instr.makeFunc fn first cap).run Tryz.prog w = .ok (.func fn first cap) w := fun _ _ _ _ => rfl
  obtain ⟨q0, q1⟩ := two_boxes w (.cells #[.pointer p] 26) (.cells #[.slice A n c] 34)
  have hb2 := below2 w (.cells #[.pointer p] 26) (.cells #[.slice A n c] 34)
  have HC := hide (caughtInt_no 54 #[.pointer (some ⟨w.heap.size, 0, none⟩), .pointer (some ⟨w.heap.size + 1, 0, none⟩)] 1 _ hF_look (fun W hb _ => lookIn_not p _ W (box_cell ((hb.block _ (at_lt q0)).trans q0)) (h.later (hb2.trans (hb.mono hb2.size)))))
  have HB2 := hide hb2
  clear q0 q1 hb2 h
  go_enter Tryz.func24, Tryz.ntmps24
  go_wp2_with (go_at_call 53; refine HC.out.mono ?_; rintro e w1 ⟨rfl, hb⟩; have HB := hide hb; clear hb)
  go_ret2
  exact ⟨rfl, HB2.out.trans (HB.out.mono (by simp; omega))⟩
theorem lookE_first {ks n : Nat} {L : List HS} {k : List UInt8} (he : (lookE ks n L k).2 ≠ 0) : (lookE ks n L k).1 = 0 := by
  unfold lookE at he ⊢
  by_cases hn : n = ks
  · rw [if_pos hn] at he ⊢
    cases hf : findK L k with
    | some i => rw [hf] at he; exact absurd rfl he
    | none => rfl
  · rw [if_neg hn]
theorem lookE_yes {ks n : Nat} {L : List HS} {k : List UInt8} (he : (lookE ks n L k).2 = 0) : n = ks ∧ ∃ i, findK L k = some i ∧ lookE ks n L k = ((i : Int), 0) := by
  unfold lookE at he ⊢
  by_cases hn : n = ks
  · rw [if_pos hn] at he ⊢
    cases hf : findK L k with
    | some i => exact ⟨hn, i, rfl, rfl⟩
    | none => rw [hf] at he; cases he
  · rw [if_neg hn] at he; cases he
set_option maxRecDepth 100000 in
set_option maxHeartbeats 1000000 in
theorem lookup_any (B b cb mb ks sz : Nat) (L : List HS) (A : Option Addr) (n c C : Nat) (l : List Int) (w : World) (h : Hsh w B b cb mb ks sz L) (hr : KRow w C A n l) (hC : C ≤ w.heap.size) :
    Calls Tryz.prog 24 #[.pointer (some ⟨b, 0, none⟩), .slice A n c] w fun e w' => e = .returned (.tuple #[.int .i64 (lookE ks n L (kb l)).1, .int .i64 (lookE ks n L (kb l)).2]) ∧ Below w.heap.size w w' := by
  have hmf : ∀ (fn : Fn) (first cap : Array Value) (w : World), (Instr.makeFunc fn first cap).run Tryz.prog w = .ok (.func fn first cap) w := fun _ _ _ _ => rfl
  obtain ⟨q0, q1⟩ := two_boxes w (.cells #[.pointer (some ⟨b, 0, none⟩)] 26) (.cells #[.slice A n c] 34)
  have hb2 := below2 w (.cells #[.pointer (some ⟨b, 0, none⟩)] 26) (.cells #[.slice A n c] 34)
  have HB2 := hide hb2
  have hkr : ∀ W, Below ((w.alloc (.cells #[.pointer (some ⟨b, 0, none⟩)] 26)).alloc (.cells #[.slice A n c] 34)).heap.size ((w.alloc (.cells #[.pointer (some ⟨b, 0, none⟩)] 26)).alloc (.cells #[.slice A n c] 34)) W → KRow W C A n l :=
    fun W hbW => hr.below ((hb2.trans (hbW.mono hb2.size)).mono hC)
  by_cases he : (lookE ks n L (kb l)).2 = 0
  · obtain ⟨rfl, i, hf, e⟩ := lookE_yes he
    rw [e]
    have HC := hide (caughtInt_ok 54 #[.pointer (some ⟨w.heap.size, 0, none⟩), .pointer (some ⟨w.heap.size + 1, 0, none⟩)] _ (fun x _ => x = (i : Int)) hF_look (fun W hbW hzW => (lookIn_yes B b cb mb n sz w.heap.size i L A c C l W ((h.below hb2).below hbW) (box_cell ((hbW.block _ (at_lt q0)).trans q0)) (box_cell ((hbW.block _ (at_lt q1)).trans q1))
      (hkr W hbW) hf).mono (fun e w' ⟨h1, h2⟩ => ⟨(i : Int), h1, h2, rfl⟩)))
    clear q0 q1 hb2 h hr he hkr e hf
    go_enter Tryz.func24, Tryz.ntmps24
    go_wp2_with (go_at_call 53; refine HC.out.mono ?_; rintro e w1 ⟨x, rfl, hb, w0, rfl, hnr⟩; have HB := hide hb; clear hb hnr)
    go_ret2
    exact ⟨rfl, HB2.out.trans (HB.out.mono (by simp; omega))⟩
  · rw [lookE_first he]
    have HC := hide (caughtInt_no 54 #[.pointer (some ⟨w.heap.size, 0, none⟩), .pointer (some ⟨w.heap.size + 1, 0, none⟩)] (lookE ks n L (kb l)).2 _ hF_look (fun W hbW hzW => lookIn_no B b cb mb ks sz w.heap.size L A n c C l W ((h.below hb2).below hbW) (box_cell ((hbW.block _ (at_lt q0)).trans q0)) (box_cell ((hbW.block _ (at_lt q1)).trans q1))
      (hkr W hbW) he))
    clear q0 q1 hb2 h hr he hkr
    generalize (lookE ks n L (kb l)).2 = er at *
    go_enter Tryz.func24, Tryz.ntmps24
    go_wp2_with (go_at_call 53; refine HC.out.mono ?_; rintro e w1 ⟨rfl, hb⟩; have HB := hide hb; clear hb)
    go_ret2
    exact ⟨rfl, HB2.out.trans (HB.out.mono (by simp; omega))⟩
set_option maxRecDepth 100000 in
set_option maxHeartbeats 1000000 in
theorem valIn_not (p : Option Addr) (q : Nat) (W : World) (h0 : W.cell? ⟨q, 0, none⟩ = some (.pointer p)) (h : NoH p W) :
    Calls Tryz.prog 44 #[.pointer (some ⟨q, 0, none⟩), .pointer (some ⟨q + 1, 0, none⟩)] W fun e w' => e = .panicked (panicOf 1) ∧ Below W.heap.size W w' := by
  have H := hide (made_no p W h)
  clear h
  go_enter Tryz.func44, Tryz.ntmps44
  go_wp2_with (go_at_call 45; refine H.out.mono ?_; rintro e w' ⟨rfl, rfl⟩)
  exact ⟨rfl, rfl, Below.refl _ _⟩
set_option maxRecDepth 100000 in
set_option maxHeartbeats 1000000 in
theorem valIn_no (B b cb mb ks sz q : Nat) (L : List HS) (i : Int) (W : World) (h : Hsh W B b cb mb ks sz L) (h0 : W.cell? ⟨q, 0, none⟩ = some (.pointer (some ⟨b, 0, none⟩))) (h1 : W.cell? ⟨q + 1, 0, none⟩ = some (.int .i64 i)) (hi : hasB L.length i = false) :
    Calls Tryz.prog 44 #[.pointer (some ⟨q, 0, none⟩), .pointer (some ⟨q + 1, 0, none⟩)] W fun e w' => e = .panicked (panicOf 6) ∧ Below W.heap.size W w' := by
  have HM := hide (made_yes b W (by rw [blk_cell h.blk]; rfl))
  have HA := hide (at_no b L.length (some ⟨cb, 0, none⟩) i W.drew h.c4 hi)
  clear h hi
  go_enter Tryz.func44, Tryz.ntmps44
  go_wp2_with (go_at_call 45; refine HM.out.mono ?_; rintro e w' ⟨rfl, rfl⟩)
  refine wp_region_still_tail 4 (by kernel_rfl) (by kernel_rfl) ?_
  simp only [List.take_succ_cons, List.take_zero, List.drop_succ_cons, List.drop_zero]
  repeat still_step
  refine wpStill_nil ?_
  go_wp2_with (go_at_call 46; refine HA.out.mono ?_; rintro e w' ⟨rfl, rfl⟩)
  exact ⟨rfl, rfl, (Below.refl _ W).drew⟩
set_option maxRecDepth 100000 in
set_option maxHeartbeats 1000000 in
theorem valIn_yes (B b cb mb ks sz q i : Nat) (L : List HS) (r : HS) (W : World) (h : Hsh W B b cb mb ks sz L) (h0 : W.cell? ⟨q, 0, none⟩ = some (.pointer (some ⟨b, 0, none⟩))) (h1 : W.cell? ⟨q + 1, 0, none⟩ = some (.int .i64 i)) (hi : L[i]? = some r) :
    Calls Tryz.prog 44 #[.pointer (some ⟨q, 0, none⟩), .pointer (some ⟨q + 1, 0, none⟩)] W fun e w' => ∃ x : Option Addr × Nat × Nat, e = .returned (.slice x.1 x.2.1 x.2.2) ∧ Below W.heap.size W w' ∧ OwnB w' W.heap.size (.slice x.1 x.2.1 x.2.2) sz r.bs := by
  have HM := hide (made_yes b W (by rw [blk_cell h.blk]; rfl))
  have HA := hide (at_yes b L.length cb i W.drew h.c4 (List.getElem?_eq_some_iff.1 hi).1)
  have hro := h.row i r hi
  have HT := hide (told_any cb (i * 2) r.A sz r.c W.heap.size r.bs W.drew (h.parts hi) (Rd.of_own hro) (by
    rcases hro.2 with ⟨e1, _⟩ | ⟨g, cap, cur, e1, _⟩
    · intro _
      have : sz = 0 := by injection e1
      have := h.big.1
      omega
    · intro e2
      rw [e2] at e1; cases e1) (Nat.le_refl _) (by have := h.big.2; omega))
  clear h hi hro
  go_enter Tryz.func44, Tryz.ntmps44
  go_wp2_with (go_at_call 45; refine HM.out.mono ?_; rintro e w' ⟨rfl, rfl⟩)
  refine wp_region_still_tail 4 (by kernel_rfl) (by kernel_rfl) ?_
  simp only [List.take_succ_cons, List.take_zero, List.drop_succ_cons, List.drop_zero]
  repeat still_step
  refine wpStill_nil ?_
  go_wp2_with (first
    | (go_at_call 46; refine HA.out.mono ?_; rintro e w' ⟨rfl, rfl⟩)
    | (go_at_call 47; refine HT.out.mono ?_; rintro e w1 ⟨x, rfl, ho, hb⟩; have HO := hide ho; have HB := hide hb; clear ho hb))
  go_ret
  exact ⟨x, rfl, (Below.refl _ W).drew.trans HB.out, HO.out⟩
theorem owns_near {b : Nat} {w w' : World} {v : Value} {n : Nat} {l : List Int} (h : OwnB w (b + 3) v n l) (hn : Near b w w') : OwnB w' (b + 3) v n l := ⟨owns_kept h.1 hn (fun g hg => .inr (h.2 g hg)), h.2⟩
set_option maxRecDepth 100000 in
set_option maxHeartbeats 1000000 in
theorem value_not (p : Option Addr) (i : Int) (w : World) (h : NoH p w) :
    Calls Tryz.prog 17 #[.pointer p, .int .i64 i] w fun e w' => e = .returned (.tuple #[.slice none 0 0, .int .i64 1]) ∧ Below w.heap.size w w' := by
  have hmf : ∀ (fn : Fn) (first cap : Array Value) (w : World), (Instr.makeFunc fn first cap).run Tryz.prog w = .ok (.func fn first cap) w := fun _ _ _ _ => rfl
  have hF : ∀ (args : Array Value) (W : World), (callFunc 44 args).run Tryz.prog W = .ok (.enter 44 args) W := enters_of Tryz.func44 (by kernel_rfl) rfl
  obtain ⟨q0, q1⟩ := two_boxes w (.cells #[.pointer p] 26) (.cells #[.int .i64 i] 3)
  have hb2 := below2 w (.cells #[.pointer p] 26) (.cells #[.int .i64 i] 3)
  have HC := hide (caughtSl_no 44 #[.pointer (some ⟨w.heap.size, 0, none⟩), .pointer (some ⟨w.heap.size + 1, 0, none⟩)] 1 _ hF (fun W hb _ => valIn_not p _ W (box_cell ((hb.block _ (at_lt q0)).trans q0)) (h.later (hb2.trans (hb.mono hb2.size)))))
  have HB2 := hide hb2
  clear q0 q1 hb2 hF h
  go_enter Tryz.func17, Tryz.ntmps17
  go_wp2_with (go_at_call 43; refine HC.out.mono ?_; rintro e w1 ⟨rfl, hb⟩; have HB := hide hb; clear hb)
  go_ret2
  exact ⟨rfl, HB2.out.trans (HB.out.mono (by simp; omega))⟩
set_option maxRecDepth 100000 in
set_option maxHeartbeats 1000000 in
theorem value_no (B b cb mb ks sz : Nat) (L : List HS) (i : Int) (w : World) (h : Hsh w B b cb mb ks sz L) (hi : hasB L.length i = false) :
    Calls Tryz.prog 17 #[.pointer (some ⟨b, 0, none⟩), .int .i64 i] w fun e w' => e = .returned (.tuple #[.slice none 0 0, .int .i64 6]) ∧ Below w.heap.size w w' := by
  have hmf : ∀ (fn : Fn) (first cap : Array Value) (w : World), (Instr.makeFunc fn first cap).run Tryz.prog w = .ok (.func fn first cap) w := fun _ _ _ _ => rfl
  have hF : ∀ (args : Array Value) (W : World), (callFunc 44 args).run Tryz.prog W = .ok (.enter 44 args) W := enters_of Tryz.func44 (by kernel_rfl) rfl
  obtain ⟨q0, q1⟩ := two_boxes w (.cells #[.pointer (some ⟨b, 0, none⟩)] 26) (.cells #[.int .i64 i] 3)
  have hb2 := below2 w (.cells #[.pointer (some ⟨b, 0, none⟩)] 26) (.cells #[.int .i64 i] 3)
  have HC := hide (caughtSl_no 44 #[.pointer (some ⟨w.heap.size, 0, none⟩), .pointer (some ⟨w.heap.size + 1, 0, none⟩)] 6 _ hF (fun W hb _ => valIn_no B b cb mb ks sz _ L i W ((h.below hb2).below hb) (box_cell ((hb.block _ (at_lt q0)).trans q0)) (box_cell ((hb.block _ (at_lt q1)).trans q1)) hi))
  have HB2 := hide hb2
  clear q0 q1 hb2 hF h hi
  go_enter Tryz.func17, Tryz.ntmps17
  go_wp2_with (go_at_call 43; refine HC.out.mono ?_; rintro e w1 ⟨rfl, hb⟩; have HB := hide hb; clear hb)
  go_ret2
  exact ⟨rfl, HB2.out.trans (HB.out.mono (by simp; omega))⟩
/-- A value that is told: a row of the call's own. -/
def ValTold (sz : Nat) (l : List Int) (w : World) (e : Ending) (w' : World) : Prop := ∃ v, e = .returned (.tuple #[v, .int .i64 0]) ∧ OwnB w' w.heap.size v sz l ∧ Below w.heap.size w w'
set_option maxRecDepth 100000 in
set_option maxHeartbeats 1000000 in
theorem value_yes (B b cb mb ks sz i : Nat) (L : List HS) (r : HS) (w : World) (h : Hsh w B b cb mb ks sz L) (hi : L[i]? = some r) :
    Calls Tryz.prog 17 #[.pointer (some ⟨b, 0, none⟩), .int .i64 i] w (ValTold sz r.bs w) := by
  have hmf : ∀ (fn : Fn) (first cap : Array Value) (w : World), (Instr.makeFunc fn first cap).run Tryz.prog w = .ok (.func fn first cap) w := fun _ _ _ _ => rfl
  have hF : ∀ (args : Array Value) (W : World), (callFunc 44 args).run Tryz.prog W = .ok (.enter 44 args) W := enters_of Tryz.func44 (by kernel_rfl) rfl
  obtain ⟨q0, q1⟩ := two_boxes w (.cells #[.pointer (some ⟨b, 0, none⟩)] 26) (.cells #[.int .i64 (i : Int)] 3)
  have hb2 := below2 w (.cells #[.pointer (some ⟨b, 0, none⟩)] 26) (.cells #[.int .i64 (i : Int)] 3)
  have hz2 : ((w.alloc (.cells #[.pointer (some ⟨b, 0, none⟩)] 26)).alloc (.cells #[.int .i64 (i : Int)] 3)).heap.size = w.heap.size + 2 := by simp
  have HC := hide (caughtSl_ok 44 #[.pointer (some ⟨w.heap.size, 0, none⟩), .pointer (some ⟨w.heap.size + 1, 0, none⟩)] _ (fun x w' => OwnB w' (w.heap.size + 2 + 3) (.slice x.1 x.2.1 x.2.2) sz r.bs) hF (fun W hb hzW => (valIn_yes B b cb mb ks sz _ i L r W ((h.below hb2).below hb) (box_cell ((hb.block _ (at_lt q0)).trans q0)) (box_cell ((hb.block _ (at_lt q1)).trans q1)) hi).mono (by
    rintro e w' ⟨x, h1, h2, h3⟩
    refine ⟨x, h1, h2, ?_⟩
    rw [hzW, hz2] at h3
    exact h3)))
  rw [hz2] at HC
  have HB2 := hide hb2
  clear q0 q1 hb2 hF h hi hz2
  go_enter Tryz.func17, Tryz.ntmps17
  go_wp2_with (go_at_call 43; refine HC.out.mono ?_; rintro e w1 ⟨⟨xa, xn, xc⟩, rfl, hb, w0, ho, hnr⟩; have HB := hide hb; have HO := hide (owns_near ho hnr); clear hb ho hnr)
  have hfin : ValTold sz r.bs w (.returned (.tuple #[.slice xa xn xc, .int .i64 0])) w1 := ⟨_, rfl, ⟨HO.out.1, fun g hg => by have := HO.out.2 g hg; omega⟩, HB2.out.trans (HB.out.mono (by omega))⟩
  go_ret2
  exact hfin
end Go.Proofs.YtolodcdhpnapmaaGreat
