/-
  An lru's places taken; a link added; a key found; a key dropped.
-/
import Derived.Test.YtihhbpadafgkoaaLU5
import Derived.Test.YtihhbpadafgkoaaHM2
import Derived.Deep.QuietTactic
import Derived.BigQuiet
namespace Go.Proofs.Ytihhbpadafgkoaa
open Go.RowKit Go.Maps
set_option linter.unusedVariables false
set_option linter.unusedSimpArgs false

set_option maxRecDepth 100000 in
theorem idx_any (B b mb cb e ks sz i : Nat) (L : List LK) (P : List HS) (w : World) (h : Lru w B b mb cb e ks sz L P) (hf : freeK P = some i) :
    Calls Try.prog 62 #[.slice (some ⟨cb, 0, none⟩) P.length P.length, .func (.func 63) #[] #[]] w fun en w' => en = .returned (.int .i64 i) ∧ Below w.heap.size w w' := by
  obtain ⟨r, hr, hk, hfirst⟩ := freeK_some hf
  have hi := (List.getElem?_eq_some_iff.1 hr).1
  have HH := hide h
  have HR := hide hr
  have HK := hide hk
  have HF := hide hfirst
  have hm := h.many
  clear h hr hk hfirst hf
  have hE : ∀ args (W : World), (callFunc 63 args).run Try.prog W = .ok (.enter 63 args) W := by intro args W; kernel_rfl
  go_enter Try.func62, Try.ntmps62
  go_wp2_with fail
  go_loopw [8] (fun u wr => ∃ k : Nat, k ≤ i ∧ u = .int .i64 k ∧ Below w.heap.size w wr) (fun u _ => P.length - (intOf u).toNat)
  case atStart => exact ⟨0, Nat.zero_le _, rfl, Below.refl _ _⟩
  case round =>
    obtain ⟨k, hk, rfl, hb⟩ := hrel
    have hlt : k < P.length := by omega
    have hs : P[k]? = some P[k] := List.getElem?_eq_getElem hlt
    have hL := HH.out.below hb
    have p0 := hL.parts hs
    have p1 := hL.taken hs
    have q0 : (0 : Int) ≤ (k : Int) := by omega
    have q1 : (k : Int) < (P.length : Int) := by omega
    have HB := hide hb
    clear hb hL
    by_cases hki : k < i
    · have hkey : P[k].key.isSome = true := HF.out k _ hki hs
      rw [hkey] at p1
      clear hs hkey
      go_wp2_with (go_at_call 63; refine (take1_any _ _ _).mono ?_; rintro en w2 ⟨rfl, hb2⟩; have HB2 := hide (HB.out.trans (hb2.mono HB.out.size)); clear hb2)
      go_roundw
      case rel => exact ⟨k + 1, by omega, by go_num, HB2.out⟩
      case measure => simp [intOf]; omega
    · have hkq : k = i := by omega
      subst hkq
      have hkey : P[k].key.isSome = false := by
        have := HR.out
        rw [hs] at this
        injection this with this
        rw [this, HK.out]
        rfl
      rw [hkey] at p1
      clear hs hkey
      go_wp2_with (go_at_call 63; refine (take1_any _ _ _).mono ?_; rintro en w2 ⟨rfl, hb2⟩; have HB2 := hide (HB.out.trans (hb2.mono HB.out.size)); clear hb2)
      go_ret
      exact ⟨rfl, HB2.out⟩
/-- The least free place is taken. -/
theorem take_any (B b mb cb e ks sz i : Nat) (L : List LK) (P : List HS) (w : World) (h : Lru w B b mb cb e ks sz L P) (hf : freeK P = some i) :
    Calls Try.prog 60 #[.pointer (some ⟨b, 4, none⟩)] w fun en w' => en = .returned (.int .i64 i) ∧ ∃ w1, Below w.heap.size w w1 ∧ w' = w1.setCell ⟨cb, i * 2 + 1, none⟩ (.bool true) := by
  obtain ⟨r, hr, hk, hfirst⟩ := freeK_some hf
  have hi := (List.getElem?_eq_some_iff.1 hr).1
  have HI := hide (idx_any B b mb cb e ks sz i L P w h hf)
  have HH := hide h
  have HR := hide hr
  have c5 := h.c5
  have q0 : (0 : Int) ≤ (i : Int) := by omega
  have q1 : (i : Int) < (P.length : Int) := by omega
  clear h hr hk hfirst hf
  go_enter Try.func60, Try.ntmps60
  go_wp2_with fail
  refine HI.out.mono ?_
  rintro en w1 ⟨rfl, hb⟩
  have h1 := HH.out.below hb
  have c5 := h1.c5
  have p1 := h1.taken HR.out
  have f1 := Joins.unfrozen_of_block h1.cel (i * 2 + 1)
  have HB := hide hb
  clear h1 hb
  go_wp2_with fail
  go_ret
  exact ⟨rfl, w1, HB.out, rfl⟩
set_option maxRecDepth 100000 in
/-- A link is made, as the youngest. -/
theorem cadd_any (e p : Nat) (k : List UInt8) (L : List LK) (w : World) (h : ∃ nx pv, RingM w e L nx pv) :
    Calls Try.prog 59 #[.agg #[.pointer (some ⟨e, 0, none⟩)], .agg #[encStr k, .int .i64 p]] w fun en w' => ∃ x, en = .returned (.pointer (some ⟨x, 0, none⟩)) ∧ w.heap.size ≤ x ∧ (∃ nx' pv', RingM w' e (L ++ [⟨x, k, p⟩]) nx' pv') ∧ Kept (fun g => g ∉ e :: L.map LK.g) w w' := by
  obtain ⟨nx, pv, h⟩ := h
  have hb1 := below1 w (.cells #[.pointer (some ⟨e, 0, none⟩)] 56)
  have hx1 := World.alloc_heap_new w (.cells #[.pointer (some ⟨e, 0, none⟩)] 56)
  have hz1 : (w.alloc (.cells #[.pointer (some ⟨e, 0, none⟩)] 56)).heap.size = w.heap.size + 1 := by simp
  obtain ⟨w1, hw1⟩ : ∃ w1, w1 = w.alloc (.cells #[.pointer (some ⟨e, 0, none⟩)] 56) := ⟨_, rfl⟩
  rw [← hw1] at hb1 hx1 hz1
  have hb2 := below1 w1 (.cells #[encStr k, .int .i64 p] 69)
  have hx2 := World.alloc_heap_new w1 (.cells #[encStr k, .int .i64 p] 69)
  have hz2 : (w1.alloc (.cells #[encStr k, .int .i64 p] 69)).heap.size = w1.heap.size + 1 := by simp
  obtain ⟨w2, hw2⟩ : ∃ w2, w2 = w1.alloc (.cells #[encStr k, .int .i64 p] 69) := ⟨_, rfl⟩
  rw [← hw2] at hb2 hx2 hz2
  have hb3 := below1 w2 (.cells #[encStr k, .int .i64 p, .pointer none, .pointer none] 79)
  have hx3 := World.alloc_heap_new w2 (.cells #[encStr k, .int .i64 p, .pointer none, .pointer none] 79)
  obtain ⟨w3, hw3⟩ : ∃ w3, w3 = w2.alloc (.cells #[encStr k, .int .i64 p, .pointer none, .pointer none] 79) := ⟨_, rfl⟩
  rw [← hw3] at hb3 hx3
  have hbb : Below w.heap.size w w3 := (hb1.trans (hb2.mono hb1.size)).trans (hb3.mono (by omega))
  have s0 : w2.cell? ⟨w1.heap.size, 0, none⟩ = some (encStr k) := (blk_cell hx2 0).trans rfl
  have s1 : w2.cell? ⟨w1.heap.size, 1, none⟩ = some (.int .i64 p) := (blk_cell hx2 1).trans rfl
  have c0 : w3.cell? ⟨w.heap.size, 0, none⟩ = some (.pointer (some ⟨e, 0, none⟩)) := (blk_cell ((hb3.block _ (by omega)).trans ((hb2.block _ (by omega)).trans hx1)) 0).trans rfl
  have hr : w2.heap.size ∉ e :: L.map LK.g := fun hh => by have := h.lt hh; omega
  have hz : w2.heap.size = w.heap.size + 1 + 1 := by omega
  rw [hz] at hr hx3
  have HJ := hide (join_any e L ⟨w.heap.size + 1 + 1, k, p⟩ _ _ nx pv w3 (h.below hbb) hr hx3)
  have HBB := hide hbb
  have HZ : Hid (w.heap.size ≤ w2.heap.size) := hide (by omega)
  clear h hb1 hb2 hb3 hx1 hx2 hx3 hbb hr
  go_enter Try.func59, Try.ntmps59
  go_wp2_with fail
  rw [← hw1, ← hw2, ← hw3]
  refine HJ.out.mono ?_
  rintro en w4 ⟨rfl, h4, hk⟩
  have H4 := hide h4
  have hk2 := below_then HBB.out hk
  have HK : Hid (Kept (fun g => g ∉ e :: L.map LK.g) w w4) := hide ⟨hk2.os, hk2.tape, hk2.output, hk2.size, fun j hj hF => hk2.block j hj ⟨hF, by omega⟩⟩
  clear h4 hk hk2 hw1 hw2 hw3 s0 s1 c0
  go_wp2
  go_ret
  exact ⟨_, rfl, by omega, H4.out, HK.out⟩
end Go.Proofs.Ytihhbpadafgkoaa
