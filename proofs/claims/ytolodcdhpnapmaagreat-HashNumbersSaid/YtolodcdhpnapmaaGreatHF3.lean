/-
  The document's Value, Set.
-/
import Derived.Test.YtolodcdhpnapmaaGreatHF2
import Derived.Test.YtolodcdhpnapmaaGreatHR11
namespace Go.Proofs.YtolodcdhpnapmaaGreat
open Go.RowKit Go.Maps Go.Sort
set_option linter.unusedVariables false

set_option maxRecDepth 100000 in
theorem rvalue_no (B x y lc ks sz : Nat) (M : List HS) (i : Int) (w : World) (h : RHsh w B x y lc ks sz M) (hi : hasB M.length i = false) :
    Calls Tryz.prog 18 #[.pointer (some ⟨x, 0, none⟩), .int .i64 i] w fun e w' => e = .returned (.tuple #[.slice none 0 0, .int .i64 6]) ∧ Below w.heap.size w w' := by
  have x4 := h.c4
  have hi1 : ¬ (0 ≤ i ∧ i < M.length) := by simpa [hasB] using hi
  clear h hi
  by_cases h0 : i < 0
  · have d1 : decide (i < 0) = true := decide_eq_true (by omega)
    go_enter Tryz.func18, Tryz.ntmps18
    go_wp2_with fail
    go_ret2
    exact ⟨rfl, Below.refl _ _⟩
  · have d1 : decide (i < 0) = false := decide_eq_false (by omega)
    have d2 : decide ((M.length : Int) ≤ i) = true := decide_eq_true (by omega)
    go_enter Tryz.func18, Tryz.ntmps18
    go_wp2_with fail
    go_ret2
    exact ⟨rfl, Below.refl _ _⟩
set_option maxRecDepth 100000 in
set_option maxHeartbeats 1000000 in
theorem rvalue_yes (B x y lc ks sz i : Nat) (M : List HS) (r : HS) (w : World) (h : RHsh w B x y lc ks sz M) (hi : M[i]? = some r) :
    Calls Tryz.prog 18 #[.pointer (some ⟨x, 0, none⟩), .int .i64 i] w (ValTold sz r.bs w) := by
  obtain ⟨i0, hinf, hz0, hz1, hz2⟩ := info_parts u8info
  have x4 := h.c4
  have hlt := (List.getElem?_eq_some_iff.1 hi).1
  have d1 : decide ((i : Int) < 0) = false := decide_eq_false (by omega)
  have d2 : decide ((M.length : Int) ≤ (i : Int)) = false := decide_eq_false (by omega)
  have j0 : (0 : Int) ≤ (i : Int) := by omega
  have j1 : (i : Int) < (M.length : Int) := by omega
  have hb1 := below1 w (.cells #[] 5)
  have h1 := h.below hb1
  have y4 := h1.c4
  have y2 := h1.val hi
  have HO := hide (h1.each i r hi)
  have HNIL : Hid (r.A = none → sz = 0) := hide (fun e => by
    refine Classical.byContradiction fun hc => ?_
    obtain ⟨ad, e', _⟩ := (Rd.of_own (h1.each i r hi)).2 (by omega)
    rw [e] at e'
    cases e')
  have HE := hide (owns_empty w)
  have HB := hide hb1
  have HG := hide h.big
  clear h hi hb1 h1 hlt
  go_enter Tryz.func18, Tryz.ntmps18
  go_wp2_with (with_reducible refine stop_append ?_)
  show Hid _
  refine start_here ?_
  refine wpList_append_rd2 rfl _ _ _ _ rfl 5 i0 _ 1 1 Tryz.underlying34 Tryz.underlying34 hinf hz0 hz1 hz2 rfl (by decide) _ 0 [] rfl HE.out (w.alloc (.cells #[] 5)).heap.size r.A sz r.c (u8s r.bs) rfl (Rd.of_own HO.out) HNIL.out (u8s_one r.bs) (by have := HG.out.2; unfold maxLen; omega) (by have := HG.out.2; omega) ?_
  intro v w1 hl
  rw [Nat.zero_add, List.nil_append] at hl
  have hv : ∀ g, (Value.slice (some ⟨w.heap.size, 0, none⟩) 0 0).ownBlock = some g → w.heap.size ≤ g := fun g hg => by
    simp [Value.ownBlock] at hg
    omega
  have H1 := hide hl.1
  have H2 := hide (longer_from hl (by simp) hv)
  have H3 := hide (longer_below HB.out (by simp) hv hl)
  obtain ⟨A', c', rfl, _⟩ := owns_slice hl.1
  clear hl hv
  go_wp2
  go_ret2
  exact ⟨_, rfl, ⟨H1.out, H2.out⟩, H3.out⟩
set_option maxRecDepth 100000 in
set_option maxHeartbeats 1000000 in
theorem rset_no (B x y lc ks sz : Nat) (M : List HS) (i off : Int) (S : Option Addr) (k sc : Nat) (w : World) (h : RHsh w B x y lc ks sz M) (ho : off ≤ 9223372036854775807) (hk : (k : Int) ≤ 140737488351232) (he : setE M.length sz i off k ≠ 0) :
    Calls Tryz.prog 37 #[.pointer (some ⟨x, 0, none⟩), .int .i64 i, .int .i64 off, .slice S k sc] w fun e w' => e = .returned (.int .i64 (setE M.length sz i off k)) ∧ Below w.heap.size w w' := by
  have c2 := h.c2
  have x4 := h.c4
  have hbig := h.big
  clear h
  unfold setE at he ⊢
  by_cases hi : (decide (0 ≤ i) && decide (i < M.length)) = true
  · rw [if_pos hi] at he ⊢
    have hi1 : 0 ≤ i ∧ i < M.length := by simpa using hi
    have d1 : decide (i < 0) = false := decide_eq_false (by omega)
    have d2 : decide ((M.length : Int) ≤ i) = false := decide_eq_false (by omega)
    by_cases hf : (decide (0 ≤ off) && decide ((k : Int) ≤ sz - off)) = true
    · rw [if_pos hf] at he; exact absurd rfl he
    · rw [if_neg hf]
      have hf1 : ¬ (0 ≤ off ∧ (k : Int) ≤ sz - off) := by simpa using hf
      clear he hi hf
      by_cases h0 : off < 0
      · have d3 : decide (off < 0) = true := decide_eq_true (by omega)
        go_enter Tryz.func37, Tryz.ntmps37
        go_wp2_with fail
        go_ret
        exact ⟨rfl, Below.refl _ _⟩
      · have d3 : decide (off < 0) = false := decide_eq_false (by omega)
        have a0 : 0 ≤ off := by omega
        by_cases h1 : (sz : Int) < off
        · have d4 : decide ((sz : Int) < off) = true := decide_eq_true (by omega)
          go_enter Tryz.func37, Tryz.ntmps37
          go_wp2_with fail
          go_ret
          exact ⟨rfl, Below.refl _ _⟩
        · have d4 : decide ((sz : Int) < off) = false := decide_eq_false (by omega)
          have d5 : decide ((sz : Int) - off < (k : Int)) = true := decide_eq_true (by omega)
          have a1 : off ≤ 1024 := by omega
          go_enter Tryz.func37, Tryz.ntmps37
          go_wp2_with fail
          go_ret
          exact ⟨rfl, Below.refl _ _⟩
  · rw [if_neg hi]
    have hi1 : ¬ (0 ≤ i ∧ i < M.length) := by simpa using hi
    clear he hi
    by_cases h0 : i < 0
    · have d1 : decide (i < 0) = true := decide_eq_true (by omega)
      go_enter Tryz.func37, Tryz.ntmps37
      go_wp2_with fail
      go_ret
      exact ⟨rfl, Below.refl _ _⟩
    · have d1 : decide (i < 0) = false := decide_eq_false (by omega)
      have d2 : decide ((M.length : Int) ≤ i) = true := decide_eq_true (by omega)
      go_enter Tryz.func37, Tryz.ntmps37
      go_wp2_with fail
      go_ret
      exact ⟨rfl, Below.refl _ _⟩
set_option maxRecDepth 100000 in
set_option maxHeartbeats 1000000 in
theorem rset_yes (B x y lc ks sz i off C : Nat) (M : List HS) (r : HS) (S : Option Addr) (k sc : Nat) (d : List Int) (w : World) (h : RHsh w B x y lc ks sz M) (hi : M[i]? = some r) (hd : Rd w C 1 S k (u8s d)) (hC : C ≤ w.heap.size) (hfit : off + k ≤ sz) :
    Calls Tryz.prog 37 #[.pointer (some ⟨x, 0, none⟩), .int .i64 i, .int .i64 off, .slice S k sc] w fun e w' => e = .returned (.int .i64 0) ∧ RHsh w' B x y lc ks sz (putB M i off d) ∧ Kept (fun g => ¬ OfR x y sz M g) w w' := by
  have c2 := h.c2
  have x4 := h.c4
  have y2 := h.val hi
  have hbig := h.big
  have hlt := (List.getElem?_eq_some_iff.1 hi).1
  obtain ⟨A2, c2', hcut, hg2⟩ := cut_rest (P := Tryz.prog) Tryz.underlying34 u8size (h.each i r hi) off (by omega)
  have hcw := hcut w
  have d1 : decide ((i : Int) < 0) = false := decide_eq_false (by omega)
  have d2 : decide ((M.length : Int) ≤ (i : Int)) = false := decide_eq_false (by omega)
  have d3 : decide ((off : Int) < 0) = false := decide_eq_false (by omega)
  have d4 : decide ((sz : Int) < (off : Int)) = false := decide_eq_false (by omega)
  have d5 : decide ((sz : Int) - (off : Int) < (k : Int)) = false := decide_eq_false (by omega)
  have j0 : (0 : Int) ≤ (i : Int) := by omega
  have j1 : (i : Int) < (M.length : Int) := by omega
  have o0 : (0 : Int) ≤ (off : Int) := by omega
  have o1 : (off : Int) ≤ 1024 := by omega
  have HG2 := hide hg2
  have HR := hide h
  have HI := hide hi
  have HD := hide hd
  clear h hi hd hg2 hcut
  go_enter Tryz.func37, Tryz.ntmps37
  go_wp2_with (with_reducible refine stop_copy ?_)
  show Hid _
  refine start_here ?_
  clear hcw
  refine wpList_copy_owns (e := 5) (n := sz) (xs := u8s r.bs) rfl (.tmp 52) (.tmp 53) 34 34 rfl Tryz.underlying34 u8size r.A r.c (HR.out.each i r HI.out) off A2 (sz - off) c2' rfl HG2.out C S k sc rfl (u8s d) HD.out (u8s_one d) (by omega) hfit ?_
  intro w4 ho4 hg4 hz4
  rw [← u8s_splice] at ho4
  have HP := hide (HR.out.put HI.out ho4 ((Kept.refl _ w).grown hg4 (fun j e _ h => h e)))
  clear ho4 hg4 hz4
  go_wp2_with fail
  go_ret
  refine ⟨rfl, ?_, HP.out.2⟩
  rw [putB_some HI.out]
  exact HP.out.1
end Go.Proofs.YtolodcdhpnapmaaGreat
