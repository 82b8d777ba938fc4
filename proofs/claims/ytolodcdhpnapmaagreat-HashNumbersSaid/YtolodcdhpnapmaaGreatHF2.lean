/-
  Where a key is, by the document.
-/
import Derived.Test.YtolodcdhpnapmaaGreatHF1
namespace Go.Proofs.YtolodcdhpnapmaaGreat
open Go.RowKit Go.Maps Go.Sort
set_option linter.unusedVariables false

set_option maxRecDepth 100000 in
set_option maxHeartbeats 2000000 in
theorem rfind_any (B x y lc ks sz : Nat) (M : List HS) (A : Option Addr) (n c C : Nat) (l : List Int) (w : World) (h : RHsh w B x y lc ks sz M) (hr : KRow w C A n l) (hC : C ≤ w.heap.size) :
    Calls Tryz.prog 67 #[.pointer (some ⟨x, 0, none⟩), .slice A n c] w fun e w' => e = .returned (.int .i64 (findV M (kb l))) ∧ Below w.heap.size w w' := by
  have HH := hide h
  have HR := hide hr
  have HM := hide h.many
  clear h hr
  go_enter Tryz.func67, Tryz.ntmps67
  go_wp2_with fail
  go_loopw [5] (fun u wr => ∃ i : Nat, i ≤ M.length ∧ u = .int .i64 i ∧ Below w.heap.size w wr ∧ ∀ (j : Nat) (r : HS), j < i → M[j]? = some r → r.key ≠ some (kb l)) (fun u _ => M.length - (intOf u).toNat)
  case atStart => exact ⟨0, Nat.zero_le _, rfl, Below.refl _ _, fun j r hj => by omega⟩
  case round =>
    obtain ⟨i, hi, rfl, hb, hno⟩ := hrel
    have hh := HH.out.below hb
    have x4 := hh.c4
    by_cases him : i < M.length
    · obtain ⟨r, hr⟩ : ∃ r, M[i]? = some r := ⟨_, List.getElem?_eq_getElem him⟩
      have F1 : ∀ X : Later wr, X.w.cell? ⟨x, 4, none⟩ = some (.slice (some ⟨y, 0, none⟩) M.length lc) := fun X => (hh.below X.below).c4
      have F2 : ∀ X : Later wr, X.w.cell? ⟨y, i * 3, none⟩ = some (.bool r.key.isSome) := fun X => (hh.below X.below).is hr
      have F3 : ∀ X : Later wr, X.w.cell? ⟨y, i * 3 + 1, none⟩ = some (encStr (r.key.getD [])) := fun X => (hh.below X.below).key hr
      have F4 : ∀ X : Later wr, (convert 34 9 (.slice A n c)).run Tryz.prog X.w = .ok (encStr (kb l)) X.w := fun X => conv_key HR.out.byte (HR.out.rd.below ((hb.mono hC).trans (X.below.mono (Nat.le_trans hC hb.size)))) HR.out.nil
      have HB := hide hb
      have HNO := hide hno
      have HRR := hide hr
      have j0 : (0 : Int) ≤ (i : Int) := by omega
      have j1 : (i : Int) < (M.length : Int) := by omega
      have jb : (i : Int) ≤ 1024 := by have := HM.out.2; omega
      clear hh hb hno hr
      go_wp2_with fail
      clear x4
      generalize hkb : kb l = kk at *
      cases hk : r.key with
      | none =>
        simp only [hk, Option.isSome_none, Option.getD_none] at F2 F3
        refine wp_region_later (by kernel_rfl) (by kernel_rfl) ?_
        repeat (first | go_big_quiet_step (fail) | (refine wpQuiet_step (fun K hK => ?_); go_simp; refine hK _ ?_; clear hK K))
        refine wpQuiet_nil ?_
        rintro _ ⟨Y, rfl⟩
        clear F1 F2 F3 F4
        have HY := hide (HB.out.trans (Y.below.mono HB.out.size))
        generalize Y.w = wy at *
        go_wp2_with fail
        go_roundw
        case rel => exact ⟨i + 1, by omega, by go_num, HY.out, fun j s hj hs => by
          rw [hkb]
          by_cases e : j = i
          · subst e
            rw [HRR.out] at hs
            cases hs
            rw [hk]
            intro e; cases e
          · exact HNO.out j s (by omega) hs⟩
        case measure => simp [intOf]; omega
      | some k =>
        simp only [hk, Option.isSome_some, Option.getD_some] at F2 F3
        by_cases he : k = kk
        · subst he
          refine wp_region_later (by kernel_rfl) (by kernel_rfl) ?_
          repeat (first | go_big_quiet_step (fail) | (refine wpQuiet_step (fun K hK => ?_); go_simp; refine hK _ ?_; clear hK K))
          refine wpQuiet_nil ?_
          rintro _ ⟨Y, rfl⟩
          clear F1 F2 F3 F4
          have HY := hide (HB.out.trans (Y.below.mono HB.out.size))
          have hfv : findV M k = (i : Int) := by
            unfold findV
            cases hf : findK M k with
            | none => exact absurd hk (findK_none hf i r HRR.out)
            | some j =>
              obtain ⟨s, h1, h2, h3⟩ := findK_some hf
              rcases Nat.lt_trichotomy j i with h4 | h4 | h4
              · exact absurd h2 (HNO.out j s h4 h1)
              · subst h4; rfl
              · exact absurd hk (h3 i r h4 HRR.out)
          generalize Y.w = wy at *
          go_wp2_with fail
          go_ret
          exact ⟨by rw [hkb, hfv]; rfl, HY.out⟩
        · have q1 : (k == kk) = false := by simpa using he
          refine wp_region_later (by kernel_rfl) (by kernel_rfl) ?_
          repeat (first | go_big_quiet_step (fail) | (refine wpQuiet_step (fun K hK => ?_); go_simp; refine hK _ ?_; clear hK K))
          refine wpQuiet_nil ?_
          rintro _ ⟨Y, rfl⟩
          clear F1 F2 F3 F4
          have HY := hide (HB.out.trans (Y.below.mono HB.out.size))
          generalize Y.w = wy at *
          go_wp2_with fail
          go_roundw
          case rel => exact ⟨i + 1, by omega, by go_num, HY.out, fun j s hj hs => by
            rw [hkb]
            by_cases e : j = i
            · subst e
              rw [HRR.out] at hs
              cases hs
              rw [hk]
              intro e; injection e with e; exact he e
            · exact HNO.out j s (by omega) hs⟩
          case measure => simp [intOf]; omega
    · obtain rfl : i = M.length := by omega
      have hfv : findV M (kb l) = -1 := by
        unfold findV
        rw [findK_no (fun j r hr => hno j r (List.getElem?_eq_some_iff.1 hr).1 hr)]
      have HB := hide hb
      clear hh hno hb
      go_wp2_with fail
      go_ret
      exact ⟨by rw [hfv]; rfl, HB.out⟩
set_option maxRecDepth 100000 in
theorem rlookup_any (B x y lc ks sz : Nat) (M : List HS) (A : Option Addr) (n c C : Nat) (l : List Int) (w : World) (h : RHsh w B x y lc ks sz M) (hr : KRow w C A n l) (hC : C ≤ w.heap.size) :
    Calls Tryz.prog 36 #[.pointer (some ⟨x, 0, none⟩), .slice A n c] w fun e w' => e = .returned (.tuple #[.int .i64 (lookE ks n M (kb l)).1, .int .i64 (lookE ks n M (kb l)).2]) ∧ Below w.heap.size w w' := by
  have c1 := h.c1
  unfold lookE
  by_cases hn : n = ks
  · subst hn
    rw [if_pos rfl]
    have HF := hide (rfind_any B x y lc n sz M A n c C l w h hr hC)
    clear h hr
    cases hf : findK M (kb l) with
    | some i =>
      rw [show findV M (kb l) = (i : Int) by unfold findV; rw [hf]] at HF
      have i0 : (0 : Int) ≤ (i : Int) := by omega
      go_enter Tryz.func36, Tryz.ntmps36
      go_wp2_with fail
      refine HF.out.mono ?_
      rintro e w' ⟨rfl, hb⟩
      have HB := hide hb
      clear hb HF
      go_wp2_with fail
      go_ret2
      exact ⟨rfl, HB.out⟩
    | none =>
      rw [show findV M (kb l) = -1 by unfold findV; rw [hf]] at HF
      go_enter Tryz.func36, Tryz.ntmps36
      go_wp2_with fail
      refine HF.out.mono ?_
      rintro e w' ⟨rfl, hb⟩
      have HB := hide hb
      clear hb HF
      go_wp2_with fail
      go_ret2
      exact ⟨rfl, HB.out⟩
  · rw [if_neg hn]
    have d4 : ((n : Int) != (ks : Int)) = true := by simp; omega
    clear h hr
    go_enter Tryz.func36, Tryz.ntmps36
    go_wp2_with fail
    go_ret2
    exact ⟨rfl, Below.refl _ _⟩
end Go.Proofs.YtolodcdhpnapmaaGreat
