/-
  The document's Update, refused.
-/
import Derived.Test.YtolodcdhpnapmaaGreatHF4
namespace Go.Proofs.YtolodcdhpnapmaaGreat
open Go.RowKit Go.Maps Go.Sort
set_option linter.unusedVariables false

set_option maxRecDepth 100000 in
set_option maxHeartbeats 2000000 in
theorem rupd_no (B x y lc ks sz : Nat) (M : List HS) (A S : Option Addr) (n c C q sc : Nat) (fl : Int) (l : List Int) (w : World) (h : RHsh w B x y lc ks sz M) (hr : KRow w C A n l) (hC : C ≤ w.heap.size) (he : updE ks sz n q M (kb l) fl ≠ 0) :
    Calls Tryz.prog 39 #[.pointer (some ⟨x, 0, none⟩), .slice A n c, .slice S q sc, .int .u64 fl] w fun e w' => e = .returned (.int .i64 (updE ks sz n q M (kb l) fl)) ∧ Below w.heap.size w w' := by
  have c1 := h.c1
  have c2 := h.c2
  unfold updE at he ⊢
  by_cases hn : n = ks
  · rw [if_pos hn] at he ⊢
    by_cases hq : q = sz
    · by_cases hf : fl ≤ 2
      · rw [if_pos ⟨hq, hf⟩] at he ⊢
        subst hn
        subst hq
        have HF := hide (rfind_any B x y lc n q M A n c C l w h hr hC)
        have d3 : decide (2 < fl) = false := decide_eq_false (by omega)
        have d3' : fl ≤ 2 := hf
        unfold pickE at he ⊢
        cases hfd : findK M (kb l) with
        | some i =>
          rw [hfd] at he
          simp only at he ⊢
          by_cases h1 : fl = 1
          · subst h1
            rw [if_pos rfl]
            rw [show findV M (kb l) = (i : Int) by unfold findV; rw [hfd]] at HF
            have i0 : (0 : Int) ≤ (i : Int) := by omega
            clear h hr he
            go_enter Tryz.func39, Tryz.ntmps39
            go_wp2_with fail
            refine HF.out.mono ?_
            rintro e w1 ⟨rfl, hb⟩
            have HB := hide hb
            clear hb HF c1 c2
            go_wp2_with fail
            go_ret
            exact ⟨rfl, HB.out⟩
          · rw [if_neg h1] at he; exact absurd rfl he
        | none =>
          rw [hfd] at he
          simp only at he ⊢
          rw [show findV M (kb l) = -1 by unfold findV; rw [hfd]] at HF
          by_cases h2 : fl = 2
          · subst h2
            rw [if_pos rfl]
            clear h hr he
            go_enter Tryz.func39, Tryz.ntmps39
            go_wp2_with fail
            refine HF.out.mono ?_
            rintro e w1 ⟨rfl, hb⟩
            have HB := hide hb
            clear hb HF c1 c2
            go_wp2_with fail
            go_ret
            exact ⟨rfl, HB.out⟩
          · rw [if_neg h2] at he ⊢
            cases hfr : freeK M with
            | some j => rw [hfr] at he; exact absurd rfl he
            | none =>
              have hall : ∀ (j : Nat) (r : HS), M[j]? = some r → r.key.isSome = true := fun j r hj => by
                have := List.findIdx?_eq_none_iff.1 hfr r (List.mem_of_getElem? hj)
                cases hk : r.key with
                | none => rw [hk] at this; cases this
                | some k => rfl
              have HH := hide h
              have HAL := hide hall
              have HM := hide h.many
              have d6 : (fl == 2) = false := by simpa using h2
              have d7 : ¬ fl = 2 := h2
              have d8 : decide (fl = 2) = false := decide_eq_false h2
              simp only
              clear h hr he hall hfr
              go_enter Tryz.func39, Tryz.ntmps39
              go_wp2_with fail
              refine HF.out.mono ?_
              rintro e w1 ⟨rfl, hb⟩
              have HB := hide hb
              clear hb HF c1 c2
              go_wp2_with fail
              go_loopw [9, 10] (fun u v wr => ∃ i : Nat, i ≤ M.length ∧ u = .int .i64 (-1) ∧ v = .int .i64 i ∧ Below w.heap.size w wr) (fun _ v _ => M.length - (intOf v).toNat)
              case atStart => exact ⟨0, Nat.zero_le _, rfl, rfl, HB.out⟩
              case round =>
                obtain ⟨i, hi, rfl, rfl, hb⟩ := hrel
                have hh := HH.out.below hb
                have x4 := hh.c4
                have HBR := hide hb
                have jb : (i : Int) ≤ 1024 := by have := HM.out.2; omega
                by_cases him : i < M.length
                · obtain ⟨r, hr⟩ : ∃ r, M[i]? = some r := ⟨_, List.getElem?_eq_getElem him⟩
                  have y0 := hh.is hr
                  rw [HAL.out i r hr] at y0
                  have j0 : (0 : Int) ≤ (i : Int) := by omega
                  have j1 : (i : Int) < (M.length : Int) := by omega
                  clear hh hb hr
                  go_wp2_with fail
                  go_roundw
                  case rel => exact ⟨i + 1, by omega, rfl, by go_num, HBR.out⟩
                  case measure => simp [intOf]; omega
                · obtain rfl : i = M.length := by omega
                  clear hh hb
                  go_wp2_with fail
                  go_ret
                  exact ⟨rfl, HBR.out⟩
      · rw [if_neg (fun e => hf e.2)]
        subst hn
        subst hq
        have d3 : decide (2 < fl) = true := decide_eq_true (by omega)
        have d4 : (2 : Int) < fl := by omega
        clear h hr he
        go_enter Tryz.func39, Tryz.ntmps39
        go_wp2_with fail
        go_ret
        exact ⟨rfl, Below.refl _ _⟩
    · rw [if_neg (fun e => hq e.1)]
      subst hn
      have d3 : ((q : Int) != (sz : Int)) = true := by simp; omega
      clear h hr he
      go_enter Tryz.func39, Tryz.ntmps39
      go_wp2_with fail
      go_ret
      exact ⟨rfl, Below.refl _ _⟩
  · rw [if_neg hn]
    have d3 : ((n : Int) != (ks : Int)) = true := by simp; omega
    clear h hr he
    go_enter Tryz.func39, Tryz.ntmps39
    go_wp2_with fail
    go_ret
    exact ⟨rfl, Below.refl _ _⟩
end Go.Proofs.YtolodcdhpnapmaaGreat
