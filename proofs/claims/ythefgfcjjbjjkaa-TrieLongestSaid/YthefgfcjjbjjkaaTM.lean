/-
  A key is looked for.
-/
import Derived.Test.YthefgfcjjbjjkaaTL
import Derived.Deep.RegionHeld3
namespace Go.Proofs.Ythefgfcjjbjjkaa
open Go.RowKit
set_option linter.unusedVariables false
set_option linter.unusedSimpArgs false

theorem kb_take_len {l : List Int} {b : List Bool} {m : Nat} (h : kb l = b.take m) (hm : m ≤ b.length) : bcN l = m := by
  have := congrArg List.length h
  rw [kb_len] at this
  simp at this
  omega
/-- What the longest beginning's place is told as, behind a new box. -/
theorem Tri.longest {B : Nat} {t : TP} {P : List PL} {N : List Bool → Nat} {A : Option Addr} {n c : Nat} {k : List Int} {w : World} (h : Tri w B t P N) (hk : KR w A n c k) (hn : n = t.ks) (hr : bcN k ≤ 8 * (n - 4)) :
    Calls Try.prog 38 #[.pointer (some ⟨t.tb, 2, none⟩), .func (.func 58) #[] #[.pointer (some ⟨w.heap.size, 0, none⟩)]] (w.alloc (.cells #[.slice A n c] 35)).drew fun e w' => e = .returned (.pointer ((lonI P (kb k) ((kb k).length + 1)).map (plA t.cb))) ∧ Below w.heap.size w w' := by
  have hkb := h.kbig
  have hb : Below w.heap.size w (w.drew.alloc (.cells #[.slice A n c] 35)) := ((Below.refl _ w).drew).trans (below1 w.drew _)
  have hbx : Boxed (w.drew.alloc (.cells #[.slice A n c] 35)) w.heap.size 35 (.slice A n c) := Boxed.new w.drew _ _
  refine (longest_any w.heap.size w.heap.size n c A k t (prP P) (cntP P) (thP t.cb P) N _ hk.byte (by omega) hk.le (by omega) hr (at_lt hbx) hb.size ⟨hbx, hk.rd.below hb⟩ (h.tree.below (Nat.le_refl _) hb)).mono ?_
  rintro e w' ⟨rfl, hb2⟩
  rw [lonJ_P]
  exact ⟨rfl, hb.trans (hb2.mono hb.size)⟩
set_option maxRecDepth 100000 in
set_option maxHeartbeats 2000000 in
theorem find_any (B : Nat) (t : TP) (P : List PL) (N : List Bool → Nat) (A : Option Addr) (n c : Nat) (k : List Int) (w : World) (h : Tri w B t P N) (hk : KR w A n c k) (hn : n = t.ks) (hr : bcN k ≤ 8 * (n - 4)) :
    Calls Try.prog 42 #[.pointer (some ⟨t.tb, 0, none⟩), .slice A n c] w fun e w' => e = .returned (.pointer ((findP P (kb k)).map (plA t.cb))) ∧ Below w.heap.size w w' := by
  subst hn
  have HL := hide (h.longest hk rfl hr)
  have hkb := h.kbig
  have H := hide h
  have HK := hide hk
  cases hl : lonI P (kb k) ((kb k).length + 1) with
  | none =>
    have hf : findP P (kb k) = none := by
      have := lonI_none hl (kb k).length (by omega)
      rwa [List.take_length] at this
    rw [hl] at HL
    rw [hf]
    clear h hk hl hf
    go_enter Try.func42, Try.ntmps42
    go_wp2_with fail
    go_region_with (first
      | (go_at_call 39; refine (bits_any _ _ _ _).mono ?_; rintro e w' ⟨rfl, rfl⟩)
      | (go_at_call 38; refine HL.out.mono ?_; rintro e w' ⟨rfl, hb⟩; have HB := hide hb; clear hb))
    go_wp2_with fail
    go_ret
    exact ⟨rfl, HB.out⟩
  | some i =>
    obtain ⟨m, hm, hfi, hno⟩ := lonI_some hl
    obtain ⟨r, hri, hkr⟩ := findP_some hfi
    obtain ⟨g, l, hrk, hkl⟩ : ∃ g l, r.k = some (g, l) ∧ kb l = (kb k).take m := by
      unfold keyOf at hkr
      cases hk2 : r.k with
      | none => rw [hk2] at hkr; cases hkr
      | some x => rw [hk2] at hkr; simp at hkr; exact ⟨x.1, x.2, rfl, hkr⟩
    have hbl : bcN l = m := kb_take_len hkl (by omega)
    have hk3 := h.key r (List.mem_of_getElem? hri) g l hrk
    have hcell : ∀ W, Below w.heap.size w W → W.cell? ⟨t.cb, i * 3 + 2, none⟩ = some (.slice (some ⟨g, 0, none⟩) t.ks t.ks) := fun W hb => by
      rw [((h.below (Nat.le_refl _) hb).at_ hri).2.2, hrk]
      simp [kslV, hk3.2.1]
    have HCELL := hide hcell
    have HC1 : Hid (∀ W, Below w.heap.size w W → Calls Try.prog 59 #[.slice (some ⟨g, 0, none⟩) t.ks t.ks] W fun e w' => e = .returned (.int .i64 m) ∧ W = w') := hide (fun W hb => by
      rw [← hbl]
      exact count_any _ _ _ _ l W hk3.2.2.1 ((h.below (Nat.le_refl _) hb).keyRd hri hrk) (by omega) (Nat.le_refl _))
    have HC2 : Hid (∀ W, Below w.heap.size w W → Calls Try.prog 59 #[.slice A t.ks c] W fun e w' => e = .returned (.int .i64 (bcN k)) ∧ W = w') := hide (fun W hb => count_any _ _ _ _ k W hk.byte (hk.below hb).rd (by omega) hk.le)
    rw [hl] at HL
    simp only [Option.map_some, plA] at HL
    have hres : (findP P (kb k)).map (plA t.cb) = if m = bcN k then some (plA t.cb i) else none := by
      split
      · rename_i e
        rw [e, ← kb_len, List.take_length] at hfi
        rw [hfi]; rfl
      · rename_i e
        have hlt : m < (kb k).length := by have := kb_len k; omega
        have := hno (kb k).length hlt (by omega)
        rw [List.take_length] at this
        rw [this]; rfl
    rw [hres]
    have hmm : m ≤ 1000000 ∧ bcN k ≤ 1000000 := ⟨by have := kb_len k; omega, by omega⟩
    by_cases hmb : m = bcN k
    · rw [if_pos hmb]
      have hq : ((m : Int) != (bcN k : Int)) = false := by simp [hmb]
      simp only [plA]
      generalize bcN k = bk at *
      clear h hk hl hfi hno hri hkr hrk hkl hbl hk3 hcell hres hmb
      go_enter Try.func42, Try.ntmps42
      go_wp2_with fail
      go_region_with (first
        | (go_at_call 39; refine (bits_any _ _ _ _).mono ?_; rintro e w' ⟨rfl, rfl⟩)
        | (go_at_call 38; refine HL.out.mono ?_; rintro e w' ⟨rfl, hb⟩; have HB := hide hb; have hc := HCELL.out _ hb; clear hb))
      go_wp2_with (go_at_call 59; first | (with_reducible refine (HC1.out _ HB.out).mono ?_; rintro e w' ⟨rfl, rfl⟩) | (with_reducible refine (HC2.out _ HB.out).mono ?_; rintro e w' ⟨rfl, rfl⟩))
      go_ret
      exact ⟨rfl, HB.out⟩
    · rw [if_neg hmb]
      have hq : ((m : Int) != (bcN k : Int)) = true := by simpa using (by omega : ¬ (m : Int) = (bcN k : Int))
      generalize bcN k = bk at *
      clear h hk hl hfi hno hri hkr hrk hkl hbl hk3 hcell hres hmb
      go_enter Try.func42, Try.ntmps42
      go_wp2_with fail
      go_region_with (first
        | (go_at_call 39; refine (bits_any _ _ _ _).mono ?_; rintro e w' ⟨rfl, rfl⟩)
        | (go_at_call 38; refine HL.out.mono ?_; rintro e w' ⟨rfl, hb⟩; have HB := hide hb; have hc := HCELL.out _ hb; clear hb))
      go_wp2_with (go_at_call 59; first | (with_reducible refine (HC1.out _ HB.out).mono ?_; rintro e w' ⟨rfl, rfl⟩) | (with_reducible refine (HC2.out _ HB.out).mono ?_; rintro e w' ⟨rfl, rfl⟩))
      go_ret
      exact ⟨rfl, HB.out⟩
end Go.Proofs.Ythefgfcjjbjjkaa
