/-
  Lookup; the least free place.
-/
import Derived.Test.YthefgfcjjbjjkaaTM
namespace Go.Proofs.Ythefgfcjjbjjkaa
open Go.RowKit
set_option linter.unusedVariables false
set_option linter.unusedSimpArgs false

/-- What Lookup tells. -/
def lookE (ks : Nat) (P : List PL) (k : List Int) : Int × Int := if refE ks k = 0 then (match lonI P (kb k) ((kb k).length + 1) with | some i => ((i : Int), 0) | none => (0, 6)) else (0, 2)
theorem refE_cases (ks : Nat) (k : List Int) : (refE ks k = 0 ∧ k.length = ks ∧ bcN k ≤ 8 * (ks - 4)) ∨ (refE ks k = 2 ∧ ¬ (k.length = ks ∧ bcN k ≤ 8 * (ks - 4))) := by
  unfold refE
  split
  · rename_i h; exact .inl ⟨rfl, h⟩
  · rename_i h; exact .inr ⟨rfl, h⟩
set_option maxRecDepth 100000 in
set_option maxHeartbeats 2000000 in
theorem lookup_any (B : Nat) (t : TP) (P : List PL) (N : List Bool → Nat) (A : Option Addr) (n c : Nat) (k : List Int) (w : World) (h : Tri w B t P N) (hk : KR w A n c k) :
    Calls Try.prog 13 #[.pointer (some ⟨t.tb, 0, none⟩), .slice A n c] w fun e w' => e = .returned (.tuple #[.int .i64 (lookE t.ks P k).1, .int .i64 (lookE t.ks P k).2]) ∧ Below w.heap.size w w' := by
  have HR := hide (refusal_any B t P N A n c k w h hk)
  rcases refE_cases t.ks k with ⟨he, hn, hr⟩ | ⟨he, _⟩
  · rw [hk.len] at hn
    subst hn
    have HL := hide (h.longest hk rfl hr)
    rw [he] at HR
    cases hl : lonI P (kb k) ((kb k).length + 1) with
    | none =>
      have h2 : lookE t.ks P k = (0, 6) := by unfold lookE; rw [if_pos he, hl]
      rw [hl] at HL
      rw [h2]
      clear h hk hl he h2
      go_enter Try.func13, Try.ntmps13
      go_wp2_with (go_at_call 37; refine HR.out.mono ?_; rintro e w' ⟨rfl, hW⟩; replace hW := hW.symm; subst hW)
      go_region_with (first
        | (go_at_call 39; refine (bits_any _ _ _ _).mono ?_; rintro e w' ⟨rfl, rfl⟩)
        | (go_at_call 38; refine HL.out.mono ?_; rintro e w' ⟨rfl, hb⟩; have HB := hide hb; clear hb))
      go_wp2_with fail
      go_ret2
      exact ⟨rfl, HB.out⟩
    | some i =>
      obtain ⟨m, hm, hfi, hno⟩ := lonI_some hl
      obtain ⟨r, hri, hkr⟩ := findP_some hfi
      have h2 : lookE t.ks P k = ((i : Int), 0) := by unfold lookE; rw [if_pos he, hl]
      have HCELL : Hid (∀ W, Below w.heap.size w W → W.cell? ⟨t.cb, i * 3, none⟩ = some (.int .i64 i)) := hide (fun W hb => ((h.below (Nat.le_refl _) hb).at_ hri).1)
      rw [hl] at HL
      simp only [Option.map_some, plA] at HL
      rw [h2]
      clear h hk hl he h2 hfi hno hri hkr
      go_enter Try.func13, Try.ntmps13
      go_wp2_with (go_at_call 37; refine HR.out.mono ?_; rintro e w' ⟨rfl, hW⟩; replace hW := hW.symm; subst hW)
      go_region_with (first
        | (go_at_call 39; refine (bits_any _ _ _ _).mono ?_; rintro e w' ⟨rfl, rfl⟩)
        | (go_at_call 38; refine HL.out.mono ?_; rintro e w' ⟨rfl, hb⟩; have HB := hide hb; have hc := HCELL.out _ hb; clear hb))
      go_wp2_with fail
      go_ret2
      exact ⟨rfl, HB.out⟩
  · have h2 : lookE t.ks P k = (0, 2) := by unfold lookE; rw [if_neg (by rw [he]; decide)]
    rw [he] at HR
    rw [h2]
    clear h hk he h2
    go_enter Try.func13, Try.ntmps13
    go_wp2_with (go_at_call 37; refine HR.out.mono ?_; rintro e w' ⟨rfl, hW⟩; replace hW := hW.symm; subst hW)
    go_ret2
    exact ⟨rfl, Below.refl _ _⟩
theorem eql_nil0 (w : World) : (binOp .eql 35 (.slice none 0 0) (.slice none 0 0)).run Try.prog w = .ok (.bool true) w := by
  have h : ∀ d : Nat, (Op.equalIn (d + 1) 35 (.slice none 0 0) (.slice none 0 0)).run Try.prog w = .ok true w := fun d => by
    simp [Op.equalIn, run_underlying Try.underlying35]
  simp only [binOp]
  simp [Op.equal, Op.maxDepth, h 9999]
set_option maxRecDepth 100000 in
theorem free_any (x v : Value) (k : Option (Nat × List Int)) (w : World) : Calls Try.prog 47 #[.agg #[x, v, kslV k]] w fun e w' => e = .returned (.bool k.isNone) ∧ Below w.heap.size w w' := by
  have hb := below1 w (.cells #[x, v, kslV k] 77)
  have hx := World.alloc_heap_new w (.cells #[x, v, kslV k] 77)
  have HB := hide hb
  have c2 : (w.alloc (.cells #[x, v, kslV k] 77)).cell? ⟨w.heap.size, 2, none⟩ = some (kslV k) := (blk_cell hx 2).trans rfl
  clear hb hx
  cases k with
  | none =>
    simp only [kslV] at *
    have hq := eql_nil0 (w.alloc (.cells #[x, v, .slice none 0 0] 77))
    go_enter Try.func47, Try.ntmps47
    go_wp2
    go_ret
    exact ⟨rfl, HB.out⟩
  | some y =>
    simp only [kslV] at *
    have hq := eql_nil y.1 y.2.length y.2.length (w.alloc (.cells #[x, v, .slice (some ⟨y.1, 0, none⟩) y.2.length y.2.length] 77))
    go_enter Try.func47, Try.ntmps47
    go_wp2
    go_ret
    exact ⟨rfl, HB.out⟩
def freeI (P : List PL) : Int := match freeP P with | some i => (i : Int) | none => -1
theorem freeP_some {P : List PL} {i : Nat} (h : freeP P = some i) : ∃ r, P[i]? = some r ∧ r.k = none ∧ ∀ j s, j < i → P[j]? = some s → s.k ≠ none := by
  obtain ⟨hi, h1, h2⟩ := List.findIdx?_eq_some_iff_getElem.1 h
  refine ⟨P[i], List.getElem?_eq_getElem hi, by simpa using h1, fun j s hj hs => ?_⟩
  obtain ⟨hj2, rfl⟩ := List.getElem?_eq_some_iff.1 hs
  have := h2 j hj
  simpa using this
theorem freeP_is {P : List PL} {i : Nat} {r : PL} (hr : P[i]? = some r) (hk : r.k = none) (hb : ∀ (j : Nat) (s : PL), j < i → P[j]? = some s → s.k ≠ none) : freeP P = some i := by
  obtain ⟨hi, rfl⟩ := List.getElem?_eq_some_iff.1 hr
  refine List.findIdx?_eq_some_iff_getElem.2 ⟨hi, by simp [hk], fun j hj => ?_⟩
  have := hb j P[j] hj (List.getElem?_eq_getElem (by omega))
  simpa using this
theorem freeP_none {P : List PL} (hb : ∀ (j : Nat) (s : PL), P[j]? = some s → s.k ≠ none) : freeP P = none := by
  refine List.findIdx?_eq_none_iff.2 fun r hr => ?_
  obtain ⟨i, hi⟩ := List.mem_iff_getElem?.1 hr
  have := hb i r hi
  simpa [Option.isSome_iff_ne_none] using this
set_option maxRecDepth 100000 in
set_option maxHeartbeats 2000000 in
theorem index_any (B : Nat) (t : TP) (P : List PL) (N : List Bool → Nat) (w : World) (h : Tri w B t P N) :
    Calls Try.prog 83 #[.slice (some ⟨t.cb, 0, none⟩) t.n t.n, .func (.func 47) #[] #[]] w fun e w' => e = .returned (.int .i64 (freeI P)) ∧ Below w.heap.size w w' := by
  have H := hide h
  have hn := h.many
  have hlen := h.len
  clear h
  go_enter Try.func83, Try.ntmps83
  go_wp2
  go_loopw [8] (fun p wr => ∃ i : Nat, i ≤ t.n ∧ p = .int .i64 i ∧ Below w.heap.size w wr ∧ ∀ (j : Nat) (s : PL), j < i → P[j]? = some s → s.k ≠ none) (fun p _ => t.n - (intOf p).toNat)
  case atStart => exact ⟨0, Nat.zero_le _, rfl, Below.refl _ _, fun j s hj => by omega⟩
  case round =>
    obtain ⟨i, hi, rfl, hb, hbe⟩ := hrel
    by_cases hlt : i < t.n
    · have hr : P[i]? = some P[i] := List.getElem?_eq_getElem (by omega)
      obtain ⟨r, hrr⟩ : ∃ r, r = P[i] := ⟨_, rfl⟩
      rw [← hrr] at hr
      obtain ⟨c0, c1, c2⟩ := (H.out.below (Nat.le_refl _) hb).at_ hr
      have HB := hide hb
      have HBE := hide hbe
      have HR := hide hr
      have hfr := hide (free_any (.int .i64 i) (.slice (some ⟨r.g, 0, none⟩) t.sz t.sz) r.k wr)
      clear hb hbe hr hrr
      cases hk : r.k.isNone with
      | true =>
        rw [hk] at hfr
        have HK : Hid (r.k = none) := hide (by simpa using hk)
        clear hk
        go_wp2_with (go_at_call 47; refine hfr.out.mono ?_; rintro e w' ⟨rfl, hb2⟩; have HB2 := hide hb2; clear hb2)
        go_ret
        have : freeI P = (i : Int) := by unfold freeI; rw [freeP_is HR.out HK.out HBE.out]
        rw [this]
        exact ⟨rfl, HB.out.trans (HB2.out.mono HB.out.size)⟩
      | false =>
        rw [hk] at hfr
        have HK : Hid (r.k ≠ none) := hide (fun e => by rw [e] at hk; cases hk)
        clear hk
        go_wp2_with (go_at_call 47; refine hfr.out.mono ?_; rintro e w' ⟨rfl, hb2⟩; have HB2 := hide hb2; clear hb2)
        go_roundw
        case rel =>
          refine ⟨i + 1, by omega, by go_num, HB.out.trans (HB2.out.mono HB.out.size), fun j s hj hs => ?_⟩
          by_cases e : j = i
          · subst e
            rw [HR.out] at hs
            injection hs with hs
            subst hs
            exact HK.out
          · exact HBE.out j s (by omega) hs
        case measure => simp [intOf]; omega
    · have HB := hide hb
      have HBE := hide hbe
      clear hb hbe
      go_wp2
      go_ret
      have : freeI P = -1 := by
        unfold freeI
        rw [freeP_none (fun j s hs => HBE.out j s (by have := (List.getElem?_eq_some_iff.1 hs).1; omega) hs)]
      rw [this]
      exact ⟨rfl, HB.out⟩
set_option maxRecDepth 100000 in
theorem least_any (B : Nat) (t : TP) (P : List PL) (N : List Bool → Nat) (w : World) (h : Tri w B t P N) :
    Calls Try.prog 66 #[.pointer (some ⟨t.tb, 3, none⟩)] w fun e w' => e = .returned (.pointer ((freeP P).map (plA t.cb))) ∧ Below w.heap.size w w' := by
  have HI := hide (index_any B t P N w h)
  have c4 : w.cell? ⟨t.tb, 4, none⟩ = some (.slice (some ⟨t.cb, 0, none⟩) t.n t.n) := (h.c 4).trans rfl
  have HC : Hid (∀ W, Below w.heap.size w W → W.cell? ⟨t.tb, 4, none⟩ = some (.slice (some ⟨t.cb, 0, none⟩) t.n t.n)) := hide (fun W hb => ((h.below (Nat.le_refl _) hb).c 4).trans rfl)
  have hn := h.many
  have hlen := h.len
  unfold freeI at HI
  cases hf : freeP P with
  | none =>
    rw [hf] at HI
    clear h hf
    go_enter Try.func66, Try.ntmps66
    go_wp2_with (go_at_call 83; refine HI.out.mono ?_; rintro e w' ⟨rfl, hb⟩; have HB := hide hb; clear hb)
    go_ret
    exact ⟨rfl, HB.out⟩
  | some i =>
    rw [hf] at HI
    obtain ⟨r, hr, _⟩ := freeP_some hf
    have hlt := (List.getElem?_eq_some_iff.1 hr).1
    rw [hlen] at hlt
    simp only [Option.map_some, plA]
    simp only at HI
    have q0 : (0 : Int) ≤ (i : Int) := by omega
    have q1 : (i : Int) < (t.n : Int) := by omega
    clear h hf hr
    go_enter Try.func66, Try.ntmps66
    go_wp2_with (go_at_call 83; refine HI.out.mono ?_; rintro e w' ⟨rfl, hb⟩; have HB := hide hb; have hc := HC.out _ hb; clear hb)
    go_ret
    exact ⟨rfl, HB.out⟩
end Go.Proofs.Ythefgfcjjbjjkaa
