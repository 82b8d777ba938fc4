/-
  The document's way of an argument's error is the program's.
-/
import Derived.Test.YtedjmgiblkjonaaG1
namespace Go.Proofs.Ytedjmgiblkjonaa
open Go.RowKit Go.Maps
set_option linter.unusedVariables false

theorem ptM_some (k : Int) : (ptM k).isSome = inI 1 8 k := by
  by_cases h : 1 ≤ k ∧ k ≤ 8
  · have h9 : k = 1 ∨ k = 2 ∨ k = 3 ∨ k = 4 ∨ k = 5 ∨ k = 6 ∨ k = 7 ∨ k = 8 := by omega
    rcases h9 with rfl | rfl | rfl | rfl | rfl | rfl | rfl | rfl <;> decide +kernel
  · have h1 : inI 1 8 k = false := by unfold inI; simp; omega
    rw [h1]
    unfold ptM
    repeat' split
    all_goals first | (exfalso; omega) | rfl
theorem errAt_ok (l : List Int) (p : Nat × Int) : (errAt ownK (fun a b => decide (a < b)) 31 l p != 0) = !okAt l p := by
  unfold errAt okAt ownK
  rw [ptM_some]
  cases inI 1 8 p.2
  · simp
  · simp only [if_true, ne_eq, not_true_eq_false, if_false, Bool.true_and]
    by_cases h0 : p.1 = 0
    · simp [h0]
    · simp only [h0, if_false]
      have : (p.1 == 0) = false := by simpa using h0
      rw [this]
      cases l[p.1 - 1]? with
      | none => simp
      | some q => by_cases hq : q < p.2 <;> simp [hq]
theorem maps_kinds (l : List Int) : mapsM 3 l = kindsR l := by
  unfold mapsM kindsR
  rw [if_pos rfl]
  have : (riseM ownK (fun a b => decide (a < b)) 31 l == 0) = (placed 0 l).all (okAt l) := by
    unfold riseM
    cases hf : (placed 0 l).find? (fun p => errAt ownK (fun a b => decide (a < b)) 31 l p != 0) with
    | none =>
      have h := List.find?_eq_none.1 hf
      have : (placed 0 l).all (okAt l) = true := List.all_eq_true.2 (fun p hp => by
        have := h p hp
        rw [errAt_ok] at this
        simpa using this)
      rw [this]; rfl
    | some p =>
      have h1 := List.find?_some hf
      have h2 := List.mem_of_find?_eq_some hf
      have h3 : okAt l p = false := by rw [errAt_ok] at h1; simpa using h1
      have : (placed 0 l).all (okAt l) = false := List.all_eq_false.2 ⟨p, h2, by rw [h3]; decide⟩
      rw [this]
      simpa using h1
  rw [this, Bool.and_comm]
def pairR (l : List ArgX) (i : Nat) (k : Int) : Bool :=
  if k = 7 ∨ k = 8 then (match l[i + 1]? with | some y => y.a.kind == 9 | none => false) else if k = 9 then (decide (0 < i) && (match l[i - 1]? with | some y => inI 7 8 y.a.kind | none => false)) else true
theorem pair_R (l : List ArgX) (i : Nat) (k : Int) (h : i < l.length) : pairedM (l.take i) k (l.drop (i + 1)) = pairR l i k := by
  unfold pairedM pairR
  by_cases h78 : k = 7 ∨ k = 8
  · rw [if_pos h78, if_pos h78, List.getElem?_drop]
    rfl
  · rw [if_neg h78, if_neg h78]
    by_cases h9 : k = 9
    · rw [if_pos h9, if_pos h9]
      have hl : (l.take i).length = i := by rw [List.length_take]; omega
      rw [hl, List.getElem?_take]
      rcases Nat.eq_zero_or_pos i with rfl | hi
      · simp
      · have hd : decide (0 < i) = true := by simp; omega
        rw [if_pos (by omega), hd, Bool.true_and]
        cases l[i - 1]? <;> rfl
    · rw [if_neg h9, if_neg h9]
def sortR (l : List ArgX) (i : Nat) (x : ArgX) : Bool := numbersM x.a.kind x.a.lo x.a.hi && (if x.a.kind = 3 then kindsR x.a.maps else decide (x.a.maps.length = 0)) && pairR l i x.a.kind
def mappedR (ms : List Int) (k : Int) : Bool :=
  if k = 3 then decide (ms.length = 0) else if k = 4 then decide (0 < ms.length) && !hasR ms 5 && !hasR ms 6 && !hasR ms 7 else if k = 5 then decide (0 < ms.length) && !hasR ms 7 else
  if k = 6 then decide (0 < ms.length) && !hasR ms 7 && !hasR ms 8 else true
theorem every_has (f : Int → Bool) (bad : List Int) (ms : List Int) (hv : ∀ m ∈ ms, 1 ≤ m ∧ m ≤ 8) (hf : ∀ m, 1 ≤ m → m ≤ 8 → (f m = true ↔ m ∉ bad)) : ms.all f = bad.all (fun q => !hasR ms q) := by
  rw [Bool.eq_iff_iff, List.all_eq_true, List.all_eq_true]
  constructor
  · intro h q hq
    have : hasR ms q = false := by
      unfold hasR
      rw [List.any_eq_false]
      intro m hm hmq
      have hmq' : m = q := by simpa using hmq
      subst hmq'
      exact (hf m (hv m hm).1 (hv m hm).2).1 (h m hm) hq
    rw [this]; rfl
  · intro h m hm
    refine (hf m (hv m hm).1 (hv m hm).2).2 (fun hb => ?_)
    have := h m hb
    have h2 : hasR ms m = true := List.any_eq_true.2 ⟨m, hm, by simp⟩
    rw [h2] at this
    cases this
theorem eight {p : Int → Prop} (h : ∀ k, k = 1 ∨ k = 2 ∨ k = 3 ∨ k = 4 ∨ k = 5 ∨ k = 6 ∨ k = 7 ∨ k = 8 → p k) : ∀ m, 1 ≤ m → m ≤ 8 → p m := fun m h1 h2 => h m (by omega)
theorem suits_R (ms : List Int) (k : Int) (hv : ∀ m ∈ ms, 1 ≤ m ∧ m ≤ 8) : suitsM ms k = mappedR ms k := by
  have e1 : ms.all hasKeyM = [5, 6, 7].all (fun q => !hasR ms q) := every_has hasKeyM [5, 6, 7] ms hv (eight (fun k h => by rcases h with rfl | rfl | rfl | rfl | rfl | rfl | rfl | rfl <;> decide +kernel))
  have e2 : ms.all hasValueM = [7].all (fun q => !hasR ms q) := every_has hasValueM [7] ms hv (eight (fun k h => by rcases h with rfl | rfl | rfl | rfl | rfl | rfl | rfl | rfl <;> decide +kernel))
  have e3 : ms.all (fun k => hasValueM k && k != 8) = [7, 8].all (fun q => !hasR ms q) := every_has _ [7, 8] ms hv (eight (fun k h => by rcases h with rfl | rfl | rfl | rfl | rfl | rfl | rfl | rfl <;> decide +kernel))
  unfold suitsM mappedR everyM
  rw [e1, e2, e3]
  simp only [List.all_cons, List.all_nil, Bool.and_true]
  generalize hasR ms 5 = b5
  generalize hasR ms 6 = b6
  generalize hasR ms 7 = b7
  generalize hasR ms 8 = b8
  generalize decide (0 < ms.length) = bl
  cases b5 <;> cases b6 <;> cases b7 <;> cases b8 <;> cases bl <;> rfl
theorem kinds_mem {l : List Int} (h : kindsR l = true) : ∀ m ∈ l, 1 ≤ m ∧ m ≤ 8 := by
  intro m hm
  unfold kindsR at h
  rw [Bool.and_eq_true] at h
  obtain ⟨k, hk⟩ := List.getElem?_of_mem hm
  have := List.all_eq_true.1 h.1 _ (mem_placed l k m hk)
  unfold okAt at this
  rw [Bool.and_eq_true] at this
  have h1 := this.1
  unfold inI at h1
  simpa using h1
theorem maps_valid {l : List ArgX} {k : Nat} (hz : Zeros l (placed 0 (l.take k))) : ∀ m ∈ mapsL (l.take k), 1 ≤ m ∧ m ≤ 8 := by
  unfold mapsL
  cases hf : (l.take k).find? (fun x => x.a.kind == 3) with
  | none => intro m hm; cases hm
  | some y =>
    have h3 : y.a.kind = 3 := by simpa using List.find?_some hf
    obtain ⟨j, hj⟩ := List.getElem?_of_mem (List.mem_of_find?_eq_some hf)
    have he := hz _ (mem_placed _ j y hj)
    unfold errX at he
    split at he
    · rename_i hc
      rw [Bool.and_eq_true, Bool.and_eq_true] at hc
      have hm := hc.1.2
      simp only [h3] at hm
      rw [maps_kinds] at hm
      exact kinds_mem hm
    · cases he
theorem errX_R {l : List ArgX} {k : Nat} {x : ArgX} (hx : l[k]? = some x) (hz : Zeros l (placed 0 (l.take k))) : errX l (k, x) = if sortR l k x = true then (if mappedR (mapsL (l.take k)) x.a.kind = true then 0 else 35) else 31 := by
  unfold errX sortR
  simp only
  rw [pair_R l k _ (List.getElem?_eq_some_iff.1 hx).1, suits_R _ _ (maps_valid hz)]
  have : mapsM x.a.kind x.a.maps = if x.a.kind = 3 then kindsR x.a.maps else decide (x.a.maps.length = 0) := by
    by_cases h3 : x.a.kind = 3
    · rw [h3, maps_kinds, if_pos rfl]
    · unfold mapsM
      rw [if_neg h3, if_neg h3]
  rw [this]
theorem errL_at {l : List ArgX} {k : Nat} {x : ArgX} (hx : l[k]? = some x) (hz : Zeros l (placed 0 (l.take k))) (hv : errX l (k, x) ≠ 0) : errL l = errX l (k, x) := by
  refine errL_stop hz ?_ hv
  have h := placed_take l 0 k x hx
  rw [Nat.zero_add] at h
  rw [← h]
  have hpre : ∀ (m l : List ArgX) (j : Nat), placed j m <+: placed j (m ++ l) := by
    intro m
    induction m with
    | nil => intro l j; exact List.nil_prefix
    | cons y m ih => intro l j; exact List.prefix_cons_iff.2 (.inr ⟨_, rfl, ih l (j + 1)⟩)
  have := hpre (l.take (k + 1)) (l.drop (k + 1)) 0
  rwa [List.take_append_drop] at this
theorem zeros_more {l : List ArgX} {k : Nat} {x : ArgX} (hx : l[k]? = some x) (hz : Zeros l (placed 0 (l.take k))) (hv : errX l (k, x) = 0) : Zeros l (placed 0 (l.take (k + 1))) := by
  rw [placed_take l 0 k x hx, Nat.zero_add]
  exact hz.snoc hv
/-- The document's way of an answer. -/
def ansR (rk lo hi sz : Int) (ms : List Int) : Bool :=
  if rk = 1 then decide (lo ≤ hi) && sz == 0 else if rk = 2 then ms.all (fun m => decide (m ≤ 4)) && decide (0 < ms.length) && lo == 0 && hi == 0 && sz == 0 else if rk = 3 then lo == 0 && hi == 0 && inI 1 1024 sz else false
theorem ret_R (rk lo hi sz : Int) (ms : List Int) (hv : ∀ m ∈ ms, 1 ≤ m ∧ m ≤ 8) : retM rk lo hi sz ms = ansR rk lo hi sz ms := by
  unfold retM ansR everyM
  have : ms.all (inI 1 4) = ms.all (fun m => decide (m ≤ 4)) := by
    rw [Bool.eq_iff_iff, List.all_eq_true, List.all_eq_true]
    constructor
    · intro h m hm
      have := h m hm
      unfold inI at this
      simp at this
      simpa using this.2
    · intro h m hm
      have := h m hm
      have h1 := (hv m hm).1
      unfold inI
      simp at this ⊢
      omega
  rw [this]
  generalize ms.all (fun m => decide (m ≤ 4)) = b1
  generalize decide (0 < ms.length) = b2
  generalize (lo == 0) = b3
  generalize (hi == 0) = b4
  generalize (sz == 0) = b5
  cases b1 <;> cases b2 <;> cases b3 <;> cases b4 <;> cases b5 <;> rfl
end Go.Proofs.Ytedjmgiblkjonaa
