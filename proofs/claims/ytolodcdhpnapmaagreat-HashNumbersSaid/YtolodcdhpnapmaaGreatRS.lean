/-
  A range over a function whose rounds go on or return. No program is named here.
-/
import Derived.Test.YtolodcdhpnapmaaGreatRL
namespace Go.Proofs.YtolodcdhpnapmaaGreat
open Go.RowKit
set_option linter.unusedVariables false

/-- An iterator's contract: called at whatever yield, with whatever invariants that its own steps leave, it goes through elements, of each of which 'Nx' holds, and returns when all have come, or when a round has said 'no more'. -/
def IterX {α : Type} (F : Fence) (n : Nat) (P : Program) (gf : Nat) (lb : Array Value) (encs : α → Array Value) (Kp : Nat → World → World → Prop) (Nx : List α → α → Prop) (S : List α → Prop) (w0 : World) : Prop :=
  ∀ (l : Nat) (J Jx : List α → World → Prop) (W : World), Below w0.heap.size w0 W → (∀ s A B, J s A → Stays W.heap.size A B → J s B) → (∀ s A B, Jx s A → Stays W.heap.size A B → Jx s B) →
    (∀ pre x W1, J pre W1 → Nx pre x → W.heap.size ≤ W1.heap.size → YieldAt F (n - 1) P l (encs x) W1 fun e W' => (e = .returned (.bool true) ∧ J (pre ++ [x]) W' ∧ W1.heap.size ≤ W'.heap.size ∧ Kp W.heap.size W1 W') ∨ (e = .returned (.bool false) ∧ Jx (pre ++ [x]) W')) →
    J [] W →
    CallsIn F n P gf (#[.func (.yield l) #[] #[]] ++ lb) W fun e W' => ∃ v, e = .returned v ∧ ((∃ xs, S xs ∧ J xs W') ∨ (∃ pre, Jx pre W'))

/-- How a round's body is left: it goes on, or returns. -/
def RoundEndX {α : Type} (B : Nat) (K : World → World → Prop) (I Ix : List α → World → Prop) (xs : List α) (W : World) : Exit → Act → World → Prop
  | .normal, _, W' => KeepsFrom B W W' ∧ K W W' ∧ I xs W'
  | .ret, _, W' => KeepsFrom B W W' ∧ Ix xs W'
  | _, _, _ => False

/-- The statement 'for x := range g { .. }' whose rounds go on or return. -/
theorem range_ends {α : Type} {F : Fence} {n : Nat} {P : Program} {g : Operand} {ps : Array Tmp} {assign body : Code} {Q : Exit → Act → World → Prop} {a : Act} {w : World}
    (hro : F.round = none) (h1 : 1 ≤ n) {gf : Nat} {lb : Array Value} (hg : a.eval g = .func (.func gf) #[] lb) (hFg : F.fn gf) (eg : ∀ args w, (callFunc gf args).run P w = .ok (.enter gf args) w)
    {encs : α → Array Value} {Kp : Nat → World → World → Prop} {Nx : List α → α → Prop} {S : List α → Prop} {w0 : World}
    (hit : IterX F (n - 1) P gf lb encs Kp Nx S w0) (hb0 : Below w0.heap.size w0 w)
    (hKt : ∀ {X Y Z : World}, Kp (w.heap.size + 2) X Y → Kp (w.heap.size + 2) Y Z → Kp (w.heap.size + 2) X Z)
    (hKb : ∀ (X : World) (l : Nat) (o o' : Obj), w.heap.size ≤ l → l < w.heap.size + 2 → X.heap[l]? = some o → o.isCells = false → Kp (w.heap.size + 2) X (X.putObj l o')) (hps : ∀ x, (encs x).size = ps.size)
    (I Ix : List α → World → Prop) (hI : ∀ s A B, I s A → Stays w.heap.size A B → I s B) (hIx : ∀ s A B, Ix s A → Stays w.heap.size A B → Ix s B) (h0 : I [] w)
    (hround : ∀ (l : Nat) (pre : List α) (x : α) (W : World), w.heap.size ≤ l → (∃ r, W.heap[l]? = some (.loop r)) → w.heap.size + 2 ≤ W.heap.size → I pre W → Nx pre x →
      assign.wpIn (F.inRound l) (n - 1 - 1) P (Exit.then (fun a₁ w₁ => KeepsFrom w.heap.size W w₁ ∧ Kp (w.heap.size + 2) W w₁ ∧ I pre w₁ ∧ ∀ W2, Stays w.heap.size w₁ W2 → body.wpIn (F.inRound l) (n - 1 - 1) P (RoundEndX w.heap.size (Kp (w.heap.size + 2)) I Ix (pre ++ [x]) W2) a₁ W2) (fun _ _ _ => False))
        { tmps := (ps.zip (encs x)).foldl (fun t (p, v) => t.setIfInBounds p v) a.tmps, defers := [] } W)
    (hdone : ∀ (D : Nat) (xs : List α) (W : World), w.heap.size ≤ D → S xs → I xs W → W.heap[D]? = some (.deferred (some [])) → Q .normal { a with defers := { target := .collected D, args := #[] } :: a.defers } W)
    (hstop : ∀ (D : Nat) (pre : List α) (W : World), w.heap.size ≤ D → Ix pre W → W.heap[D]? = some (.deferred (some [])) → Code.ret.wpIn F n P Q { a with defers := { target := .collected D, args := #[] } :: a.defers } W) :
    (Code.rangeFunc g ps assign body).wpIn F n P Q a w := by
  refine wpIn_rangeFunc fun fn hfn => ?_
  rw [hro]
  generalize hrec : (fun (st : LoopState) (pe : Option Code) => ({ state := st, pending := pe, fn, tmps := a.tmps, params := ps, assign, body, defers := w.heap.size } : Loop)) = rec
  have hr : rec .ready none = { state := .ready, pending := none, fn, tmps := a.tmps, params := ps, assign, body, defers := w.heap.size } := by rw [← hrec]
  have hset : ∀ st st', { rec st none with state := st' } = rec st' none := fun st st' => by rw [← hrec]
  generalize hW1 : (w.alloc (.deferred (some []))).alloc (.loop (rec .ready none)) = W1
  have hs1 : W1.heap.size = w.heap.size + 2 := by rw [← hW1]; simp
  have hbw : Below w.heap.size w W1 := by rw [← hW1]; exact ((Below.refl _ w).alloc (Nat.le_refl _) _).alloc (by simp) _
  have hL : W1.heap[w.heap.size + 1]? = some (.loop (rec .ready none)) := by
    rw [← hW1]
    have := World.alloc_heap_new (w.alloc (.deferred (some []))) (.loop (rec .ready none))
    rwa [World.size_alloc] at this
  have hD : W1.heap[w.heap.size]? = some (.deferred (some [])) := by
    rw [← hW1]
    exact (Below.heap_alloc _ _ _ (by simp)).trans (World.alloc_heap_new w _)
  refine ⟨w.heap.size + 1, [{ target := .collected w.heap.size, args := #[] }], W1, { target := .fn (.func gf) lb, args := #[.func (.yield (w.heap.size + 1)) #[] #[]] }, W1, gf,
    #[.func (.yield (w.heap.size + 1)) #[] #[]] ++ lb, W1, ?_, ?_, ?_, ?_, fun _ => h1, ?_⟩
  · rw [← hW1, hr]
    exact run_enterLoop_outer _ _ _ _ _
  · simp only [resolve, hg]
    simp [go_sem]
  · intro f' hf'
    simp [Target.leads] at hf'
    subst hf'
    exact hFg
  · simp [invoke, go_sem, eg]
  refine (hit (w.heap.size + 1) (fun pre W => I pre W ∧ W.heap[w.heap.size + 1]? = some (.loop (rec .ready none)) ∧ W.heap[w.heap.size]? = some (.deferred (some []))) (fun pre W => Ix pre W ∧ W.heap[w.heap.size + 1]? = some (.loop (rec .done (some .ret))) ∧ W.heap[w.heap.size]? = some (.deferred (some []))) W1
    (hb0.trans (hbw.mono hb0.size)) ?_ ?_ ?_ ⟨hI _ _ _ h0 (.of_below hbw), hL, hD⟩).mono ?_
  · rintro s A B ⟨hi, hl, hd⟩ hst
    exact ⟨hI _ _ _ hi (hst.mono (by omega)), hst.same _ _ hl (.inl (by omega)), hst.same _ _ hd (.inl (by omega))⟩
  · rintro s A B ⟨hi, hl, hd⟩ hst
    exact ⟨hIx _ _ _ hi (hst.mono (by omega)), hst.same _ _ hl (.inl (by omega)), hst.same _ _ hd (.inl (by omega))⟩
  · rintro pre x W ⟨hi, hl, hd⟩ hnx hWs
    rw [hs1] at hWs ⊢
    have hy := run_yield (P := P) (args := encs x) hl (by rw [hr]; exact hps x)
    rw [hr] at hy
    refine ⟨fn, _, assign, body, hy, roundIn_of_wpIn hfn (wpIn_mono (hround _ pre x W (by omega) ⟨_, hl⟩ (by omega) hi hnx) ?_)⟩
    rintro e a₁ W1 hp
    cases e with
    | normal =>
      obtain ⟨hk1, hb1, hi1, hbody⟩ := hp
      have hl1 := hk1.same _ _ (by omega) hl rfl
      have hd1 := hk1.same _ _ (by omega) hd rfl
      have hst := Stays.putObj (B := w.heap.size) (.loop (rec .busy none)) (by omega) hl1 rfl
      refine ⟨W1.putObj (w.heap.size + 1) (.loop (rec .busy none)), ?_, ?_⟩
      · have := run_beginRound (P := P) hl1 (by rw [hr])
        rwa [hset] at this
      have hl2 : (W1.putObj (w.heap.size + 1) (.loop (rec .busy none))).heap[w.heap.size + 1]? = some (.loop (rec .busy none)) := World.putObj_heap_same (at_lt hl1)
      have hd2 : (W1.putObj (w.heap.size + 1) (.loop (rec .busy none))).heap[w.heap.size]? = some (.deferred (some [])) := (World.putObj_heap_other (by omega)).trans hd1
      refine wpIn_mono (hbody _ hst) ?_
      rintro e3 a3 W3 hp3
      cases e3 with
      | normal =>
        obtain ⟨hk3, hb3, hi3⟩ := hp3
        have hl3 := hk3.same _ _ (by omega) hl2 rfl
        have hd3 := hk3.same _ _ (by omega) hd2 rfl
        have hend := run_endRound (P := P) none hl3
        have he : { rec .busy none with state := if (none : Option Code).isNone then .ready else .done, pending := none } = rec .ready none := by rw [← hrec]; rfl
        rw [he] at hend
        refine ⟨_, _, hend, .inl ⟨rfl, ⟨hI _ _ _ hi3 (Stays.putObj _ (by omega) hl3 rfl), World.putObj_heap_same (at_lt hl3), (World.putObj_heap_other (by omega)).trans hd3⟩, ?_, ?_⟩⟩
        · rw [World.putObj_size]
          refine Nat.le_trans hk1.size ?_
          have := hk3.size
          rwa [World.putObj_size] at this
        · exact hKt (hKt (hKt hb1 (hKb _ _ _ _ (by omega) (by omega) hl1 rfl)) hb3) (hKb _ _ _ _ (by omega) (by omega) hl3 rfl)
      | ret =>
        obtain ⟨hk3, hi3⟩ := hp3
        have hl3 := hk3.same _ _ (by omega) hl2 rfl
        have hd3 := hk3.same _ _ (by omega) hd2 rfl
        have hend := run_endRound (P := P) (some .ret) hl3
        have he : { rec .busy none with state := if (some Code.ret : Option Code).isNone then .ready else .done, pending := some .ret } = rec .done (some .ret) := by rw [← hrec]; rfl
        rw [he] at hend
        exact ⟨_, _, hend, .inr ⟨rfl, hIx _ _ _ hi3 (Stays.putObj _ (by omega) hl3 rfl), World.putObj_heap_same (at_lt hl3), (World.putObj_heap_other (by omega)).trans hd3⟩⟩
      | exit id => exact hp3.elim
      | goto t => exact hp3.elim
      | panic c => exact hp3.elim
      | outgrown => exact hp3.elim
    | ret => exact hp.elim
    | exit id => exact hp.elim
    | goto t => exact hp.elim
    | panic c => exact hp.elim
    | outgrown => exact hp.elim
  · rintro e W2 ⟨v, rfl, (⟨xs, hS, hi, hl, hd⟩ | ⟨pre, hi, hl, hd⟩)⟩
    · have hend := run_endLoop (P := P) hl (by rw [hr]; simp)
      rw [hr] at hend
      exact ⟨none, _, hend, hdone _ xs _ (Nat.le_refl _) hS (hI _ _ _ hi (Stays.putObj _ (by omega) hl rfl)) ((World.putObj_heap_other (by omega)).trans hd)⟩
    · have hrd : rec .done (some .ret) = { state := .done, pending := some .ret, fn, tmps := a.tmps, params := ps, assign, body, defers := w.heap.size } := by rw [← hrec]
      have hend := run_endLoop (P := P) hl (by rw [hrd]; simp)
      rw [hrd] at hend
      exact ⟨some .ret, _, hend, hstop _ pre _ (Nat.le_refl _) (hIx _ _ _ hi (Stays.putObj _ (by omega) hl rfl)) ((World.putObj_heap_other (by omega)).trans hd)⟩
#print axioms range_ends
end Go.Proofs.YtolodcdhpnapmaaGreat
