/-
  A region that draws its order, of each of whose operations something is told, and what holds of the world by which of them are done: what it leaves. No program is named here.
-/
import Derived.Test.YtolodcdhpnapmaaGreatRT
namespace Go.Proofs.YtolodcdhpnapmaaGreat
open Go.RowKit Go.Maps
set_option linter.unusedVariables false

section
variable {P : Program} {ops : Array Oper} {Q : Exit → Act → World → Prop}
/-- What one step must show. -/
def StepTells2 (P : Program) (ops : Array Oper) (Q : Exit → Act → World → Prop) (T : Nat → (Nat → Value) → World → Prop) (G : (Nat → Bool) → World → Prop) (a0 : Act) (i : Nat) (o : Oper) : Prop :=
  ∀ (L : Nat → Bool) (a : Act) (W : World), L i = false → G L W → (∀ t, unwritten ops t = true → a.tmps.getD t undef = a0.tmps.getD t undef) → (∀ j, L j = true → T j (sl ops a) W) → (∀ k, hangs o k = true → L k = true) →
    o.wp P a W (fun a' W' => ∃ v, a' = a.put o.dst v ∧ (o.dst = none → v = undef) ∧ G (fun j => L j || j == i) W' ∧ (∀ j, L j = true → T j (sl ops a) W') ∧ T i (upd (sl ops a) i v) W') Q

theorem wpAny_tells2 {a0 : Act} {w : World} (T : Nat → (Nat → Value) → World → Prop) (G : (Nat → Bool) → World → Prop)
    (hB : backward .any ops = true) (hA : dstApart ops = true) (hG : noGuards ops = true) (hb : dstBelow ops a0.tmps.size = true)
    (hdep : ∀ j oj σ σ' W, ops[j]? = some oj → T j σ W → (∀ k, k = j ∨ hangs oj k = true → σ' k = σ k) → T j σ' W)
    (h0 : G (fun _ => false) w) (hstep : ∀ i o, ops[i]? = some o → StepTells2 P ops Q T G a0 i o)
    (h : ∀ (a : Act) W, a.defers = a0.defers → a.tmps.size = a0.tmps.size → (∀ t, unwritten ops t = true → a.tmps.getD t undef = a0.tmps.getD t undef) → (∀ j, j < ops.size → T j (sl ops a) W) → G (fun j => decide (j < ops.size)) W → Q .normal a W) :
    wpAny P .any ops Q ops.size (Array.replicate ops.size false) a0 w := by
  refine wpAny_keeps (fun listed a W => (a.defers = a0.defers ∧ a.tmps.size = a0.tmps.size ∧ (∀ t, unwritten ops t = true → a.tmps.getD t undef = a0.tmps.getD t undef)) ∧ G (fun j => listed.getD j false) W ∧
    (∀ j, listed.getD j false = true → T j (sl ops a) W ∧ ∀ oj, ops[j]? = some oj → ∀ k, hangs oj k = true → listed.getD k false = true)) hB ?_ ?_ _ _ _ _ (by simp) ?_ ?_
  · intro listed a W i hs ⟨⟨hd, hsz, hold⟩, hGW, hT⟩ hi
    obtain ⟨hlt, hnot, haft⟩ := mem_ready hi
    have ho : ops[i]? = some ops[i] := Array.getElem?_eq_getElem hlt
    generalize ops[i] = o at ho
    have hil : listed.getD i false = false := by
      rw [Array.getD_eq_getD_getElem?, Array.getElem?_eq_getElem (by omega)] at hnot ⊢
      simpa using hnot
    have hdone : ∀ j, hangs o j = true → listed.getD j false = true := fun j hh => by
      obtain ⟨ed, hed, hbd, hon⟩ := hangs_spec hh
      exact hon ▸ haft o ho ed hed hbd
    refine wpOp_step ho (fun K' hK' => ?_)
    rw [if_pos (by simp [Region.wanted, noGuards_spec hG ho])]
    refine Oper.wp_mono ?_ (hstep i o ho (fun j => listed.getD j false) a W hil hGW hold (fun j hj => (hT j hj).1) hdone)
    rintro a' W' ⟨v, rfl, hv, hG', hT', hTi⟩
    have hsl := sl_put (a := a) hA (by rw [hsz]; exact hb) ho v hv
    have hGG : G (fun j => (listed.setIfInBounds i true).getD j false) W' := by
      have e : (fun j => (listed.setIfInBounds i true).getD j false) = (fun j => listed.getD j false || j == i) := by
        funext j
        by_cases hji : j = i
        · subst hji
          rw [Array.getD_eq_getD_getElem?, Array.getElem?_setIfInBounds_self_of_lt (by omega)]
          simp
        · rw [Array.getD_eq_getD_getElem?, Array.getElem?_setIfInBounds_ne (fun e => hji e.symm), ← Array.getD_eq_getD_getElem?]
          simp [hji]
      rw [e]
      exact hG'
    refine hK' _ _ ⟨⟨?_, ?_, fun t ht => ?_⟩, hGG, fun j hj => ?_⟩
    · unfold Act.put; split <;> exact hd
    · unfold Act.put; split <;> simp [hsz]
    · rw [← hold t ht]
      cases hd' : o.dst with
      | none => rfl
      | some d =>
        have : d ≠ t := fun e => unwritten_spec ht ho (e ▸ hd')
        simp [Act.put, Array.getD_eq_getD_getElem?, Array.getElem?_setIfInBounds_ne this]
    · rw [hsl]
      rcases getD_set_true hj with rfl | hj2
      · refine ⟨hTi, fun oj hoj k hk => ?_⟩
        rw [ho] at hoj; cases hoj
        exact getD_set_keep (hdone k hk)
      · refine ⟨?_, fun oj hoj k hk => getD_set_keep ((hT j hj2).2 oj hoj k hk)⟩
        have hjn : ops[j]? = some (ops[j]'(by
          rw [Array.getD_eq_getD_getElem?] at hj2
          by_cases h : j < ops.size
          · exact h
          · rw [Array.getElem?_eq_none (by omega)] at hj2; simp at hj2)) := Array.getElem?_eq_getElem _
        refine hdep j _ _ _ W' hjn (hT' j hj2) (fun k hk => ?_)
        unfold upd
        rw [if_neg]
        rintro rfl
        rcases hk with rfl | hk
        · rw [hil] at hj2; cases hj2
        · have := (hT j hj2).2 _ hjn k hk
          rw [hil] at this; cases this
  · intro listed a W hs hall ⟨⟨hd, hsz, hold⟩, hGW, hT⟩
    have e : (fun j => listed.getD j false) = (fun j => decide (j < ops.size)) := by
      funext j
      by_cases hj : j < ops.size
      · simp only [hj, decide_true]; exact hall j hj
      · rw [Array.getD_eq_getD_getElem?, Array.getElem?_eq_none (by omega)]
        simp [hj]
    rw [e] at hGW
    exact h a W hd hsz hold (fun j hj => (hT j (hall j hj)).1) hGW
  · simp
  · have hz : ∀ j, (Array.replicate ops.size false).getD j false = false := fun j => by
      rw [Array.getD_eq_getD_getElem?, Array.getElem?_replicate]
      split <;> rfl
    exact ⟨⟨rfl, rfl, fun _ _ => rfl⟩, by simp only [hz]; exact h0, fun j hj => by rw [hz] at hj; cases hj⟩

theorem wp_tells2 {id : Nat} {a0 : Act} {w : World} (hmo : P.follows .mixedOrders = true) (T : Nat → (Nat → Value) → World → Prop) (G : (Nat → Bool) → World → Prop)
    (hB : backward .any ops = true) (hA : dstApart ops = true) (hG : noGuards ops = true) (hb : dstBelow ops a0.tmps.size = true)
    (hdep : ∀ j oj σ σ' W, ops[j]? = some oj → T j σ W → (∀ k, k = j ∨ hangs oj k = true → σ' k = σ k) → T j σ' W)
    (h0 : G (fun _ => false) w.drew) (hstep : ∀ i o, ops[i]? = some o → StepTells2 P ops Q T G a0 i o)
    (h : ∀ (a : Act) W, a.defers = a0.defers → a.tmps.size = a0.tmps.size → (∀ t, unwritten ops t = true → a.tmps.getD t undef = a0.tmps.getD t undef) → (∀ j, j < ops.size → T j (sl ops a) W) → G (fun j => decide (j < ops.size)) W → Q .normal a W) :
    (Code.region id ops true).wp P Q a0 w := by
  refine wp_region_any hmo ?_
  exact wpAny_tells2 (w := w.drew) T G hB hA hG hb hdep h0 hstep h
end

/-- What a step's end must be. -/
def Stepped2 (ops : Array Oper) (T : Nat → (Nat → Value) → World → Prop) (G : (Nat → Bool) → World → Prop) (L : Nat → Bool) (a : Act) (i : Nat) (o : Oper) : Act → World → Prop := fun a' W' =>
  ∃ v, a' = a.put o.dst v ∧ (o.dst = none → v = undef) ∧ G (fun j => L j || j == i) W' ∧ (∀ j, L j = true → T j (sl ops a) W') ∧ T i (upd (sl ops a) i v) W'
section
variable {P : Program} {ops : Array Oper} {Q : Exit → Act → World → Prop} {T : Nat → (Nat → Value) → World → Prop} {G : (Nat → Bool) → World → Prop} {L : Nat → Bool} {a : Act} {W : World} {i : Nat} {o : Oper}
theorem step2_told (v : Value) (hrun : (execOp a.eval o).run P W = .ok (.value v) W) (hd : o.dst ≠ none) (hG : G (fun j => L j || j == i) W) (hT : ∀ j, L j = true → T j (sl ops a) W) (hTi : T i (upd (sl ops a) i v) W) : o.wp P a W (Stepped2 ops T G L a i o) Q := by
  unfold Oper.wp
  rw [hrun]
  exact ⟨v, rfl, fun h => absurd h hd, hG, hT, hTi⟩
theorem step2_called {f : FuncId} {args : Array Value} {R : Value → World → Prop} (hrun : (execOp a.eval o).run P W = .ok (.enter f args) W) (hd : o.dst ≠ none) (hc : Calls P f args W fun e w' => ∃ v, e = .returned v ∧ R v w')
    (h : ∀ v W', R v W' → G (fun j => L j || j == i) W' ∧ (∀ j, L j = true → T j (sl ops a) W') ∧ T i (upd (sl ops a) i v) W') : o.wp P a W (Stepped2 ops T G L a i o) Q := by
  unfold Oper.wp
  rw [hrun, Oper.upon_enter]
  refine hc.mono ?_
  rintro e w' ⟨v, rfl, hR⟩
  obtain ⟨h1, h2, h3⟩ := h v w' hR
  exact ⟨v, rfl, fun h => absurd h hd, h1, h2, h3⟩
end
end Go.Proofs.YtolodcdhpnapmaaGreat
