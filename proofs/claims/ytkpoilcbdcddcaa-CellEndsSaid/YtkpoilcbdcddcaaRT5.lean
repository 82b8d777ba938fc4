/-
  A region of a round that draws its order, of each of whose operations something is told, and what holds of the world by which of them are done. No program is named here.
-/
import Derived.Test.YtkpoilcbdcddcaaRTI
namespace Go.Proofs.Ytkpoilcbdcddcaa
open Go.RowKit Go.Maps
set_option linter.unusedVariables false

section
variable {F : Fence} {n : Nat} {P : Program} {ops : Array Oper} {Q : Exit → Act → World → Prop}
/-- What one step's end must be. -/
def Stepped5 (ops : Array Oper) (T : Nat → (Nat → Value) → Prop) (G : (Nat → Bool) → World → Prop) (L : Nat → Bool) (a : Act) (i : Nat) (o : Oper) : Act → World → Prop := fun a' W' =>
  ∃ v, a' = a.put o.dst v ∧ (o.dst = none → v = undef) ∧ G (fun j => L j || j == i) W' ∧ T i (upd (sl ops a) i v)
theorem wpIn_tells5 {id : Nat} {a0 : Act} {w : World} (hF : ∀ f, F.fn f) (hmo : P.follows .mixedOrders = true) (T : Nat → (Nat → Value) → Prop) (G : (Nat → Bool) → World → Prop)
    (hB : backward .any ops = true) (hA : dstApart ops = true) (hG : noGuards ops = true) (hb : dstBelow ops a0.tmps.size = true)
    (hdep : ∀ j oj σ σ', ops[j]? = some oj → T j σ → (∀ k, k = j ∨ hangs oj k = true → σ' k = σ k) → T j σ')
    (h0 : G (fun _ => false) w.drew)
    (hstep : ∀ i o, ops[i]? = some o → ∀ (L : Nat → Bool) (a : Act) (W : World), L i = false → G L W → (∀ t, unwritten ops t = true → a.tmps.getD t undef = a0.tmps.getD t undef) → (∀ k, hangs o k = true → L k = true) → (∀ k, L k = true → T k (sl ops a)) → (∀ j oj k, ops[j]? = some oj → L j = true → hangs oj k = true → L k = true) →
      o.uponIn F n P a (Stepped5 ops T G L a i o) Q ((o.semAt F.round a.eval).run P W))
    (h : ∀ (a : Act) W, a.defers = a0.defers → a.tmps.size = a0.tmps.size → (∀ t, unwritten ops t = true → a.tmps.getD t undef = a0.tmps.getD t undef) → (∀ j, j < ops.size → T j (sl ops a)) → G (fun j => decide (j < ops.size)) W → Q .normal a W) :
    (Code.region id ops true).wpIn F n P Q a0 w := by
  refine wpIn_region_any hmo ?_
  refine wpAnyIn_keeps (fun listed a W => (a.defers = a0.defers ∧ a.tmps.size = a0.tmps.size ∧ (∀ t, unwritten ops t = true → a.tmps.getD t undef = a0.tmps.getD t undef)) ∧ G (fun j => listed.getD j false) W ∧
    (∀ j, listed.getD j false = true → T j (sl ops a) ∧ ∀ oj, ops[j]? = some oj → ∀ k, hangs oj k = true → listed.getD k false = true)) hB ?_ ?_ _ _ _ _ (by simp) (by simp) ?_
  · intro listed a W i hs ⟨⟨hd, hsz, hold⟩, hGW, hT⟩ hi
    obtain ⟨hlt, hnot, haft⟩ := mem_ready hi
    have ho : ops[i]? = some ops[i] := Array.getElem?_eq_getElem hlt
    generalize ops[i] = o at ho
    have hil : listed.getD i false = false := by
      rw [Array.getD_eq_getD_getElem?, Array.getElem?_eq_getElem (by omega)] at hnot ⊢
      simpa using hnot
    have hdone : ∀ j, hangs o j = true → listed.getD j false = true := fun j hh => by
      obtain ⟨ed, hed, hbd, hon⟩ := hangs_spec hh
      exact hon ▸ haft o ho ed hed hbd
    refine wpOpIn_step ho (fun K' hK' => ?_)
    rw [if_pos (by simp [Region.wanted, noGuards_spec hG ho])]
    refine Oper.wpIn_mono (K := Stepped5 ops T G (fun j => listed.getD j false) a i o) ?_ ⟨fun f _ => hF f, hstep i o ho _ a W hil hGW hold hdone (fun k hk => (hT k hk).1) (fun j oj k hoj hj hk => (hT j hj).2 oj hoj k hk)⟩
    rintro a' W' ⟨v, rfl, hv, hG', hTi⟩
    have hsl := sl_put (a := a) hA (by rw [hsz]; exact hb) ho v hv
    have hGG : G (fun j => (listed.setIfInBounds i true).getD j false) W' := by
      have e : (fun j => (listed.setIfInBounds i true).getD j false) = (fun j => listed.getD j false || j == i) := by
        funext j
        by_cases hji : j = i
        · subst hji
          rw [Array.getD_eq_getD_getElem?, Array.getElem?_setIfInBounds_self_of_lt (by omega)]
          simp
        · rw [Array.getD_eq_getD_getElem?, Array.getElem?_setIfInBounds_ne (fun e => hji e.symm), ← Array.getD_eq_getD_getElem?]
          simp [hji]
      rw [e]
      exact hG'
    refine hK' _ _ ⟨⟨?_, ?_, fun t ht => ?_⟩, hGG, fun j hj => ?_⟩
    · unfold Act.put; split <;> exact hd
    · unfold Act.put; split <;> simp [hsz]
    · rw [← hold t ht]
      cases hd' : o.dst with
      | none => rfl
      | some d =>
        have : d ≠ t := fun e => unwritten_spec ht ho (e ▸ hd')
        simp [Act.put, Array.getD_eq_getD_getElem?, Array.getElem?_setIfInBounds_ne this]
    · rw [hsl]
      rcases getD_set_true hj with rfl | hj2
      · refine ⟨hTi, fun oj hoj k hk => ?_⟩
        rw [ho] at hoj; cases hoj
        exact getD_set_keep (hdone k hk)
      · refine ⟨?_, fun oj hoj k hk => getD_set_keep ((hT j hj2).2 oj hoj k hk)⟩
        have hjn : ops[j]? = some (ops[j]'(by
          rw [Array.getD_eq_getD_getElem?] at hj2
          by_cases h : j < ops.size
          · exact h
          · rw [Array.getElem?_eq_none (by omega)] at hj2; simp at hj2)) := Array.getElem?_eq_getElem _
        refine hdep j _ _ _ hjn (hT j hj2).1 (fun k hk => ?_)
        unfold upd
        rw [if_neg]
        rintro rfl
        rcases hk with rfl | hk
        · rw [hil] at hj2; cases hj2
        · have := (hT j hj2).2 _ hjn k hk
          rw [hil] at this; cases this
  · intro listed a W hs hall ⟨⟨hd, hsz, hold⟩, hGW, hT⟩
    have e : (fun j => listed.getD j false) = (fun j => decide (j < ops.size)) := by
      funext j
      by_cases hj : j < ops.size
      · simp only [hj, decide_true]; exact hall j hj
      · rw [Array.getD_eq_getD_getElem?, Array.getElem?_eq_none (by omega)]
        simp [hj]
    rw [e] at hGW
    exact h a W hd hsz hold (fun j hj => (hT j (hall j hj)).1) hGW
  · have hz : ∀ j, (Array.replicate ops.size false).getD j false = false := fun j => by
      rw [Array.getD_eq_getD_getElem?, Array.getElem?_replicate]
      split <;> rfl
    exact ⟨⟨rfl, rfl, fun _ _ => rfl⟩, by simp only [hz]; exact h0, fun j hj => by rw [hz] at hj; cases hj⟩
theorem step5_told {T : Nat → (Nat → Value) → Prop} {G : (Nat → Bool) → World → Prop} {L : Nat → Bool} {a : Act} {W W' : World} {i : Nat} {o : Oper} {r : Option Nat} (v : Value) (hrun : (o.semAt r a.eval).run P W = .ok (.value v) W') (hd : o.dst ≠ none) (hG : G (fun j => L j || j == i) W') (hTi : T i (upd (sl ops a) i v)) :
    o.uponIn F n P a (Stepped5 ops T G L a i o) Q ((o.semAt r a.eval).run P W) := by
  rw [hrun]
  exact ⟨v, rfl, fun h => absurd h hd, hG, hTi⟩
theorem step5_skip {T : Nat → (Nat → Value) → Prop} {G : (Nat → Bool) → World → Prop} {L : Nat → Bool} {a : Act} {W W' : World} {i : Nat} {o : Oper} {r : Option Nat} (hrun : (o.semAt r a.eval).run P W = .ok .skip W') (hG : G (fun j => L j || j == i) W') (hTi : T i (upd (sl ops a) i undef)) :
    o.uponIn F n P a (Stepped5 ops T G L a i o) Q ((o.semAt r a.eval).run P W) := by
  rw [hrun]
  exact ⟨undef, rfl, fun _ => rfl, hG, hTi⟩
theorem step5_called {T : Nat → (Nat → Value) → Prop} {G : (Nat → Bool) → World → Prop} {L : Nat → Bool} {a : Act} {W : World} {i : Nat} {o : Oper} {r : Option Nat} {m : Nat} {f : FuncId} {args : Array Value} (v : Value) (hrun : (o.semAt r a.eval).run P W = .ok (.enter f args) W) (hd : o.dst ≠ none)
    (hc : Calls P f args W fun e w' => e = .returned v ∧ W = w') (hG : G (fun j => L j || j == i) W) (hTi : T i (upd (sl ops a) i v)) :
    o.uponIn Fence.wide m P a (Stepped5 ops T G L a i o) Q ((o.semAt r a.eval).run P W) := by
  rw [hrun, Oper.uponIn_enter]
  refine ⟨(fun h => by cases h), (callsIn_wide.2 hc).mono ?_⟩
  rintro e w' ⟨rfl, rfl⟩
  exact ⟨v, rfl, fun h => absurd h hd, hG, hTi⟩
end
end Go.Proofs.Ytkpoilcbdcddcaa
