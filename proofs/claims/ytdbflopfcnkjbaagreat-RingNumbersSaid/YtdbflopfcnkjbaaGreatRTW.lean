/-
  A region of a round that draws its order and makes memory in one order: each operation tells one known value, and what holds of the world is known by which are done. No program is named here.
-/
import Derived.Test.YtdbflopfcnkjbaaGreatRTI
import Derived.Test.YtdbflopfcnkjbaaGreatRT4
namespace Go.Proofs.YtdbflopfcnkjbaaGreat
open Go.RowKit Go.Maps
set_option linter.unusedVariables false

section
variable {F : Fence} {n : Nat} {P : Program} {ops : Array Oper} {Q : Exit → Act → World → Prop}
theorem wpIn_static2 {id : Nat} {a0 : Act} {w : World} (hF : ∀ f, F.fn f) (hmo : P.follows .mixedOrders = true) (vals : Nat → Value) (G : (Nat → Bool) → World → Prop)
    (hB : backward .any ops = true) (hA : dstApart ops = true) (hng : noGuards ops = true) (hb : dstBelow ops a0.tmps.size = true)
    (hnone : ∀ (i : Nat) (o : Oper), ops[i]? = some o → o.dst = none → vals i = undef)
    (h0 : G (fun _ => false) w.drew)
    (hstep : ∀ (i : Nat) (o : Oper), ops[i]? = some o → ∀ (L : Nat → Bool) (a : Act) (W : World), L i = false → G L W → (∀ t, unwritten ops t = true → a.tmps.getD t undef = a0.tmps.getD t undef) → (∀ k, hangs o k = true → sl ops a k = vals k) →
      (∀ j oj, L j = true → ops[j]? = some oj → ∀ k, hangs oj k = true → L k = true) → (∀ k, hangs o k = true → L k = true) →
      o.uponIn F n P a (fun a' W' => a' = a.put o.dst (vals i) ∧ G (fun j => L j || j == i) W') Q ((o.semAt F.round a.eval).run P W))
    (h : ∀ (a : Act) W, a.defers = a0.defers → a.tmps.size = a0.tmps.size → (∀ t, unwritten ops t = true → a.tmps.getD t undef = a0.tmps.getD t undef) → (∀ j, j < ops.size → sl ops a j = vals j) → G (fun j => decide (j < ops.size)) W → Q .normal a W) :
    (Code.region id ops true).wpIn F n P Q a0 w := by
  refine wpIn_region_any hmo ?_
  refine wpAnyIn_keeps (fun listed a W => (a.defers = a0.defers ∧ a.tmps.size = a0.tmps.size ∧ (∀ t, unwritten ops t = true → a.tmps.getD t undef = a0.tmps.getD t undef)) ∧ G (fun j => listed.getD j false) W ∧
    (∀ j, listed.getD j false = true → sl ops a j = vals j ∧ ∀ oj, ops[j]? = some oj → ∀ k, hangs oj k = true → listed.getD k false = true)) hB ?_ ?_ _ _ _ _ (by simp) (by simp) ?_
  · intro listed a W i hs ⟨⟨hd, hsz, hold⟩, hGW, hT⟩ hi
    obtain ⟨hlt, hnot, haft⟩ := mem_ready hi
    have ho : ops[i]? = some ops[i] := Array.getElem?_eq_getElem hlt
    generalize ops[i] = o at ho
    have hil : listed.getD i false = false := by
      rw [Array.getD_eq_getD_getElem?, Array.getElem?_eq_getElem (by omega)] at hnot ⊢
      simpa using hnot
    have hdone : ∀ j, hangs o j = true → listed.getD j false = true := fun j hh => by
      obtain ⟨ed, hed, hbd, hon⟩ := hangs_spec hh
      exact hon ▸ haft o ho ed hed hbd
    have hGG : ∀ W', G (fun j => listed.getD j false || j == i) W' → G (fun j => (listed.setIfInBounds i true).getD j false) W' := fun W' hG' => by
      have e : (fun j => (listed.setIfInBounds i true).getD j false) = (fun j => listed.getD j false || j == i) := by
        funext j
        by_cases hji : j = i
        · subst hji
          rw [Array.getD_eq_getD_getElem?, Array.getElem?_setIfInBounds_self_of_lt (by omega)]
          simp
        · rw [Array.getD_eq_getD_getElem?, Array.getElem?_setIfInBounds_ne (fun e => hji e.symm), ← Array.getD_eq_getD_getElem?]
          simp [hji]
      rw [e]
      exact hG'
    refine wpOpIn_step ho (fun K' hK' => ?_)
    rw [if_pos (by simp [Region.wanted, noGuards_spec hng ho])]
    refine Oper.wpIn_mono (K := fun a' W' => a' = a.put o.dst (vals i) ∧ G (fun j => listed.getD j false || j == i) W') ?_ ⟨fun f _ => hF f, hstep i o ho (fun j => listed.getD j false) a W hil hGW hold (fun k hk => (hT k (hdone k hk)).1) (fun j oj hj hoj k hk => (hT j hj).2 oj hoj k hk) hdone⟩
    rintro a' W' ⟨rfl, hG'⟩
    have hsl := sl_put (a := a) hA (by rw [hsz]; exact hb) ho (vals i) (fun e => hnone i o ho e)
    refine hK' _ _ ⟨⟨?_, ?_, fun t ht => ?_⟩, hGG W' hG', fun j hj => ?_⟩
    · unfold Act.put; split <;> exact hd
    · unfold Act.put; split <;> simp [hsz]
    · rw [← hold t ht]
      cases hd' : o.dst with
      | none => rfl
      | some d =>
        have : d ≠ t := fun e => unwritten_spec ht ho (e ▸ hd')
        simp [Act.put, Array.getD_eq_getD_getElem?, Array.getElem?_setIfInBounds_ne this]
    · rw [hsl]
      unfold upd
      split
      · subst j
        refine ⟨rfl, fun oj hoj k hk => ?_⟩
        rw [ho] at hoj
        cases hoj
        exact getD_set_keep (hdone k hk)
      · rename_i hne
        have hj2 := (getD_set_true hj).resolve_left hne
        exact ⟨(hT j hj2).1, fun oj hoj k hk => getD_set_keep ((hT j hj2).2 oj hoj k hk)⟩
  · intro listed a W hs hall ⟨⟨hd, hsz, hold⟩, hGW, hT⟩
    have e : (fun j => listed.getD j false) = (fun j => decide (j < ops.size)) := by
      funext j
      by_cases hj : j < ops.size
      · simp only [hj, decide_true]; exact hall j hj
      · rw [Array.getD_eq_getD_getElem?, Array.getElem?_eq_none (by omega)]
        simp [hj]
    rw [e] at hGW
    exact h a W hd hsz hold (fun j hj => (hT j (hall j hj)).1) hGW
  · have hz : ∀ j, (Array.replicate ops.size false).getD j false = false := fun j => by
      rw [Array.getD_eq_getD_getElem?, Array.getElem?_replicate]
      split <;> rfl
    exact ⟨⟨rfl, rfl, fun _ _ => rfl⟩, by simp only [hz]; exact h0, fun j hj => by rw [hz] at hj; cases hj⟩
theorem static2_told {lp n : Nat} {o : Oper} {a : Act} {W : World} {v : Value} {R : World → Prop} (W' : World) (hrun : (o.semAt (Fence.wide.inRound lp).round a.eval).run P W = .ok (.value v) W')
    (hG : R W') : o.uponIn (Fence.wide.inRound lp) n P a (fun a' W' => a' = a.put o.dst v ∧ R W') Q ((o.semAt (Fence.wide.inRound lp).round a.eval).run P W) := by
  rw [hrun]
  exact ⟨rfl, hG⟩
theorem static2_stored {lp n : Nat} {o : Oper} {a : Act} {W : World} {R : World → Prop} (W' : World) (hrun : (o.semAt (Fence.wide.inRound lp).round a.eval).run P W = .ok .skip W')
    (hG : R W') : o.uponIn (Fence.wide.inRound lp) n P a (fun a' W' => a' = a.put o.dst undef ∧ R W') Q ((o.semAt (Fence.wide.inRound lp).round a.eval).run P W) := by
  rw [hrun]
  exact ⟨rfl, hG⟩
end
end Go.Proofs.YtdbflopfcnkjbaaGreat
