/-
  A region that draws its order, of each of whose first operations something lasting is told, and whose last ones wait for all of these: what it leaves. No program is named here.
-/
import Derived.Test.YtbllnjkagleenaaGreatRT
import Derived.StillTail
namespace Go.Proofs.YtbllnjkagleenaaGreat
open Go.RowKit Go.Maps
set_option linter.unusedVariables false

section
variable {P : Program} {ops : Array Oper} {Q : Exit → Act → World → Prop}
/-- The first n operations are done, the others are not. -/
def headOf (size n : Nat) : Array Bool := ((List.range size).map (fun i => decide (i < n))).toArray
theorem listed_head {n : Nat} {listed : Array Bool} (hs : listed.size = ops.size) (hh : ∀ i, i < n → listed.getD i false = true) (ht : ∀ t, n ≤ t → t < ops.size → listed.getD t true = false) (hn : n < ops.size) : listed = headOf ops.size n := by
  apply Array.ext
  · simp [headOf, hs]
  · intro i h1 h2
    simp only [headOf, List.getElem_toArray, List.getElem_map, List.getElem_range]
    by_cases hi : i < n
    · have := hh i hi
      rw [Array.getD_eq_getD_getElem?, Array.getElem?_eq_getElem h1] at this
      simpa [hi] using this
    · have := ht i (by omega) (by omega)
      rw [Array.getD_eq_getD_getElem?, Array.getElem?_eq_getElem h1] at this
      simpa [hi] using this
theorem wp_tells_tail {id : Nat} {a0 : Act} {w : World} (n : Nat) (hmo : P.follows .mixedOrders = true) (T : Nat → (Nat → Value) → World → Prop) (G : World → Prop)
    (hB : backward .any ops = true) (hA : dstApart ops = true) (hG : noGuards ops = true) (hb : dstBelow ops a0.tmps.size = true)
    (hs : Region.sinkB .any ops n = true) (hc : Region.chainB .any ops n = true) (hq : Region.seqB .any ops (ops.size - n) n (headOf ops.size n) = true) (hn : n < ops.size)
    (hdep : ∀ j oj σ σ' W, ops[j]? = some oj → T j σ W → (∀ k, k = j ∨ hangs oj k = true → σ' k = σ k) → T j σ' W)
    (h0 : G w.drew) (hstep : ∀ i o, i < n → ops[i]? = some o → StepTells P ops Q T G a0 i o)
    (h : ∀ (a : Act) W, a.defers = a0.defers → a.tmps.size = a0.tmps.size → (∀ t, unwritten ops t = true → a.tmps.getD t undef = a0.tmps.getD t undef) → (∀ j, j < n → T j (sl ops a) W) → G W → wpList P ops Q (ops.toList.drop n) a W) :
    (Code.region id ops true).wp P Q a0 w := by
  refine wp_region_any hmo ?_
  have main : ∀ f (listed : Array Bool) (a : Act) (W : World), (listed.toList.take n).count false = f → HeadInv .any ops n listed →
      (a.defers = a0.defers ∧ a.tmps.size = a0.tmps.size ∧ (∀ t, unwritten ops t = true → a.tmps.getD t undef = a0.tmps.getD t undef)) → G W → (∀ j, listed.getD j false = true → T j (sl ops a) W) → wpAny P .any ops Q (f + (ops.size - n)) listed a W := by
    intro f
    induction f with
    | zero =>
      intro listed a W hcnt inv hact hGW hT
      have hall : ∀ i, i < n → listed.getD i false = true := fun i hi => by
        have hil : i < listed.size := by rw [inv.size]; omega
        cases hl : listed.getD i false with
        | true => rfl
        | false =>
          rw [Array.getD_eq_getD_getElem?, Array.getElem?_eq_getElem hil] at hl
          have : false ∈ listed.toList.take n := by
            rw [List.mem_iff_getElem?]
            refine ⟨i, ?_⟩
            rw [List.getElem?_take_of_lt hi, Array.getElem?_toList, Array.getElem?_eq_getElem hil]
            simpa using hl
          have := List.count_pos_iff.2 this
          omega
      have hlen : (ops.toList.drop n).length = ops.size - n := by simp
      rw [Nat.zero_add, ← hlen]
      refine wpAny_of_seq (md := .any) (ops.toList.drop n) n listed a W (fun j => by simp [List.getElem?_drop]) ?_ ?_
      · rw [hlen, listed_head inv.size hall inv.tail hn]; exact hq
      · exact h a W hact.1 hact.2.1 hact.2.2 (fun j hj => hT j (hall j hj)) hGW
    | succ f ih =>
      intro listed a W hcnt inv hact hGW hT
      obtain ⟨i0, hi0, hun0⟩ : ∃ i, i < n ∧ listed.getD i true = false := by
        have : false ∈ listed.toList.take n := List.count_pos_iff.1 (by omega)
        obtain ⟨i, hi⟩ := List.mem_iff_getElem?.1 this
        have hin : i < n := by
          have := (List.getElem?_eq_some_iff.1 hi).1
          simp at this; omega
        refine ⟨i, hin, ?_⟩
        rw [List.getElem?_take_of_lt hin, Array.getElem?_toList] at hi
        rw [Array.getD_eq_getD_getElem?, hi]
        rfl
      rw [show f + 1 + (ops.size - n) = (f + (ops.size - n)) + 1 by omega]
      refine ⟨fun hr => ?_, fun i hi => ?_⟩
      · have := ready_nil_all hB inv.size hr i0 (by omega)
        rw [getD_both hun0] at this
        cases this
      · have hin : i < n := by
          rcases Nat.lt_or_ge i n with h' | h'
          · exact h'
          · exact absurd hi (tail_waits hs hc hn inv _ i0 rfl hi0 hun0 i h')
        obtain ⟨hlt, hnot, haft⟩ := YtbllnjkagleenaaGreat.mem_ready hi
        have ho : ops[i]? = some ops[i] := Array.getElem?_eq_getElem hlt
        generalize ops[i] = o at ho
        have hil : listed.getD i false = false := getD_both hnot
        have hdone : ∀ j, hangs o j = true → listed.getD j false = true := fun j hh => by
          obtain ⟨ed, hed, hbd, hon⟩ := hangs_spec hh
          exact hon ▸ haft o ho ed hed hbd
        refine wpOp_step ho (fun K' hK' => ?_)
        rw [if_pos (by simp [Region.wanted, noGuards_spec hG ho])]
        refine Oper.wp_mono ?_ (hstep i o hin ho (fun j => listed.getD j false) a W hil hGW hact.2.2 hT hdone)
        rintro a' W' ⟨v, rfl, hv, hG', hT', hTi⟩
        have hsl := sl_put (a := a) hA (by rw [hact.2.1]; exact hb) ho v hv
        refine hK' _ _ (ih (listed.setIfInBounds i true) _ W' ?_ (inv.set hi hin) ⟨?_, ?_, fun t ht => ?_⟩ hG' fun j hj => ?_)
        · rw [Array.toList_setIfInBounds, List.take_set]
          have hil2 : i < (listed.toList.take n).length := by
            have := inv.size
            simp; omega
          have hf : (listed.toList.take n)[i] = false := by
            have hil3 : i < listed.size := by rw [inv.size]; exact hlt
            rw [List.getElem_take, Array.getElem_toList]
            rw [Array.getD_eq_getD_getElem?, Array.getElem?_eq_getElem hil3] at hil
            simpa using hil
          rw [List.count_set hil2, hf]
          have hpos : 0 < (listed.toList.take n).count false := by omega
          simp
          omega
        · unfold Act.put; split <;> exact hact.1
        · unfold Act.put; split <;> simp [hact.2.1]
        · rw [← hact.2.2 t ht]
          cases hd' : o.dst with
          | none => rfl
          | some d =>
            have : d ≠ t := fun e => unwritten_spec ht ho (e ▸ hd')
            simp [Act.put, Array.getD_eq_getD_getElem?, Array.getElem?_setIfInBounds_ne this]
        · rw [hsl]
          rcases YtbllnjkagleenaaGreat.getD_set_true hj with rfl | hj2
          · exact hTi
          · have hjn : ops[j]? = some (ops[j]'(by
              rw [Array.getD_eq_getD_getElem?] at hj2
              by_cases h : j < ops.size
              · exact h
              · rw [Array.getElem?_eq_none (by have := inv.size; omega)] at hj2; simp at hj2)) := Array.getElem?_eq_getElem _
            refine hdep j _ _ _ W' hjn (hT' j hj2) (fun k hk => ?_)
            unfold upd
            rw [if_neg]
            rintro rfl
            rcases hk with rfl | hk
            · rw [hil] at hj2; cases hj2
            · obtain ⟨ed, hed, hbd, hon⟩ := hangs_spec hk
              have := inv.closed j _ hjn hj2 ed hed hbd
              rw [hon, hil] at this; cases this
  have hcnt : ((Array.replicate ops.size false).toList.take n).count false = n := by
    rw [Array.toList_replicate, List.take_replicate, List.count_replicate_self]
    omega
  have := main n (Array.replicate ops.size false) a0 w.drew hcnt
    ⟨by simp, fun j oj _ hl => (by rw [getD_replicate_false] at hl; cases hl), fun t _ ht => getD_in (by simpa using ht) (getD_replicate_false _ _)⟩ ⟨rfl, rfl, fun _ _ => rfl⟩ h0 (fun j hj => by rw [getD_replicate_false] at hj; cases hj)
  rw [show n + (ops.size - n) = ops.size by omega] at this
  exact this
end
end Go.Proofs.YtbllnjkagleenaaGreat
