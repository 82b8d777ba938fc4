/-
  A map keyed by whole numbers, told by what stands at each: looked up, put, deleted. No program is named here.
-/
import Derived.Test.YtkpoilcbdcddcaaGen
import Derived.Maps.OwnSet
namespace Go.Proofs.Ytkpoilcbdcddcaa
open Go.RowKit Go.Maps
set_option linter.unusedVariables false

/-- Block b is a map that has just f n at the number n. -/
structure IMap (w : World) (b : Nat) (f : Int → Option Value) (es : Array MapEntry) (clock : Nat) : Prop where
  at_ : w.heap[b]? = some (.map es clock)
  key : ∀ e ∈ es.toList, ∃ n, e.key = .int .u8 n ∧ (Lit.int .u8 n).wf = true ∧ f n = some e.val
  all : ∀ n v, f n = some v → ∃ e ∈ es.toList, e.key = .int .u8 n ∧ e.val = v
  once : (es.toList.map (·.key)).Nodup
def HasMap (w : World) (b : Nat) (f : Int → Option Value) : Prop := ∃ es clock, IMap w b f es clock
def setAt (f : Int → Option Value) (n : Int) (o : Option Value) : Int → Option Value := fun k => if k = n then o else f k

section
variable {P : Program} {w : World} {t k e : TypeId} {b clock : Nat} {es : Array MapEntry} {f : Int → Option Value} {n : Int} {val z : Value}

theorem IMap.keys (h : IMap w b f es clock) (hk : P.underlying k = some (.int .u8)) : ∀ x ∈ es.toList, ∃ l, keyOf P k x.key = some l := fun x hx => by
  obtain ⟨m, h1, h2, _⟩ := h.key x hx
  exact ⟨_, by rw [h1]; exact keyOf_int_mk hk h2⟩
theorem HasMap.lt (h : HasMap w b f) : b < w.heap.size := by
  obtain ⟨es, c, h⟩ := h
  exact (Array.getElem?_eq_some_iff.1 h.at_).1
theorem HasMap.same {w' : World} (h : HasMap w b f) (hb : w'.heap[b]? = w.heap[b]?) : HasMap w' b f := by
  obtain ⟨es, c, h⟩ := h
  exact ⟨es, c, hb.trans h.at_, h.key, h.all, h.once⟩
theorem HasMap.made (hb : w.heap[b]? = some (.map #[] clock)) : HasMap w b (fun _ => none) := ⟨#[], clock, hb, by simp, by simp, by simp⟩

theorem HasMap.look (h : HasMap w b f) (ht : P.underlying t = some (.map k e)) (hk : P.underlying k = some (.int .u8)) (hw : (Lit.int .u8 n).wf = true) (hf : f n = some val) :
    (Instr.lookup t (.map (some b)) (.int .u8 n) true).run P w = .ok (.tuple #[val, .bool true]) w := by
  obtain ⟨es, c, h⟩ := h
  rcases (int_keyed hk).find w (keyOf_int_mk hk hw) es.toList (h.keys hk) with ⟨h1, h2⟩ | ⟨j, e0, h1, h2, h3⟩
  · obtain ⟨x, hx, hx1, _⟩ := h.all n val hf
    exact absurd hx1 (h2 x hx)
  · have hv : e0.val = val := by
      obtain ⟨m, g1, _, g2⟩ := h.key e0 (List.mem_of_getElem? h2)
      rw [h3] at g1
      injection g1 with _ g1
      rw [← g1, hf] at g2
      exact (Option.some.inj g2).symm
    simp [Instr.lookup, run_underlying ht, MapKept.run_getObj_map h.at_, (int_keyed hk).check w _ (keyOf_int_mk hk hw), h1, Result.andThen, hv]
theorem HasMap.look_none (h : HasMap w b f) (ht : P.underlying t = some (.map k e)) (hk : P.underlying k = some (.int .u8)) (hw : (Lit.int .u8 n).wf = true) (hf : f n = none) (hz : (zeroValue e).run P w = .ok z w) :
    (Instr.lookup t (.map (some b)) (.int .u8 n) true).run P w = .ok (.tuple #[z, .bool false]) w := by
  obtain ⟨es, c, h⟩ := h
  rcases (int_keyed hk).find w (keyOf_int_mk hk hw) es.toList (h.keys hk) with ⟨h1, h2⟩ | ⟨j, e0, h1, h2, h3⟩
  · simp [Instr.lookup, run_underlying ht, MapKept.run_getObj_map h.at_, (int_keyed hk).check w _ (keyOf_int_mk hk hw), h1, hz, Result.andThen]
  · obtain ⟨m, g1, _, g2⟩ := h.key e0 (List.mem_of_getElem? h2)
    rw [h3] at g1
    injection g1 with _ g1
    rw [← g1, hf] at g2
    cases g2
/-- A new key. -/
theorem HasMap.put (h : HasMap w b f) (ht : P.underlying t = some (.map k e)) (hk : P.underlying k = some (.int .u8)) (hw : (Lit.int .u8 n).wf = true) (hf : f n = none) :
    ∃ o, (Instr.mapUpdate t (.map (some b)) (.int .u8 n) val).run P w = .ok () (ChangeMaps.setBlock w b o) ∧ HasMap (ChangeMaps.setBlock w b o) b (setAt f n (some val)) := by
  have hlt := h.lt
  obtain ⟨es, c, h⟩ := h
  have hne : ∀ x ∈ es.toList, x.key ≠ .int .u8 n := fun x hx hxk => by
    obtain ⟨m, g1, _, g2⟩ := h.key x hx
    rw [hxk] at g1
    injection g1 with _ g1
    rw [← g1, hf] at g2
    cases g2
  refine ⟨_, run_put_new (int_keyed hk) ht h.at_ (h.keys hk) (keyOf_int_mk hk hw) hne, es.push ⟨.int .u8 n, val, c⟩, c + 1, ?_, ?_, ?_, ?_⟩
  · simp [ChangeMaps.setBlock, hlt]
  · intro x hx
    simp only [Array.toList_push, List.mem_append, List.mem_singleton] at hx
    rcases hx with hx | rfl
    · obtain ⟨m, g1, g2, g3⟩ := h.key x hx
      refine ⟨m, g1, g2, ?_⟩
      unfold setAt
      rw [if_neg (fun e => hne x hx (by rw [g1, e]))]
      exact g3
    · exact ⟨n, rfl, hw, by simp [setAt]⟩
  · intro m v hm
    unfold setAt at hm
    by_cases e : m = n
    · subst e
      rw [if_pos rfl] at hm
      cases hm
      exact ⟨⟨.int .u8 m, val, c⟩, by simp, rfl, rfl⟩
    · rw [if_neg e] at hm
      obtain ⟨x, hx, g1, g2⟩ := h.all m v hm
      exact ⟨x, by simp [hx], g1, g2⟩
  · rw [Array.toList_push, List.map_append, List.nodup_append]
    refine ⟨h.once, by simp, fun a ha a' ha' => ?_⟩
    simp only [List.map_cons, List.map_nil, List.mem_singleton] at ha'
    subst ha'
    obtain ⟨x, hx, rfl⟩ := List.mem_map.1 ha
    exact hne x hx
/-- A key is deleted. -/
theorem HasMap.drop (h : HasMap w b f) (ht : P.underlying t = some (.map k e)) (hk : P.underlying k = some (.int .u8)) (hw : (Lit.int .u8 n).wf = true) (ty : TypeId) :
    ∃ o, (Builtin.delete_ #[t, k] ty #[.map (some b), .int .u8 n]).run P w = .ok (.tuple #[]) (ChangeMaps.setBlock w b o) ∧ HasMap (ChangeMaps.setBlock w b o) b (setAt f n none) := by
  have hlt := h.lt
  obtain ⟨es, c, h⟩ := h
  rcases (int_keyed hk).find w (keyOf_int_mk hk hw) es.toList (h.keys hk) with ⟨h1, h2⟩ | ⟨j, e0, h1, h2, h3⟩
  · refine ⟨.map es c, by simp [Builtin.delete_, run_underlying ht, MapKept.run_getObj_map h.at_, MapKept.run_setObj_map _ h.at_, (int_keyed hk).check w _ (keyOf_int_mk hk hw), h1, Result.andThen, ChangeMaps.setBlock], es, c, by simp [ChangeMaps.setBlock, hlt], fun x hx => ?_, fun m v hm => ?_, h.once⟩
    · obtain ⟨m, g1, g2, g3⟩ := h.key x hx
      refine ⟨m, g1, g2, ?_⟩
      unfold setAt
      rw [if_neg (fun e => h2 x hx (by rw [g1, e]))]
      exact g3
    · unfold setAt at hm
      by_cases e : m = n
      · rw [if_pos e] at hm; cases hm
      · rw [if_neg e] at hm
        exact h.all m v hm
  · have hj : j < es.size := by
      have := (List.getElem?_eq_some_iff.1 h2).1
      simpa using this
    have hel : (es.eraseIdxIfInBounds j).toList = es.toList.eraseIdx j := by
      unfold Array.eraseIdxIfInBounds
      rw [dif_pos hj]
      simp
    have hsub : ∀ x ∈ es.toList.eraseIdx j, x ∈ es.toList ∧ x.key ≠ .int .u8 n := fun x hx => by
      obtain ⟨i, hi, hij, hx2⟩ := List.mem_eraseIdx_iff_getElem?.1 hx |>.imp (fun i h => (⟨(List.getElem?_eq_some_iff.1 h.2).1, h.1, h.2⟩ : i < es.toList.length ∧ i ≠ j ∧ es.toList[i]? = some x))
      refine ⟨List.mem_of_getElem? hx2, fun hk' => ?_⟩
      have hn := h.once
      have a1 : (es.toList.map (·.key))[i]? = some (.int .u8 n) := by rw [List.getElem?_map, hx2]; simp [hk']
      have a2 : (es.toList.map (·.key))[j]? = some (.int .u8 n) := by rw [List.getElem?_map, h2]; simp [h3]
      exact hij ((List.getElem?_inj (by simpa using hi) hn).1 (a1.trans a2.symm))
    refine ⟨.map (es.eraseIdxIfInBounds j) c, by simp [Builtin.delete_, run_underlying ht, MapKept.run_getObj_map h.at_, MapKept.run_setObj_map _ h.at_, (int_keyed hk).check w _ (keyOf_int_mk hk hw), h1, Result.andThen, ChangeMaps.setBlock], es.eraseIdxIfInBounds j, c, by simp [ChangeMaps.setBlock, hlt], fun x hx => ?_, fun m v hm => ?_, ?_⟩
    · rw [hel] at hx
      obtain ⟨hx1, hx2⟩ := hsub x hx
      obtain ⟨m, g1, g2, g3⟩ := h.key x hx1
      refine ⟨m, g1, g2, ?_⟩
      unfold setAt
      rw [if_neg (fun e => hx2 (by rw [g1, e]))]
      exact g3
    · unfold setAt at hm
      by_cases e : m = n
      · rw [if_pos e] at hm; cases hm
      · rw [if_neg e] at hm
        obtain ⟨x, hx, g1, g2⟩ := h.all m v hm
        refine ⟨x, ?_, g1, g2⟩
        rw [hel]
        obtain ⟨i, hi⟩ := List.mem_iff_getElem?.1 hx
        refine List.mem_eraseIdx_iff_getElem?.2 ⟨i, fun hij => ?_, hi⟩
        subst hij
        rw [h2] at hi
        injection hi with hi
        rw [← hi, h3] at g1
        injection g1 with _ g1
        exact e g1.symm
    · rw [hel]
      exact h.once.sublist ((List.eraseIdx_sublist _ _).map _)
theorem grown_setBlock (w : World) (b : Nat) (o : Obj) : w.grownBy (ChangeMaps.setBlock w b o) (some b) :=
  ⟨rfl, rfl, rfl, by simp [ChangeMaps.setBlock], fun k _ hk => by
    simp only [ChangeMaps.setBlock]
    rw [Array.getElem?_setIfInBounds_ne]
    exact fun e => hk (by rw [e])⟩
end
end Go.Proofs.Ytkpoilcbdcddcaa
