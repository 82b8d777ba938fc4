/-
  Laws for a literal of a map whose parts may be laid in any order, and for what is looked up in such a map. No program is named here.
-/
import Derived.WalkKit
import Derived.Maps.Own
import Derived.DeepKeys4
namespace Go.Proofs.YtolodcdhpnapmaaGreat
open Go.RowKit Go.Maps

/-- The map's block holds just these pairs. -/
def HasJust (es : Array MapEntry) (l : List (Value × Value)) : Prop :=
  (∀ e ∈ es.toList, (e.key, e.val) ∈ l) ∧ ∀ p ∈ l, ∃ e ∈ es.toList, e.key = p.1 ∧ e.val = p.2

section
variable {P : Program} {w : World} {t k e : TypeId} {b clock : Nat} {es : Array MapEntry} {key val z : Value} {kl : Lit}

theorem run_put_new (K : Keyed P k) (ht : P.underlying t = some (.map k e)) (hb : w.heap[b]? = some (.map es clock))
    (hks : ∀ e ∈ es.toList, ∃ l, keyOf P k e.key = some l) (hkey : keyOf P k key = some kl) (hne : ∀ e ∈ es.toList, e.key ≠ key) :
    (Instr.mapUpdate t (.map (some b)) key val).run P w = .ok () (ChangeMaps.setBlock w b (.map (es.push ⟨key, val, clock⟩) (clock + 1))) := by
  rcases K.find w hkey es.toList hks with ⟨h1, h2⟩ | ⟨j, e0, h1, h2, h3⟩
  · simp [Instr.mapUpdate, run_underlying ht, MapKept.run_getObj_map hb, K.check w false hkey, h1, MapKept.run_setObj_map _ hb, Result.andThen, ChangeMaps.setBlock]
  · exact absurd h3 (hne e0 (List.mem_of_getElem? h2))

theorem run_look_there {l : List (Value × Value)} (K : Keyed P k) (ht : P.underlying t = some (.map k e)) (hb : w.heap[b]? = some (.map es clock)) (hj : HasJust es l)
    (hks : ∀ p ∈ l, ∃ y, keyOf P k p.1 = some y) (hkey : keyOf P k key = some kl) (hm : (key, val) ∈ l) (hu : ∀ v, (key, v) ∈ l → v = val) :
    (Instr.lookup t (.map (some b)) key true).run P w = .ok (.tuple #[val, .bool true]) w := by
  have hks' : ∀ e ∈ es.toList, ∃ y, keyOf P k e.key = some y := fun x hx => hks _ (hj.1 x hx)
  rcases K.find w hkey es.toList hks' with ⟨h1, h2⟩ | ⟨j, e0, h1, h2, h3⟩
  · obtain ⟨x, hx, hx1, _⟩ := hj.2 _ hm
    exact absurd hx1 (h2 x hx)
  · have hv : e0.val = val := hu _ (by have := hj.1 e0 (List.mem_of_getElem? h2); rwa [h3] at this)
    simp [Instr.lookup, run_underlying ht, MapKept.run_getObj_map hb, K.check w _ hkey, h1, Result.andThen, hv]

theorem run_look_none {l : List (Value × Value)} (K : Keyed P k) (ht : P.underlying t = some (.map k e)) (hb : w.heap[b]? = some (.map es clock)) (hj : HasJust es l)
    (hks : ∀ p ∈ l, ∃ y, keyOf P k p.1 = some y) (hkey : keyOf P k key = some kl) (hn : ∀ p ∈ l, p.1 ≠ key) (hz : (zeroValue e).run P w = .ok z w) :
    (Instr.lookup t (.map (some b)) key true).run P w = .ok (.tuple #[z, .bool false]) w := by
  have hks' : ∀ e ∈ es.toList, ∃ y, keyOf P k e.key = some y := fun x hx => hks _ (hj.1 x hx)
  rcases K.find w hkey es.toList hks' with ⟨h1, h2⟩ | ⟨j, e0, h1, h2, h3⟩
  · simp [Instr.lookup, run_underlying ht, MapKept.run_getObj_map hb, K.check w _ hkey, h1, hz, Result.andThen]
  · exact absurd h3 (hn _ (hj.1 e0 (List.mem_of_getElem? h2)))

theorem hasJust_push {l : List (Value × Value)} (h : HasJust es l) (n : Nat) : HasJust (es.push ⟨key, val, n⟩) (l ++ [(key, val)]) := by
  constructor
  · intro x hx
    simp only [Array.toList_push, List.mem_append, List.mem_singleton] at hx
    rcases hx with hx | rfl
    · simp [h.1 x hx]
    · simp
  · intro p hp
    simp only [List.mem_append, List.mem_singleton] at hp
    rcases hp with hp | rfl
    · obtain ⟨x, hx, h1, h2⟩ := h.2 p hp
      exact ⟨x, by simp [hx], h1, h2⟩
    · exact ⟨⟨key, val, n⟩, by simp, rfl, rfl⟩

theorem setBlock_alloc (w : World) (o o' : Obj) : ChangeMaps.setBlock (w.alloc o) w.heap.size o' = w.alloc o' := by
  simp only [ChangeMaps.setBlock, World.alloc]
  congr 1
  apply Array.ext_getElem?
  intro i
  simp only [Array.getElem?_setIfInBounds, Array.getElem?_push, Array.size_push]
  by_cases h : w.heap.size = i
  · subst h; simp
  · simp [h, Ne.symm h]
end

section
variable {P : Program} {ops : Array Oper} {Q : Exit → Act → World → Prop}

theorem mem_ready {md : Region.Mode} {listed : Array Bool} {i : Nat} (h : i ∈ Region.ready md ops listed) :
    i < ops.size ∧ listed.getD i true = false ∧ ∀ o, ops[i]? = some o → ∀ ed ∈ o.after, Region.binds md ed = true → listed.getD ed.on false = true := by
  unfold Region.ready at h
  rw [List.mem_filter, List.mem_range] at h
  obtain ⟨h0, h1⟩ := h
  rw [Bool.and_eq_true] at h1
  obtain ⟨h1, h2⟩ := h1
  refine ⟨h0, by simpa using h1, fun o ho ed hed hb => ?_⟩
  rw [ho] at h2
  simp only [Option.map_some, Option.getD_some, Array.all_eq_true'] at h2
  have := h2 ed hed
  rw [hb] at this
  simpa using this

theorem ready_of {md : Region.Mode} {listed : Array Bool} {i : Nat} {o : Oper} (ho : ops[i]? = some o) (h1 : listed.getD i true = false)
    (h2 : ∀ ed ∈ o.after, Region.binds md ed = true → listed.getD ed.on false = true) : i ∈ Region.ready md ops listed := by
  unfold Region.ready
  rw [List.mem_filter, List.mem_range]
  refine ⟨(Array.getElem?_eq_some_iff.1 ho).1, ?_⟩
  rw [ho]
  simp only [Option.map_some, Option.getD_some, Bool.and_eq_true, Array.all_eq_true', Bool.not_eq_true', h1, true_and]
  intro ed hed
  cases hb : Region.binds md ed
  · simp
  · simp [h2 ed hed hb]

/-- Each operation hangs on earlier ones alone. -/
def backward (md : Region.Mode) (ops : Array Oper) : Bool := ops.toList.zipIdx.all fun x => x.1.after.toList.all fun ed => !Region.binds md ed || decide (ed.on < x.2)

theorem backward_spec {md : Region.Mode} (h : backward md ops = true) {i : Nat} {o : Oper} (ho : ops[i]? = some o) {ed : Edge} (hed : ed ∈ o.after) (hb : Region.binds md ed = true) : ed.on < i := by
  unfold backward at h
  rw [List.all_eq_true] at h
  have h1 := h (o, i) (by rw [List.mem_zipIdx_iff_getElem?]; simpa using ho)
  simp only [List.all_eq_true] at h1
  have := h1 ed (by simpa using hed)
  rw [hb] at this
  simpa using this

theorem ready_nil_all {md : Region.Mode} {listed : Array Bool} (hB : backward md ops = true) (hs : listed.size = ops.size) (h : Region.ready md ops listed = []) :
    ∀ i, i < ops.size → listed.getD i false = true := by
  intro i
  induction i using Nat.strongRecOn with
  | ind i ih =>
    intro hi
    cases hl : listed.getD i false with
    | true => rfl
    | false =>
      have ho : ops[i]? = some ops[i] := Array.getElem?_eq_getElem hi
      have : i ∈ Region.ready md ops listed := by
        refine ready_of ho ?_ (fun ed hed hb => ?_)
        · simp only [Array.getD_eq_getD_getElem?] at hl ⊢
          rw [Array.getElem?_eq_getElem (by omega)] at hl ⊢
          simpa using hl
        · have := backward_spec hB ho hed hb
          exact ih _ this (by omega)
      rw [h] at this
      cases this

/-- What every step keeps, holds at the end. -/
theorem wpAny_keeps {md : Region.Mode} (I : Array Bool → Act → World → Prop) (hB : backward md ops = true)
    (hstep : ∀ (listed : Array Bool) a w i, listed.size = ops.size → I listed a w → i ∈ Region.ready md ops listed → wpOp P ops Q i (I (listed.setIfInBounds i true)) a w)
    (hend : ∀ (listed : Array Bool) a w, listed.size = ops.size → (∀ i, i < ops.size → listed.getD i false = true) → I listed a w → Q .normal a w) :
    ∀ fuel (listed : Array Bool) a w, listed.size = ops.size → listed.toList.count false ≤ fuel → I listed a w → wpAny P md ops Q fuel listed a w := by
  intro fuel
  induction fuel with
  | zero =>
    intro listed a w hs hc hI
    have hr : Region.ready md ops listed = [] := by
      rw [List.eq_nil_iff_forall_not_mem]
      intro i hi
      obtain ⟨h0, h1, _⟩ := mem_ready hi
      have : false ∈ listed.toList := by
        rw [Array.getD_eq_getD_getElem?, Array.getElem?_eq_getElem (by omega)] at h1
        simp at h1
        rw [← h1]
        exact Array.mem_toList_iff.2 (Array.getElem_mem _)
      have := List.count_pos_iff.2 this
      omega
    exact ⟨hr, hend listed a w hs (ready_nil_all hB hs hr) hI⟩
  | succ fuel ih =>
    intro listed a w hs hc hI
    refine ⟨fun hr => hend listed a w hs (ready_nil_all hB hs hr) hI, fun i hi => ?_⟩
    obtain ⟨h0, h1, _⟩ := mem_ready hi
    refine wpOp_mono (fun a' w' h' => ih _ a' w' (by simpa using hs) ?_ h') (hstep listed a w i hs hI hi)
    have hil : i < listed.toList.length := by simp; omega
    have hf : listed.toList[i] = false := by
      rw [Array.getD_eq_getD_getElem?, Array.getElem?_eq_getElem (by omega)] at h1
      simpa using h1
    have hin : false ∈ listed.toList := hf ▸ List.getElem_mem hil
    have hpos := List.count_pos_iff.2 hin
    have hcs : (listed.toList.set i true).count false = listed.toList.count false - 1 := by
      rw [List.count_set hil, hf]
      rfl
    rw [Array.toList_setIfInBounds, hcs]
    omega
end

#print axioms wpAny_keeps
end Go.Proofs.YtolodcdhpnapmaaGreat
