/-
  A map keyed by places (an address, or none, and a number), told by what stands at each: looked up, put. No program is named here.
-/
import Derived.Test.YtolmjnoaiiodlaaGen
import Derived.Maps.OwnSet
import Derived.WideKeyRuns
import Derived.Laws.StructEq
namespace Go.Proofs.Ytolmjnoaiiodlaa
open Go.RowKit Go.Maps
set_option linter.unusedVariables false

structure Pl where
  a : Option Addr
  n : Int
deriving DecidableEq
def Pl.val (p : Pl) : Value := .agg #[.pointer p.a, .int .i64 p.n]
theorem Pl.inj {p q : Pl} (h : p.val = q.val) : p = q := by
  cases p; cases q
  simp [Pl.val] at h
  simp [h]
/-- A place that can be told from others: none, or in a plain block below B. -/
def Good (w : World) (B : Nat) (p : Pl) : Prop := p.a = none ∨ ∃ a, p.a = some a ∧ a.block < B ∧ ∃ c t, w.heap[a.block]? = some (.cells c t (0, 0))
theorem Good.kept {w w' : World} {B : Nat} {p : Pl} (h : Good w B p) (hk : ∀ g, g < B → w'.heap[g]? = w.heap[g]?) : Good w' B p :=
  h.imp id fun ⟨a, e, hb, c, t, hg⟩ => ⟨a, e, hb, c, t, (hk _ hb).trans hg⟩
/-- What a map's laws need of the places' type. -/
structure PlKey (P : Program) (k : TypeId) : Prop where
  wide : (match P.underlying k with | some (.array _ _) | some (.struct _) => true | _ => false) = true
  eq : ∀ (w : World) (B : Nat) (p q : Pl), Good w B p → Good w B q → (Op.equal k p.val q.val).run P w = .ok (decide (p = q)) w
  check : ∀ (w : World) (em : Bool) (p : Pl), (Instr.checkKey em 10000 k p.val).run P w = .ok () w
theorem stays_pl {P : Program} (w : World) (p : Pl) : (Instr.keyThatStays p.val p.val).run P w = .ok p.val w := by
  have h : Instr.sameBits 10000 p.val p.val = true := by
    rw [show (10000 : Nat) = 9998 + 1 + 1 from rfl]
    simp [Pl.val, Instr.sameBits]
  simp [Instr.keyThatStays, h]
structure PMapE (w : World) (B b : Nat) (f : Pl → Option Value) (es : Array MapEntry) (clock : Nat) : Prop where
  at_ : w.heap[b]? = some (.map es clock)
  key : ∀ e ∈ es.toList, ∃ p : Pl, e.key = p.val ∧ Good w B p ∧ f p = some e.val
  all : ∀ p v, f p = some v → ∃ e ∈ es.toList, e.key = Pl.val p ∧ e.val = v
  once : (es.toList.map (·.key)).Nodup
/-- Block b is a map that has just f p at the place p. -/
def PMap (w : World) (B b : Nat) (f : Pl → Option Value) : Prop := ∃ es clock, PMapE w B b f es clock
def setP (f : Pl → Option Value) (p : Pl) (o : Option Value) : Pl → Option Value := fun q => if q = p then o else f q
section
variable {P : Program} {w : World} {t k e : TypeId} {B b clock : Nat} {es : Array MapEntry} {f : Pl → Option Value} {p : Pl} {val z : Value}
theorem find_pl (K : PlKey P k) (w : World) (B : Nat) (p : Pl) (hp : Good w B p) : ∀ (es : List MapEntry) (i : Nat), (∀ x ∈ es, ∃ q : Pl, x.key = q.val ∧ Good w B q) →
    ((Instr.findAsking k p.val es i).run P w = .ok none w ∧ ∀ x ∈ es, x.key ≠ p.val) ∨ ∃ j x, (Instr.findAsking k p.val es i).run P w = .ok (some (i + j, x.val)) w ∧ es[j]? = some x ∧ x.key = p.val := by
  intro es
  induction es with
  | nil => intro i _; exact .inl ⟨by simp [Instr.findAsking], by simp⟩
  | cons y es ih =>
    intro i hk
    obtain ⟨q, hq, hgq⟩ := hk y (by simp)
    by_cases hpq : p = q
    · subst hpq
      exact .inr ⟨0, y, by simp [Instr.findAsking, hq, K.eq w B _ _ hp hgq, Result.andThen], rfl, hq⟩
    · rcases ih (i + 1) (fun x hx => hk x (by simp [hx])) with ⟨h1, h2⟩ | ⟨j, x, h1, h2, h3⟩
      · refine .inl ⟨by simp [Instr.findAsking, hq, K.eq w B _ _ hp hgq, hpq, Result.andThen, h1], fun x hx => ?_⟩
        rcases List.mem_cons.1 hx with rfl | hx
        · rw [hq]; exact fun e => hpq (Pl.inj e).symm
        · exact h2 x hx
      · exact .inr ⟨j + 1, x, by simp [Instr.findAsking, hq, K.eq w B _ _ hp hgq, hpq, Result.andThen, h1]; omega, by simpa using h2, h3⟩
theorem findKey_pl (K : PlKey P k) (w : World) (B : Nat) (p : Pl) (hp : Good w B p) (es : List MapEntry) (h : ∀ x ∈ es, ∃ q : Pl, x.key = q.val ∧ Good w B q) :
    ((Instr.findKey k p.val es).run P w = .ok none w ∧ ∀ x ∈ es, x.key ≠ p.val) ∨ ∃ j x, (Instr.findKey k p.val es).run P w = .ok (some (j, x.val)) w ∧ es[j]? = some x ∧ x.key = p.val := by
  rw [run_findKey_eq w K.wide]
  simpa using find_pl K w B p hp es 0 h
theorem PMapE.keys (h : PMapE w B b f es clock) : ∀ x ∈ es.toList, ∃ q : Pl, x.key = q.val ∧ Good w B q := fun x hx => (h.key x hx).imp fun _ h => ⟨h.1, h.2.1⟩
theorem PMap.lt (h : PMap w B b f) : b < w.heap.size := by
  obtain ⟨es, c, h⟩ := h
  exact (Array.getElem?_eq_some_iff.1 h.at_).1
theorem PMap.same {w' : World} (h : PMap w B b f) (hb : w'.heap[b]? = w.heap[b]?) (hk : ∀ g, g < B → w'.heap[g]? = w.heap[g]?) : PMap w' B b f := by
  obtain ⟨es, c, h⟩ := h
  exact ⟨es, c, hb.trans h.at_, fun e he => (h.key e he).imp fun _ h => ⟨h.1, h.2.1.kept hk, h.2.2⟩, h.all, h.once⟩
theorem PMap.made (hb : w.heap[b]? = some (.map #[] clock)) : PMap w B b (fun _ => none) := ⟨#[], clock, hb, by simp, by simp, by simp⟩
theorem PMap.look (h : PMap w B b f) (K : PlKey P k) (hp : Good w B p) (ht : P.underlying t = some (.map k e)) (hf : f p = some val) (ok : Bool) :
    (Instr.lookup t (.map (some b)) p.val ok).run P w = .ok (if ok = true then .tuple #[val, .bool true] else val) w := by
  obtain ⟨es, c, h⟩ := h
  rcases findKey_pl K w B p hp es.toList h.keys with ⟨h1, h2⟩ | ⟨j, e0, h1, h2, h3⟩
  · obtain ⟨x, hx, hx1, _⟩ := h.all p val hf
    exact absurd hx1 (h2 x hx)
  · have hv : e0.val = val := by
      obtain ⟨q, g1, g0, g2⟩ := h.key e0 (List.mem_of_getElem? h2)
      rw [h3] at g1
      rw [← Pl.inj g1, hf] at g2
      exact (Option.some.inj g2).symm
    cases ok <;> simp [Instr.lookup, run_underlying ht, MapKept.run_getObj_map h.at_, K.check w, h1, Result.andThen, hv]
theorem PMap.look_none (h : PMap w B b f) (K : PlKey P k) (hp : Good w B p) (ht : P.underlying t = some (.map k e)) (hf : f p = none) (hz : (zeroValue e).run P w = .ok z w) :
    (Instr.lookup t (.map (some b)) p.val true).run P w = .ok (.tuple #[z, .bool false]) w := by
  obtain ⟨es, c, h⟩ := h
  rcases findKey_pl K w B p hp es.toList h.keys with ⟨h1, h2⟩ | ⟨j, e0, h1, h2, h3⟩
  · simp [Instr.lookup, run_underlying ht, MapKept.run_getObj_map h.at_, K.check w, h1, hz, Result.andThen]
  · obtain ⟨q, g1, g0, g2⟩ := h.key e0 (List.mem_of_getElem? h2)
    rw [h3] at g1
    rw [← Pl.inj g1, hf] at g2
    cases g2
theorem PMap.put (h : PMap w B b f) (K : PlKey P k) (ht : P.underlying t = some (.map k e)) (p : Pl) (hp : Good w B p) (hBb : B ≤ b) (val : Value) :
    ∃ o, (Instr.mapUpdate t (.map (some b)) p.val val).run P w = .ok () (ChangeMaps.setBlock w b o) ∧ PMap (ChangeMaps.setBlock w b o) B b (setP f p (some val)) := by
  have hlt := h.lt
  have hgk : ∀ (o : Obj) (q : Pl), Good w B q → Good (ChangeMaps.setBlock w b o) B q := fun o q hq => hq.kept (fun g hg => by simp only [ChangeMaps.setBlock]; rw [Array.getElem?_setIfInBounds_ne (by omega)])
  obtain ⟨es, c, h⟩ := h
  rcases findKey_pl K w B p hp es.toList h.keys with ⟨h1, h2⟩ | ⟨j, e0, h1, h2, h3⟩
  · refine ⟨.map (es.push ⟨p.val, val, c⟩) (c + 1), by simp [Instr.mapUpdate, run_underlying ht, MapKept.run_getObj_map h.at_, MapKept.run_setObj_map _ h.at_, K.check w, h1, Result.andThen, ChangeMaps.setBlock], es.push ⟨p.val, val, c⟩, c + 1, by simp [ChangeMaps.setBlock, hlt], fun x hx => ?_, fun q v hq => ?_, ?_⟩
    · simp only [Array.toList_push, List.mem_append, List.mem_singleton] at hx
      rcases hx with hx | rfl
      · obtain ⟨q, g1, g0, g2⟩ := h.key x hx
        refine ⟨q, g1, hgk _ _ g0, ?_⟩
        unfold setP
        rw [if_neg (fun e => h2 x hx (by rw [g1, e]))]
        exact g2
      · exact ⟨p, rfl, hgk _ _ hp, by simp [setP]⟩
    · unfold setP at hq
      by_cases e : q = p
      · subst e
        rw [if_pos rfl] at hq
        cases hq
        exact ⟨⟨q.val, val, c⟩, by simp, rfl, rfl⟩
      · rw [if_neg e] at hq
        obtain ⟨x, hx, g1, g2⟩ := h.all q v hq
        exact ⟨x, by simp [hx], g1, g2⟩
    · rw [Array.toList_push, List.map_append, List.nodup_append]
      refine ⟨h.once, by simp, fun a ha a' ha' => ?_⟩
      simp only [List.map_cons, List.map_nil, List.mem_singleton] at ha'
      subst ha'
      obtain ⟨x, hx, rfl⟩ := List.mem_map.1 ha
      exact h2 x hx
  · have hj : j < es.size := by
      have := (List.getElem?_eq_some_iff.1 h2).1
      simpa using this
    have hje : es[j]? = some e0 := by simpa using h2
    have hmod : ∀ i, (es.modify j fun x => { x with key := p.val, val := val })[i]? = if i = j then some { e0 with key := p.val, val := val } else es[i]? := fun i => by
      rw [Array.getElem?_modify]
      by_cases e : j = i
      · subst e; simp [hje]
      · rw [if_neg e, if_neg (fun h => e h.symm)]
    have hkeys : (es.modify j fun x => { x with key := p.val, val := val }).toList.map (·.key) = es.toList.map (·.key) := by
      apply List.ext_getElem?
      intro i
      rw [List.getElem?_map, List.getElem?_map, Array.getElem?_toList, Array.getElem?_toList, hmod]
      by_cases e : i = j
      · subst e; simp [hje, h3]
      · rw [if_neg e]
    have hkey : (((es[j]?).map (·.key)).getD p.val) = p.val := by simp [hje, h3]
    refine ⟨.map (es.modify j fun x => { x with key := p.val, val := val }) c, ?_, es.modify j fun x => { x with key := p.val, val := val }, c, by simp [ChangeMaps.setBlock, hlt], fun x hx => ?_, fun q v hq => ?_, by rw [hkeys]; exact h.once⟩
    · simp only [Instr.mapUpdate, Sem.run_bind, run_underlying ht, MapKept.run_getObj_map h.at_, K.check w, h1, Result.andThen, hkey, stays_pl]
      simp [MapKept.run_setObj_map _ h.at_, ChangeMaps.setBlock]
    · obtain ⟨i, hi⟩ := List.mem_iff_getElem?.1 hx
      rw [Array.getElem?_toList, hmod] at hi
      by_cases e : i = j
      · rw [if_pos e] at hi
        cases hi
        exact ⟨p, rfl, hgk _ _ hp, by simp [setP]⟩
      · rw [if_neg e] at hi
        have hxm : x ∈ es.toList := List.mem_of_getElem? (by simpa using hi : es.toList[i]? = some x)
        obtain ⟨q, g1, g0, g2⟩ := h.key x hxm
        refine ⟨q, g1, hgk _ _ g0, ?_⟩
        unfold setP
        rw [if_neg]
        · exact g2
        · intro eq
          have a1 : (es.toList.map (·.key))[i]? = some p.val := by rw [List.getElem?_map, Array.getElem?_toList, hi]; simp [g1, eq]
          have a2 : (es.toList.map (·.key))[j]? = some p.val := by rw [List.getElem?_map, Array.getElem?_toList, hje]; simp [h3]
          have hi2 : i < (es.toList.map (·.key)).length := (List.getElem?_eq_some_iff.1 a1).1
          exact e ((List.getElem?_inj hi2 h.once).1 (a1.trans a2.symm))
    · unfold setP at hq
      by_cases e : q = p
      · subst e
        rw [if_pos rfl] at hq
        cases hq
        refine ⟨{ e0 with key := q.val, val := val }, List.mem_iff_getElem?.2 ⟨j, by rw [Array.getElem?_toList, hmod, if_pos rfl]⟩, rfl, rfl⟩
      · rw [if_neg e] at hq
        obtain ⟨x, hx, g1, g2⟩ := h.all q v hq
        obtain ⟨i, hi⟩ := List.mem_iff_getElem?.1 hx
        refine ⟨x, List.mem_iff_getElem?.2 ⟨i, ?_⟩, g1, g2⟩
        rw [Array.getElem?_toList, hmod, if_neg]
        · simpa using hi
        · intro eij
          subst eij
          rw [h2] at hi
          cases hi
          rw [h3] at g1
          exact e (Pl.inj g1).symm
end
end Go.Proofs.Ytolmjnoaiiodlaa
