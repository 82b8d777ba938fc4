/-
  A map told by what stands at each key, of elements of any sort that a reading tells apart: made, looked up, put, deleted, counted. No program is named here.
-/
import Derived.Test.YtihhbpadafgkoaaKM
namespace Go.Proofs.Ytihhbpadafgkoaa
open Go.RowKit Go.Maps
set_option linter.unusedVariables false

/-- No two elements read alike. -/
def Tells (R : Value → Option (DataW Unit × List MemPlace)) : Prop := ∀ {v v' : Value} {d : DataW Unit} {p p' : List MemPlace}, R v = some (d, p) → R v' = some (d, p') → v = v'
/-- Block b is a map with N keys, that has just f l at the key l. -/
def GMap (P : Program) (R : Value → Option (DataW Unit × List MemPlace)) (k : TypeId) (w : World) (b N : Nat) (f : Lit → Option Value) : Prop :=
  ∃ D : DataW Unit, w.ownsMap P k R b N D ∧ Maps.size D = N ∧ ∀ l, KeysOf P k l → Maps.has D l = (f l).isSome ∧ ∀ v, f l = some v → ∃ ps, ∀ z, R v = some (D.atKey l z, ps)
/-- How a pointer to the head of a block reads. -/
def ptrR : Value → Option (DataW Unit × List MemPlace)
  | .pointer none => some (.lit (.bool false), [])
  | .pointer (some ⟨g, 0, none⟩) => some (.lit (.int .i64 (g : Int)), [])
  | _ => none
theorem ptrR_is {v : Value} {d : DataW Unit} {p : List MemPlace} (h : ptrR v = some (d, p)) : (v = .pointer none ∧ d = .lit (.bool false)) ∨ ∃ g, v = .pointer (some ⟨g, 0, none⟩) ∧ d = .lit (.int .i64 (g : Int)) := by
  unfold ptrR at h
  split at h
  · cases h; exact .inl ⟨rfl, rfl⟩
  · rename_i g
    cases h; exact .inr ⟨g, rfl, rfl⟩
  · cases h
theorem ptrR_tells : Tells ptrR := by
  intro v v' d p p' h h'
  rcases ptrR_is h with ⟨rfl, rfl⟩ | ⟨g, rfl, rfl⟩
  · rcases ptrR_is h' with ⟨rfl, _⟩ | ⟨g', rfl, e⟩
    · rfl
    · cases e
  · rcases ptrR_is h' with ⟨rfl, e⟩ | ⟨g', rfl, e⟩
    · cases e
    · injection e with e
      injection e with _ e
      rw [Int.ofNat.inj e]
section
variable {P : Program} {R : Value → Option (DataW Unit × List MemPlace)} {w : World} {t k e : TypeId} {b N : Nat} {f : Lit → Option Value} {key z v : Value} {kl : Lit}

theorem GMap.lt (h : GMap P R k w b N f) : b < w.heap.size := by
  obtain ⟨D, h, _⟩ := h
  exact h.lt
theorem GMap.grown {w' : World} {row : Option Nat} (h : GMap P R k w b N f) (hg : w.grownBy w' row) (hne : some b ≠ row) : GMap P R k w' b N f := by
  obtain ⟨D, h, h1, h2⟩ := h
  exact ⟨D, h.kept hg hne, h1, h2⟩
theorem GMap.same {w' : World} (h : GMap P R k w b N f) (hb : w'.heap[b]? = w.heap[b]?) : GMap P R k w' b N f := by
  obtain ⟨D, ⟨es, clock, g, g2⟩, h1, h2⟩ := h
  exact ⟨D, ⟨es, clock, hb.trans g, g2⟩, h1, h2⟩
theorem GMap.congr {g : Lit → Option Value} (h : GMap P R k w b N f) (hg : ∀ l, KeysOf P k l → g l = f l) : GMap P R k w b N g := by
  obtain ⟨D, h, h1, h2⟩ := h
  exact ⟨D, h, h1, fun l hl => by rw [hg l hl]; exact h2 l hl⟩
theorem GMap.made (w : World) : GMap P R k (w.alloc (.map #[] 0)) w.heap.size 0 (fun _ => none) :=
  ⟨.map [], World.ownsMap_made w P k _, rfl, fun l _ => ⟨rfl, fun v h => by cases h⟩⟩
theorem GMap.len (h : GMap P R k w b N f) (ht : P.underlying t = some (.map k e)) (ty : TypeId) : (Builtin.len_ #[t] ty #[.map (some b)]).run P w = .ok (.int .i64 N) w := by
  obtain ⟨D, h, h1, h2⟩ := h
  rw [h.len ht ty, h1]
theorem GMap.look (hR : Tells R) (h : GMap P R k w b N f) (K : Keyed P k) (ht : P.underlying t = some (.map k e)) (hz : (zeroValue e).run P w = .ok z w) {zd : DataW Unit} {zp : List MemPlace} (hzd : R z = some (zd, zp)) (hkey : keyOf P k key = some kl) (hf : f kl = some v) :
    (Instr.lookup t (.map (some b)) key true).run P w = .ok (.tuple #[v, .bool true]) w := by
  obtain ⟨D, h, h1, h2⟩ := h
  obtain ⟨g1, g2⟩ := h2 kl ⟨key, hkey⟩
  obtain ⟨v', ps, hrun, hv⟩ := h.look_ok K ht hz hzd hkey
  obtain ⟨ps2, g3⟩ := g2 v hf
  rw [hrun, g1, hf, hR hv (g3 zd)]
  rfl
theorem GMap.look_none (hR : Tells R) (h : GMap P R k w b N f) (K : Keyed P k) (ht : P.underlying t = some (.map k e)) (hz : (zeroValue e).run P w = .ok z w) {zd : DataW Unit} {zp : List MemPlace} (hzd : R z = some (zd, zp)) (hkey : keyOf P k key = some kl) (hf : f kl = none) :
    (Instr.lookup t (.map (some b)) key true).run P w = .ok (.tuple #[z, .bool false]) w := by
  obtain ⟨D, h, h1, h2⟩ := h
  obtain ⟨g1, g2⟩ := h2 kl ⟨key, hkey⟩
  rw [hf] at g1
  obtain ⟨v', ps, hrun, hv⟩ := h.look_ok K ht hz hzd hkey
  rw [atKey_of_not_has g1] at hv
  rw [hrun, g1, hR hv hzd]
  rfl
theorem GMap.look1 (hR : Tells R) (h : GMap P R k w b N f) (K : Keyed P k) (ht : P.underlying t = some (.map k e)) (hz : (zeroValue e).run P w = .ok z w) {zd : DataW Unit} {zp : List MemPlace} (hzd : R z = some (zd, zp)) (hkey : keyOf P k key = some kl) :
    (Instr.lookup t (.map (some b)) key false).run P w = .ok ((f kl).getD z) w := by
  obtain ⟨D, h, h1, h2⟩ := h
  obtain ⟨g1, g2⟩ := h2 kl ⟨key, hkey⟩
  obtain ⟨v', ps, hrun, hv⟩ := h.lookup K ht hz hzd hkey
  rw [hrun]
  cases hf : f kl with
  | none =>
    rw [hf] at g1
    rw [atKey_of_not_has g1] at hv
    rw [hR hv hzd]
    rfl
  | some v =>
    obtain ⟨ps2, g3⟩ := g2 v hf
    rw [hR hv (g3 zd)]
    rfl
theorem GMap.put (h : GMap P R k w b N f) (K : Keyed P k) (ht : P.underlying t = some (.map k e)) (hn : N < maxLen) (hkey : keyOf P k key = some kl) (hik : WideAt.IsKeyLit kl) {d : DataW Unit} {ps : List MemPlace} (hv : R v = some (d, ps)) :
    ∃ w', (Instr.mapUpdate t (.map (some b)) key v).run P w = .ok () w' ∧ GMap P R k w' b (if (f kl).isSome then N else N + 1) (setK f kl (some v)) ∧ w.grownBy w' (some b) := by
  obtain ⟨D, h, h1, h2⟩ := h
  obtain ⟨w', hrun, ho, hg⟩ := h.store K ht hn hkey hv
  have hsz : Maps.size (D.put kl d) = if (f kl).isSome then N else N + 1 := by
    rw [size_put (h.tidy K) d, (h2 kl ⟨key, hkey⟩).1, h1]
  refine ⟨w', hrun, ⟨D.put kl d, ?_, hsz, fun l hl => ?_⟩, hg.grown⟩
  · obtain ⟨es, clock, a1, a2, a3, a4⟩ := ho
    refine ⟨es, clock, a1, a2, ?_, a4⟩
    rw [← hsz, a4]
    simp [Maps.size, length_sorted]
  · by_cases hlk : l = kl
    · subst hlk
      rw [setK_same hik]
      refine ⟨has_put_same h.isMap hik d, fun v' hv' => ?_⟩
      cases hv'
      exact ⟨ps, fun z => by rw [atKey_put_same h.isMap hik]; exact hv⟩
    · rw [setK_other hlk, has_put_other hlk]
      obtain ⟨g1, g2⟩ := h2 l hl
      refine ⟨g1, fun v' hv' => ?_⟩
      obtain ⟨ps2, g3⟩ := g2 v' hv'
      exact ⟨ps2, fun z => by rw [atKey_put_other hlk]; exact g3 z⟩
theorem GMap.drop (h : GMap P R k w b N f) (K : Keyed P k) (ht : P.underlying t = some (.map k e)) (hkey : keyOf P k key = some kl) (hik : WideAt.IsKeyLit kl) (ty : TypeId) :
    ∃ w', (Builtin.delete_ #[t, k] ty #[.map (some b), key]).run P w = .ok (.tuple #[]) w' ∧ GMap P R k w' b (if (f kl).isSome then N - 1 else N) (setK f kl none) ∧ w.grownBy w' (some b) := by
  obtain ⟨D, h, h1, h2⟩ := h
  obtain ⟨w', hrun, ho, hg⟩ := h.drop K ht hkey ty
  have hsz : Maps.size (D.del kl) = if (f kl).isSome then N - 1 else N := by
    have := size_del (k := kl) (h.tidy K)
    rw [(h2 kl ⟨key, hkey⟩).1, h1] at this
    split at this <;> rename_i hc
    · rw [if_pos hc]; omega
    · rw [if_neg hc]; omega
  refine ⟨w', hrun, ⟨D.del kl, ?_, hsz, fun l hl => ?_⟩, hg.grown⟩
  · obtain ⟨es, clock, a1, a2, a3, a4⟩ := ho
    refine ⟨es, clock, a1, a2, ?_, a4⟩
    rw [← hsz, a4]
    simp [Maps.size, length_sorted]
  · by_cases hlk : l = kl
    · subst hlk
      rw [setK_same hik]
      exact ⟨has_del_same, fun v' hv' => by cases hv'⟩
    · rw [setK_other hlk, has_del_other hlk]
      obtain ⟨g1, g2⟩ := h2 l hl
      refine ⟨g1, fun v' hv' => ?_⟩
      obtain ⟨ps2, g3⟩ := g2 v' hv'
      exact ⟨ps2, fun z => by rw [atKey_del_other hlk]; exact g3 z⟩
end
end Go.Proofs.Ytihhbpadafgkoaa
