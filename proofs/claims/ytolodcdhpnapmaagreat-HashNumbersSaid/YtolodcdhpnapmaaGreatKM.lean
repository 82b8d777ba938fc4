/-
  A map told by what stands at each key: made, looked up, put, deleted, counted; the keys of one of strings. No program is named here.
-/
import Derived.Test.YtolodcdhpnapmaaGreatGen
import Derived.Maps.OwnSet
import Derived.Sort.KeysCollected
namespace Go.Proofs.YtolodcdhpnapmaaGreat
open Go.RowKit Go.Maps
set_option linter.unusedVariables false

/-- Block b is a map with N keys, that has just f l at the key l. -/
def KMap (P : Program) (k e : TypeId) (w : World) (b N : Nat) (f : Lit → Option Value) : Prop :=
  ∃ D : DataW Unit, w.ownsMap P k (plainElem P e) b N D ∧ Maps.size D = N ∧ ∀ l, KeysOf P k l → Maps.has D l = (f l).isSome ∧ ∀ v, f l = some v → ∃ ps, ∀ z, plainElem P e v = some (D.atKey l z, ps)
def setK (f : Lit → Option Value) (l : Lit) (o : Option Value) : Lit → Option Value := fun x => if x.sameKey l = true then o else f x

theorem sameKey_self {l : Lit} (h : WideAt.IsKeyLit l) : l.sameKey l = true := by
  cases l <;> simp [Lit.sameKey, WideAt.IsKeyLit] at h ⊢
theorem setK_same {f : Lit → Option Value} {l : Lit} {o : Option Value} (h : WideAt.IsKeyLit l) : setK f l o l = o := by simp [setK, sameKey_self h]
theorem setK_other {f : Lit → Option Value} {l x : Lit} {o : Option Value} (h : x ≠ l) : setK f l o x = f x := by simp [setK, sameKey_ne h]
theorem setK_str {f : Lit → Option Value} {k x : List UInt8} {o : Option Value} : setK f (.string k) o (.string x) = if x = k then o else f (.string x) := by
  by_cases h : x = k
  · subst h; rw [if_pos rfl]; exact setK_same trivial
  · rw [if_neg h]; exact setK_other (fun e => h (by injection e))

theorem plainElem_inj {P : Program} {e : TypeId} {v v' : Value} {d : DataW Unit} {p p' : List MemPlace} (h : plainElem P e v = some (d, p)) (h' : plainElem P e v' = some (d, p')) : v = v' := by
  unfold plainElem at h h'
  cases hu : P.underlying e with
  | none => simp [hu] at h
  | some t =>
    rw [hu] at h h'
    cases t <;> cases v <;> cases v' <;> simp at h h'
    · rename_i x y
      obtain ⟨rfl, _⟩ := h
      have := h'.1
      simp at this
      rw [this]
    · obtain ⟨⟨rfl, _⟩, h, _⟩ := h
      obtain ⟨⟨rfl, _⟩, h', _⟩ := h'
      rw [← h] at h'
      simp at h'
      rw [h']
    · obtain ⟨_, h, _⟩ := h
      obtain ⟨_, h', _⟩ := h'
      rw [← h] at h'
      simp at h'
      rw [show _ = _ from ByteArray.ext h']

section
variable {P : Program} {w : World} {t k e : TypeId} {b N : Nat} {f : Lit → Option Value} {key z v : Value} {kl : Lit}

theorem KMap.lt (h : KMap P k e w b N f) : b < w.heap.size := by
  obtain ⟨D, h, _⟩ := h
  exact h.lt
theorem KMap.grown {w' : World} {row : Option Nat} (h : KMap P k e w b N f) (hg : w.grownBy w' row) (hne : some b ≠ row) : KMap P k e w' b N f := by
  obtain ⟨D, h, h1, h2⟩ := h
  exact ⟨D, h.kept hg hne, h1, h2⟩
theorem KMap.same {w' : World} (h : KMap P k e w b N f) (hb : w'.heap[b]? = w.heap[b]?) : KMap P k e w' b N f := by
  obtain ⟨D, ⟨es, clock, g, g2⟩, h1, h2⟩ := h
  exact ⟨D, ⟨es, clock, hb.trans g, g2⟩, h1, h2⟩
theorem KMap.congr {g : Lit → Option Value} (h : KMap P k e w b N f) (hg : ∀ l, KeysOf P k l → g l = f l) : KMap P k e w b N g := by
  obtain ⟨D, h, h1, h2⟩ := h
  exact ⟨D, h, h1, fun l hl => by rw [hg l hl]; exact h2 l hl⟩
theorem KMap.made (w : World) : KMap P k e (w.alloc (.map #[] 0)) w.heap.size 0 (fun _ => none) :=
  ⟨.map [], World.ownsMap_made w P k _, rfl, fun l _ => ⟨rfl, fun v h => by cases h⟩⟩
theorem KMap.len (h : KMap P k e w b N f) (ht : P.underlying t = some (.map k e)) (ty : TypeId) : (Builtin.len_ #[t] ty #[.map (some b)]).run P w = .ok (.int .i64 N) w := by
  obtain ⟨D, h, h1, h2⟩ := h
  rw [h.len ht ty, h1]
theorem KMap.look (h : KMap P k e w b N f) (K : Keyed P k) (ht : P.underlying t = some (.map k e)) (hz : (zeroValue e).run P w = .ok z w) {zd : DataW Unit} {zp : List MemPlace} (hzd : plainElem P e z = some (zd, zp)) (hkey : keyOf P k key = some kl) (hf : f kl = some v) :
    (Instr.lookup t (.map (some b)) key true).run P w = .ok (.tuple #[v, .bool true]) w := by
  obtain ⟨D, h, h1, h2⟩ := h
  obtain ⟨g1, g2⟩ := h2 kl ⟨key, hkey⟩
  obtain ⟨v', ps, hrun, hv⟩ := h.look_ok K ht hz hzd hkey
  obtain ⟨ps2, g3⟩ := g2 v hf
  rw [hrun, g1, hf, plainElem_inj hv (g3 zd)]
  rfl
theorem KMap.look_none (h : KMap P k e w b N f) (K : Keyed P k) (ht : P.underlying t = some (.map k e)) (hz : (zeroValue e).run P w = .ok z w) {zd : DataW Unit} {zp : List MemPlace} (hzd : plainElem P e z = some (zd, zp)) (hkey : keyOf P k key = some kl) (hf : f kl = none) :
    (Instr.lookup t (.map (some b)) key true).run P w = .ok (.tuple #[z, .bool false]) w := by
  obtain ⟨D, h, h1, h2⟩ := h
  obtain ⟨g1, g2⟩ := h2 kl ⟨key, hkey⟩
  rw [hf] at g1
  obtain ⟨v', ps, hrun, hv⟩ := h.look_ok K ht hz hzd hkey
  rw [atKey_of_not_has g1] at hv
  rw [hrun, g1, plainElem_inj hv hzd]
  rfl
theorem KMap.look1 (h : KMap P k e w b N f) (K : Keyed P k) (ht : P.underlying t = some (.map k e)) (hz : (zeroValue e).run P w = .ok z w) {zd : DataW Unit} {zp : List MemPlace} (hzd : plainElem P e z = some (zd, zp)) (hkey : keyOf P k key = some kl) :
    (Instr.lookup t (.map (some b)) key false).run P w = .ok ((f kl).getD z) w := by
  obtain ⟨D, h, h1, h2⟩ := h
  obtain ⟨g1, g2⟩ := h2 kl ⟨key, hkey⟩
  obtain ⟨v', ps, hrun, hv⟩ := h.lookup K ht hz hzd hkey
  rw [hrun]
  cases hf : f kl with
  | none =>
    rw [hf] at g1
    rw [atKey_of_not_has g1] at hv
    rw [plainElem_inj hv hzd]
    rfl
  | some v =>
    obtain ⟨ps2, g3⟩ := g2 v hf
    rw [plainElem_inj hv (g3 zd)]
    rfl
theorem KMap.put (h : KMap P k e w b N f) (K : Keyed P k) (ht : P.underlying t = some (.map k e)) (hn : N < maxLen) (hkey : keyOf P k key = some kl) (hik : WideAt.IsKeyLit kl) {d : DataW Unit} {ps : List MemPlace} (hv : plainElem P e v = some (d, ps)) :
    ∃ w', (Instr.mapUpdate t (.map (some b)) key v).run P w = .ok () w' ∧ KMap P k e w' b (if (f kl).isSome then N else N + 1) (setK f kl (some v)) ∧ w.grownBy w' (some b) := by
  obtain ⟨D, h, h1, h2⟩ := h
  obtain ⟨w', hrun, ho, hg⟩ := h.store K ht hn hkey hv
  have hsz : Maps.size (D.put kl d) = if (f kl).isSome then N else N + 1 := by
    rw [size_put (h.tidy K) d, (h2 kl ⟨key, hkey⟩).1, h1]
  refine ⟨w', hrun, ⟨D.put kl d, ?_, hsz, fun l hl => ?_⟩, hg.grown⟩
  · obtain ⟨es, clock, a1, a2, a3, a4⟩ := ho
    refine ⟨es, clock, a1, a2, ?_, a4⟩
    rw [← hsz, a4]
    simp [Maps.size, length_sorted]
  · by_cases hlk : l = kl
    · subst hlk
      rw [setK_same hik]
      refine ⟨has_put_same h.isMap hik d, fun v' hv' => ?_⟩
      cases hv'
      exact ⟨ps, fun z => by rw [atKey_put_same h.isMap hik]; exact hv⟩
    · rw [setK_other hlk, has_put_other hlk]
      obtain ⟨g1, g2⟩ := h2 l hl
      refine ⟨g1, fun v' hv' => ?_⟩
      obtain ⟨ps2, g3⟩ := g2 v' hv'
      exact ⟨ps2, fun z => by rw [atKey_put_other hlk]; exact g3 z⟩
theorem KMap.drop (h : KMap P k e w b N f) (K : Keyed P k) (ht : P.underlying t = some (.map k e)) (hkey : keyOf P k key = some kl) (hik : WideAt.IsKeyLit kl) (ty : TypeId) :
    ∃ w', (Builtin.delete_ #[t, k] ty #[.map (some b), key]).run P w = .ok (.tuple #[]) w' ∧ KMap P k e w' b (if (f kl).isSome then N - 1 else N) (setK f kl none) ∧ w.grownBy w' (some b) := by
  obtain ⟨D, h, h1, h2⟩ := h
  obtain ⟨w', hrun, ho, hg⟩ := h.drop K ht hkey ty
  have hsz : Maps.size (D.del kl) = if (f kl).isSome then N - 1 else N := by
    have := size_del (k := kl) (h.tidy K)
    rw [(h2 kl ⟨key, hkey⟩).1, h1] at this
    split at this <;> rename_i hc
    · rw [if_pos hc]; omega
    · rw [if_neg hc]; omega
  refine ⟨w', hrun, ⟨D.del kl, ?_, hsz, fun l hl => ?_⟩, hg.grown⟩
  · obtain ⟨es, clock, a1, a2, a3, a4⟩ := ho
    refine ⟨es, clock, a1, a2, ?_, a4⟩
    rw [← hsz, a4]
    simp [Maps.size, length_sorted]
  · by_cases hlk : l = kl
    · subst hlk
      rw [setK_same hik]
      exact ⟨has_del_same, fun v' hv' => by cases hv'⟩
    · rw [setK_other hlk, has_del_other hlk]
      obtain ⟨g1, g2⟩ := h2 l hl
      refine ⟨g1, fun v' hv' => ?_⟩
      obtain ⟨ps2, g3⟩ := g2 v' hv'
      exact ⟨ps2, fun z => by rw [atKey_del_other hlk]; exact g3 z⟩
/-- The keys of a map of strings, as the datum has them. -/
theorem KMap.strs (h : KMap P k e w b N f) (K : Keyed P k) (hk : P.underlying k = some .string) {ss : List (List UInt8)} (hnd : ss.Nodup) (hm : ∀ x, x ∈ ss ↔ x.length ≤ maxLen ∧ (f (.string x)).isSome = true) :
    ∃ D : DataW Unit, w.ownsMap P k (plainElem P e) b N D ∧ Maps.size D = N ∧ ss.Perm (strKeys D) := by
  obtain ⟨D, h, h1, h2⟩ := h
  refine ⟨D, h, h1, ?_⟩
  obtain ⟨es, hD, hp⟩ := h.tidy K
  obtain ⟨es2, hD2, hks⟩ := h.keysOf
  subst hD
  cases hD2
  have hstr : ∀ p ∈ es, ∃ x : List UInt8, p.1 = .string x ∧ x.length ≤ maxLen := fun p hp => by
    obtain ⟨key, hkey⟩ := hks p hp
    obtain ⟨x, _, h3, h4⟩ := Maps.keyOf_str hk hkey
    exact ⟨x, h3, h4⟩
  refine perm_strKeys hp (fun p hp => by obtain ⟨x, hx, _⟩ := hstr p hp; exact ⟨x, hx⟩) hnd fun x => ?_
  rw [hm x]
  constructor
  · rintro ⟨g1, g2⟩
    have hko : KeysOf P k (.string x) := ⟨encStr x, by simp [keyOf, hk, mapKey, encStr]; simpa [ByteArray.size] using g1⟩
    rw [(h2 _ hko).1]
    exact g2
  · intro g
    have hx : x.length ≤ maxLen := by
      rw [has_eq, List.any_eq_true] at g
      obtain ⟨p, hp1, hp2⟩ := g
      obtain ⟨y, hy, hl⟩ := hstr p hp1
      rw [hy] at hp2
      have : y = x := by simpa [Lit.sameKey] using hp2
      rwa [← this]
    have hko : KeysOf P k (.string x) := ⟨encStr x, by simp [keyOf, hk, mapKey, encStr]; simpa [ByteArray.size] using hx⟩
    rw [(h2 _ hko).1] at g
    exact ⟨hx, g⟩
theorem keyOf_str_mk (hk : P.underlying k = some .string) {x : List UInt8} (hx : x.length ≤ maxLen) : keyOf P k (encStr x) = some (.string x) := by
  simp [keyOf, hk, mapKey, encStr]
  simpa [ByteArray.size] using hx
end
end Go.Proofs.YtolodcdhpnapmaaGreat
