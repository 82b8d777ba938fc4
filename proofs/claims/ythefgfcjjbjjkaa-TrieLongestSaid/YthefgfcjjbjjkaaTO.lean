/-
  A key is put at the least free place.
-/
import Derived.Test.YthefgfcjjbjjkaaTN
namespace Go.Proofs.Ythefgfcjjbjjkaa
open Go.RowKit
set_option linter.unusedVariables false
set_option linter.unusedSimpArgs false

theorem blk_ne {w : World} {a b : Nat} {c1 c2 : Array Value} {t1 t2 : TypeId} {f1 f2 : Nat × Nat} (h1 : w.heap[a]? = some (.cells c1 t1 f1)) (h2 : w.heap[b]? = some (.cells c2 t2 f2)) (ht : t1 ≠ t2) : a ≠ b := fun e => by
  rw [e, h2] at h1
  injection h1 with h1
  injection h1 with _ h1 _
  exact ht h1.symm
theorem notX {w : World} {B : Nat} {t : TP} {P : List PL} {N : List Bool → Nat} (h : Tri w B t P N) {g : Nat} {c : Array Value} {T : TypeId} {f : Nat × Nat} (hg : w.heap[g]? = some (.cells c T f)) (hT : T ≠ 60 ∧ T ≠ 110) : ¬ OfX t (prP P) N g := by
  rintro (e | ⟨p, hp, e⟩)
  · exact blk_ne hg h.tree.blk hT.1 e
  · exact blk_ne hg (h.tree.node p hp) hT.2 e
theorem Tri.base {w : World} {B : Nat} {t : TP} {P : List PL} {N : List Bool → Nat} (h : Tri w B t P N) : B ≤ w.heap.size := by
  have := h.low t.tb (.inl (.inl rfl))
  have := at_lt h.tree.blk
  omega
theorem mem_set {P : List PL} {i : Nat} {x s : PL} (hs : s ∈ P.set i x) : s ∈ P ∨ s = x := by
  rcases List.mem_or_eq_of_mem_set hs with h | h
  · exact .inl h
  · exact .inr h
theorem Tri.added {w w2 W4 w' : World} {B i g' : Nat} {t : TP} {P : List PL} {N N' : List Bool → Nat} {r : PL} {l : List Int} (h : Tri w B t P N) (hr : P[i]? = some r) (hk : r.k = none) (hf : findP P (kb l) = none)
    (hl : l.length = t.ks ∧ (∀ b ∈ l, IsByte b) ∧ bcN l ≤ 8 * (t.ks - 4)) (hb2 : Below w.heap.size w w2) (hg : w.heap.size ≤ g') (hgb : w2.heap[g']? = some (.cells (u8s l).toArray 5 (0, 0)))
    (hb4 : Below w2.heap.size (w2.setCell ⟨t.cb, i * 3 + 2, none⟩ (.slice (some ⟨g', 0, none⟩) t.ks t.ks)) W4) (hkp : Kept (fun g => ¬ OfX t (prP P) N g) W4 w')
    (ht : TreeX w' t (fun q => prP P q || q.isPrefixOf (kb l)) (fun q => (if prP P q = true then cntP P q else 0) + (if q.isPrefixOf (kb l) = true then 1 else 0)) (fun q => if q = kb l then some (plA t.cb i) else if prP P q = true then thP t.cb P q else none) N')
    (hN : ∀ q, prP P q = true → N' q = N q) (hN2 : ∀ q, q.isPrefixOf (kb l) = true → prP P q = false → W4.heap.size ≤ N' q) : TGo B t P N (P.set i { r with k := some (g', l) }) N' w w' := by
  have hlt := h.lt
  have hs2 : w2.heap.size ≤ W4.heap.size := by have := hb4.size; rwa [World.size_setCell] at this
  have hs4 : w.heap.size ≤ W4.heap.size := Nat.le_trans hb2.size hs2
  have hcnt : ∀ q, cntP (P.set i { r with k := some (g', l) }) q = cntP P q + (if q.isPrefixOf (kb l) = true then 1 else 0) := fun q => cnt_put hr hk
  have hpr : ∀ q, prP (P.set i { r with k := some (g', l) }) q = (prP P q || q.isPrefixOf (kb l)) := fun q => by
    rw [Bool.eq_iff_iff]
    unfold prP
    rw [hcnt]
    cases q.isPrefixOf (kb l) <;> simp
  -- a block of the trie's that is no node, behind all
  have hw4 : ∀ g, g < w.heap.size → g ≠ t.cb → W4.heap[g]? = w.heap[g]? := fun g h1 h2 =>
    (hb4.block g (Nat.lt_of_lt_of_le h1 hb2.size)).trans ((set_other h2).trans (hb2.block g h1))
  have hw' : ∀ g, g < w.heap.size → g ≠ t.cb → ¬ OfX t (prP P) N g → w'.heap[g]? = w.heap[g]? := fun g h1 h2 h3 => (hkp.block g (Nat.lt_of_lt_of_le h1 hs4) h3).trans (hw4 g h1 h2)
  have hcb2 : w2.heap[t.cb]? = some (.cells (cellsP t.sz P).toArray 77 (0, 0)) := (hb2.block _ (at_lt h.cel)).trans h.cel
  have hcb : w'.heap[t.cb]? = some (.cells (cellsP t.sz (P.set i { r with k := some (g', l) })).toArray 77 (0, 0)) := by
    rw [hkp.block t.cb (Nat.lt_of_lt_of_le (at_lt h.cel) hs4) (notX h h.cel (by decide)), hb4.block t.cb (Nat.lt_of_lt_of_le (at_lt h.cel) hb2.size), set_blk hcb2]
    have := cellsF_set t.sz 0 P i r (some (g', l)) hr
    unfold cellsP
    rw [← this]
    simp [kslV, hl.1, Nat.mul_comm]
  have hkey : w'.heap[g']? = some (.cells (u8s l).toArray 5 (0, 0)) := by
    have h1 : g' ≠ t.cb := fun e => by have := at_lt h.cel; omega
    have h2 := (hb4.block g' (at_lt hgb)).trans ((set_other h1).trans hgb)
    exact (hkp.block g' (at_lt h2) (fun h3 => by have := hlt g' (.inl h3); omega)).trans h2
  refine ⟨⟨?_, hcb, by rw [List.length_set]; exact h.len, ?_, ?_, ?_, ?_, ?_, one_put h.one hr hf, h.big, h.many, h.kbig⟩, ?_, ?_⟩
  · refine ht.congr hpr (fun q hq => ⟨?_, ?_, rfl⟩)
    · rw [hcnt]
      by_cases e : prP P q = true
      · rw [if_pos e]
      · have : cntP P q = 0 := by unfold prP at e; simpa using e
        rw [if_neg e, this]
    · unfold thP
      rw [find_put h.one hr hk hf]
      split
      · rfl
      · split
        · rfl
        · rename_i e
          cases hfq : findP P q with
          | none => rfl
          | some j => exact absurd (prP_find hfq) e
  · intro s hs
    have h1 : ∀ s ∈ P, w'.heap[s.g]? = some (.cells (u8s s.v).toArray 5 (0, 0)) ∧ s.v.length = t.sz := fun s hs => by
      obtain ⟨h2, h3⟩ := h.row s hs
      exact ⟨(hw' s.g (at_lt h2) (blk_ne h2 h.cel (by decide)) (notX h h2 (by decide))).trans h2, h3⟩
    rcases mem_set hs with hs | rfl
    · exact h1 s hs
    · exact h1 r (List.mem_of_getElem? hr)
  · intro s hs g l2 hk2
    rcases mem_set hs with hs | rfl
    · obtain ⟨h2, h3⟩ := h.key s hs g l2 hk2
      exact ⟨(hw' g (at_lt h2) (blk_ne h2 h.cel (by decide)) (notX h h2 (by decide))).trans h2, h3⟩
    · simp only [Option.some.injEq, Prod.mk.injEq] at hk2
      obtain ⟨rfl, rfl⟩ := hk2
      exact ⟨hkey, hl⟩
  · intro g hg
    have hbase := h.base
    rcases hg with (rfl | ⟨p, hp, rfl⟩) | rfl | ⟨s, hs, rfl⟩ | ⟨s, hs, l2, hk2⟩
    · exact h.low _ (.inl (.inl rfl))
    · cases e : prP P p with
      | true => rw [hN p e]; exact h.low _ (.inl (.inr ⟨p, e, rfl⟩))
      | false =>
        rw [hpr, e, Bool.false_or] at hp
        have := hN2 p hp e
        omega
    · exact h.low _ (.inr (.inl rfl))
    · rcases mem_set hs with hs | rfl
      · exact h.low _ (.inr (.inr (.inl ⟨s, hs, rfl⟩)))
      · exact h.low _ (.inr (.inr (.inl ⟨r, List.mem_of_getElem? hr, rfl⟩)))
    · rcases mem_set hs with hs | rfl
      · exact h.low _ (.inr (.inr (.inr ⟨s, hs, l2, hk2⟩)))
      · simp only [Option.some.injEq, Prod.mk.injEq] at hk2
        obtain ⟨rfl, rfl⟩ := hk2
        omega
  · intro a b x y ha hb hab
    obtain ⟨x', h1, e1⟩ : ∃ x', P[a]? = some x' ∧ x'.g = x.g := by
      by_cases e : i = a
      · subst e; rw [set_at hr] at ha; injection ha with ha; subst ha; exact ⟨r, hr, rfl⟩
      · rw [List.getElem?_set_ne e] at ha; exact ⟨x, ha, rfl⟩
    obtain ⟨y', h2, e2⟩ : ∃ y', P[b]? = some y' ∧ y'.g = y.g := by
      by_cases e : i = b
      · subst e; rw [set_at hr] at hb; injection hb with hb; subst hb; exact ⟨r, hr, rfl⟩
      · rw [List.getElem?_set_ne e] at hb; exact ⟨y, hb, rfl⟩
    rw [← e1, ← e2]
    exact h.sep a b x' y' h1 h2 hab
  · intro x hx s hs g l2 hk2
    obtain ⟨x', h1, e1⟩ : ∃ x' ∈ P, x'.g = x.g := by
      rcases mem_set hx with hx | rfl
      · exact ⟨x, hx, rfl⟩
      · exact ⟨r, List.mem_of_getElem? hr, rfl⟩
    rw [← e1]
    rcases mem_set hs with hs | rfl
    · exact h.apart x' h1 s hs g l2 hk2
    · simp only [Option.some.injEq, Prod.mk.injEq] at hk2
      obtain ⟨rfl, rfl⟩ := hk2
      have := at_lt (h.row x' h1).1
      omega
  · refine ⟨hkp.os.trans (hb4.os.trans hb2.os), hkp.tape.trans (hb4.tape.trans hb2.tape), hkp.output.trans (hb4.output.trans hb2.output), Nat.le_trans hs4 hkp.size, fun g h1 h2 => ?_⟩
    exact hw' g h1 (fun e => h2 (.inr (.inl e))) (fun h3 => h2 (.inl h3))
  · intro g hg
    rcases hg with (rfl | ⟨p, hp, rfl⟩) | rfl | ⟨s, hs, rfl⟩ | ⟨s, hs, l2, hk2⟩
    · exact .inl (.inl (.inl rfl))
    · cases e : prP P p with
      | true => rw [hN p e]; exact .inl (.inl (.inr ⟨p, e, rfl⟩))
      | false =>
        rw [hpr, e, Bool.false_or] at hp
        have := hN2 p hp e
        exact .inr (by omega)
    · exact .inl (.inr (.inl rfl))
    · rcases mem_set hs with hs | rfl
      · exact .inl (.inr (.inr (.inl ⟨s, hs, rfl⟩)))
      · exact .inl (.inr (.inr (.inl ⟨r, List.mem_of_getElem? hr, rfl⟩)))
    · rcases mem_set hs with hs | rfl
      · exact .inl (.inr (.inr (.inr ⟨s, hs, l2, hk2⟩)))
      · simp only [Option.some.injEq, Prod.mk.injEq] at hk2
        obtain ⟨rfl, rfl⟩ := hk2
        exact .inr hg
end Go.Proofs.Ythefgfcjjbjjkaa
