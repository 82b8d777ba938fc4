/-
  A tree in memory: which prefixes have a node, how many things are at and behind each, what is at it; what each store makes of it.
-/
import Derived.Test.YthefgfcjjbjjkaaTD
import Derived.Test.YthefgfcjjbjjkaaAA
namespace Go.Proofs.Ythefgfcjjbjjkaa
open Go.RowKit
set_option linter.unusedVariables false

/-- A trie's own words. -/
structure TP where
  tb : Nat
  ks : Nat
  sz : Nat
  cb : Nat
  n : Nat
def trieC (t : TP) (r : Option Addr) : Array Value := #[.pointer (some ⟨t.tb, 0, none⟩), .int .i64 t.ks, .pointer r, .int .i64 t.sz, .slice (some ⟨t.cb, 0, none⟩) t.n t.n]
def nodeC (th : Option Addr) (c : Int) (l r : Option Addr) : Array Value := #[.pointer th, .int .i64 c, .pointer l, .pointer r]
/-- What hangs at the peg of a prefix. -/
def ptN (pr : List Bool → Bool) (N : List Bool → Nat) (p : List Bool) : Option Addr := if pr p = true then some ⟨N p, 0, none⟩ else none
structure TreeX (W : World) (t : TP) (pr : List Bool → Bool) (c : List Bool → Nat) (th : List Bool → Option Addr) (N : List Bool → Nat) : Prop where
  blk : W.heap[t.tb]? = some (.cells (trieC t (ptN pr N [])) 60 (0, 0))
  node : ∀ p, pr p = true → W.heap[N p]? = some (.cells (nodeC (th p) (c p) (ptN pr N (p ++ [false])) (ptN pr N (p ++ [true]))) 110 (0, 0))
  inj : ∀ p q, pr p = true → pr q = true → N p = N q → p = q
  clo : ∀ p x, pr (p ++ [x]) = true → pr p = true
/-- The address of a prefix's peg. -/
def pegA (t : TP) (N : List Bool → Nat) (p : List Bool) : Addr :=
  match p.getLast? with
  | none => ⟨t.tb, 2, none⟩
  | some x => ⟨N p.dropLast, 2 + (if x then 1 else 0), none⟩
theorem pegA_nil (t : TP) (N : List Bool → Nat) : pegA t N [] = ⟨t.tb, 2, none⟩ := rfl
theorem pegA_snoc (t : TP) (N : List Bool → Nat) (p : List Bool) (x : Bool) : pegA t N (p ++ [x]) = ⟨N p, 2 + (if x then 1 else 0), none⟩ := by simp [pegA]
theorem set_blk {w : World} {g : Nat} {cs : Array Value} {t : TypeId} (h : w.heap[g]? = some (.cells cs t (0, 0))) (i : Nat) (u : Value) : (w.setCell ⟨g, i, none⟩ u).heap[g]? = some (.cells (cs.setIfInBounds i u) t (0, 0)) := by
  have := setCell_eq_setRow w g i cs t (0, 0) u h
  rw [this]
  exact setRow_heap w g cs _ t _ h
theorem set_other {w : World} {g i : Nat} {u : Value} {a : Nat} (h : g ≠ a) : (w.setCell ⟨a, i, none⟩ u).heap[g]? = w.heap[g]? := Below.heap_setCell w ⟨a, i, none⟩ u g h
section
variable {W W' : World} {t : TP} {pr : List Bool → Bool} {c : List Bool → Nat} {th : List Bool → Option Addr} {N : List Bool → Nat}
theorem TreeX.congr {pr' : List Bool → Bool} {c' : List Bool → Nat} {th' : List Bool → Option Addr} {N' : List Bool → Nat} (h : TreeX W t pr c th N) (h1 : ∀ p, pr' p = pr p) (h2 : ∀ p, pr p = true → c' p = c p ∧ th' p = th p ∧ N' p = N p) : TreeX W t pr' c' th' N' := by
  obtain rfl : pr' = pr := funext h1
  have hp : ∀ p, ptN pr' N' p = ptN pr' N p := fun p => by
    unfold ptN
    by_cases e : pr' p = true
    · rw [if_pos e, if_pos e, (h2 p e).2.2]
    · rw [if_neg e, if_neg e]
  refine ⟨by rw [hp]; exact h.blk, fun p e => ?_, fun p q e1 e2 => ?_, h.clo⟩
  · obtain ⟨e1, e2, e3⟩ := h2 p e
    rw [hp, hp, e1, e2, e3]
    exact h.node p e
  · rw [(h2 p e1).2.2, (h2 q e2).2.2]
    exact h.inj p q e1 e2
/-- Where the trie's block and all nodes lie as they lay, so does the tree. -/
theorem TreeX.same (h : TreeX W t pr c th N) (h0 : W'.heap[t.tb]? = W.heap[t.tb]?) (h1 : ∀ p, pr p = true → W'.heap[N p]? = W.heap[N p]?) : TreeX W' t pr c th N :=
  ⟨h0.trans h.blk, fun p e => (h1 p e).trans (h.node p e), h.inj, h.clo⟩
theorem TreeX.stayN {m : Nat} (h : TreeX W t pr c th N) (hs : StayN (some 107) m W W') : TreeX W' t pr c th N :=
  ⟨hs.blk (by decide) h.blk, fun p e => hs.blk (by decide) (h.node p e), h.inj, h.clo⟩
theorem TreeX.below {m : Nat} (h : TreeX W t pr c th N) (hm : W.heap.size ≤ m) (hs : Below m W W') : TreeX W' t pr c th N :=
  ⟨(hs.block _ (Nat.lt_of_lt_of_le (at_lt h.blk) hm)).trans h.blk, fun p e => (hs.block _ (Nat.lt_of_lt_of_le (at_lt (h.node p e)) hm)).trans (h.node p e), h.inj, h.clo⟩
theorem TreeX.setBox {g i : Nat} {u : Value} {T : TypeId} {cs : Array Value} {f : Nat × Nat} (h : TreeX W t pr c th N) (hg : W.heap[g]? = some (.cells cs T f)) (hT : T ≠ 60 ∧ T ≠ 110) : TreeX (W.setCell ⟨g, i, none⟩ u) t pr c th N :=
  h.same (set_other (fun e => by have h1 := h.blk; rw [e, hg] at h1; injection h1 with h1; injection h1 with _ h1 _; exact hT.1 h1)) (fun p e => set_other (fun e2 => by have h1 := h.node p e; rw [e2, hg] at h1; injection h1 with h1; injection h1 with _ h1 _; exact hT.2 h1))
/-- What hangs at a peg. -/
theorem TreeX.peg (h : TreeX W t pr c th N) {p : List Bool} (hp : p = [] ∨ ∃ q x, p = q ++ [x] ∧ pr q = true) : W.cell? (pegA t N p) = some (.pointer (ptN pr N p)) ∧ W.frozen? (pegA t N p) = false := by
  rcases hp with rfl | ⟨q, x, rfl, hq⟩
  · rw [pegA_nil, blk_cell h.blk]
    exact ⟨rfl, Joins.unfrozen_of_block h.blk 2⟩
  · rw [pegA_snoc, blk_cell (h.node q hq)]
    refine ⟨?_, Joins.unfrozen_of_block (h.node q hq) _⟩
    cases x <;> rfl
theorem TreeX.tb_ne (h : TreeX W t pr c th N) {p : List Bool} (hp : pr p = true) : t.tb ≠ N p := fun e => by
  have h1 := h.blk
  rw [e, h.node p hp] at h1
  injection h1 with h1
  injection h1 with _ h1 _
  cases h1
/-- The count of a node is written. -/
theorem TreeX.many (h : TreeX W t pr c th N) {p : List Bool} (hp : pr p = true) (m : Nat) : TreeX (W.setCell ⟨N p, 1, none⟩ (.int .i64 m)) t pr (fun q => if q = p then m else c q) th N := by
  refine ⟨(set_other (h.tb_ne hp)).trans h.blk, fun q hq => ?_, h.inj, h.clo⟩
  by_cases e : q = p
  · subst e
    rw [set_blk (h.node q hq), if_pos rfl]
    rfl
  · rw [if_neg e]
    exact (set_other (fun e2 => e (h.inj q p hq hp e2))).trans (h.node q hq)
/-- What is at a node is written. -/
theorem TreeX.thing (h : TreeX W t pr c th N) {p : List Bool} (hp : pr p = true) (a : Option Addr) : TreeX (W.setCell ⟨N p, 0, none⟩ (.pointer a)) t pr c (fun q => if q = p then a else th q) N := by
  refine ⟨(set_other (h.tb_ne hp)).trans h.blk, fun q hq => ?_, h.inj, h.clo⟩
  by_cases e : q = p
  · subst e
    rw [set_blk (h.node q hq), if_pos rfl]
    rfl
  · rw [if_neg e]
    exact (set_other (fun e2 => e (h.inj q p hq hp e2))).trans (h.node q hq)
/-- A node is hung at a peg at which none hung. -/
theorem TreeX.hang (h : TreeX W t pr c th N) {p : List Bool} (hp : p = [] ∨ ∃ q x, p = q ++ [x] ∧ pr q = true) (hno : pr p = false) {g : Nat} (hg : W.heap[g]? = some (.cells (nodeC none 0 none none) 110 (0, 0))) (hnew : ∀ q, pr q = true → N q ≠ g) :
    TreeX (W.setCell (pegA t N p) (.pointer (some ⟨g, 0, none⟩))) t (fun q => pr q || q == p) (fun q => if q = p then 0 else c q) (fun q => if q = p then none else th q) (fun q => if q = p then g else N q) := by
  have hkid : ∀ x, pr (p ++ [x]) = false := fun x => by
    cases e : pr (p ++ [x]) with
    | false => rfl
    | true => rw [h.clo p x e] at hno; cases hno
  have hsn : ∀ (q : List Bool) (x : Bool), q ++ [x] ≠ q := fun q x e => by have := congrArg List.length e; simp at this
  have htg : t.tb ≠ g := fun e => by
    have h1 := h.blk
    rw [e, hg] at h1
    injection h1 with h1
    injection h1 with _ h1 _
    cases h1
  have hpt : ∀ q, q ≠ p → ptN (fun q => pr q || q == p) (fun q => if q = p then g else N q) q = ptN pr N q := fun q e => by simp [ptN, e]
  have hpp : ptN (fun q => pr q || q == p) (fun q => if q = p then g else N q) p = some ⟨g, 0, none⟩ := by simp [ptN]
  have hk0 : ∀ x, ptN pr N (p ++ [x]) = none := fun x => by simp [ptN, hkid]
  have hgp : (pegA t N p).block ≠ g := by
    rcases hp with rfl | ⟨q, x, rfl, hq⟩
    · exact htg
    · rw [pegA_snoc]; exact hnew q hq
  have hnb : ∀ q, pr q = true → q ≠ p := fun q e e2 => by rw [e2, hno] at e; cases e
  refine ⟨?_, fun q hq => ?_, fun q r hq hr he => ?_, fun q x hq => ?_⟩
  · rcases hp with rfl | ⟨q, x, rfl, hq⟩
    · rw [pegA_nil, set_blk h.blk, hpp]; rfl
    · rw [pegA_snoc, set_other (h.tb_ne hq), hpt [] (by simp)]; exact h.blk
  · by_cases e : q = p
    · subst e
      simp only [if_true]
      rw [hpt _ (hsn _ _), hpt _ (hsn _ _), hk0, hk0]
      exact (Below.heap_setCell W _ _ g (fun e => hgp e.symm)).trans hg
    · have hq' : pr q = true := by simpa [e] using hq
      simp only [if_neg e]
      rcases hp with rfl | ⟨s, x, rfl, hs⟩
      · rw [pegA_nil, set_other (fun e2 => h.tb_ne hq' e2.symm), hpt (q ++ [false]) (by simp), hpt (q ++ [true]) (by simp)]; exact h.node q hq'
      · by_cases e2 : q = s
        · subst e2
          rw [pegA_snoc, set_blk (h.node q hq')]
          cases x
          · rw [hpp, hpt _ (by simp)]; rfl
          · rw [hpp, hpt _ (by simp)]; rfl
        · rw [pegA_snoc, set_other (fun e3 => e2 (h.inj q s hq' hs e3)), hpt (q ++ [false]) (fun e3 => e2 (List.append_inj_left' e3 rfl)), hpt (q ++ [true]) (fun e3 => e2 (List.append_inj_left' e3 rfl))]
          exact h.node q hq'
  · by_cases e : q = p
    · by_cases e2 : r = p
      · rw [e, e2]
      · have hr' : pr r = true := by simpa [e2] using hr
        simp only [if_pos e, if_neg e2] at he
        exact absurd he.symm (hnew r hr')
    · have hq' : pr q = true := by simpa [e] using hq
      by_cases e2 : r = p
      · simp only [if_neg e, if_pos e2] at he
        exact absurd he (hnew q hq')
      · have hr' : pr r = true := by simpa [e2] using hr
        simp only [if_neg e, if_neg e2] at he
        exact h.inj q r hq' hr' he
  · by_cases e : q ++ [x] = p
    · rcases hp with rfl | ⟨s, y, rfl, hs⟩
      · simp at e
      · have := List.append_inj_left' e rfl
        subst this
        simp [hs]
    · have hq' : pr (q ++ [x]) = true := by simpa [e] using hq
      simp [h.clo q x hq']
/-- A node is taken off its peg, with all behind it. -/
theorem TreeX.cut (h : TreeX W t pr c th N) {p : List Bool} (hp : p = [] ∨ ∃ q x, p = q ++ [x] ∧ pr q = true) :
    TreeX (W.setCell (pegA t N p) (.pointer none)) t (fun q => pr q && !(p.isPrefixOf q)) c th N := by
  have hpt : ∀ q, ¬ p <+: q → ptN (fun q => pr q && !(p.isPrefixOf q)) N q = ptN pr N q := fun q e => by
    have : p.isPrefixOf q = false := by rw [Bool.eq_false_iff]; intro e2; exact e (List.isPrefixOf_iff_prefix.1 e2)
    simp [ptN, this]
  have hpp : ptN (fun q => pr q && !(p.isPrefixOf q)) N p = none := by
    have : p.isPrefixOf p = true := List.isPrefixOf_iff_prefix.2 (List.prefix_refl _)
    simp [ptN, this]
  have hin : ∀ q, (pr q && !(p.isPrefixOf q)) = true → pr q = true ∧ ¬ p <+: q := fun q e => by
    simp only [Bool.and_eq_true, Bool.not_eq_true'] at e
    exact ⟨e.1, fun e2 => by rw [List.isPrefixOf_iff_prefix.2 e2] at e; exact absurd e.2 (by simp)⟩
  have hsnoc : ∀ (q : List Bool) (x : Bool), ¬ p <+: q → p <+: q ++ [x] → p = q ++ [x] := fun q x e e2 => by
    rcases List.prefix_concat_iff.1 e2 with e3 | e3
    · simpa using e3
    · exact absurd e3 e
  refine ⟨?_, fun q hq => ?_, fun q r hq hr => h.inj q r (hin q hq).1 (hin r hr).1, fun q x hq => ?_⟩
  · rcases hp with rfl | ⟨q, x, rfl, hq⟩
    · rw [pegA_nil, set_blk h.blk, hpp]; rfl
    · rw [pegA_snoc, set_other (h.tb_ne hq), hpt [] (by simp)]; exact h.blk
  · obtain ⟨h1, h2⟩ := hin q hq
    rcases hp with rfl | ⟨s, x, rfl, hs⟩
    · exact absurd (List.nil_prefix) h2
    · by_cases e2 : q = s
      · subst e2
        rw [pegA_snoc, set_blk (h.node q h1)]
        cases x
        · rw [hpp, hpt _ (fun e => by have := hsnoc q true h2 e; simp at this)]; rfl
        · rw [hpp, hpt _ (fun e => by have := hsnoc q false h2 e; simp at this)]; rfl
      · rw [pegA_snoc, set_other (fun e3 => e2 (h.inj q s h1 hs e3)), hpt (q ++ [false]) (fun e => e2 (List.append_inj_left' (hsnoc q false h2 e) rfl).symm), hpt (q ++ [true]) (fun e => e2 (List.append_inj_left' (hsnoc q true h2 e) rfl).symm)]
        exact h.node q h1
  · obtain ⟨h1, h2⟩ := hin _ hq
    have h3 : ¬ p <+: q := fun e => h2 (e.trans (List.prefix_append _ _))
    have : p.isPrefixOf q = false := by rw [Bool.eq_false_iff]; intro e2; exact h3 (List.isPrefixOf_iff_prefix.1 e2)
    simp [h.clo q x h1, this]
end
end Go.Proofs.Ythefgfcjjbjjkaa
