/-
  An lru in memory.
-/
import Derived.Test.YtihhbpadafgkoaaLUJ
import Derived.Test.YtihhbpadafgkoaaLU3
namespace Go.Proofs.Ytihhbpadafgkoaa
open Go.RowKit Go.Maps
set_option linter.unusedVariables false
set_option linter.unusedSimpArgs false

/-- The blocks of an lru. -/
def OfU (b mb cb e sz : Nat) (L : List LK) (P : List HS) (g : Nat) : Prop := g = b ∨ g = mb ∨ g = cb ∨ g ∈ e :: L.map LK.g ∨ ∃ r ∈ P, (r.sl sz).ownBlock = some g
structure Lru (w : World) (B b mb cb e ks sz : Nat) (L : List LK) (P : List HS) : Prop where
  blk : w.heap[b]? = some (.cells #[.pointer (some ⟨b, 0, none⟩), .int .i64 ks, .map (some mb), .pointer (some ⟨e, 0, none⟩), .int .i64 sz, .slice (some ⟨cb, 0, none⟩) P.length P.length] 61 (0, 0))
  map : GMap Try.prog ptrR 9 w mb L.length (linkF L)
  ring : ∃ nx pv, RingM w e L nx pv
  cel : w.heap[cb]? = some (.cells (cellsH sz P).toArray 90 (0, 0))
  row : ∀ (i : Nat) (r : HS), P[i]? = some r → w.ownsRow 0 5 1 (.slice r.A sz r.c) sz (u8s r.bs)
  low : ∀ g, OfU b mb cb e sz L P g → B ≤ g
  sep : ∀ (i j : Nat) (r s : HS), P[i]? = some r → P[j]? = some s → i ≠ j → ∀ g, (r.sl sz).ownBlock = some g → (s.sl sz).ownBlock ≠ some g
  fit : Fits ks L P
  big : 1 ≤ sz ∧ sz ≤ 1024
  many : 1 ≤ P.length ∧ P.length ≤ 1024
  kbig : 1 ≤ ks ∧ ks ≤ 64
theorem GMap.obj {P : Program} {R : Value → Option (DataW Unit × List MemPlace)} {k : TypeId} {w : World} {b N : Nat} {f : Lit → Option Value} (h : GMap P R k w b N f) : ∃ es c, w.heap[b]? = some (.map es c) := by
  obtain ⟨D, ⟨es, c, h1, _⟩, _⟩ := h
  exact ⟨es, c, h1⟩
theorem owned_cells {w : World} {e : TypeId} {sz n : Nat} {v : Value} {xs : List Value} {g : Nat} (h : w.ownsRow 0 e sz v n xs) (hg : v.ownBlock = some g) : ∃ cur, w.heap[g]? = some (.cells cur e (0, 0)) := by
  rcases h.2 with ⟨h0, _⟩ | ⟨g', cap, cur, h0, _, h2, _⟩
  · rw [h0] at hg; cases hg
  · rw [h0] at hg
    simp only [Value.ownBlock, Option.some.injEq] at hg
    subst hg
    exact ⟨cur, h2⟩
section
variable {w w' : World} {B b mb cb e ks sz : Nat} {L : List LK} {P : List HS}
theorem Lru.lt (h : Lru w B b mb cb e ks sz L P) : ∀ g, OfU b mb cb e sz L P g → g < w.heap.size := by
  obtain ⟨nx, pv, hr⟩ := h.ring
  rintro g (rfl | rfl | rfl | hg | ⟨r, hr, hg⟩)
  · exact at_lt h.blk
  · exact h.map.lt
  · exact at_lt h.cel
  · exact hr.lt hg
  · obtain ⟨i, hi⟩ := List.mem_iff_getElem?.1 hr
    exact ((h.row i r hi).lt g hg).2
theorem Lru.kept {F : Nat → Prop} (h : Lru w B b mb cb e ks sz L P) (hk : Kept F w w') (hF : ∀ g, OfU b mb cb e sz L P g → F g) : Lru w' B b mb cb e ks sz L P := by
  obtain ⟨nx, pv, hr⟩ := h.ring
  exact ⟨(hk.block b (at_lt h.blk) (hF b (.inl rfl))).trans h.blk, h.map.same (hk.block mb h.map.lt (hF mb (.inr (.inl rfl)))), ⟨nx, pv, hr.kept hk (fun u hu => hF u (.inr (.inr (.inr (.inl hu)))))⟩,
    (hk.block cb (at_lt h.cel) (hF cb (.inr (.inr (.inl rfl))))).trans h.cel, fun i r hi => owns_kept (h.row i r hi) hk (fun g hg => hF g (.inr (.inr (.inr (.inr ⟨r, List.mem_of_getElem? hi, hg⟩))))), h.low, h.sep, h.fit, h.big, h.many, h.kbig⟩
theorem Lru.below (h : Lru w B b mb cb e ks sz L P) (hb : Below w.heap.size w w') : Lru w' B b mb cb e ks sz L P :=
  h.kept (F := fun _ => True) (Kept.of_below hb) (fun _ _ => trivial)
theorem Lru.len (h : Lru w B b mb cb e ks sz L P) {i : Nat} {r : HS} (hr : P[i]? = some r) : r.bs.length = sz := by
  have := (h.row i r hr).1
  simpa [u8s] using this
theorem Lru.c0 (h : Lru w B b mb cb e ks sz L P) : w.cell? ⟨b, 0, none⟩ = some (.pointer (some ⟨b, 0, none⟩)) := by rw [blk_cell h.blk]; rfl
theorem Lru.c1 (h : Lru w B b mb cb e ks sz L P) : w.cell? ⟨b, 1, none⟩ = some (.int .i64 ks) := by rw [blk_cell h.blk]; rfl
theorem Lru.c2 (h : Lru w B b mb cb e ks sz L P) : w.cell? ⟨b, 2, none⟩ = some (.map (some mb)) := by rw [blk_cell h.blk]; rfl
theorem Lru.c3 (h : Lru w B b mb cb e ks sz L P) : w.cell? ⟨b, 3, none⟩ = some (.pointer (some ⟨e, 0, none⟩)) := by rw [blk_cell h.blk]; rfl
theorem Lru.c4 (h : Lru w B b mb cb e ks sz L P) : w.cell? ⟨b, 4, none⟩ = some (.int .i64 sz) := by rw [blk_cell h.blk]; rfl
theorem Lru.c5 (h : Lru w B b mb cb e ks sz L P) : w.cell? ⟨b, 5, none⟩ = some (.slice (some ⟨cb, 0, none⟩) P.length P.length) := by rw [blk_cell h.blk]; rfl
theorem Lru.parts (h : Lru w B b mb cb e ks sz L P) {i : Nat} {r : HS} (hr : P[i]? = some r) : w.cell? ⟨cb, i * 2, none⟩ = some (.slice r.A sz r.c) := by
  have := (cellsH_at sz P i r hr).1
  rw [blk_cell h.cel]
  simpa using this
theorem Lru.taken (h : Lru w B b mb cb e ks sz L P) {i : Nat} {r : HS} (hr : P[i]? = some r) : w.cell? ⟨cb, i * 2 + 1, none⟩ = some (.bool r.key.isSome) := by
  have := (cellsH_at sz P i r hr).2
  rw [blk_cell h.cel]
  simpa using this
theorem Lru.apart (h : Lru w B b mb cb e ks sz L P) : b ≠ cb ∧ b ≠ mb ∧ cb ≠ mb ∧ (∀ u ∈ e :: L.map LK.g, u ≠ b ∧ u ≠ cb ∧ u ≠ mb) ∧ ∀ (i : Nat) (r : HS), P[i]? = some r → ∀ g, (r.sl sz).ownBlock = some g → g ≠ b ∧ g ≠ cb ∧ g ≠ mb ∧ g ∉ e :: L.map LK.g := by
  obtain ⟨es, clock, hm⟩ := h.map.obj
  obtain ⟨nx, pv, hr⟩ := h.ring
  have hlink : ∀ u ∈ e :: L.map LK.g, ∃ cs, w.heap[u]? = some (.cells cs 79 (0, 0)) := fun u hu => by
    obtain ⟨k, p, h1⟩ := hr.some hu
    exact ⟨_, h1⟩
  refine ⟨fun e => ?_, fun e => ?_, fun e => ?_, fun u hu => ⟨fun e2 => ?_, fun e2 => ?_, fun e2 => ?_⟩, fun i r hi g hg => ⟨fun e => ?_, fun e => ?_, fun e => ?_, fun hm2 => ?_⟩⟩
  · have e2 := h.blk
    rw [e, h.cel] at e2
    injection e2 with e2
    injection e2 with _ e2
    exact absurd e2 (by decide)
  · have := h.blk; rw [e, hm] at this; cases this
  · have := h.cel; rw [e, hm] at this; cases this
  · obtain ⟨cs, hc⟩ := hlink u hu
    rw [e2, h.blk] at hc
    injection hc with hc
    injection hc with _ hc
    exact absurd hc (by decide)
  · obtain ⟨cs, hc⟩ := hlink u hu
    rw [e2, h.cel] at hc
    injection hc with hc
    injection hc with _ hc
    exact absurd hc (by decide)
  · obtain ⟨cs, hc⟩ := hlink u hu
    rw [e2, hm] at hc; cases hc
  · obtain ⟨cur, hc⟩ := owned_cells (h.row i r hi) hg
    rw [e, h.blk] at hc; cases hc
  · obtain ⟨cur, hc⟩ := owned_cells (h.row i r hi) hg
    rw [e, h.cel] at hc; cases hc
  · obtain ⟨cur, hc⟩ := owned_cells (h.row i r hi) hg
    rw [e, hm] at hc; cases hc
  · obtain ⟨cur, hc⟩ := owned_cells (h.row i r hi) hg
    obtain ⟨cs, hc2⟩ := hlink g hm2
    rw [hc] at hc2
    injection hc2 with hc2
    injection hc2 with _ hc2
    exact absurd hc2 (by decide)
/-- Its links are in another order. -/
theorem Lru.order {L' : List LK} (h : Lru w B b mb cb e ks sz L P) (hp : L'.Perm L) (hr : ∃ nx pv, RingM w' e L' nx pv) (hk : Kept (fun g => g ∉ e :: L.map LK.g) w w') : Lru w' B b mb cb e ks sz L' P ∧ (∀ g, OfU b mb cb e sz L' P g ↔ OfU b mb cb e sz L P g) ∧ Kept (fun g => ¬ OfU b mb cb e sz L P g) w w' := by
  obtain ⟨_, _, _, h4, h5⟩ := h.apart
  have hnb : b ∉ e :: L.map LK.g := fun hh => (h4 b hh).1 rfl
  have hnc : cb ∉ e :: L.map LK.g := fun hh => (h4 cb hh).2.1 rfl
  have hnm : mb ∉ e :: L.map LK.g := fun hh => (h4 mb hh).2.2 rfl
  have hof : ∀ g, OfU b mb cb e sz L' P g ↔ OfU b mb cb e sz L P g := fun g => by
    unfold OfU
    have : g ∈ e :: L'.map LK.g ↔ g ∈ e :: L.map LK.g := by rw [List.mem_cons, List.mem_cons, (hp.map LK.g).mem_iff]
    rw [this]
  refine ⟨⟨(hk.block b (at_lt h.blk) hnb).trans h.blk, ?_, hr, (hk.block cb (at_lt h.cel) hnc).trans h.cel, fun i r hi => owns_kept (h.row i r hi) hk (fun g hg => (h5 i r hi g hg).2.2.2), fun g hg => h.low g ((hof g).1 hg), h.sep, h.fit.perm hp, h.big, h.many, h.kbig⟩, hof, hk.mono (fun g hg hh => hg (.inr (.inr (.inr (.inl hh)))))⟩
  rw [hp.length_eq]
  refine (h.map.same (hk.block mb h.map.lt hnm)).congr (fun l hl => ?_)
  obtain ⟨v, hv⟩ := hl
  obtain ⟨x, _, rfl, _⟩ := Maps.keyOf_str Try.underlying9 hv
  exact linkF_perm h.fit.keys hp x
/-- A value turns where it stands. -/
theorem Lru.put {i : Nat} {r : HS} {bs : List Int} (h : Lru w B b mb cb e ks sz L P) (hr : P[i]? = some r) (ho : w'.ownsRow 0 5 1 (.slice r.A sz r.c) sz (u8s bs)) (hk : Kept (fun g => (r.sl sz).ownBlock ≠ some g) w w') :
    Lru w' B b mb cb e ks sz L (P.set i { r with bs := bs }) ∧ Kept (fun g => ¬ OfU b mb cb e sz L P g) w w' := by
  obtain ⟨_, _, _, h4, h5⟩ := h.apart
  obtain ⟨nx, pv, hri⟩ := h.ring
  have hat : ∀ (j : Nat) (s : HS), (P.set i { r with bs := bs })[j]? = some s → (j = i ∧ s = { r with bs := bs }) ∨ (j ≠ i ∧ P[j]? = some s) := fun j s hs => by
    rcases set_at hs with ⟨a, b, _⟩ | hh
    · exact .inl ⟨a, b⟩
    · exact .inr hh
  have hof := fun g hg => h5 i r hr g hg
  refine ⟨⟨by rw [List.length_set]; exact (hk.block b (at_lt h.blk) (fun e => (hof _ e).1 rfl)).trans h.blk, h.map.same (hk.block mb h.map.lt (fun e => (hof _ e).2.2.1 rfl)), ⟨nx, pv, hri.kept hk (fun u hu e => (hof _ e).2.2.2 hu)⟩, ?_, fun j s hs => ?_, fun g hg => h.low g ?_, ?_, h.fit.bytes hr, h.big, by rw [List.length_set]; exact h.many, h.kbig⟩, hk.mono (fun g hg e => hg (.inr (.inr (.inr (.inr ⟨r, List.mem_of_getElem? hr, e⟩)))))⟩
  · have hc : cellsH sz (P.set i { r with bs := bs }) = cellsH sz P := cellsH_same sz _ _ (by
      rw [List.map_set]
      apply List.ext_getElem?
      intro j
      rw [List.getElem?_set]
      split
      · rename_i e
        subst e
        split
        · rw [List.getElem?_map, hr]; rfl
        · rename_i h
          rw [List.getElem?_eq_none (by omega)]
      · rfl)
    rw [hc]
    exact (hk.block cb (at_lt h.cel) (fun e => (hof _ e).2.1 rfl)).trans h.cel
  · rcases hat j s hs with ⟨rfl, rfl⟩ | ⟨hne, hs'⟩
    · exact ho
    · exact owns_kept (h.row j s hs') hk (fun g hg e => h.sep j i s r hs' hr hne g hg e)
  · rcases hg with hg | hg | hg | hg | ⟨s, hs, hg⟩
    · exact .inl hg
    · exact .inr (.inl hg)
    · exact .inr (.inr (.inl hg))
    · exact .inr (.inr (.inr (.inl hg)))
    · rcases List.mem_or_eq_of_mem_set hs with hs | rfl
      · exact .inr (.inr (.inr (.inr ⟨s, hs, hg⟩)))
      · exact .inr (.inr (.inr (.inr ⟨r, List.mem_of_getElem? hr, hg⟩)))
  · intro a c s t ha hb hne g hg hg'
    rcases hat a s ha with ⟨rfl, rfl⟩ | ⟨na, ha'⟩
    · rcases hat c t hb with ⟨rfl, rfl⟩ | ⟨nb, hb'⟩
      · exact hne rfl
      · exact h.sep _ c r t hr hb' hne g hg hg'
    · rcases hat c t hb with ⟨rfl, rfl⟩ | ⟨nb, hb'⟩
      · exact h.sep a _ s r ha' hr hne g hg hg'
      · exact h.sep a c s t ha' hb' hne g hg hg'
end
end Go.Proofs.Ytihhbpadafgkoaa
