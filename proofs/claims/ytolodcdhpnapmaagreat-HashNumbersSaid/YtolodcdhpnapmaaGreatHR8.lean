/-
  A hash, turned: a key comes or goes, bytes are put.
-/
import Derived.Test.YtolodcdhpnapmaaGreatHR7
namespace Go.Proofs.YtolodcdhpnapmaaGreat
open Go.RowKit Go.Maps
set_option linter.unusedVariables false

theorem owns_cells {w : World} {e : TypeId} {sz n : Nat} {v : Value} {xs : List Value} (h : w.ownsRow 0 e sz v n xs) {g : Nat} (hg : v.ownBlock = some g) : ∃ cur, w.heap[g]? = some (.cells cur e (0, 0)) := by
  rcases h.2 with ⟨rfl, _⟩ | ⟨g', cap, cur, rfl, _, h1, _⟩
  · cases hg
  · have : g' = g := by simpa [Value.ownBlock] using hg
    subst this
    exact ⟨cur, h1⟩
theorem KMap.obj {P : Program} {k e : TypeId} {w : World} {b N : Nat} {f : Lit → Option Value} (h : KMap P k e w b N f) : ∃ es clock, w.heap[b]? = some (.map es clock) := by
  obtain ⟨D, ⟨es, clock, hb, _⟩, _⟩ := h
  exact ⟨es, clock, hb⟩
theorem OfH.same {b cb mb sz : Nat} {L M : List HS} {g : Nat} (hA : SameA M L) (h : OfH b cb mb sz M g) : OfH b cb mb sz L g := by
  rcases h with rfl | rfl | rfl | ⟨r, hr, hg⟩
  · exact .inl rfl
  · exact .inr (.inl rfl)
  · exact .inr (.inr (.inl rfl))
  · obtain ⟨i, hi⟩ := List.mem_iff_getElem?.1 hr
    have hl : i < L.length := hA.1 ▸ (List.getElem?_eq_some_iff.1 hi).1
    obtain ⟨h1, h2⟩ := hA.2 i r _ hi (List.getElem?_eq_getElem hl)
    exact .inr (.inr (.inr ⟨L[i], List.getElem_mem hl, by unfold HS.sl at hg ⊢; rw [← h1, ← h2]; exact hg⟩))
section
variable {w w' : World} {B b cb mb ks sz : Nat} {L : List HS}
theorem Hsh.apart (h : Hsh w B b cb mb ks sz L) : b ≠ cb ∧ b ≠ mb ∧ cb ≠ mb ∧ ∀ (i : Nat) (r : HS), L[i]? = some r → ∀ g, (r.sl sz).ownBlock = some g → g ≠ b ∧ g ≠ cb ∧ g ≠ mb := by
  obtain ⟨es, clock, hm⟩ := h.map.obj
  refine ⟨fun e => ?_, fun e => ?_, fun e => ?_, fun i r hi g hg => ⟨fun e => ?_, fun e => ?_, fun e => ?_⟩⟩
  · have e2 := h.blk
    rw [e, h.cel] at e2
    injection e2 with e2
    injection e2 with _ e2
    exact absurd e2 (by decide)
  · have := h.blk; rw [e, hm] at this; cases this
  · have := h.cel; rw [e, hm] at this; cases this
  · obtain ⟨cur, hc⟩ := owns_cells (h.row i r hi) hg
    rw [e, h.blk] at hc; cases hc
  · obtain ⟨cur, hc⟩ := owns_cells (h.row i r hi) hg
    rw [e, h.cel] at hc; cases hc
  · obtain ⟨cur, hc⟩ := owns_cells (h.row i r hi) hg
    rw [e, hm] at hc; cases hc
/-- A key comes to a place, or goes from it. -/
theorem Hsh.rekey {j : Nat} {r : HS} {ko : Option (List UInt8)} (h : Hsh w B b cb mb ks sz L) (hr : L[j]? = some r)
    (hcel : w'.heap[cb]? = some (.cells ((cellsH sz L).set (j * 2 + 1) (.bool ko.isSome)).toArray 84 (0, 0))) (hk : Kept (fun g => g ≠ cb ∧ g ≠ mb) w w')
    (hm : KMap Tryz.prog 9 3 w' mb (takenK (L.set j { r with key := ko })) (placeF (L.set j { r with key := ko }))) (ho : Once (L.set j { r with key := ko })) (hl : ∀ k, ko = some k → k.length = ks) :
    Hsh w' B b cb mb ks sz (L.set j { r with key := ko }) := by
  obtain ⟨a1, a2, a3, a4⟩ := h.apart
  have hA : SameA (L.set j { r with key := ko }) L := SameA.set hr rfl rfl
  refine ⟨?_, ?_, hm, fun i s hi => ?_, fun g hg => h.low g (hg.same hA), fun i k s t hi hk2 hik g hg => ?_, ho, fun i s k hi hs => ?_, h.big, by simpa using h.many, h.kbig⟩
  · rw [List.length_set]
    exact (hk.block b (at_lt h.blk) ⟨a1, a2⟩).trans h.blk
  · rw [hcel, show (L.set j { r with key := ko }) = L.set j { r with key := ko, bs := r.bs } from rfl, cellsH_set_key sz L j r ko r.bs hr]
  · rcases set_at hi with ⟨rfl, rfl, _⟩ | ⟨_, hi⟩
    · exact owns_kept (h.row i r hr) hk (fun g hg => (a4 i r hr g hg).2)
    · exact owns_kept (h.row i s hi) hk (fun g hg => (a4 i s hi g hg).2)
  · have hL : ∀ (i : Nat) (s : HS), (L.set j { r with key := ko })[i]? = some s → ∃ t, L[i]? = some t ∧ s.sl sz = t.sl sz := fun i s hi => by
      rcases set_at hi with ⟨rfl, rfl, _⟩ | ⟨_, hi⟩
      · exact ⟨r, hr, rfl⟩
      · exact ⟨s, hi, rfl⟩
    obtain ⟨s', h1, h2⟩ := hL i s hi
    obtain ⟨t', h3, h4⟩ := hL k t hk2
    rw [h2] at hg
    rw [h4]
    exact h.sep i k s' t' h1 h3 hik g hg
  · rcases set_at hi with ⟨rfl, rfl, _⟩ | ⟨_, hi⟩
    · exact hl k hs
    · exact h.keyl i s k hi hs
/-- Bytes are put into a place. -/
theorem Hsh.put {i off : Nat} {r : HS} {d : List Int} (h : Hsh w B b cb mb ks sz L) (hr : L[i]? = some r) (ho : w'.ownsRow 0 5 1 (.slice r.A sz r.c) sz (u8s (splice r.bs off d))) (hk : Kept (fun j => (Value.slice r.A sz r.c).ownBlock ≠ some j) w w') :
    Hsh w' B b cb mb ks sz (putB L i off d) ∧ Kept (fun g => ¬ OfH b cb mb sz L g) w w' := by
  obtain ⟨a1, a2, a3, a4⟩ := h.apart
  have hA := sameA_putB L i off d
  rw [putB_some hr] at hA ⊢
  obtain ⟨hon, hfk⟩ := findK_bs (bs := splice r.bs off d) h.once hr
  have hne : ∀ g, (g = b ∨ g = cb ∨ g = mb) → (Value.slice r.A sz r.c).ownBlock ≠ some g := fun g hg e => by
    obtain ⟨e1, e2, e3⟩ := a4 i r hr g e
    rcases hg with hg | hg | hg
    · exact e1 hg
    · exact e2 hg
    · exact e3 hg
  have hL : ∀ (j : Nat) (s : HS), (L.set i { r with bs := splice r.bs off d })[j]? = some s → ∃ t, L[j]? = some t ∧ s.sl sz = t.sl sz ∧ s.key = t.key ∧ (j ≠ i → s = t) ∧ (j = i → s = { r with bs := splice r.bs off d }) := fun j s hj => by
    rcases set_at hj with ⟨rfl, rfl, _⟩ | ⟨h1, hj⟩
    · exact ⟨r, hr, rfl, rfl, fun h => absurd rfl h, fun _ => rfl⟩
    · exact ⟨s, hj, rfl, rfl, fun _ => rfl, fun e => absurd e h1⟩
  refine ⟨⟨?_, ?_, ?_, fun j s hj => ?_, fun g hg => h.low g (hg.same hA), fun j k s t hj hk2 hjk g hg => ?_, hon, fun j s k hj hs => ?_, h.big, by simpa using h.many, h.kbig⟩, hk.mono (fun g hg e => hg (.inr (.inr (.inr ⟨r, List.mem_of_getElem? hr, e⟩))))⟩
  · rw [List.length_set]
    exact (hk.block b (at_lt h.blk) (hne b (.inl rfl))).trans h.blk
  · rw [(hk.block cb (at_lt h.cel) (hne cb (.inr (.inl rfl)))), h.cel, cellsH_same sz L]
    apply List.ext_getElem?
    intro j
    simp only [List.getElem?_map]
    by_cases e : i = j
    · subst e
      have hi := (List.getElem?_eq_some_iff.1 hr).1
      rw [hr, List.getElem?_set_self hi]
      rfl
    · rw [List.getElem?_set_ne e]
  · have e1 : takenK (L.set i { r with bs := splice r.bs off d }) = takenK L := by
      have := takenK_set L i r { r with bs := splice r.bs off d } hr
      simp only at this
      omega
    rw [e1]
    refine (h.map.same (hk.block mb h.map.lt (hne mb (.inr (.inr rfl))))).congr (fun l _ => ?_)
    unfold placeF
    split
    · rw [hfk]
    · rfl
  · obtain ⟨t, ht, _, _, h1, h2⟩ := hL j s hj
    by_cases e : j = i
    · rw [h2 e]; exact ho
    · rw [h1 e]
      exact owns_kept (h.row j t ht) hk (fun g hg e2 => h.sep j i t r ht hr e g hg e2)
  · obtain ⟨s', h1, h2, _⟩ := hL j s hj
    obtain ⟨t', h3, h4, _⟩ := hL k t hk2
    rw [h2] at hg
    rw [h4]
    exact h.sep j k s' t' h1 h3 hjk g hg
  · obtain ⟨t, ht, _, hkk, _⟩ := hL j s hj
    exact h.keyl j t k ht (hkk ▸ hs)
theorem placeF_str (L : List HS) (k : List UInt8) : placeF L (.string k) = (findK L k).map fun (n : Nat) => Value.int .i64 (n : Int) := by unfold placeF; rfl
theorem Hsh.fewer (h : Hsh w B b cb mb ks sz L) : takenK L < maxLen := by
  have := takenK_le L
  have := h.many.2
  unfold maxLen
  omega
end
end Go.Proofs.YtolodcdhpnapmaaGreat
