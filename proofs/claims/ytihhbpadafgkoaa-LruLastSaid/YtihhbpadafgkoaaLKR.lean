/-
  Keys that are told: rows of their own bytes.
-/
import Derived.Test.YtihhbpadafgkoaaLUD
import Derived.Laws.IdiomStrings
namespace Go.Proofs.Ytihhbpadafgkoaa
open Go.RowKit Go.Maps
set_option linter.unusedVariables false

/-- A key that is told: a row of its own bytes. -/
structure KR where
  g : Nat
  k : List UInt8
  cap : Nat
def KR.sl (r : KR) : Value := .slice (some ⟨r.g, 0, none⟩) r.k.length r.cap
def ints (k : List UInt8) : List Int := k.map fun x => (x.toNat : Int)
theorem ints_byte (k : List UInt8) : ∀ x ∈ ints k, IsByte x := by
  intro x hx
  unfold ints at hx
  obtain ⟨b, _, rfl⟩ := List.mem_map.1 hx
  have := b.toNat_lt
  unfold IsByte
  omega
theorem kb_ints (k : List UInt8) : kb (ints k) = k := by
  unfold kb ints
  rw [List.map_map]
  conv => rhs; rw [← List.map_id k]
  apply List.map_congr_left
  intro x _
  simp
theorem ints_kb {l : List Int} (h : ∀ x ∈ l, IsByte x) : ints (kb l) = l := by
  unfold kb ints
  rw [List.map_map]
  conv => rhs; rw [← List.map_id l]
  apply List.map_congr_left
  intro x hx
  have := h x hx
  unfold IsByte at this
  simp only [Function.comp_apply, id_eq]
  rw [UInt8.toNat_ofNat']
  omega
def KR.At (w : World) (r : KR) : Prop := ∃ cur m, w.heap[r.g]? = some (.cells cur 5 (m, m + 1)) ∧ cur.size = m ∧ r.k.length ≤ m ∧ cur.toList.take r.k.length = u8s (ints r.k)
theorem KR.At.rd {w : World} {r : KR} (h : r.At w) : Rd w w.heap.size 1 (some ⟨r.g, 0, none⟩) r.k.length (u8s (ints r.k)) := by
  obtain ⟨cur, m, h1, h2, h3, h4⟩ := h
  refine ⟨by simp [u8s, ints], fun _ => ⟨_, rfl, at_lt h1, fun j u hu => ?_⟩⟩
  rw [add_own]
  unfold World.cell?
  rw [h1]
  rw [← h4, List.getElem?_take] at hu
  split at hu
  · simpa using hu
  · cases hu
structure KeysTold (w : World) (B : Nat) (v : Value) (rs : List KR) : Prop where
  row : w.ownsRow 0 35 1 v rs.length (rs.map KR.sl)
  low : ∀ g, v.ownBlock = some g → B ≤ g
  each : ∀ r ∈ rs, r.At w ∧ B ≤ r.g
  sep : ∀ (i j : Nat) (r s : KR), rs[i]? = some r → rs[j]? = some s → i ≠ j → r.g ≠ s.g
theorem KeysTold.off {w : World} {B : Nat} {v : Value} {rs : List KR} (h : KeysTold w B v rs) {r : KR} (hr : r ∈ rs) : v.ownBlock ≠ some r.g := fun e => by
  obtain ⟨cur, hc⟩ := owned_cells h.row e
  obtain ⟨c2, m, h1, _⟩ := (h.each r hr).1
  rw [hc] at h1
  injection h1 with h1
  injection h1 with _ h1
  exact absurd h1 (by decide)
theorem KR.At.kept {F : Nat → Prop} {w w' : World} {r : KR} (h : r.At w) (hk : Kept F w w') (hF : F r.g) : r.At w' := by
  obtain ⟨cur, m, h1, h2⟩ := h
  exact ⟨cur, m, (hk.block _ (at_lt h1) hF).trans h1, h2⟩
theorem KeysTold.kept {F : Nat → Prop} {w w' : World} {B : Nat} {v : Value} {rs : List KR} (h : KeysTold w B v rs) (hk : Kept F w w') (hv : ∀ g, v.ownBlock = some g → F g) (hr : ∀ r ∈ rs, F r.g) : KeysTold w' B v rs :=
  ⟨owns_kept h.row hk hv, h.low, fun r hm => ⟨(h.each r hm).1.kept hk (hr r hm), (h.each r hm).2⟩, h.sep⟩
theorem KeysTold.below {w w' : World} {B : Nat} {v : Value} {rs : List KR} (h : KeysTold w B v rs) (hb : Below w.heap.size w w') : KeysTold w' B v rs :=
  h.kept (F := fun _ => True) (Kept.of_below hb) (fun _ _ => trivial) (fun _ _ => trivial)
theorem rows22 : (Try.prog.info? 35).map (fun i => (i.zero, i.size, i.bytes)) = some (some (.slice none 0 0), 1, 24) := by kernel_rfl
/-- A key's text becomes a row of its own. -/
theorem conv_text (w : World) (k : List UInt8) : ∃ cap, (convert 9 35 (encStr k)).run Try.prog w = .ok (.slice (some ⟨w.heap.size, 0, none⟩) k.length cap) (w.drew.alloc (.cells (bytesRow ⟨k.toArray⟩ cap) 5 ((bytesRow ⟨k.toArray⟩ cap).size, (bytesRow ⟨k.toArray⟩ cap).size + 1))) := by
  refine ⟨grownCap w (ByteArray.size ⟨k.toArray⟩) 0 5, ?_⟩
  have := run_bytes_of_string (P := Try.prog) w 9 35 5 ⟨k.toArray⟩ Try.underlying9 Try.underlying35 Try.underlying5
  simpa [encStr, ByteArray.size] using this
theorem text_at (w : World) (k : List UInt8) (cap : Nat) : KR.At (w.drew.alloc (.cells (bytesRow ⟨k.toArray⟩ cap) 5 ((bytesRow ⟨k.toArray⟩ cap).size, (bytesRow ⟨k.toArray⟩ cap).size + 1))) ⟨w.heap.size, k, cap⟩ := by
  refine ⟨bytesRow ⟨k.toArray⟩ cap, (bytesRow ⟨k.toArray⟩ cap).size, World.alloc_heap_new w.drew _, rfl, ?_, ?_⟩
  · simp [bytesRow]
  · simp [bytesRow, u8s, ints]
/-- One key more is told. -/
theorem KeysTold.more {w w1 w2 : World} {B : Nat} {v v' : Value} {rs : List KR} {r : KR} (h : KeysTold w B v rs) (hB : B ≤ w.heap.size) (hb : Below w.heap.size w w1) (hr : r.At w1) (hg : r.g = w.heap.size) (hl : Longer w1 w2 35 1 v v' (rs.length + 1) (rs.map KR.sl ++ [r.sl])) (hw1 : w.heap.size < w1.heap.size) : KeysTold w2 B v' (rs ++ [r]) := by
  obtain ⟨h1, h2, h3⟩ := hl
  have hk : Kept (fun g => v.ownBlock ≠ some g) w1 w2 := (Kept.refl _ w1).grown h2 (fun g e _ hh => hh e)
  have hlt : ∀ s ∈ rs, s.g < w.heap.size := fun s hs => by
    obtain ⟨c, m, g1, _⟩ := (h.each s hs).1
    exact at_lt g1
  have hvl : ∀ g, v.ownBlock = some g → g < w.heap.size := fun g hg => (h.row.lt g hg).2
  refine ⟨by rw [List.length_append, List.map_append]; exact h1, fun g hg' => ?_, fun s hs => ?_, fun i j s t hi hj hij => ?_⟩
  · rcases h3 with h3 | h3
    · exact h.low g (h3 ▸ hg')
    · rw [h3] at hg'
      injection hg' with hg'
      omega
  · rcases List.mem_append.1 hs with hs | hs
    · exact ⟨((h.each s hs).1.kept (Kept.of_below hb : Kept (fun _ => True) w w1) trivial).kept hk (h.off hs), (h.each s hs).2⟩
    · simp at hs
      subst hs
      exact ⟨hr.kept hk (fun e => by have := hvl _ e; omega), by omega⟩
  · have hat : ∀ (i : Nat) (s : KR), (rs ++ [r])[i]? = some s → (rs[i]? = some s ∧ i < rs.length) ∨ (i = rs.length ∧ s = r) := fun i s hi => by
      by_cases hl : i < rs.length
      · rw [List.getElem?_append_left hl] at hi
        exact .inl ⟨hi, hl⟩
      · rw [List.getElem?_append_right (by omega)] at hi
        by_cases e : i = rs.length
        · subst e
          simp at hi
          exact .inr ⟨rfl, hi.symm⟩
        · rw [List.getElem?_eq_none (by simp; omega)] at hi; cases hi
    rcases hat i s hi with ⟨hi2, _⟩ | ⟨e1, e1'⟩
    · rcases hat j t hj with ⟨hj2, _⟩ | ⟨e2, e2'⟩
      · exact h.sep i j s t hi2 hj2 hij
      · have := hlt s (List.mem_of_getElem? hi2); rw [e2']; omega
    · rcases hat j t hj with ⟨hj2, _⟩ | ⟨e2, e2'⟩
      · have := hlt t (List.mem_of_getElem? hj2); rw [e1']; omega
      · omega
theorem KeysTold.stays {b B : Nat} {w w' : World} {v : Value} {rs : List KR} (h : KeysTold w B v rs) (hs : Stays b w w') : KeysTold w' B v rs :=
  ⟨hs.owns h.row, h.low, fun r hm => ⟨by
    obtain ⟨cur, m, h1, h2⟩ := (h.each r hm).1
    exact ⟨cur, m, hs.same _ _ h1 (.inr rfl), h2⟩, (h.each r hm).2⟩, h.sep⟩
theorem KeysTold.less {B B' : Nat} {w : World} {v : Value} {rs : List KR} (h : KeysTold w B v rs) (hB : B' ≤ B) : KeysTold w B' v rs :=
  ⟨h.row, fun g hg => Nat.le_trans hB (h.low g hg), fun r hm => ⟨(h.each r hm).1, Nat.le_trans hB (h.each r hm).2⟩, h.sep⟩
theorem keysTold_nil (w : World) (B : Nat) : KeysTold w B (.slice none 0 0) [] := ⟨owns_nil _ _ _, (fun g hg => by cases hg), (fun r hr => by simp at hr), (fun i j r s hi => by simp at hi)⟩
end Go.Proofs.Ytihhbpadafgkoaa
