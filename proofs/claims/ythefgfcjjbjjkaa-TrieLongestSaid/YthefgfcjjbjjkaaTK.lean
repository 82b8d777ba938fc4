/-
  A trie in memory.
-/
import Derived.Test.YthefgfcjjbjjkaaTJ
namespace Go.Proofs.Ythefgfcjjbjjkaa
open Go.RowKit
set_option linter.unusedVariables false
set_option linter.unusedSimpArgs false

def kslV : Option (Nat × List Int) → Value
  | none => .slice none 0 0
  | some (g, l) => .slice (some ⟨g, 0, none⟩) l.length l.length
def plC (sz i : Nat) (r : PL) : List Value := [.int .i64 i, .slice (some ⟨r.g, 0, none⟩) sz sz, kslV r.k]
/-- The cells of places from number i on. -/
def cellsF (sz : Nat) : Nat → List PL → List Value
  | _, [] => []
  | i, r :: P => plC sz i r ++ cellsF sz (i + 1) P
def cellsP (sz : Nat) (P : List PL) : List Value := cellsF sz 0 P
theorem cellsF_len (sz : Nat) : ∀ (i : Nat) (P : List PL), (cellsF sz i P).length = 3 * P.length
  | i, [] => rfl
  | i, r :: P => by simp [cellsF, plC, cellsF_len sz (i + 1) P]; omega
theorem cellsF_at (sz : Nat) : ∀ (b : Nat) (P : List PL) (i : Nat) (r : PL), P[i]? = some r → ∀ j, j < 3 → (cellsF sz b P)[3 * i + j]? = (plC sz (b + i) r)[j]?
  | b, [], i, r, h, j, hj => by simp at h
  | b, s :: P, 0, r, h, j, hj => by
    simp at h
    subst h
    simp only [cellsF, Nat.mul_zero, Nat.zero_add, Nat.add_zero]
    rw [List.getElem?_append_left (by simp [plC]; omega)]
  | b, s :: P, i + 1, r, h, j, hj => by
    simp only [List.getElem?_cons_succ] at h
    simp only [cellsF]
    rw [List.getElem?_append_right (by simp [plC]; omega)]
    have := cellsF_at sz (b + 1) P i r h j hj
    rw [show b + (i + 1) = b + 1 + i by omega, ← this]
    congr 1
    simp [plC]
    omega
theorem cellsF_set (sz : Nat) : ∀ (b : Nat) (P : List PL) (i : Nat) (r : PL) (k : Option (Nat × List Int)), P[i]? = some r → (cellsF sz b P).set (3 * i + 2) (kslV k) = cellsF sz b (P.set i { r with k := k })
  | b, [], i, r, k, h => by simp at h
  | b, s :: P, 0, r, k, h => by
    simp at h
    subst h
    simp [cellsF, plC]
  | b, s :: P, i + 1, r, k, h => by
    simp only [List.getElem?_cons_succ] at h
    simp only [cellsF, List.set_cons_succ]
    rw [← cellsF_set sz (b + 1) P i r k h, List.set_append, if_neg (by simp [plC]; omega)]
    congr 2
theorem cellsF_val (sz : Nat) : ∀ (b : Nat) (P : List PL) (i : Nat) (r : PL) (v : List Int), P[i]? = some r → cellsF sz b (P.set i { r with v := v }) = cellsF sz b P
  | b, [], i, r, v, h => by simp at h
  | b, s :: P, 0, r, v, h => by
    simp at h
    subst h
    simp [cellsF, plC]
  | b, s :: P, i + 1, r, v, h => by
    simp only [List.getElem?_cons_succ] at h
    simp only [cellsF, List.set_cons_succ]
    rw [cellsF_val sz (b + 1) P i r v h]
theorem cellsP_at {sz : Nat} {P : List PL} {i : Nat} {r : PL} (h : P[i]? = some r) : (cellsP sz P)[3 * i]? = some (.int .i64 i) ∧ (cellsP sz P)[3 * i + 1]? = some (.slice (some ⟨r.g, 0, none⟩) sz sz) ∧ (cellsP sz P)[3 * i + 2]? = some (kslV r.k) := by
  have h0 := cellsF_at sz 0 P i r h 0 (by omega)
  have h1 := cellsF_at sz 0 P i r h 1 (by omega)
  have h2 := cellsF_at sz 0 P i r h 2 (by omega)
  simp only [Nat.zero_add] at h0 h1 h2
  exact ⟨h0, h1, h2⟩
/-- The blocks of a trie. -/
def OfT (t : TP) (P : List PL) (N : List Bool → Nat) (g : Nat) : Prop := OfX t (prP P) N g ∨ g = t.cb ∨ (∃ r ∈ P, g = r.g) ∨ ∃ r ∈ P, ∃ l, r.k = some (g, l)
structure Tri (w : World) (B : Nat) (t : TP) (P : List PL) (N : List Bool → Nat) : Prop where
  tree : TreeX w t (prP P) (cntP P) (thP t.cb P) N
  cel : w.heap[t.cb]? = some (.cells (cellsP t.sz P).toArray 77 (0, 0))
  len : P.length = t.n
  row : ∀ r ∈ P, w.heap[r.g]? = some (.cells (u8s r.v).toArray 5 (0, 0)) ∧ r.v.length = t.sz
  key : ∀ r ∈ P, ∀ g l, r.k = some (g, l) → w.heap[g]? = some (.cells (u8s l).toArray 5 (0, 0)) ∧ l.length = t.ks ∧ (∀ b ∈ l, IsByte b) ∧ bcN l ≤ 8 * (t.ks - 4)
  low : ∀ g, OfT t P N g → B ≤ g
  sep : ∀ (i j : Nat) (r s : PL), P[i]? = some r → P[j]? = some s → i ≠ j → r.g ≠ s.g
  apart : ∀ r ∈ P, ∀ s ∈ P, ∀ g l, s.k = some (g, l) → g ≠ r.g
  one : OneP P
  big : 1 ≤ t.sz ∧ t.sz ≤ 1024
  many : 1 ≤ t.n ∧ t.n ≤ 1024
  kbig : 5 ≤ t.ks ∧ t.ks ≤ 36
/-- What a call makes of a trie. -/
def TGo (B : Nat) (t : TP) (P : List PL) (N : List Bool → Nat) (P' : List PL) (N' : List Bool → Nat) (w w' : World) : Prop :=
  Tri w' B t P' N' ∧ Kept (fun g => ¬ OfT t P N g) w w' ∧ ∀ g, OfT t P' N' g → OfT t P N g ∨ w.heap.size ≤ g
section
variable {w w' w2 : World} {B : Nat} {t : TP} {P P' P2 : List PL} {N N' N2 : List Bool → Nat}
theorem Tri.lt (h : Tri w B t P N) : ∀ g, OfT t P N g → g < w.heap.size := by
  rintro g ((rfl | ⟨p, hp, rfl⟩) | rfl | ⟨r, hr, rfl⟩ | ⟨r, hr, l, hk⟩)
  · exact at_lt h.tree.blk
  · exact at_lt (h.tree.node p hp)
  · exact at_lt h.cel
  · exact at_lt (h.row r hr).1
  · exact at_lt (h.key r hr g l hk).1
/-- Where all its blocks lie as they lay, so does the trie. -/
theorem Tri.same (h : Tri w B t P N) (hs : ∀ g, OfT t P N g → w'.heap[g]? = w.heap[g]?) : Tri w' B t P N :=
  ⟨h.tree.same (hs _ (.inl (.inl rfl))) (fun p hp => hs _ (.inl (.inr ⟨p, hp, rfl⟩))), (hs _ (.inr (.inl rfl))).trans h.cel, h.len, fun r hr => ⟨(hs _ (.inr (.inr (.inl ⟨r, hr, rfl⟩)))).trans (h.row r hr).1, (h.row r hr).2⟩,
    fun r hr g l hk => ⟨(hs _ (.inr (.inr (.inr ⟨r, hr, l, hk⟩)))).trans (h.key r hr g l hk).1, (h.key r hr g l hk).2⟩, h.low, h.sep, h.apart, h.one, h.big, h.many, h.kbig⟩
theorem Tri.below {m : Nat} (h : Tri w B t P N) (hm : w.heap.size ≤ m) (hb : Below m w w') : Tri w' B t P N := h.same (fun g hg => hb.block g (Nat.lt_of_lt_of_le (h.lt g hg) hm))
theorem Tri.kept {F : Nat → Prop} (h : Tri w B t P N) (hk : Kept F w w') (hF : ∀ g, OfT t P N g → F g) : Tri w' B t P N := h.same (fun g hg => hk.block g (h.lt g hg) (hF g hg))
theorem TGo.no (h : Tri w B t P N) (hb : Below w.heap.size w w') : TGo B t P N P N w w' := ⟨h.below (Nat.le_refl _) hb, Kept.of_below hb, fun g hg => .inl hg⟩
theorem TGo.trans (h : TGo B t P N P' N' w w') (h2 : TGo B t P' N' P2 N2 w' w2) (hlt : ∀ g, OfT t P N g → g < w.heap.size) : TGo B t P N P2 N2 w w2 := by
  refine ⟨h2.1, ⟨h2.2.1.os.trans h.2.1.os, h2.2.1.tape.trans h.2.1.tape, h2.2.1.output.trans h.2.1.output, Nat.le_trans h.2.1.size h2.2.1.size, fun k hk hF => ?_⟩, fun g hg => ?_⟩
  · refine (h2.2.1.block k (Nat.lt_of_lt_of_le hk h.2.1.size) (fun hg => ?_)).trans (h.2.1.block k hk hF)
    rcases h.2.2 k hg with h3 | h3
    · exact hF h3
    · omega
  · rcases h2.2.2 g hg with h3 | h3
    · exact h.2.2 g h3
    · exact .inr (Nat.le_trans h.2.1.size h3)
theorem TGo.below (h : TGo B t P N P' N' w w') (hb : Below w'.heap.size w' w2) : TGo B t P N P' N' w w2 :=
  ⟨h.1.below (Nat.le_refl _) hb, h.2.1.later hb, h.2.2⟩
theorem TGo.after (hb : Below w.heap.size w w') (h : TGo B t P N P' N' w' w2) (hlt : ∀ g, OfT t P N g → g < w.heap.size) : TGo B t P N P' N' w w2 :=
  ⟨h.1, ⟨h.2.1.os.trans hb.os, h.2.1.tape.trans hb.tape, h.2.1.output.trans hb.output, Nat.le_trans hb.size h.2.1.size, fun k hk hF => (h.2.1.block k (Nat.lt_of_lt_of_le hk hb.size) hF).trans (hb.block k hk)⟩, fun g hg => (h.2.2 g hg).imp id (fun h3 => Nat.le_trans hb.size h3)⟩
theorem TGo.low_ (h : Tri w B t P N) (hg : TGo B t P N P' N' w w') (hB : B ≤ w.heap.size) : Below B w w' := hg.2.1.to_below (fun g hgB ho => by have := h.low g ho; omega) hB
theorem Tri.c (h : Tri w B t P N) (i : Nat) : w.cell? ⟨t.tb, i, none⟩ = (trieC t (ptN (prP P) N []))[i]? := blk_cell h.tree.blk i
theorem Tri.at_ (h : Tri w B t P N) {i : Nat} {r : PL} (hr : P[i]? = some r) : w.cell? ⟨t.cb, i * 3, none⟩ = some (.int .i64 i) ∧ w.cell? ⟨t.cb, i * 3 + 1, none⟩ = some (.slice (some ⟨r.g, 0, none⟩) t.sz t.sz) ∧ w.cell? ⟨t.cb, i * 3 + 2, none⟩ = some (kslV r.k) := by
  rw [Nat.mul_comm i 3]
  obtain ⟨h0, h1, h2⟩ := cellsP_at (sz := t.sz) hr
  rw [blk_cell h.cel, blk_cell h.cel, blk_cell h.cel]
  exact ⟨by simpa using h0, by simpa using h1, by simpa using h2⟩
theorem Tri.tb_cb (h : Tri w B t P N) : t.tb ≠ t.cb := fun e => by
  have h1 := h.tree.blk
  rw [e, h.cel] at h1
  injection h1 with h1
  injection h1 with _ h1 _
  cases h1
theorem Tri.keyRd (h : Tri w B t P N) {i g : Nat} {r : PL} {l : List Int} (hr : P[i]? = some r) (hk : r.k = some (g, l)) : Rd w w.heap.size 1 (some ⟨g, 0, none⟩) t.ks (u8s l) := by
  obtain ⟨h1, h2, _⟩ := h.key r (List.mem_of_getElem? hr) g l hk
  refine ⟨by simp [u8s, h2], fun _ => ⟨_, rfl, at_lt h1, fun j u hu => ?_⟩⟩
  have e : (⟨g, 0, none⟩ : Addr).add j = ⟨g, j, none⟩ := by unfold Addr.add; split <;> simp_all
  rw [e, blk_cell h1]
  simpa using hu
end
end Go.Proofs.Ythefgfcjjbjjkaa
