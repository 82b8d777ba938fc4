/-
  A place of the document's hash is stored whole.
-/
import Derived.Test.YtolodcdhpnapmaaGreatHF3
namespace Go.Proofs.YtolodcdhpnapmaaGreat
open Go.RowKit Go.Maps Go.Sort
set_option linter.unusedVariables false

def HS.v0 (t : HS) : Value := .bool t.key.isSome
def HS.v1 (t : HS) : Value := encStr (t.key.getD [])
theorem cellsR_len (sz : Nat) (M : List HS) : (cellsR sz M).length = M.length * 3 := flat_length (HS.vals3 sz) 3 (fun _ => rfl) M
theorem cellsR_set (sz : Nat) : ∀ (M : List HS) (i : Nat) (t : HS), i < M.length → (((cellsR sz M).set (i * 3) t.v0).set (i * 3 + 1) t.v1).set (i * 3 + 2) (t.sl sz) = cellsR sz (M.set i t)
  | [], i, _, h => by simp at h
  | s :: M, 0, t, _ => rfl
  | s :: M, i + 1, t, h => by
    have e : ∀ (t : HS) (M : List HS), cellsR sz (t :: M) = t.v0 :: t.v1 :: t.sl sz :: cellsR sz M := fun _ _ => rfl
    have h3 : ∀ (a b c : Value) (l : List Value) (n : Nat) (v : Value), (a :: b :: c :: l).set (n + 3) v = a :: b :: c :: l.set n v := fun _ _ _ _ _ _ => rfl
    have ih := cellsR_set sz M i t (by simpa using h)
    rw [List.set_cons_succ, e, e, show (i + 1) * 3 = i * 3 + 3 by omega, show i * 3 + 3 + 1 = (i * 3 + 1) + 3 by omega, show i * 3 + 3 + 2 = (i * 3 + 2) + 3 by omega, h3, h3, h3, ih]
theorem owns_at3 {W : World} {e : TypeId} {sz y n c q : Nat} {xs : List Value} {v : Value} (h : W.ownsRow 0 e sz (.slice (some ⟨y, 0, none⟩) n c) n xs) (hq : xs[q]? = some v) : W.cell? ⟨y, q, none⟩ = some v := by
  have hrd := Rd.of_own h
  have hlt := (List.getElem?_eq_some_iff.1 hq).1
  obtain ⟨ad, e, _, hc⟩ := hrd.2 (by
    have := hrd.1
    rcases Nat.eq_zero_or_pos n with h0 | h0
    · subst h0; omega
    · exact h0)
  injection e with e
  subst e
  have := hc q v hq
  rwa [add_own] at this
/-- The world behind the store of a place. -/
def stored3 (w : World) (y i sz : Nat) (t : HS) : World := ((w.setCell ⟨y, i * 3, none⟩ t.v0).setCell ⟨y, i * 3 + 1, none⟩ t.v1).setCell ⟨y, i * 3 + 2, none⟩ (t.sl sz)
theorem RHsh.store {w : World} {B x y lc ks sz i : Nat} {M : List HS} {r t : HS} (h : RHsh w B x y lc ks sz M) (hr : M[i]? = some r) (hxy : x ≠ y) (ho : w.ownsRow 0 5 1 (.slice t.A sz t.c) sz (u8s t.bs)) (hoy : (t.sl sz).ownBlock ≠ some y)
    (hs : ∀ (j : Nat) (s : HS), M[j]? = some s → j ≠ i → ∀ g, (t.sl sz).ownBlock = some g → (s.sl sz).ownBlock ≠ some g) (hB : ∀ g, (t.sl sz).ownBlock = some g → B ≤ g) (hkl : ∀ k, t.key = some k → k.length = ks) :
    RHsh (stored3 w y i sz t) B x y lc ks sz (M.set i t) ∧ Kept (fun g => g ≠ y) w (stored3 w y i sz t) := by
  have hlt := (List.getElem?_eq_some_iff.1 hr).1
  have hk : Kept (fun g => g ≠ y) w (stored3 w y i sz t) := ((((Kept.refl (fun g => g ≠ y) w).setCell (fun _ e => e rfl) _).setCell (fun _ e => e rfl) _).setCell (fun _ e => e rfl) _)
  have hat : ∀ (j : Nat) (s : HS), (M.set i t)[j]? = some s → (j = i ∧ s = t) ∨ (j ≠ i ∧ M[j]? = some s) := fun j s hs => by
    rcases set_at hs with ⟨a, b, _⟩ | hh
    · exact .inl ⟨a, b⟩
    · exact .inr hh
  refine ⟨⟨by rw [List.length_set]; exact (hk.block x (at_lt h.blk) hxy).trans h.blk, ?_, fun j s hs => ?_, fun g hg => ?_, ?_, fun j s k hs hk' => ?_, h.big, by rw [List.length_set]; exact h.many, h.kbig⟩, hk⟩
  · rw [List.length_set, ← cellsR_set sz M i t hlt]
    exact owns_set (owns_set (owns_set h.row (by omega) _) (by omega) _) (by omega) _
  · rcases hat j s hs with ⟨rfl, rfl⟩ | ⟨hne, hs'⟩
    · exact owns_kept ho hk (fun g hg e => hoy (e ▸ hg))
    · exact owns_kept (h.each j s hs') hk (fun g hg e => (h.off hs').2 (e ▸ hg))
  · rcases hg with e | e | ⟨s, hs, hg⟩
    · exact h.low g (.inl e)
    · exact h.low g (.inr (.inl e))
    · rcases List.mem_or_eq_of_mem_set hs with hs | rfl
      · exact h.low g (.inr (.inr ⟨s, hs, hg⟩))
      · exact hB g hg
  · intro a b s u ha hb hne g hg hg'
    rcases hat a s ha with ⟨rfl, rfl⟩ | ⟨na, ha'⟩
    · rcases hat b u hb with ⟨rfl, rfl⟩ | ⟨nb, hb'⟩
      · exact hne rfl
      · exact hs b u hb' nb g hg hg'
    · rcases hat b u hb with ⟨rfl, rfl⟩ | ⟨nb, hb'⟩
      · exact hs a s ha' na g hg' hg
      · exact h.sep a b s u ha' hb' hne g hg hg'
  · rcases hat j s hs with ⟨rfl, rfl⟩ | ⟨_, hs'⟩
    · exact hkl k hk'
    · exact h.keyl j s k hs' hk'
/-- What a store of a place asks of the memory. -/
theorem store3_ok {w : World} {B x y lc ks sz i : Nat} {M : List HS} {r : HS} (h : RHsh w B x y lc ks sz M) (hr : M[i]? = some r) (a b : Value) :
    w.cell? ⟨y, i * 3, none⟩ = some r.v0 ∧ w.frozen? ⟨y, i * 3, none⟩ = false ∧ (w.setCell ⟨y, i * 3, none⟩ a).cell? ⟨y, i * 3 + 1, none⟩ = some r.v1 ∧ (w.setCell ⟨y, i * 3, none⟩ a).frozen? ⟨y, i * 3 + 1, none⟩ = false ∧
    ((w.setCell ⟨y, i * 3, none⟩ a).setCell ⟨y, i * 3 + 1, none⟩ b).cell? ⟨y, i * 3 + 2, none⟩ = some (r.sl sz) ∧ ((w.setCell ⟨y, i * 3, none⟩ a).setCell ⟨y, i * 3 + 1, none⟩ b).frozen? ⟨y, i * 3 + 2, none⟩ = false := by
  have hlt := (List.getElem?_eq_some_iff.1 hr).1
  have hl := cellsR_len sz M
  have e : ∀ t, t < 3 → (cellsR sz M)[i * 3 + t]? = (HS.vals3 sz r)[t]? := fun t ht => by
    unfold cellsR
    rw [flat_at (HS.vals3 sz) 3 (fun _ => rfl) M i t ht, hr]
    rfl
  have o1 := owns_set h.row (j := i * 3) (by omega) a
  have o2 := owns_set o1 (j := i * 3 + 1) (by omega) b
  refine ⟨h.is hr, owns_free h.row _, owns_at3 o1 ?_, owns_free o1 _, owns_at3 o2 ?_, owns_free o2 _⟩
  · rw [List.getElem?_set_ne (by omega)]
    exact e 1 (by omega)
  · rw [List.getElem?_set_ne (by omega), List.getElem?_set_ne (by omega)]
    exact e 2 (by omega)
end Go.Proofs.YtolodcdhpnapmaaGreat
