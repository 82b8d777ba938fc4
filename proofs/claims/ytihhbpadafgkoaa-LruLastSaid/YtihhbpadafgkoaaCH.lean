/-
  A ring of blocks, each of which has two neighbours: one is taken out, one is put in. No program is named here.
-/
import Derived.Test.YtihhbpadafgkoaaHM2
namespace Go.Proofs.Ytihhbpadafgkoaa
open Go.RowKit Go.Maps
set_option linter.unusedVariables false
set_option linter.unusedSimpArgs false

/-- e, gs and e again follow one another, by nx forward and by pv back. -/
def Lnk (e : Nat) (gs : List Nat) (nx pv : Nat → Nat) : Prop := ∀ (j u v : Nat), (e :: gs)[j]? = some u → (gs ++ [e])[j]? = some v → nx u = v ∧ pv v = u
theorem nodup_at {α : Type} {l : List α} (h : l.Nodup) {i j : Nat} {u : α} (hi : l[i]? = some u) (hj : l[j]? = some u) : i = j := by
  obtain ⟨a, rfl⟩ := List.getElem?_eq_some_iff.1 hi
  obtain ⟨b, e⟩ := List.getElem?_eq_some_iff.1 hj
  exact (List.getElem_inj h).1 e.symm
theorem nodup_turn {e : Nat} {gs : List Nat} (h : (e :: gs).Nodup) : (gs ++ [e]).Nodup := by
  rw [List.nodup_cons] at h
  rw [List.nodup_append]
  exact ⟨h.2, by simp, fun a ha b hb => by simp at hb; subst hb; exact fun e2 => h.1 (e2 ▸ ha)⟩
section
variable {e x i : Nat} {gs : List Nat} {nx pv : Nat → Nat}
theorem Lnk.prev (h : Lnk e gs nx pv) (hx : gs[i]? = some x) : (e :: gs)[i]? = some (pv x) := by
  have hi := (List.getElem?_eq_some_iff.1 hx).1
  have h1 : (e :: gs)[i]? = some ((e :: gs)[i]'(by simp; omega)) := List.getElem?_eq_getElem _
  have h2 : (gs ++ [e])[i]? = some x := by rw [List.getElem?_append_left hi]; exact hx
  rw [h1, (h i _ x h1 h2).2]
theorem Lnk.next (h : Lnk e gs nx pv) (hx : gs[i]? = some x) : (gs ++ [e])[i + 1]? = some (nx x) := by
  have hi := (List.getElem?_eq_some_iff.1 hx).1
  have h1 : (gs ++ [e])[i + 1]? = some ((gs ++ [e])[i + 1]'(by simp; omega)) := List.getElem?_eq_getElem _
  have h2 : (e :: gs)[i + 1]? = some x := by rw [List.getElem?_cons_succ]; exact hx
  rw [h1, (h (i + 1) x _ h2 h1).1]
theorem Lnk.first (h : Lnk e gs nx pv) : (gs ++ [e])[0]? = some (nx e) := by
  have h1 : (gs ++ [e])[0]? = some ((gs ++ [e])[0]'(by simp)) := List.getElem?_eq_getElem _
  rw [h1, (h 0 e _ rfl h1).1]
theorem Lnk.last (h : Lnk e gs nx pv) : (e :: gs)[gs.length]? = some (pv e) := by
  have h1 : (e :: gs)[gs.length]? = some ((e :: gs)[gs.length]'(by simp)) := List.getElem?_eq_getElem _
  have h2 : (gs ++ [e])[gs.length]? = some e := by rw [List.getElem?_append_right (Nat.le_refl _)]; simp
  rw [h1, (h _ _ e h1 h2).2]
theorem Lnk.in_ (h : Lnk e gs nx pv) {u : Nat} (hu : u ∈ e :: gs) : nx u ∈ e :: gs ∧ pv u ∈ e :: gs := by
  have hm : ∀ v, v ∈ gs ++ [e] → v ∈ e :: gs := fun v hv => by simp at hv ⊢; exact hv.symm
  rcases List.mem_cons.1 hu with rfl | hu
  · exact ⟨hm _ (List.mem_of_getElem? h.first), List.mem_of_getElem? h.last⟩
  · obtain ⟨i, hi⟩ := List.mem_iff_getElem?.1 hu
    exact ⟨hm _ (List.mem_of_getElem? (h.next hi)), List.mem_of_getElem? (h.prev hi)⟩
theorem erase_turn (hi : i < gs.length) : gs.eraseIdx i ++ [e] = (gs ++ [e]).eraseIdx i := by rw [List.eraseIdx_append_of_lt_length hi]
/-- One goes: its neighbours are each other's. -/
theorem Lnk.out (h : Lnk e gs nx pv) (hn : (e :: gs).Nodup) (hx : gs[i]? = some x) : Lnk e (gs.eraseIdx i) (fun b => if b = pv x then nx x else nx b) (fun b => if b = nx x then pv x else pv b) := by
  have hi := (List.getElem?_eq_some_iff.1 hx).1
  have hp := h.prev hx
  have hq := h.next hx
  have hn2 := nodup_turn hn
  intro j u v hu hv
  rw [show e :: gs.eraseIdx i = (e :: gs).eraseIdx (i + 1) from rfl, List.getElem?_eraseIdx] at hu
  rw [erase_turn hi, List.getElem?_eraseIdx] at hv
  rcases Nat.lt_trichotomy j i with hji | hji | hji
  · rw [if_pos (by omega)] at hu
    rw [if_pos hji] at hv
    have h1 : u ≠ pv x := fun e2 => by subst e2; have := nodup_at hn hu hp; omega
    have h2 : v ≠ nx x := fun e2 => by subst e2; have := nodup_at hn2 hv hq; omega
    simp only [if_neg h1, if_neg h2]
    exact h j u v hu hv
  · subst hji
    rw [if_pos (by omega)] at hu
    rw [if_neg (by omega)] at hv
    rw [hp] at hu
    rw [hq] at hv
    cases hu
    cases hv
    simp
  · rw [if_neg (by omega)] at hu
    rw [if_neg (by omega)] at hv
    have h1 : u ≠ pv x := fun e2 => by subst e2; have := nodup_at hn hu hp; omega
    have h2 : v ≠ nx x := fun e2 => by subst e2; have := nodup_at hn2 hv hq; omega
    simp only [if_neg h1, if_neg h2]
    exact h (j + 1) u v hu hv
/-- One comes, as the last. -/
theorem Lnk.more (h : Lnk e gs nx pv) (hn : (e :: gs).Nodup) (hx : x ∉ e :: gs) : Lnk e (gs ++ [x]) (fun b => if b = pv e then x else if b = x then e else nx b) (fun b => if b = e then x else if b = x then pv e else pv b) := by
  have hp := h.last
  have hpx : pv e ≠ x := fun e2 => hx (e2 ▸ List.mem_of_getElem? hp)
  have hex : e ≠ x := fun e2 => hx (by simp [e2])
  intro j u v hu hv
  rw [show e :: (gs ++ [x]) = (e :: gs) ++ [x] from rfl] at hu
  rw [show gs ++ [x] ++ [e] = gs ++ [x, e] by simp] at hv
  rcases Nat.lt_trichotomy j gs.length with hj | hj | hj
  · rw [List.getElem?_append_left (by simp; omega)] at hu
    rw [List.getElem?_append_left hj] at hv
    have h1 : u ≠ pv e := fun e2 => by subst e2; have := nodup_at hn hu hp; omega
    have h2 : u ≠ x := fun e2 => hx (e2 ▸ List.mem_of_getElem? hu)
    have h3 : v ≠ e := fun e2 => by subst e2; exact (List.nodup_cons.1 hn).1 (List.mem_of_getElem? hv)
    have h4 : v ≠ x := fun e2 => hx (by subst e2; exact List.mem_cons_of_mem _ (List.mem_of_getElem? hv))
    simp only [if_neg h1, if_neg h2, if_neg h3, if_neg h4]
    exact h j u v hu (by rw [List.getElem?_append_left hj]; exact hv)
  · subst hj
    rw [List.getElem?_append_left (by simp), hp] at hu
    rw [List.getElem?_append_right (Nat.le_refl _)] at hv
    simp at hv
    cases hu
    subst hv
    simp only [if_pos rfl, if_neg (fun e2 => hex e2.symm : ¬ x = e)]
    simp
  · have hj2 : j = gs.length + 1 := by
      have := (List.getElem?_eq_some_iff.1 hu).1
      simp at this
      omega
    subst hj2
    rw [List.getElem?_append_right (by simp)] at hu
    rw [List.getElem?_append_right (by omega)] at hv
    simp at hu hv
    subst hu
    subst hv
    simp only [if_neg (fun e2 => hpx e2.symm : ¬ x = pv e), if_pos rfl]
    simp
theorem Lnk.none (e : Nat) (nx pv : Nat → Nat) (h1 : nx e = e) (h2 : pv e = e) : Lnk e [] nx pv := by
  intro j u v hu hv
  cases j with
  | zero => simp at hu hv; subst hu; subst hv; exact ⟨h1, h2⟩
  | succ j => simp at hu
end
end Go.Proofs.Ytihhbpadafgkoaa
