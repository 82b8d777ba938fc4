/-
  Links in memory: a ring of them; one is taken out, one is put in.
-/
import Derived.Test.YtihhbpadafgkoaaAA
import Derived.Test.YtihhbpadafgkoaaKB
import Derived.Test.YtihhbpadafgkoaaKG
import Derived.Test.YtihhbpadafgkoaaCH
namespace Go.Proofs.Ytihhbpadafgkoaa
open Go.RowKit Go.Maps
set_option linter.unusedVariables false
set_option linter.unusedSimpArgs false

/-- A link: its block, its key, the key's place. -/
structure LK where
  g : Nat
  k : List UInt8
  p : Nat
def ptr (g : Nat) : Value := .pointer (some ⟨g, 0, none⟩)
/-- A link in a block, its neighbours whatever. -/
def LinkV (w : World) (g : Nat) (k : List UInt8) (p : Nat) (q n : Value) : Prop := w.heap[g]? = some (.cells #[encStr k, .int .i64 p, q, n] 79 (0, 0))
def LinkAt (w : World) (g : Nat) (k : List UInt8) (p q n : Nat) : Prop := LinkV w g k p (.pointer (some ⟨q, 0, none⟩)) (.pointer (some ⟨n, 0, none⟩))
section
variable {w w' : World} {g p : Nat} {q n : Value} {k : List UInt8}
theorem LinkV.c0 (h : LinkV w g k p q n) : w.cell? ⟨g, 0, none⟩ = some (encStr k) := by rw [blk_cell h]; rfl
theorem LinkV.c1 (h : LinkV w g k p q n) : w.cell? ⟨g, 1, none⟩ = some (.int .i64 p) := by rw [blk_cell h]; rfl
theorem LinkV.c2 (h : LinkV w g k p q n) : w.cell? ⟨g, 2, none⟩ = some q := by rw [blk_cell h]; rfl
theorem LinkV.c3 (h : LinkV w g k p q n) : w.cell? ⟨g, 3, none⟩ = some n := by rw [blk_cell h]; rfl
theorem LinkV.free (h : LinkV w g k p q n) (i : Nat) : w.frozen? ⟨g, i, none⟩ = false := by simp [World.frozen?, show w.heap[g]? = _ from h]
theorem LinkV.same (h : LinkV w g k p q n) (hb : w'.heap[g]? = w.heap[g]?) : LinkV w' g k p q n := by unfold LinkV; rw [hb]; exact h
theorem LinkV.lt (h : LinkV w g k p q n) : g < w.heap.size := at_lt h
theorem set_at_heap {cs : Array Value} {t : TypeId} (h : w.heap[g]? = some (.cells cs t (0, 0))) (i : Nat) (u : Value) : (w.setCell ⟨g, i, none⟩ u).heap[g]? = some (.cells (cs.setIfInBounds i u) t (0, 0)) := by
  have := setCell_eq_setRow w g i cs t (0, 0) u h
  rw [this]
  exact setRow_heap w g cs _ t _ h
theorem set_off {i : Nat} {u : Value} {a : Nat} (h : g ≠ a) : (w.setCell ⟨a, i, none⟩ u).heap[g]? = w.heap[g]? := by
  by_cases hg : g < w.heap.size
  · exact (grown_set w a i u).block g hg (fun e => h (by injection e with e))
  · have hs := World.size_setCell w ⟨a, i, none⟩ u
    rw [Array.getElem?_eq_none (by omega), Array.getElem?_eq_none (by omega)]
theorem LinkV.next (h : LinkV w g k p q n) (m : Value) : LinkV (w.setCell ⟨g, 3, none⟩ m) g k p q m := set_at_heap h 3 _
theorem LinkV.prev (h : LinkV w g k p q n) (m : Value) : LinkV (w.setCell ⟨g, 2, none⟩ m) g k p m n := set_at_heap h 2 _
end
section
variable {w w' : World} {g p q n : Nat} {k : List UInt8}
theorem LinkAt.c0 (h : LinkAt w g k p q n) : w.cell? ⟨g, 0, none⟩ = some (encStr k) := LinkV.c0 h
theorem LinkAt.c1 (h : LinkAt w g k p q n) : w.cell? ⟨g, 1, none⟩ = some (.int .i64 p) := LinkV.c1 h
theorem LinkAt.c2 (h : LinkAt w g k p q n) : w.cell? ⟨g, 2, none⟩ = some (.pointer (some ⟨q, 0, none⟩)) := LinkV.c2 h
theorem LinkAt.c3 (h : LinkAt w g k p q n) : w.cell? ⟨g, 3, none⟩ = some (.pointer (some ⟨n, 0, none⟩)) := LinkV.c3 h
theorem LinkAt.free (h : LinkAt w g k p q n) (i : Nat) : w.frozen? ⟨g, i, none⟩ = false := LinkV.free h i
theorem LinkAt.same (h : LinkAt w g k p q n) (hb : w'.heap[g]? = w.heap[g]?) : LinkAt w' g k p q n := LinkV.same h hb
theorem LinkAt.lt (h : LinkAt w g k p q n) : g < w.heap.size := LinkV.lt h
theorem LinkAt.next_any (h : LinkAt w g k p q n) (a m : Nat) : LinkAt (w.setCell ⟨a, 3, none⟩ (.pointer (some ⟨m, 0, none⟩))) g k p q (if g = a then m else n) := by
  by_cases e : g = a
  · subst e; rw [if_pos rfl]; exact LinkV.next h _
  · rw [if_neg e]; exact h.same (set_off e)
theorem LinkAt.prev_any (h : LinkAt w g k p q n) (a m : Nat) : LinkAt (w.setCell ⟨a, 2, none⟩ (.pointer (some ⟨m, 0, none⟩))) g k p (if g = a then m else q) n := by
  by_cases e : g = a
  · subst e; rw [if_pos rfl]; exact LinkV.prev h _
  · rw [if_neg e]; exact h.same (set_off e)
end
/-- A ring of links, from e on. -/
structure RingM (w : World) (e : Nat) (L : List LK) (nx pv : Nat → Nat) : Prop where
  lnk : Lnk e (L.map LK.g) nx pv
  nodup : (e :: L.map LK.g).Nodup
  ends : LinkAt w e [] 0 (pv e) (nx e)
  each : ∀ r ∈ L, LinkAt w r.g r.k r.p (pv r.g) (nx r.g)
section
variable {w w' : World} {e : Nat} {L : List LK} {nx pv : Nat → Nat}
theorem RingM.some (h : RingM w e L nx pv) {u : Nat} (hu : u ∈ e :: L.map LK.g) : ∃ k p, LinkAt w u k p (pv u) (nx u) := by
  rcases List.mem_cons.1 hu with rfl | hu
  · exact ⟨_, _, h.ends⟩
  · obtain ⟨r, hr, rfl⟩ := List.mem_map.1 hu
    exact ⟨_, _, h.each r hr⟩
theorem RingM.lt (h : RingM w e L nx pv) {u : Nat} (hu : u ∈ e :: L.map LK.g) : u < w.heap.size := by
  obtain ⟨k, p, h1⟩ := h.some hu
  exact h1.lt
theorem RingM.kept {F : Nat → Prop} (h : RingM w e L nx pv) (hk : Kept F w w') (hF : ∀ u ∈ e :: L.map LK.g, F u) : RingM w' e L nx pv :=
  ⟨h.lnk, h.nodup, h.ends.same (hk.block _ h.ends.lt (hF _ (by simp))), fun r hr => (h.each r hr).same (hk.block _ (h.each r hr).lt (hF _ (by simp; exact .inr ⟨r, hr, rfl⟩)))⟩
theorem kept_set (w : World) (a i : Nat) (u : Value) : Kept (fun g => g ≠ a) w (w.setCell ⟨a, i, none⟩ u) :=
  (Kept.refl _ w).grown (grown_set w a i u) (fun g e _ h => h (by injection e with e; exact e.symm))
theorem map_erase_g : ∀ (L : List LK) (i : Nat), (L.eraseIdx i).map LK.g = (L.map LK.g).eraseIdx i
  | [], _ => rfl
  | _ :: _, 0 => rfl
  | r :: L, i + 1 => by simp [map_erase_g L i]
theorem map_erase_k : ∀ (L : List LK) (i : Nat), (L.eraseIdx i).map LK.k = (L.map LK.k).eraseIdx i
  | [], _ => rfl
  | _ :: _, 0 => rfl
  | r :: L, i + 1 => by simp [map_erase_k L i]
theorem map_erase (f : LK → Nat) : ∀ (L : List LK) (i : Nat), (L.eraseIdx i).map f = (L.map f).eraseIdx i
  | [], _ => rfl
  | _ :: _, 0 => rfl
  | r :: L, i + 1 => by simp [map_erase f L i]
/-- What two stores about x make of each link. -/
def Parted (a c : Nat) (w w' : World) : Prop := ∀ (u : Nat) (k : List UInt8) (p q n : Nat), LinkAt w u k p q n → LinkAt w' u k p (if u = c then a else q) (if u = a then c else n)
theorem RingM.near {i : Nat} {r : LK} (h : RingM w e L nx pv) (hr : L[i]? = Option.some r) : r.g ≠ pv r.g ∧ r.g ≠ nx r.g ∧ pv r.g ∈ e :: L.map LK.g ∧ nx r.g ∈ e :: L.map LK.g := by
  have hx : (L.map LK.g)[i]? = Option.some r.g := by rw [List.getElem?_map, hr]; rfl
  have hnb := h.lnk.in_ (List.mem_cons_of_mem _ (List.mem_of_getElem? hx))
  have hp := h.lnk.prev hx
  have hq := h.lnk.next hx
  refine ⟨fun e2 => ?_, fun e2 => ?_, hnb.2, hnb.1⟩
  · have h2 : (e :: L.map LK.g)[i + 1]? = Option.some r.g := by rw [List.getElem?_cons_succ]; exact hx
    rw [← e2] at hp
    have := nodup_at h.nodup hp h2
    omega
  · have h2 : (L.map LK.g ++ [e])[i]? = Option.some r.g := by rw [List.getElem?_append_left (List.getElem?_eq_some_iff.1 hx).1]; exact hx
    rw [← e2] at hq
    have := nodup_at (nodup_turn h.nodup) hq h2
    omega
/-- One is taken out: its neighbours are each other's. -/
theorem RingM.out {i : Nat} {r : LK} (h : RingM w e L nx pv) (hr : L[i]? = Option.some r) (hall : Parted (pv r.g) (nx r.g) w w') :
    RingM w' e (L.eraseIdx i) (fun b => if b = pv r.g then nx r.g else nx b) (fun b => if b = nx r.g then pv r.g else pv b) ∧ LinkAt w' r.g r.k r.p (pv r.g) (nx r.g) := by
  have hx : (L.map LK.g)[i]? = Option.some r.g := by rw [List.getElem?_map, hr]; rfl
  obtain ⟨hne1, hne2, _, _⟩ := h.near hr
  refine ⟨⟨by rw [map_erase]; exact h.lnk.out h.nodup hx, ?_, hall _ _ _ _ _ h.ends, fun s hs => hall _ _ _ _ _ (h.each s (List.mem_of_mem_eraseIdx hs))⟩, ?_⟩
  · rw [map_erase]
    exact (h.nodup).sublist (List.Sublist.cons_cons e (List.eraseIdx_sublist _ _))
  · have := hall _ _ _ _ _ (h.each r (List.mem_of_getElem? hr))
    rwa [if_neg hne2, if_neg hne1] at this
/-- One is put in, as the last. -/
theorem RingM.more {r : LK} (h : RingM w e L nx pv) (hr : r.g ∉ e :: L.map LK.g) (hl : LinkAt w' r.g r.k r.p (pv e) e)
    (hold : ∀ (u : Nat) (k : List UInt8) (p q n : Nat), u ≠ r.g → LinkAt w u k p q n → LinkAt w' u k p (if u = e then r.g else q) (if u = pv e then r.g else n)) :
    RingM w' e (L ++ [r]) (fun b => if b = pv e then r.g else if b = r.g then e else nx b) (fun b => if b = e then r.g else if b = r.g then pv e else pv b) := by
  have hpe := (h.lnk.in_ (show e ∈ e :: L.map LK.g by simp)).2
  have h1 : r.g ≠ pv e := fun e2 => hr (e2 ▸ hpe)
  have h2 : r.g ≠ e := fun e2 => hr (by simp [e2])
  have hmp : (L ++ [r]).map LK.g = L.map LK.g ++ [r.g] := by simp
  have hne : ∀ s ∈ L, s.g ≠ r.g := fun s hs e2 => hr (by rw [← e2]; simp; exact .inr ⟨s, hs, rfl⟩)
  refine ⟨by rw [hmp]; exact h.lnk.more h.nodup hr, ?_, ?_, ?_⟩
  · rw [hmp, show e :: (L.map LK.g ++ [r.g]) = (e :: L.map LK.g) ++ [r.g] from rfl, List.nodup_append]
    exact ⟨h.nodup, by simp, fun a ha b hb => by simp at hb; subst hb; exact fun e2 => hr (e2 ▸ ha)⟩
  · have h3 : ¬ e = r.g := fun e2 => h2 e2.symm
    have := hold _ _ _ _ _ h3 h.ends
    simpa only [if_neg h3] using this
  · intro s hs
    rcases List.mem_append.1 hs with hs | hs
    · have h3 := hne s hs
      have := hold _ _ _ _ _ h3 (h.each s hs)
      simpa only [if_neg h3] using this
    · simp at hs
      subst hs
      simpa only [if_neg h1, if_neg h2, if_pos] using hl
end
end Go.Proofs.Ytihhbpadafgkoaa
