/-
  A record is put behind the last one.
-/
import Derived.Test.YtdbflopfcnkjbaaGreatJ3
namespace Go.Proofs.YtdbflopfcnkjbaaGreat
open Go.RowKit Go.Maps
set_option linter.unusedVariables false
set_option linter.unusedSimpArgs false

/-- Blocks that are neither the ring's own nor its links'. -/
def Off (b : Nat) (L : List RK) (k : Nat) : Prop := k ≠ b ∧ ∀ r ∈ L, r.g ≠ k
section
variable {w w1 W w' : World} {B b bx sz : Nat} {L : List RK}
theorem hdV_append {L : List RK} (h : L ≠ []) (K : List RK) : hdV (L ++ K) = hdV L := by
  cases L with
  | nil => exact absurd rfl h
  | cons r L => rfl
/-- The ring has one record more. -/
def PutTold (B b bx sz : Nat) (L : List RK) (l : List Int) (w w' : World) : Prop :=
  ∃ r, r.bs = l ∧ Rng w' B b bx sz (L ++ [r]) ∧ Kept (Off b L) w w' ∧ (∀ g, OfG b bx (L ++ [r]) g → OfG b bx L g ∨ w.heap.size ≤ g)
theorem Rng.grown {l : List Int} {A : Option Addr} {c : Nat} (h : Rng w B b bx sz L) (hb1 : Below w.heap.size w w1) (ho : w1.ownsRow 0 5 1 (.slice A l.length c) l.length (u8s l)) (hA : ∀ g, (Value.slice A l.length c).ownBlock = some g → w.heap.size ≤ g) (hroom : 8 + l.length + sumR L ≤ sz)
    (hk : Kept (Off b L) (w1.alloc (.cells #[.slice A l.length c, .pointer none] 101)) W)
    (hblk : W.heap[b]? = some (.cells (ringCells b bx sz (L ++ [⟨w1.heap.size, A, c, l⟩])) 58 (0, 0)))
    (hlnk : ∀ (i : Nat) (s : RK), L[i]? = some s → LinkV W s.g s.sl (hdV ((L ++ [(⟨w1.heap.size, A, c, l⟩ : RK)]).drop (i + 1)))) :
    PutTold B b bx sz L l w W := by
  have hb3 := below1 w1 (.cells #[.slice A l.length c, .pointer none] 101)
  have hbw : Below w.heap.size w (w1.alloc (.cells #[.slice A l.length c, .pointer none] 101)) := hb1.trans (hb3.mono hb1.size)
  have hnew := World.alloc_heap_new w1 (.cells #[.slice A l.length c, .pointer none] 101)
  have hkw : Kept (Off b L) w W := keptTrans (Kept.of_below hbw) hk
  have hg1 := hb1.size
  have hgn : Off b L w1.heap.size := ⟨fun e => by have := h.lt b (.inl rfl); omega, fun r hr e => by have := h.lt r.g (.inr (.inr ⟨r, hr, .inl rfl⟩)); omega⟩
  have hnewW : W.heap[w1.heap.size]? = some (.cells #[.slice A l.length c, .pointer none] 101 (0, 0)) := (hk.block _ (at_lt hnew) hgn).trans hnew
  have hsub : ∀ g, OfG b bx (L ++ [⟨w1.heap.size, A, c, l⟩]) g → OfG b bx L g ∨ w.heap.size ≤ g := by
    rintro g (rfl | rfl | ⟨r, hr, hg⟩)
    · exact .inl (.inl rfl)
    · exact .inl (.inr (.inl rfl))
    · rcases List.mem_append.1 hr with hr | hr
      · exact .inl (.inr (.inr ⟨r, hr, hg⟩))
      · simp at hr
        subst hr
        rcases hg with rfl | hg
        · exact .inr hg1
        · exact .inr (hA g hg)
  have hoffrow : ∀ (v : Value) (n : Nat) (xs : List Value), (w1.alloc (.cells #[.slice A l.length c, .pointer none] 101)).ownsRow 0 5 1 v n xs → ∀ g, v.ownBlock = some g → Off b L g := fun v n xs hv g hg =>
    ⟨fun e => by subst e; exact row_off hv ((h.below hbw).blk) (by decide) hg, fun r hr e => by
      subst e
      obtain ⟨i, hi⟩ := List.mem_iff_getElem?.1 hr
      exact row_off hv ((h.below hbw).lnk i r hi) (by decide) hg⟩
  refine ⟨⟨w1.heap.size, A, c, l⟩, rfl, ⟨hblk, (hkw.block bx (at_lt h.box) ⟨h.b_x, fun r hr => h.x_l hr⟩).trans h.box, fun i r hi => ?_, fun r hr => ?_, fun g hg => ?_, ?_, fun i j r s hi hj hne g hr hs => ?_, ?_⟩, hkw, hsub⟩
  · rcases Nat.lt_or_ge i L.length with hlt | hge
    · rw [List.getElem?_append_left hlt] at hi
      exact hlnk i r hi
    · have hi2 := (List.getElem?_eq_some_iff.1 hi).1
      simp at hi2
      obtain rfl : i = L.length := by omega
      simp at hi
      subst hi
      rw [List.drop_eq_nil_of_le (by simp)]
      exact hnewW
  · rcases List.mem_append.1 hr with hr | hr
    · have h1 := (h.below hbw).row r hr
      exact owns_kept h1 hk (hoffrow _ _ _ h1)
    · simp at hr
      subst hr
      have h1 := owns_kept_below ho hb3
      exact owns_kept h1 hk (hoffrow _ _ _ h1)
  · rcases hsub g hg with h1 | h1
    · exact h.low g h1
    · exact Nat.le_trans h.B_le h1
  · rw [List.map_append, List.nodup_append]
    refine ⟨h.sep, by simp, fun x hx y hy e => ?_⟩
    simp at hy
    obtain ⟨r, hr, rfl⟩ := List.mem_map.1 hx
    exact hgn.2 r hr (e.trans hy)
  · have hcase : ∀ (i : Nat) (r : RK), (L ++ [(⟨w1.heap.size, A, c, l⟩ : RK)])[i]? = some r → (i < L.length ∧ L[i]? = some r) ∨ (i = L.length ∧ r = ⟨w1.heap.size, A, c, l⟩) := fun i r hi => by
      rcases Nat.lt_or_ge i L.length with hlt | hge
      · rw [List.getElem?_append_left hlt] at hi
        exact .inl ⟨hlt, hi⟩
      · have hi2 := (List.getElem?_eq_some_iff.1 hi).1
        simp at hi2
        obtain rfl : i = L.length := by omega
        simp at hi
        exact .inr ⟨rfl, hi.symm⟩
    rcases hcase i r hi with ⟨_, h1⟩ | ⟨h1, rfl⟩
    · rcases hcase j s hj with ⟨_, h2⟩ | ⟨h2, rfl⟩
      · exact h.apart i j r s h1 h2 hne g hr hs
      · have h3 := hA g hs
        have h4 := h.lt g (.inr (.inr ⟨r, List.mem_of_getElem? h1, .inr hr⟩))
        omega
    · rcases hcase j s hj with ⟨_, h2⟩ | ⟨h2, rfl⟩
      · have h3 := hA g hr
        have h4 := h.lt g (.inr (.inr ⟨s, List.mem_of_getElem? h2, .inr hs⟩))
        omega
      · omega
  · rw [sumR_append]
    have := h.big
    simp [sumR]
    omega
set_option maxRecDepth 100000 in
set_option maxHeartbeats 2000000 in
theorem add_any (S : Option Addr) (n sc C : Nat) (l : List Int) (h : Rng w B b bx sz L) (hr : Rd w C 1 S n (u8s l)) (hS : S = none → n = 0) (hroom : 8 + n + sumR L ≤ sz) :
    Calls Tryz.prog 26 #[.pointer (some ⟨b, 2, none⟩), .slice S n sc] w fun e w' => e = .returned (.tuple #[]) ∧ PutTold B b bx sz L l w w' := by
  obtain ⟨i0, hi, hz0, hz1, hz2⟩ := info_parts u8info
  obtain rfl : l.length = n := by have := hr.1; simpa [u8s] using this
  have hbig := h.big
  have HR := hide hr
  have HH := hide h
  go_enter Tryz.func26, Tryz.ntmps26
  go_wp2_with (at_builtin; refine stop_here ?_)
  show Hid _
  refine start_here ?_
  refine wpList_append_rd _ rfl _ _ _ rfl 5 i0 _ 1 1 Tryz.underlying27 hi hz0 hz1 hz2 rfl (by decide) (.slice none 0 0) 0 [] rfl (owns_nil _ _ _) C S l.length sc (u8s l) rfl HR.out hS (u8s_one l) (by unfold maxLen; omega) (by omega) ?_
  intro v w1 hl
  rw [Nat.zero_add, List.nil_append] at hl
  obtain ⟨ho, hA, hb1⟩ := longer_new hl
  obtain ⟨A, c, rfl, _⟩ := owns_slice ho
  have hb3 := below1 w1 (.cells #[.slice A l.length c, .pointer none] 101)
  have hbw : Below w.heap.size w (w1.alloc (.cells #[.slice A l.length c, .pointer none] 101)) := hb1.trans (hb3.mono hb1.size)
  have h3 := h.below hbw
  have hgr := fun W => h.grown (W := W) hb1 ho hA hroom
  obtain ⟨W3, hW3⟩ : ∃ W3, W3 = w1.alloc (.cells #[.slice A l.length c, .pointer none] 101) := ⟨_, rfl⟩
  rw [← hW3] at h3 hgr hbw
  have c2 := h3.c2
  have f2 : W3.frozen? ⟨b, 2, none⟩ = false := Joins.unfrozen_of_block h3.blk 2
  cases L with
  | nil =>
    have hq := leql_none W3
    have hb2 : ∀ v, (W3.setCell ⟨b, 2, none⟩ v).heap[b]? = some (.cells ((ringCells b bx sz []).setIfInBounds 2 v) 58 (0, 0)) := fun v => Joins.block_setCell (i := 2) h3.blk v
    have c3 : ∀ v, (W3.setCell ⟨b, 2, none⟩ v).cell? ⟨b, 3, none⟩ = some (.pointer none) := fun v => by rw [blk_cell (hb2 v)]; rfl
    have f3 : ∀ v, (W3.setCell ⟨b, 2, none⟩ v).frozen? ⟨b, 3, none⟩ = false := fun v => Joins.unfrozen_of_block (hb2 v) 3
    have hfin : PutTold B b bx sz [] l w ((W3.setCell ⟨b, 2, none⟩ (.pointer (some ⟨w1.heap.size, 0, none⟩))).setCell ⟨b, 3, none⟩ (.pointer (some ⟨w1.heap.size, 0, none⟩))) :=
      hgr _ (((Kept.refl _ W3).setCell (p := ⟨b, 2, none⟩) (fun _ h => h.1 rfl) _).setCell (p := ⟨b, 3, none⟩) (fun _ h => h.1 rfl) _) (Joins.block_setCell (i := 3) (hb2 _) _) (fun i s hi => by simp at hi)
    change W3.cell? ⟨b, 2, none⟩ = some (.pointer none) at c2
    have HF := hide hfin
    have c3a := c3 (.pointer (some ⟨w1.heap.size, 0, none⟩))
    have f3a := f3 (.pointer (some ⟨w1.heap.size, 0, none⟩))
    clear h h3 hgr hb1 ho hA hl hfin hb2 c3 f3 hb3 hbw hr HR HH
    subst hW3
    go_wp2_with fail
    go_end0
    exact ⟨rfl, HF.out⟩
  | cons r0 L =>
    have hlen : 0 < (r0 :: L).length := by simp
    have hrl : (r0 :: L)[(r0 :: L).length - 1]? = some (r0 :: L)[(r0 :: L).length - 1] := List.getElem?_eq_getElem (by omega)
    obtain ⟨rl, hrl2⟩ : ∃ rl, rl = (r0 :: L)[(r0 :: L).length - 1] := ⟨_, rfl⟩
    rw [← hrl2] at hrl
    have hlast := lastV_at (r0 :: L) _ rl (by omega) hrl
    have hq := leql_some ⟨r0.g, 0, none⟩ W3
    have c3 : W3.cell? ⟨b, 3, none⟩ = some (.pointer (some ⟨rl.g, 0, none⟩)) := h3.c3.trans (by rw [hlast])
    have hlk := h3.lnk _ rl hrl
    have hgb := h3.b_l (List.mem_of_getElem? hrl)
    have d1 := hlk.c1
    have e1 : W3.frozen? ⟨rl.g, 1, none⟩ = false := Joins.unfrozen_of_block hlk 1
    have hl2 : ∀ v, (W3.setCell ⟨rl.g, 1, none⟩ v).heap[rl.g]? = some (.cells (#[rl.sl, hdV ((r0 :: L).drop ((r0 :: L).length - 1 + 1))].setIfInBounds 1 v) 101 (0, 0)) := fun v => Joins.block_setCell (i := 1) hlk v
    have hoff : ∀ v k, k ≠ rl.g → (W3.setCell ⟨rl.g, 1, none⟩ v).heap[k]? = W3.heap[k]? := fun v k hk => Below.heap_setCell W3 ⟨rl.g, 1, none⟩ _ k hk
    have hb2 : ∀ v, (W3.setCell ⟨rl.g, 1, none⟩ v).heap[b]? = some (.cells (ringCells b bx sz (r0 :: L)) 58 (0, 0)) := fun v => (hoff v b (fun e => hgb e.symm)).trans h3.blk
    have c3b : ∀ v, (W3.setCell ⟨rl.g, 1, none⟩ v).cell? ⟨b, 3, none⟩ = some (.pointer (some ⟨rl.g, 0, none⟩)) := fun v => by rw [blk_cell (hb2 v), ← hlast]; rfl
    have f3 : ∀ v, (W3.setCell ⟨rl.g, 1, none⟩ v).frozen? ⟨b, 3, none⟩ = false := fun v => Joins.unfrozen_of_block (hb2 v) 3
    have hoff2 : ∀ v u k, k ≠ b → ((W3.setCell ⟨rl.g, 1, none⟩ v).setCell ⟨b, 3, none⟩ u).heap[k]? = (W3.setCell ⟨rl.g, 1, none⟩ v).heap[k]? := fun v u k hk => Below.heap_setCell _ ⟨b, 3, none⟩ _ k hk
    have hfin : PutTold B b bx sz (r0 :: L) l w ((W3.setCell ⟨rl.g, 1, none⟩ (.pointer (some ⟨w1.heap.size, 0, none⟩))).setCell ⟨b, 3, none⟩ (.pointer (some ⟨w1.heap.size, 0, none⟩))) := by
      refine hgr _ (((Kept.refl _ W3).setCell (p := ⟨rl.g, 1, none⟩) (fun _ h => h.2 rl (List.mem_of_getElem? hrl) rfl) _).setCell (p := ⟨b, 3, none⟩) (fun _ h => h.1 rfl) _) ?_ (fun i s hi => ?_)
      · rw [show ringCells b bx sz (r0 :: L ++ [⟨w1.heap.size, A, c, l⟩]) = (ringCells b bx sz (r0 :: L)).setIfInBounds 3 (.pointer (some ⟨w1.heap.size, 0, none⟩)) by unfold ringCells; rw [lastV_append]; rfl]
        exact Joins.block_setCell (i := 3) (hb2 _) _
      · have hsb := h3.b_l (List.mem_of_getElem? hi)
        have hs := h3.lnk i s hi
        have hi2 := (List.getElem?_eq_some_iff.1 hi).1
        refine (hoff2 _ _ _ hsb).trans ?_
        by_cases he : i = (r0 :: L).length - 1
        · subst he
          rw [hrl] at hi
          cases hi
          rw [hl2, show (r0 :: L ++ [(⟨w1.heap.size, A, c, l⟩ : RK)]).drop ((r0 :: L).length - 1 + 1) = [⟨w1.heap.size, A, c, l⟩] by rw [show (r0 :: L).length - 1 + 1 = (r0 :: L).length by omega, List.drop_left]]
          rfl
        · have hne : s.g ≠ rl.g := fun e => he (nodup_at h3.sep (u := rl.g) (by rw [List.getElem?_map, hi]; exact congrArg some e) (by rw [List.getElem?_map, hrl]; rfl))
          have hn : (r0 :: L)[i + 1]? = some (r0 :: L)[i + 1] := List.getElem?_eq_getElem (by omega)
          rw [hoff _ _ hne]
          have e2 : hdV ((r0 :: L ++ [(⟨w1.heap.size, A, c, l⟩ : RK)]).drop (i + 1)) = hdV ((r0 :: L).drop (i + 1)) := by
            rw [hdV_drop _ _ _ hn, hdV_drop _ _ _ ((List.getElem?_append_left (by omega)).trans hn)]
          rw [e2]
          exact hs
    change W3.cell? ⟨b, 2, none⟩ = some (.pointer (some ⟨r0.g, 0, none⟩)) at c2
    have HF := hide hfin
    have c3a := c3b (.pointer (some ⟨w1.heap.size, 0, none⟩))
    have f3a := f3 (.pointer (some ⟨w1.heap.size, 0, none⟩))
    clear h h3 hgr hb1 ho hA hl hfin hb2 c3b f3 hb3 hbw hr HR HH hl2 hoff hoff2 hrl2 hlast hlk
    subst hW3
    go_wp2_with fail
    go_end0
    exact ⟨rfl, HF.out⟩
end
end Go.Proofs.YtdbflopfcnkjbaaGreat
