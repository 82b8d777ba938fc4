/-
  Slices that stand anywhere in a block of their own cells: cut at their head, grown at their end. No program is named here.
-/
import Derived.Test.YtdbflopfcnkjbaaGreatAP3
import Derived.Test.YtdbflopfcnkjbaaGreatKB
namespace Go.Proofs.YtdbflopfcnkjbaaGreat
open Go.RowKit
set_option linter.unusedVariables false

/-- A slice of cells of its own, wherever it begins in its block. -/
def CutRow (w : World) (e : TypeId) (v : Value) (n : Nat) (xs : List Value) : Prop :=
  xs.length = n ∧ ((v = .slice none 0 0 ∧ n = 0) ∨ ∃ g off cap cur, v = .slice (some ⟨g, off, none⟩) n cap ∧ w.heap[g]? = some (.cells cur e (0, 0)) ∧ n ≤ cap ∧ cap ≤ maxLen ∧ off + cap ≤ cur.size ∧ (cur.toList.drop off).take n = xs)
section
variable {P : Program} {w w' : World} {e : TypeId} {v : Value} {n : Nat} {xs : List Value}
theorem CutRow.nil (w : World) (e : TypeId) : CutRow w e (.slice none 0 0) 0 [] := ⟨rfl, .inl ⟨rfl, rfl⟩⟩
theorem CutRow.lt (h : CutRow w e v n xs) : ∀ g, v.ownBlock = some g → g < w.heap.size := by
  intro g hg
  rcases h.2 with ⟨rfl, _⟩ | ⟨g', off, cap, cur, rfl, h1, _⟩
  · cases hg
  · simp only [Value.ownBlock, Option.some.injEq] at hg
    subst hg
    exact at_lt h1
theorem CutRow.kept {F : Nat → Prop} (h : CutRow w e v n xs) (hk : Kept F w w') (hF : ∀ g, v.ownBlock = some g → F g) : CutRow w' e v n xs := by
  refine ⟨h.1, ?_⟩
  rcases h.2 with hn | ⟨g, off, cap, cur, rfl, h1, rest⟩
  · exact .inl hn
  · exact .inr ⟨g, off, cap, cur, rfl, (hk.block g (at_lt h1) (hF g rfl)).trans h1, rest⟩
theorem cut_add (g o j : Nat) : (⟨g, o, none⟩ : Addr).add j = ⟨g, o + j, none⟩ := by
  unfold Addr.add
  split
  · subst_vars; rfl
  · rfl
theorem CutRow.slice (h : CutRow w e v n xs) : ∃ A c, v = .slice A n c ∧ Rd w w.heap.size 1 A n xs := by
  rcases h.2 with ⟨rfl, rfl⟩ | ⟨g, off, cap, cur, rfl, h1, h2, _, h3, h4⟩
  · have : xs = [] := List.eq_nil_of_length_eq_zero h.1
    subst this
    exact ⟨none, 0, rfl, Rd.nil⟩
  · refine ⟨_, cap, rfl, by simp [h.1], fun _ => ⟨_, rfl, at_lt h1, fun j u hu => ?_⟩⟩
    have hj : j < n := by have := (List.getElem?_eq_some_iff.1 hu).1; rw [h.1] at this; exact this
    rw [cut_add, blk_cell h1]
    rw [← h4, List.getElem?_take_of_lt hj, List.getElem?_drop] at hu
    simpa using hu
theorem CutRow.of_owns (h : w.ownsRow 0 e 1 v n xs) : CutRow w e v n xs := by
  refine ⟨by simpa using h.1, ?_⟩
  rcases h.2 with hn | ⟨g, cap, cur, rfl, _, h1, h2, h3, h4, h5⟩
  · exact .inl hn
  · exact .inr ⟨g, 0, cap, cur, rfl, h1, h2, h3, by omega, by simpa using h5⟩
/-- The first one goes. -/
theorem CutRow.tail {t : TypeId} (ht : P.underlying t = some (.slice e)) (hs : (P.info? e).map (·.size) = some 1) {u : Value} (h : CutRow w e v (n + 1) (u :: xs)) :
    ∃ v', (∀ W, (Instr.slice t v (some (.int .i64 1)) none none).run P W = .ok v' W) ∧ CutRow w e v' n xs ∧ v'.ownBlock = v.ownBlock := by
  obtain ⟨i, hi, hsi⟩ : ∃ i, P.info? e = some i ∧ i.size = 1 := by
    cases hq : P.info? e with
    | none => rw [hq] at hs; cases hs
    | some i => rw [hq] at hs; exact ⟨i, rfl, by simpa using hs⟩
  have hl : xs.length = n := by have := h.1; simpa using this
  rcases h.2 with ⟨_, h0⟩ | ⟨g, off, cap, cur, rfl, h1, h2, h3, h4, h5⟩
  · omega
  · refine ⟨.slice (some (if cap = 1 then ⟨g, off, none⟩ else ⟨g, off + 1, none⟩)) n (cap - 1), fun W => ?_, ⟨hl, .inr ?_⟩, ?_⟩
    · have hht : P.underlying t = some (.slice (P.elem t)) := by simp [Program.elem, ht]
      have := run_slice_l (P := P) W t (some ⟨g, off, none⟩) (n + 1) cap hht .i64 1 (by omega) (by omega)
      have he : P.elem t = e := by simp [Program.elem, ht]
      rw [he] at this
      rw [this]
      simp only [sizeOf, typeInfo]
      by_cases hc : cap = 1 <;> simp [hi, hsi, Result.andThen, sliced, hc, cut_add]
    · by_cases hc : cap = 1
      · subst hc
        obtain rfl : n = 0 := by omega
        have : xs = [] := List.eq_nil_of_length_eq_zero hl
        subst this
        exact ⟨g, off, 0, cur, by simp, h1, by omega, by omega, by omega, by simp⟩
      · refine ⟨g, off + 1, cap - 1, cur, by simp [hc], h1, by omega, by omega, by omega, ?_⟩
        have h6 : ((cur.toList.drop off).take (n + 1)).tail = xs := by rw [h5]; rfl
        rw [← h6, ← List.drop_one, List.drop_take, List.drop_drop]
        rfl
    · by_cases hc : cap = 1 <;> simp [hc, Value.ownBlock]
/-- What an append of one leaves. -/
def CutGrown (w w' : World) (e : TypeId) (v v' : Value) (n : Nat) (xs : List Value) : Prop :=
  CutRow w' e v' n xs ∧ Kept (fun g => v.ownBlock ≠ some g) w w' ∧ (v'.ownBlock = v.ownBlock ∨ v'.ownBlock = some w.heap.size)
theorem run_append_cut (t ty : TypeId) (i : TypeInfo) (z : Value) (bytes : Nat) (ht : P.underlying t = some (.slice e)) (hi : P.info? e = some i) (hz : i.zero = some z)
    (hsize : i.size = 1) (hby : i.bytes = bytes) (hzs : z.cells.size = 1) (h : CutRow w e v n xs) (a : Addr) (c : Nat) (u : Value) (hu : w.cell? a = some u) (h1 : u.oneCell' = true) (hm : n + 1 ≤ maxLen) (hbytes : (n + 1) * bytes ≤ 140737488355328) :
    ∃ v' w', (Builtin.append_ #[t, t] ty #[v, .slice (some a) 1 c]).run P w = .ok v' w' ∧ CutGrown w w' e v v' (n + 1) (xs ++ [u]) := by
  have hnews : ∀ j x, [u][j]? = some x → w.cell? (a.add j) = some x := by
    intro j x hx
    have hj : j = 0 := by have := (List.getElem?_eq_some_iff.1 hx).1; simpa using this
    subst hj
    simp at hx
    subst hx
    simpa [Addr.add] using hu
  have hone : ∀ x ∈ [u], x.oneCell' = true := fun x hx => by simp at hx; subst hx; exact h1
  rcases h.2 with ⟨rfl, rfl⟩ | ⟨g, off, cap, cur, rfl, hg, hnc, hcm, hoc, htk⟩
  · have hx : xs = [] := List.eq_nil_of_length_eq_zero h.1
    subst hx
    obtain ⟨v', w', hrun, h2, h3, h4⟩ := run_append_rd (P := P) w t ty e i z 1 bytes ht hi hz hsize hby hzs (by omega) (.slice none 0 0) 0 [] (World.ownsRow_nil _ _ _ _) (a.block + 1) (some a) 1 c [u] ⟨rfl, fun _ => ⟨a, rfl, Nat.lt_succ_self _, hnews⟩⟩ (fun h => by cases h) hone hm hbytes
    exact ⟨v', w', hrun, CutRow.of_owns h2, ⟨h3.os, h3.tape, h3.output, h3.size, fun k hk hne => h3.block k hk (fun e => by cases e)⟩, h4⟩
  · by_cases hroom : n + 1 ≤ cap
    · have hst := run_storeCells_at P g (off + n) e [u] 0 cur w hg (by simp; omega) hone
      simp only [Nat.add_zero] at hst
      have hf := run_firstCells_some (P := P) w i.size 1 a 1 c [u] (by simp [hsize]) hnews
      refine ⟨.slice (some ⟨g, off, none⟩) (n + 1) cap, w.setRow g (cur.toList.take (off + n) ++ [u] ++ cur.toList.drop (off + n + [u].length)).toArray, ?_, ⟨by simp [h.1], .inr ⟨g, off, cap, _, rfl, setRow_heap w g _ _ e _ hg, hroom, hcm, ?_, ?_⟩⟩, ⟨rfl, rfl, rfl, by simp [World.setRow], fun j _ hj => setRow_other w g j _ (fun e => hj (by rw [e]; rfl))⟩, .inl rfl⟩
      · rw [hsize] at hf
        simp [Builtin.append_, run_underlying ht, sizeOf, typeInfo, hi, hsize, Builtin.lenOf, hroom, hf, cut_add, hst]
      · simp only [List.size_toArray, List.length_append, List.length_take, List.length_drop, Array.length_toList, List.length_cons, List.length_nil]
        omega
      · have hsz : off + n < cur.toList.length := by rw [Array.length_toList]; omega
        rw [List.append_assoc, List.drop_append_of_le_length (by rw [List.length_take]; omega), List.drop_take, show off + n - off = n by omega, htk]
        rw [List.take_append, h.1, List.take_of_length_le (by rw [h.1]; omega), show n + 1 - n = 1 by omega]
        rfl
    · have holds : ∀ j x, xs[j]? = some x → w.cell? ((⟨g, off, none⟩ : Addr).add j) = some x := by
        intro j x hx
        have hj : j < n := by have := (List.getElem?_eq_some_iff.1 hx).1; rw [h.1] at this; exact this
        rw [cut_add, blk_cell hg]
        rw [← htk, List.getElem?_take_of_lt hj, List.getElem?_drop] at hx
        simpa using hx
      subst hby
      have hr := run_append_grow (P := P) w t ty e i z ht hi hz ⟨g, off, none⟩ n cap xs (by simp [hsize, h.1]) holds a 1 c [u] (by simp [hsize]) hnews (by omega) (by simp only [maxLen] at hm; omega) (growslice_fits (by omega) hbytes)
      have hge := grownCap_ge w (n + 1) cap e
      refine ⟨_, _, hr, ⟨by simp [h.1], .inr ⟨w.heap.size, 0, _, _, rfl, World.alloc_heap_new _ _, hge, grownCap_le_maxLen w _ _ e hm, ?_, ?_⟩⟩, Kept.drew (Kept.refl _ w) |>.later (below1 _ _), .inr rfl⟩
      · simp [size_zeroCells, hzs, h.1]
        omega
      · simp [h.1, List.take_append]
        exact List.take_of_length_le (by rw [h.1]; omega)
theorem wpList_append_cut {ops : Array Oper} {rest : List Oper} {o : Oper} {a : Act} {Q : Exit → Act → World → Prop} (hgd : o.guard = none) (s x : Operand) (t : TypeId)
    (ho : o.op = .call { callee := .builtin .append, args := #[s, x], argTypes := #[t, t] }) (i : TypeInfo) (z : Value) (bytes : Nat) (ht : P.underlying t = some (.slice e)) (hi : P.info? e = some i) (hz : i.zero = some z)
    (hsize : i.size = 1) (hby : i.bytes = bytes) (hzs : z.cells.size = 1) (h : CutRow w e v n xs) (hs : a.eval s = v) (ad : Addr) (c : Nat) (u : Value) (hx : a.eval x = .slice (some ad) 1 c) (hu : w.cell? ad = some u) (h1 : u.oneCell' = true) (hm : n + 1 ≤ maxLen) (hbytes : (n + 1) * bytes ≤ 140737488355328)
    (hK : ∀ v' w', CutGrown w w' e v v' (n + 1) (xs ++ [u]) → wpList P ops Q rest (a.put o.dst v') w') : wpList P ops Q (o :: rest) a w := by
  obtain ⟨v', w', hrun, hl⟩ := run_append_cut (P := P) t o.type i z bytes ht hi hz hsize hby hzs h ad c u hu h1 hm hbytes
  refine wpList_plain hgd fun _ hk => ?_
  unfold Oper.wp execOp
  simp only [ho, resolve, invoke, builtin, Sem.run_bind, Sem.run_pure, Result.andThen_ok, List.map_toArray, List.map_cons, List.map_nil, hs, hx, hrun]
  exact hk _ _ (hK v' w' hl)
end
end Go.Proofs.YtdbflopfcnkjbaaGreat
