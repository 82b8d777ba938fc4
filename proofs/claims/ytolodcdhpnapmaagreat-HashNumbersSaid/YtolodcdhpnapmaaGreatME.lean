/-
  The texts FZ1, FZ2, RTI, RT6, RT7 as one.
-/
import Derived.Test.YtolodcdhpnapmaaGreatAP3
import Derived.Test.YtolodcdhpnapmaaGreatKB
import Derived.Test.YtolodcdhpnapmaaGreatF1
import Derived.Test.YtolodcdhpnapmaaGreatRT
import Derived.Test.YtolodcdhpnapmaaGreatRT2

/-
  Rows of cells of their own, in blocks that may bear a mark behind their cells: laid, grown, told apart. No program is named here.
-/
namespace Go.Proofs.YtolodcdhpnapmaaGreat
open Go.RowKit
set_option linter.unusedVariables false

/-- A row of cells of its own; behind its block's cells a mark may stand. -/
def FRow (w : World) (e : TypeId) (v : Value) (n : Nat) (xs : List Value) : Prop :=
  xs.length = n ∧ ((v = .slice none 0 0 ∧ n = 0) ∨ ∃ g cap cur fz, v = .slice (some ⟨g, 0, none⟩) n cap ∧ w.heap[g]? = some (.cells cur e fz) ∧ (∀ j, j < cap → ¬ (fz.1 ≤ j ∧ j < fz.2)) ∧ n ≤ cap ∧ cap ≤ cur.size ∧ cur.toList.take n = xs)
namespace FZ
section
variable {w w' : World} {e e' : TypeId} {v v' : Value} {n n' : Nat} {xs xs' : List Value}
theorem of_owns (h : w.ownsRow 0 e 1 v n xs) : FRow w e v n xs := by
  refine ⟨by simpa using h.1, ?_⟩
  rcases h.2 with hn | ⟨g, cap, cur, rfl, _, h1, h2, h3, h4, h5⟩
  · exact .inl hn
  · exact .inr ⟨g, cap, cur, (0, 0), rfl, h1, fun j _ hc => by simp at hc, h2, by omega, by simpa using h5⟩
theorem lt (h : FRow w e v n xs) : ∀ g, v.ownBlock = some g → g < w.heap.size := by
  intro g hg
  rcases h.2 with ⟨rfl, _⟩ | ⟨g', cap, cur, fz, rfl, h1, _⟩
  · cases hg
  · simp only [Value.ownBlock, Option.some.injEq] at hg
    subst hg
    exact at_lt h1
theorem keptF {F : Nat → Prop} (h : FRow w e v n xs) (hk : Kept F w w') (hF : ∀ g, v.ownBlock = some g → F g) : FRow w' e v n xs := by
  refine ⟨h.1, ?_⟩
  rcases h.2 with hn | ⟨g, cap, cur, fz, rfl, h1, rest⟩
  · exact .inl hn
  · exact .inr ⟨g, cap, cur, fz, rfl, (hk.block g (at_lt h1) (hF g rfl)).trans h1, rest⟩
theorem kept {row : Option Nat} (h : FRow w e v n xs) (hg : w.grownBy w' row) (hne : v.ownBlock = none ∨ v.ownBlock ≠ row) : FRow w' e v n xs := by
  refine ⟨h.1, ?_⟩
  rcases h.2 with hn | ⟨g, cap, cur, fz, rfl, h1, rest⟩
  · exact .inl hn
  · exact .inr ⟨g, cap, cur, fz, rfl, (hg.block g (at_lt h1) (by simpa [Value.ownBlock] using hne)).trans h1, rest⟩
theorem below (h : FRow w e v n xs) (hb : Below w.heap.size w w') : FRow w' e v n xs := keptF h (F := fun _ => True) ⟨hb.os, hb.tape, hb.output, hb.size, fun k hk _ => hb.block k hk⟩ (fun _ _ => trivial)
theorem alloc (h : FRow w e v n xs) (o : Obj) : FRow (w.alloc o) e v n xs := below h (below1 w o)
theorem slice (h : FRow w e v n xs) : ∃ A c, v = .slice A n c := by
  rcases h.2 with ⟨rfl, rfl⟩ | ⟨g, cap, cur, fz, rfl, _⟩
  · exact ⟨none, 0, rfl⟩
  · exact ⟨_, cap, rfl⟩
theorem some_of (h : FRow w e v n xs) (hn : 0 < n) : ∃ g cap, v = .slice (some ⟨g, 0, none⟩) n cap := by
  rcases h.2 with ⟨_, h0⟩ | ⟨g, cap, cur, fz, rfl, _⟩
  · omega
  · exact ⟨g, cap, rfl⟩
theorem cells {g j : Nat} {u : Value} {c : Nat} (h : FRow w e (.slice (some ⟨g, 0, none⟩) n c) n xs) (hu : xs[j]? = some u) : w.cell? ⟨g, j, none⟩ = some u := by
  rcases h.2 with ⟨h0, _⟩ | ⟨g', cap, cur, fz, hv, h1, h2, h3, h4, h5⟩
  · cases h0
  · cases hv
    have hj : j < n := by have := (List.getElem?_eq_some_iff.1 hu).1; rw [h.1] at this; exact this
    rw [World.cell?, h1]
    rw [← h5, List.getElem?_take_of_lt hj] at hu
    simpa using hu
theorem at_ {g c j : Nat} (h : FRow w e (.slice (some ⟨g, 0, none⟩) n c) n xs) (hj : j < n) : ∃ u, xs[j]? = some u ∧ w.cell? ⟨g, j, none⟩ = some u := by
  have hl : j < xs.length := by rw [h.1]; exact hj
  exact ⟨_, List.getElem?_eq_getElem hl, cells h (List.getElem?_eq_getElem hl)⟩
theorem free {g c j : Nat} (h : FRow w e (.slice (some ⟨g, 0, none⟩) n c) n xs) (hj : j < n) : w.frozen? ⟨g, j, none⟩ = false := by
  rcases h.2 with ⟨h0, _⟩ | ⟨g', cap, cur, fz, hv, h1, h2, h3, h4, h5⟩
  · cases h0
  · cases hv
    have := h2 j (by omega)
    simp only [World.frozen?, h1]
    simpa using this
theorem set {g c j : Nat} (h : FRow w e (.slice (some ⟨g, 0, none⟩) n c) n xs) (hj : j < n) (u : Value) : FRow (w.setCell ⟨g, j, none⟩ u) e (.slice (some ⟨g, 0, none⟩) n c) n (xs.set j u) := by
  refine ⟨by rw [List.length_set]; exact h.1, ?_⟩
  rcases h.2 with ⟨h0, _⟩ | ⟨g', cap, cur, fz, hv, h1, h2, h3, h4, h5⟩
  · cases h0
  · cases hv
    refine .inr ⟨g, c, cur.setIfInBounds j u, fz, rfl, ?_, h2, h3, by simpa using h4, ?_⟩
    · simp [World.setCell, Array.getElem?_modify, h1]
    · rw [Array.toList_setIfInBounds, List.take_set, h5]
theorem ne (h : FRow w e v n xs) (h' : FRow w e' v' n' xs') (hne : e ≠ e') : v.ownBlock = none ∨ v.ownBlock ≠ v'.ownBlock := by
  rcases h.2 with ⟨rfl, _⟩ | ⟨g, cap, cur, fz, rfl, hg, _⟩
  · exact .inl rfl
  · right
    intro he
    rcases h'.2 with ⟨rfl, _⟩ | ⟨g', cap', cur', fz', rfl, hg', _⟩
    · simp [Value.ownBlock] at he
    · simp only [Value.ownBlock, Option.some.injEq] at he
      subst he
      rw [hg] at hg'
      injection hg' with hg'
      injection hg' with _ ht
      exact hne ht
theorem head {g c : Nat} (h : FRow w e (.slice (some ⟨g, 0, none⟩) n' c) n' xs) (hn : n ≤ n') : FRow w e (.slice (some ⟨g, 0, none⟩) n c) n (xs.take n) := by
  rcases h.2 with ⟨h0, _⟩ | ⟨g', cap, cur, fz, hv, h1, h2, h3, h4, h5⟩
  · cases h0
  · cases hv
    refine ⟨by rw [List.length_take, h.1]; omega, .inr ⟨g, c, cur, fz, rfl, h1, h2, by omega, h4, ?_⟩⟩
    rw [← h5, List.take_take, Nat.min_eq_left hn]
end
theorem run_store_at {P : Program} (g o : Nat) (t : TypeId) (fz : Nat × Nat) (top : Nat) (hfz : ∀ j, j < top → ¬ (fz.1 ≤ j ∧ j < fz.2)) : ∀ (vs : List Value) (i : Nat) (cur : Array Value) (w : World), w.heap[g]? = some (.cells cur t fz) → o + i + vs.length ≤ cur.size → o + i + vs.length ≤ top → (∀ v ∈ vs, v.oneCell' = true) →
    (storeCells ⟨g, o, none⟩ vs i).run P w = .ok () (w.setRow g (cur.toList.take (o + i) ++ vs ++ cur.toList.drop (o + i + vs.length)).toArray)
  | [], i, cur, w, hg, _, _, _ => by
    simp only [storeCells, List.append_nil, List.length_nil, Nat.add_zero, List.take_append_drop, Array.toArray_toList]
    rw [setRow_self w g cur t fz hg]
    rfl
  | v :: rest, i, cur, w, hg, hl, ht, h1 => by
    have hi : o + i < cur.size := by simp at hl; omega
    have hadd : (⟨g, o, none⟩ : Addr).add i = ⟨g, o + i, none⟩ := by unfold Addr.add; split <;> simp_all
    have hcell : w.cell? ⟨g, o + i, none⟩ = some cur[o + i] := by simp [World.cell?, hg, hi]
    have hfro : w.frozen? ⟨g, o + i, none⟩ = false := by
      have := hfz (o + i) (by simp at ht; omega)
      simp only [World.frozen?, hg]
      simpa using this
    have hst : (store ((⟨g, o, none⟩ : Addr).add i) v).run P w = .ok () (w.setRow g (cur.setIfInBounds (o + i) v)) := by
      rw [hadd, run_store P w _ v _ (h1 v (by simp)), hcell]
      simp [hfro, setCell_eq_setRow w g (o + i) cur t fz v hg]
    have ih := run_store_at (P := P) g o t fz top hfz rest (i + 1) (cur.setIfInBounds (o + i) v) (w.setRow g (cur.setIfInBounds (o + i) v)) (setRow_heap w g cur _ t _ hg) (by simp at hl ⊢; omega) (by simp at ht ⊢; omega) (fun x hx => h1 x (by simp [hx]))
    simp only [storeCells, Sem.run_bind, hst, Result.andThen_ok, ih, setRow_setRow]
    congr 3
    have e := list_seg_step cur.toList (o + i) v rest (by simp at hl ⊢; omega)
    simpa [Array.toList_setIfInBounds, Nat.add_assoc] using e
/-- What an append leaves. -/
def Grown2 (w w' : World) (e : TypeId) (v v' : Value) (n m : Nat) (xs : List Value) : Prop :=
  FRow w' e v' (n + m) xs ∧
  ((∃ g cap, v = .slice (some ⟨g, 0, none⟩) n cap ∧ v' = .slice (some ⟨g, 0, none⟩) (n + m) cap ∧ w.grownBy w' (some g)) ∨ (v'.ownBlock = some w.heap.size ∧ Below w.heap.size w w'))
section
variable {P : Program} (w : World)
theorem run_append (t ty e : TypeId) (i : TypeInfo) (z : Value) (bytes : Nat) (ht : P.underlying t = some (.slice e)) (hi : P.info? e = some i) (hz : i.zero = some z)
    (hsize : i.size = 1) (hby : i.bytes = bytes) (hzs : z.cells.size = 1) (v : Value) (n : Nat) (xs : List Value) (h : FRow w e v n xs)
    (a : Addr) (m c : Nat) (news : List Value) (hl : news.length = m) (hnews : ∀ j u, news[j]? = some u → w.cell? (a.add j) = some u) (h1 : ∀ u ∈ news, u.oneCell' = true) (hm : 0 < m)
    (h63 : n + m ≤ maxLen) (hbytes : (n + m) * bytes ≤ 140737488355328) :
    ∃ v' w', (Builtin.append_ #[t, t] ty #[v, .slice (some a) m c]).run P w = .ok v' w' ∧ Grown2 w w' e v v' n m (xs ++ news) := by
  rcases h.2 with ⟨rfl, rfl⟩ | ⟨g, cap, cur, fz, rfl, hg, hfz, hnc, hoc, htk⟩
  · have hx : xs = [] := List.eq_nil_of_length_eq_zero h.1
    subst hx
    obtain ⟨v', w', hrun, h2, h3⟩ := run_append_two (P := P) w t ty e i z 1 bytes ht hi hz hsize hby hzs (by omega) (.slice none 0 0) 0 [] (World.ownsRow_nil _ _ _ _) a m c news (by omega) hnews h1 hm h63 hbytes
    exact ⟨v', w', hrun, of_owns h2, h3⟩
  · by_cases hroom : n + m ≤ cap
    · have hst := run_store_at (P := P) g n e fz cap hfz news 0 cur w hg (by omega) (by omega) h1
      simp only [Nat.add_zero] at hst
      have hf := run_firstCells_some (P := P) w i.size m a m c news (by simp [hsize, hl]) hnews
      have cut_add : (⟨g, 0, none⟩ : Addr).add n = ⟨g, n, none⟩ := by unfold Addr.add; split <;> simp_all
      refine ⟨.slice (some ⟨g, 0, none⟩) (n + m) cap, w.setRow g (cur.toList.take n ++ news ++ cur.toList.drop (n + news.length)).toArray, ?_, ⟨by simp [h.1, hl], .inr ⟨g, cap, _, fz, rfl, setRow_heap w g _ _ e _ hg, hfz, hroom, ?_, ?_⟩⟩, .inl ⟨g, cap, rfl, rfl, ⟨rfl, rfl, rfl, by simp [World.setRow], fun k _ hk => setRow_other w g k _ (fun e => hk (by simp [e]))⟩⟩⟩
      · rw [hsize] at hf
        simp [Builtin.append_, run_underlying ht, sizeOf, typeInfo, hi, hsize, Builtin.lenOf, hroom, hf, cut_add, hst]
      · simp only [List.size_toArray, List.length_append, List.length_take, List.length_drop, Array.length_toList]
        omega
      · rw [htk]
        have : (xs ++ news).length = n + m := by simp [h.1, hl]
        rw [← this]
        exact List.take_left
    · have holds : ∀ j x, xs[j]? = some x → w.cell? ((⟨g, 0, none⟩ : Addr).add j) = some x := by
        intro j x hx
        have e1 : (⟨g, 0, none⟩ : Addr).add j = ⟨g, j, none⟩ := by unfold Addr.add; split <;> simp_all
        rw [e1]
        exact cells h hx
      subst hby
      have hr := run_append_grow (P := P) w t ty e i z ht hi hz ⟨g, 0, none⟩ n cap xs (by simp [hsize, h.1]) holds a m c news (by simp [hsize, hl]) hnews (by omega) (by simp only [maxLen] at h63; omega) (growslice_fits (by omega) hbytes)
      have hge := grownCap_ge w (n + m) cap e
      refine ⟨_, _, hr, ⟨by simp [h.1, hl], .inr ⟨w.heap.size, _, _, (0, 0), rfl, World.alloc_heap_new _ _, fun j _ hc => by simp at hc, hge, ?_, ?_⟩⟩, .inr ⟨rfl, ((Below.refl w.heap.size w).drew).alloc (Nat.le_refl _) _⟩⟩
      · simp [size_zeroCells, hzs, h.1, hl]
        omega
      · have : (xs ++ news).length = n + m := by simp [h.1, hl]
        simp
        rw [← List.append_assoc, ← this]
        exact List.take_left
theorem wpList_append {w : World} {ops : Array Oper} {rest : List Oper} {o : Oper} {a : Act} {Q : Exit → Act → World → Prop} (hw : Region.wanted o (yielded ops a.tmps) = true) (s x : Operand) (t : TypeId)
    (ho : o.op = .call { callee := .builtin .append, args := #[s, x], argTypes := #[t, t] })
    (e : TypeId) (i : TypeInfo) (z : Value) (bytes : Nat) (ht : P.underlying t = some (.slice e)) (hi : P.info? e = some i) (hz : i.zero = some z)
    (hsize : i.size = 1) (hby : i.bytes = bytes) (hzs : z.cells.size = 1)
    (v : Value) (n : Nat) (xs : List Value) (hs : a.eval s = v) (hown : FRow w e v n xs)
    (ad : Addr) (m c : Nat) (news : List Value) (hx : a.eval x = .slice (some ad) m c) (hl : news.length = m) (hnews : ∀ j u, news[j]? = some u → w.cell? (ad.add j) = some u) (h1 : ∀ u ∈ news, u.oneCell' = true) (hm : 0 < m)
    (h63 : n + m ≤ maxLen) (hbytes : (n + m) * bytes ≤ 140737488355328)
    (h : ∀ v' w', Grown2 w w' e v v' n m (xs ++ news) → wpList P ops Q rest (a.put o.dst v') w') : wpList P ops Q (o :: rest) a w := by
  obtain ⟨v', w', hrun, hg⟩ := run_append (P := P) w t o.type e i z bytes ht hi hz hsize hby hzs v n xs hown ad m c news hl hnews h1 hm h63 hbytes
  refine wpList_step fun K hK => ?_
  rw [if_pos hw]
  unfold Oper.wp execOp
  simp only [ho, resolve, invoke, builtin, Sem.run_bind, Sem.run_pure, Result.andThen_ok, List.map_toArray, List.map_cons, List.map_nil, hs, hx, hrun]
  exact hK _ _ (h v' w' hg)
end
/-- A row V, and the row G that was grown from it since the world was w0. -/
structure Grow (w0 wr : World) (e : TypeId) (V G : Value) (N M : Nat) (xs ys : List Value) : Prop where
  base : FRow wr e V N xs
  top : FRow wr e G M ys
  pre : xs = ys.take N
  le : N ≤ M
  from_ : (∃ b cap, V = .slice (some ⟨b, 0, none⟩) N cap ∧ G = .slice (some ⟨b, 0, none⟩) M cap) ∨ (∃ b, G.ownBlock = some b ∧ w0.heap.size ≤ b) ∨ G = .slice none 0 0
  frame : w0.grownBy wr V.ownBlock
  low : ∀ b, V.ownBlock = some b → b < w0.heap.size
theorem Grow.start {w : World} {e : TypeId} {N : Nat} {V : Value} {xs : List Value} (h : FRow w e V N xs) : Grow w w e V V N N xs xs := by
  refine ⟨h, h, by rw [← h.1, List.take_length], Nat.le_refl _, ?_, ⟨rfl, rfl, rfl, Nat.le_refl _, fun _ _ _ => rfl⟩, lt h⟩
  rcases h.2 with ⟨rfl, rfl⟩ | ⟨g, cap, cur, fz, rfl, _⟩
  · exact .inr (.inr rfl)
  · exact .inl ⟨g, cap, rfl, rfl⟩
theorem grownBy_below {w0 w w' : World} {row : Option Nat} (h : w0.grownBy w row) (hb : Below w.heap.size w w') : w0.grownBy w' row :=
  ⟨hb.os.trans h.os, hb.tape.trans h.tape, hb.output.trans h.output, Nat.le_trans h.size hb.size, fun k hk hn => (hb.block k (Nat.lt_of_lt_of_le hk h.size)).trans (h.block k hk hn)⟩
theorem Grow.below {w0 wr w' : World} {e : TypeId} {N M : Nat} {V G : Value} {xs ys : List Value} (h : Grow w0 wr e V G N M xs ys) (hb : Below wr.heap.size wr w') : Grow w0 w' e V G N M xs ys :=
  ⟨FZ.below h.base hb, FZ.below h.top hb, h.pre, h.le, h.from_, grownBy_below h.frame hb, h.low⟩
theorem Grow.alloc {w0 wr : World} {e : TypeId} {N M : Nat} {V G : Value} {xs ys : List Value} (h : Grow w0 wr e V G N M xs ys) (o : Obj) : Grow w0 (wr.alloc o) e V G N M xs ys := h.below (below1 wr o)
theorem Grow.step {w0 wr w' : World} {e : TypeId} {N M m : Nat} {V G G' : Value} {xs ys news : List Value} (h : Grow w0 wr e V G N M xs ys) (hg : Grown2 wr w' e G G' M m (ys ++ news)) : Grow w0 w' e V G' N (M + m) xs (ys ++ news) := by
  have hle : N ≤ ys.length := by rw [h.top.1]; exact h.le
  have hpre : xs = (ys ++ news).take N := by rw [List.take_append_of_le_length hle]; exact h.pre
  have hle' : N ≤ M + m := Nat.le_trans h.le (Nat.le_add_right _ _)
  obtain ⟨ht, ⟨g, cap, rfl, rfl, hgr⟩ | ⟨hblk, hb⟩⟩ := hg
  · rcases h.from_ with ⟨b, cap', rfl, e2⟩ | ⟨b, e1, e2⟩ | h0
    · cases e2
      refine ⟨?_, ht, hpre, hle', .inl ⟨g, cap, rfl, rfl⟩, h.frame.trans hgr, h.low⟩
      rw [hpre]
      exact head ht hle'
    · simp only [Value.ownBlock, Option.some.injEq] at e1
      subst e1
      have hne : V.ownBlock ≠ some g := fun hv => by have := h.low _ hv; omega
      refine ⟨kept h.base hgr (.inr hne), ht, hpre, hle', .inr (.inl ⟨g, rfl, e2⟩), ?_, h.low⟩
      exact ⟨hgr.os.trans h.frame.os, hgr.tape.trans h.frame.tape, hgr.output.trans h.frame.output, Nat.le_trans h.frame.size hgr.size,
        fun k hk hn => (hgr.block k (Nat.lt_of_lt_of_le hk h.frame.size) (fun e => by cases e; omega)).trans (h.frame.block k hk hn)⟩
    · cases h0
  · exact ⟨FZ.below h.base hb, ht, hpre, hle', .inr (.inl ⟨_, hblk, h.frame.size⟩), grownBy_below h.frame hb, h.low⟩
/-- The rows ahead of k hold their marks, row k its first j ones. -/
def Marked (w : World) (e : TypeId) (m : Nat) (v : Nat → Value) (n : Nat → Nat) (mk : Nat → Nat → List Value) (k j : Nat) : Prop :=
  ∀ i, i < m → ∃ ys, FRow w e (v i) (n i) ys ∧ (i < k → ys = marks (mk i) (n i)) ∧ (i = k → ys.take j = marks (mk i) j)
section
variable {w w' : World} {e e' : TypeId} {m k j t : Nat} {v H : Nat → Value} {n : Nat → Nat} {mk mk' : Nat → Nat → List Value} {C : Nat → List Value}
theorem Marked.below (h : Marked w e m v n mk k j) (hb : Below w.heap.size w w') : Marked w' e m v n mk k j := fun i hi => by
  obtain ⟨ys, h1, h2⟩ := h i hi
  exact ⟨ys, FZ.below h1 hb, h2⟩
theorem Marked.next (h : Marked w e m v n mk k (n k)) : Marked w e m v n mk (k + 1) 0 := fun i hi => by
  obtain ⟨ys, h1, h2, h3⟩ := h i hi
  refine ⟨ys, h1, fun hik => ?_, fun _ => by simp [marks]⟩
  rcases Nat.lt_or_ge i k with hlt | hge
  · exact h2 hlt
  · have hik' : i = k := by omega
    subst hik'
    have := h3 rfl
    rw [← h1.1, List.take_length] at this
    rw [← h1.1]
    exact this
theorem Marked.set1 {g cap : Nat} {u : Value} (h : Marked w e m v n mk k j) (hs : Sep m v) (hk : k < m) (hv : v k = .slice (some ⟨g, 0, none⟩) (n k) cap) (hj : j < n k) (hu : mk k j = [u]) :
    Marked (w.setCell ⟨g, j, none⟩ u) e m v n mk k (j + 1) := fun i hi => by
  obtain ⟨ys, h1, h2, h3⟩ := h i hi
  by_cases hik : i = k
  · subst hik
    rw [hv] at h1
    have hyl : ys.length = n i := h1.1
    refine ⟨ys.set j u, by rw [hv]; exact FZ.set h1 (by omega) u, fun hlt => by omega, fun _ => ?_⟩
    have h4 := h3 rfl
    rw [List.take_add_one, List.take_set_of_le (Nat.le_refl j), h4, marks_snoc, hu, List.getElem?_set_self (by omega)]
    rfl
  · refine ⟨ys, FZ.kept h1 (grown_set w g j u) ?_, h2, fun e => absurd e hik⟩
    cases hb : (v i).ownBlock with
    | none => exact .inl rfl
    | some b =>
      right
      have := hs i k hi hk hik b hb
      rw [hv] at this
      exact fun e => this (by simpa [Value.ownBlock] using e.symm)
end
/-- The rows v 0 .. v (m - 1) hold their marks; from those ahead of k another row was grown, and it lies apart from all rows but its own. -/
structure Fam (w : World) (e : TypeId) (m : Nat) (v : Nat → Value) (n : Nat → Nat) (mk : Nat → Nat → List Value) (k t : Nat) (H : Nat → Value) (C : Nat → List Value) : Prop where
  rows : ∀ i, i < m → FRow w e (v i) (n i) (marks (mk i) (n i))
  gone : ∀ i, i < k → FRow w e (H i) (n i + t) (C i)
  apart : ∀ i, i < k → ∀ j, j < m → j ≠ i → ∀ b, (H i).ownBlock = some b → (v j).ownBlock ≠ some b
  sep : Sep m v
section
variable {w w' : World} {e e' : TypeId} {m k t t' : Nat} {v H H' : Nat → Value} {n : Nat → Nat} {mk mk' : Nat → Nat → List Value} {C C' : Nat → List Value}
theorem Fam.start (h : Marked w e m v n mk m k) (hs : Sep m v) : Fam w e m v n mk 0 t H C :=
  ⟨fun i hi => by
    obtain ⟨ys, h1, h2, _⟩ := h i hi
    rw [← h2 hi]
    exact h1, fun i hi => absurd hi (by omega), fun i hi => absurd hi (by omega), hs⟩
theorem Fam.again (h : Fam w e m v n mk k t H C) : Fam w e m v n mk 0 t' H' C' :=
  ⟨h.rows, fun i hi => absurd hi (by omega), fun i hi => absurd hi (by omega), h.sep⟩
theorem Fam.below (h : Fam w e m v n mk k t H C) (hb : Below w.heap.size w w') : Fam w' e m v n mk k t H C :=
  ⟨fun i hi => FZ.below (h.rows i hi) hb, fun i hi => FZ.below (h.gone i hi) hb, h.apart, h.sep⟩
/-- A cell of a row of another kind is laid. -/
theorem Fam.set {g j N cap : Nat} {zs : List Value} (h : Fam w e m v n mk k t H C) (ho : FRow w e' (.slice (some ⟨g, 0, none⟩) N cap) N zs) (hne : e ≠ e') (u : Value) : Fam (w.setCell ⟨g, j, none⟩ u) e m v n mk k t H C :=
  ⟨fun i hi => FZ.kept (h.rows i hi) (grown_set w g j u) (by
      rcases FZ.ne (h.rows i hi) ho hne with h | h
      · exact .inl h
      · exact .inr h), fun i hi => FZ.kept (h.gone i hi) (grown_set w g j u) (by
      rcases FZ.ne (h.gone i hi) ho hne with h | h
      · exact .inl h
      · exact .inr h), h.apart, h.sep⟩
theorem Fam.step {G : Value} (h : Fam w e m v n mk k t H C) (hk : k < m)
    (hg : Grow w w' e (v k) G (n k) (n k + t) (marks (mk k) (n k)) (C k)) : Fam w' e m v n mk (k + 1) t (fun i => if i = k then G else H i) C := by
  refine ⟨fun i hi => ?_, fun i hi => ?_, fun i hi j hj hji b hb => ?_, h.sep⟩
  · by_cases hik : i = k
    · subst hik; exact hg.base
    · refine FZ.kept (h.rows i hi) hg.frame ?_
      cases hb : (v i).ownBlock with
      | none => exact .inl rfl
      | some b => exact .inr (fun e => h.sep i k hi hk hik b hb e.symm)
  · by_cases hik : i = k
    · subst hik; simp only [if_pos]; exact hg.top
    · have hlt : i < k := by omega
      simp only [if_neg hik]
      refine FZ.kept (h.gone i hlt) hg.frame ?_
      cases hb : (H i).ownBlock with
      | none => exact .inl rfl
      | some b => exact .inr (fun e => h.apart i hlt k hk (by omega) b hb e.symm)
  · by_cases hik : i = k
    · subst hik
      simp only [if_pos] at hb
      rcases hg.from_ with ⟨b', cap, e1, e2⟩ | ⟨b', e1, e2⟩ | e1
      · rw [e2] at hb
        have : (v i).ownBlock = some b := by rw [e1]; exact hb
        exact h.sep i j hk hj (by omega) b this
      · rw [e1] at hb
        injection hb with hb
        subst hb
        intro hv
        have := FZ.lt (h.rows j hj) b' hv
        omega
      · rw [e1] at hb
        cases hb
    · have hlt : i < k := by omega
      simp only [if_neg hik] at hb
      exact h.apart i hlt j hj hji b hb
end
end FZ
end Go.Proofs.YtolodcdhpnapmaaGreat

/-
  Rows of bytes that lie apart are found to lie apart, in marked blocks too.
-/
namespace Go.Proofs.YtolodcdhpnapmaaGreat
open Go.RowKit
set_option linter.unusedVariables false

theorem FRow.kept {w w' : World} {e : TypeId} {v : Value} {n : Nat} {xs : List Value} {row : Option Nat} (h : FRow w e v n xs) (hg : w.grownBy w' row) (hne : v.ownBlock = none ∨ v.ownBlock ≠ row) : FRow w' e v n xs := FZ.kept h hg hne
theorem FRow.lt {w : World} {e : TypeId} {v : Value} {n : Nat} {xs : List Value} (h : FRow w e v n xs) : ∀ g, v.ownBlock = some g → g < w.heap.size := FZ.lt h
namespace FZ
theorem cellsA {w : World} {e : TypeId} {g n c : Nat} {xs : List Value} (h : FRow w e (.slice (some ⟨g, 0, none⟩) n c) n xs) : ∀ j u, xs[j]? = some u → w.cell? ((⟨g, 0, none⟩ : Addr).add j) = some u := by
  intro j u hu
  have e1 : (⟨g, 0, none⟩ : Addr).add j = ⟨g, j, none⟩ := by unfold Addr.add; split <;> simp_all
  rw [e1]
  exact FZ.cells h hu
/-- The list of the rows. -/
def Lst (w : World) (e L cL m : Nat) (A : Nat → Option Addr) (n c : Nat → Nat) : Prop := FRow w e (.slice (some ⟨L, 0, none⟩) m cL) m ((List.range m).map (rowV A n c))
theorem Lst.cell {w : World} {e L cL m k : Nat} {A : Nat → Option Addr} {n c : Nat → Nat} (h : Lst w e L cL m A n c) (hk : k < m) : w.cell? ⟨L, k, none⟩ = some (.slice (A k) (n k) (c k)) := by
  refine FZ.cells (u := .slice (A k) (n k) (c k)) h ?_
  rw [List.getElem?_map, List.getElem?_range hk]
  rfl
theorem row_some {w : World} {e : TypeId} {A : Nat → Option Addr} {n c : Nat → Nat} {i : Nat} {xs : List Value} (h : FRow w e (rowV A n c i) (n i) xs) (hn : 0 < n i) : ∃ g, A i = some ⟨g, 0, none⟩ := by
  obtain ⟨g, cap, hv⟩ := FZ.some_of h hn
  unfold rowV at hv
  injection hv with h1
  exact ⟨g, h1⟩
theorem gs_cell {w : World} {e : TypeId} {G N cap i : Nat} {zs : List Value} {u : Value} (h : FRow w e (.slice (some ⟨G, 0, none⟩) N cap) N zs) (hu : zs[i]? = some u) (hi : i < N) : w.cell? ⟨G, i, none⟩ = some u := FZ.cells h hu
theorem mark_cell {w : World} {e : TypeId} {g N cap j : Nat} {xs : List Value} {u : Value} (h : FRow w e (.slice (some ⟨g, 0, none⟩) N cap) N xs) (hj : j < N) (hu : xs[j]? = some u) : w.cell? ⟨g, j, none⟩ = some u := FZ.cells h hu
set_option maxRecDepth 100000 in
set_option maxHeartbeats 4000000 in
theorem flatBytes_frz (L cL m : Nat) (A : Nat → Option Addr) (n c : Nat → Nat) (w : World) (hL : Lst w 34 L cL m A n c) (hv : ∀ i, i < m → ∃ xs, FRow w 5 (rowV A n c i) (n i) xs) (hs : Sep m (rowV A n c))
    (hn : ∀ i, n i ≤ 1000000) (hm : m ≤ 400) :
    Calls Tryz.prog 75 #[.slice (some ⟨L, 0, none⟩) m cL] w fun e w' => e = .returned (.bool true) ∧ Kept (Own m A n c) w w' := by
  have HL := hide hL
  have HV : Hid (Marked w 5 m (rowV A n c) n mkB 0 0) := fun i hi => by
    obtain ⟨xs, h⟩ := hv i hi
    exact ⟨xs, h, fun h => by omega, fun _ => by simp [marks]⟩
  have HS := hide hs
  have HN := hide hn
  clear hL hv hs hn
  obtain ⟨i1, hi1, hy0, hy1, hy2⟩ := info_parts u8info
  obtain ⟨i5, hi5, hz0, hz1, hz2⟩ := info_parts rowInfo
  go_enter Tryz.func75, Tryz.ntmps75
  go_wp2
  go_loopw [3] (fun p wr => ∃ k : Nat, k ≤ m ∧ p = .int .i64 k ∧ Lst wr 34 L cL m A n c ∧ Marked wr 5 m (rowV A n c) n mkB k 0 ∧ Kept (Own m A n c) w wr) (fun p _ => m - (intOf p).toNat)
  case atStart => exact ⟨0, Nat.zero_le _, rfl, HL.out, HV.out, Kept.refl _ _⟩
  case round =>
    obtain ⟨k, hk, rfl, hl1, hm1, hb1⟩ := hrel
    have HL1 := hide hl1
    have HM1 := hide hm1
    have HB1 := hide hb1
    clear hl1 hm1 hb1 HL HV
    obtain ⟨wo, rfl⟩ : ∃ wo : World, wo = wr := ⟨_, rfl⟩
    by_cases hlt : k < m
    · have hnk : n k ≤ 1000000 := HN.out k
      go_wp2
      go_loopw [4] (fun p wr => ∃ j : Nat, j ≤ n k ∧ p = .int .i64 j ∧ Lst wr 34 L cL m A n c ∧ Marked wr 5 m (rowV A n c) n mkB k j ∧ Kept (Own m A n c) w wr) (fun p _ => n k - (intOf p).toNat)
      case atStart => exact ⟨0, Nat.zero_le _, rfl, HL1.out, HM1.out, HB1.out⟩
      case round =>
        obtain ⟨j, hj, rfl, hl2, hm2, hb2⟩ := hrel
        have cK := hl2.cell hlt
        have HL2 := hide hl2
        have HM2 := hide hm2
        have HB2 := hide hb2
        clear hl2 hm2 hb2 HL1 HM1 HB1
        by_cases hjn : j < n k
        · obtain ⟨xs, hx, _⟩ := HM2.out k hlt
          obtain ⟨g, hg⟩ := row_some hx (by omega)
          rw [hg] at cK
          go_wp2
          refine wp_region_still_tail 9 (by kernel_rfl) (by kernel_rfl) ?_
          simp only [List.take_succ_cons, List.take_zero, List.drop_succ_cons, List.drop_zero]
          generalize hW : ({ wr with drawn := _ } : World) = W2
          have hB2 : Kept (Own m A n c) w W2 := by rw [← hW]; exact HB2.out.drew
          have hL2 : Lst W2 34 L cL m A n c := by subst hW; exact HL2.out
          have hM2 : Marked W2 5 m (rowV A n c) n mkB k j := by subst hW; exact HM2.out
          have cK2 : W2.cell? ⟨L, k, none⟩ = some (.slice (some ⟨g, 0, none⟩) (n k) (c k)) := by subst hW; exact cK
          clear hW cK
          obtain ⟨xs, hx, _⟩ := hM2 k hlt
          have hx2 : FRow W2 5 (.slice (some ⟨g, 0, none⟩) (n k) (c k)) (n k) xs := by rw [← hg]; exact hx
          have cF : W2.frozen? ⟨g, j, none⟩ = false := FZ.free hx2 (by omega)
          obtain ⟨u, _, cU⟩ := FZ.at_ hx2 (show j < n k by omega)
          have HC := hide (flip_same (markByte_any k j (by omega) (by omega) W2))
          have HX := hide hx2
          have HB3 := hide hB2
          have HL3 := hide hL2
          have HM3 := hide hM2
          clear hB2 hL2 hM2 hx hx2
          repeat still_step
          still_call HC.out
          repeat still_step
          refine wpStill_nil ?_
          go_wp2
          have e0 : rowV A n c k = .slice (some ⟨g, 0, none⟩) (n k) (c k) := by unfold rowV; rw [hg]
          have H1 := HM3.out.set1 (u := .int .u8 (markB k j)) HS.out hlt e0 hjn rfl
          have H2 := HL3.out.kept (grown_set W2 g j (.int .u8 (markB k j))) (by
            rcases FZ.ne HL3.out HX.out (by decide) with h | h
            · exact .inl h
            · exact .inr (fun e => h (by rw [e]; rfl)))
          have H3 := HB3.out.setCell (p := ⟨g, j, none⟩) (fun _ hF => hF k hlt (by unfold rowV; rw [hg]; rfl)) (.int .u8 (markB k j))
          go_roundw
          case rel => exact ⟨j + 1, by omega, by go_num, H2, H1, H3⟩
          case measure => simp [intOf]; omega
        · have hjk : j = n k := by omega
          subst hjk
          go_wp2
          go_roundw
          case rel => exact ⟨k + 1, by omega, by go_num, HL2.out, Marked.next HM2.out, HB2.out⟩
          case measure => simp [intOf]; omega
    · have hkm : m = k := by omega
      subst hkm
      have HF := hide (Fam.start (H := fun _ => .slice none 0 0) (C := fun i => marks (mkB i) (n i + 64)) (t := 64) HM1.out HS.out)
      clear HM1 HS
      go_wp2_with (at_make; refine stop_here ?_)
      show Hid _
      refine start_here ?_
      refine wpList_make_full _ rfl (.tmp 41) (.tmp 41) 63 rfl 0 34 i5 _ 1 Tryz.underlying63 hi5 hz0 hz1 .i64 .i64 m m m rfl rfl rfl rfl (by rw [hz2]; omega) (by simp only [maxLen]; omega) (Nat.zero_le _) ?_
      intro w1 ho1 hg1
      replace ho1 := FZ.of_owns ho1
      have HB0 : Hid (Kept (Own m A n c) w w1) := HB1.out.grown hg1 (fun _ e => nomatch e)
      have HF1 : Hid (Fam w1 5 m (rowV A n c) n mkB 0 64 (fun _ => .slice none 0 0) (fun i => marks (mkB i) (n i + 64))) := HF.out.below ((Below.refl wo.heap.size wo).grown hg1 (Nat.le_refl _) (fun _ e => nomatch e))
      have HL0 : Hid (Lst w1 34 L cL m A n c) := HL1.out.kept hg1 (.inr (by simp [Value.ownBlock]))
      have hGB : w.heap.size ≤ wo.heap.size := HB1.out.size
      have hLG : L < wo.heap.size := (HL1.out.lt L rfl)
      generalize wo.heap.size = G at *
      have HO := hide ho1
      clear ho1 hg1 HF HB1 HL1
      go_wp2_with fail
      go_loopw [6, 7, 8] (fun p _ _ wr => ∃ (k : Nat) (H : Nat → Value) (zs : List Value), k ≤ m ∧ p = .int .i64 k ∧ Lst wr 34 L cL m A n c ∧ Kept (Own m A n c) w wr ∧ Fam wr 5 m (rowV A n c) n mkB k 64 H (fun i => marks (mkB i) (n i + 64)) ∧
          FRow wr 34 (.slice (some ⟨G, 0, none⟩) m m) m zs ∧ (∀ i, i < k → zs[i]? = some (H i))) (fun p _ _ _ => m - (intOf p).toNat)
      case atStart => exact ⟨0, _, _, Nat.zero_le _, rfl, HL0.out, HB0.out, HF1.out, HO.out, fun i hi => absurd hi (by omega)⟩
      case round =>
        obtain ⟨k, H, zs, hk, rfl, hl1, hb1, hf1, ho1, hz1⟩ := hrel
        by_cases hlt : k < m
        · have hnk : n k ≤ 1000000 := HN.out k
          have cK := hl1.cell hlt
          have HL1 := hide hl1
          have HB1 := hide hb1
          have HF2 := hide hf1
          have HO1 := hide ho1
          have HZ1 := hide hz1
          clear hl1 hb1 hf1 ho1 hz1 HL0 HB0 HF1 HO
          obtain ⟨wq, rfl⟩ : ∃ wq : World, wq = wr := ⟨_, rfl⟩
          go_wp2
          go_loopw [7, 8] (fun v p wr => ∃ j : Nat, j ≤ 64 ∧ p = .int .i64 j ∧ Grow wq wr 5 (rowV A n c k) v (n k) (n k + j) (marks (mkB k) (n k)) (marks (mkB k) (n k + j))) (fun _ p _ => 64 - (intOf p).toNat)
          case atStart => exact ⟨0, Nat.zero_le _, rfl, Grow.start (HF2.out.rows k hlt)⟩
          case round =>
            obtain ⟨j, hj, rfl, hgr⟩ := hrel
            have HG := hide hgr
            have HL2 : Hid (Lst wr 34 L cL m A n c) := HL1.out.kept hgr.frame (by
              rcases FZ.ne HL1.out (HF2.out.rows k hlt) (by decide) with h | h
              · exact .inl h
              · exact .inr h)
            have cK2 := HL2.out.cell hlt
            clear hgr
            by_cases hjn : j < 64
            · go_wp2_with (first
                | (go_at_call 66; refine (markByte_any k (n k + j) (by omega) (by omega) _).mono ?_; rintro e w2 ⟨rfl, rfl⟩)
                | (at_builtin; refine stop_here ?_))
              show Hid _
              refine start_here ?_
              refine wpList_append rfl (.tmp 57) (.tmp 67) 34 rfl 5 i1 _ 1 Tryz.underlying34 hi1 hy0 hy1 hy2 rfl _ (n k + j) _ rfl (HG.out.alloc _).top ⟨wr.heap.size, 0, none⟩ 1 1 (mkB k (n k + j)) rfl rfl (new_mark wr k (n k + j)) (one_mark k (n k + j)) (by decide) (by simp only [maxLen]; omega) (by omega) ?_
              intro v' w' hgw
              have HG2 : Hid (Grow wq w' 5 (rowV A n c k) v' (n k) (n k + (j + 1)) (marks (mkB k) (n k)) (marks (mkB k) (n k + (j + 1)))) := by
                have := (HG.out.alloc (.cells (mkB k (n k + j)).toArray 5)).step hgw
                rw [← marks_snoc] at this
                exact this
              clear hgw HG HL2
              go_wp2
              go_roundw
              case rel => exact ⟨j + 1, by omega, by go_num, HG2.out⟩
              case measure => simp [intOf]; omega
            · have hj64 : j = 64 := by omega
              subst hj64
              obtain ⟨A', c', rfl⟩ := FZ.slice HG.out.top
              have HF3 := hide (HF2.out.step hlt HG.out)
              have HO3 := hide (HO1.out.kept HG.out.frame (by
                rcases FZ.ne HO1.out (HF2.out.rows k hlt) (by decide) with h | h
                · exact .inl h
                · exact .inr h))
              have HB3 : Hid (Kept (Own m A n c) w wr) := HB1.out.grown HG.out.frame (fun g e _ hF => hF k hlt e)
              obtain ⟨z0, hz0', cG⟩ := FZ.at_ HO3.out (show k < m by omega)
              have cF : wr.frozen? ⟨G, k, none⟩ = false := FZ.free HO3.out (by omega)
              clear HG
              go_wp2
              go_roundw
              case rel => exact ⟨k + 1, _, _, by omega, by go_num, HL2.out.kept (grown_set wr G k _) (.inr (by simp only [Value.ownBlock, ne_eq, Option.some.injEq]; omega)), HB3.out.setCell (p := ⟨G, k, none⟩) (fun h _ => absurd h (Nat.not_lt.2 hGB)) _, HF3.out.set HO3.out (by decide) _, FZ.set HO3.out (by omega) _, set_said HZ1.out (by rw [HO3.out.1]; omega) _⟩
              case measure => simp [intOf]; omega
        · have hkm : k = m := by omega
          subst hkm
          have HL1 := hide hl1
          have HB1 := hide hb1
          have HF2 := hide hf1
          have HO1 := hide ho1
          have HZ1 := hide hz1
          clear hl1 hb1 hf1 ho1 hz1 HL0 HB0 HF1 HO
          go_wp2
          go_loopw [9, 10] (fun p _ wr => ∃ (i : Nat), i ≤ k ∧ p = .int .i64 i ∧ Lst wr 34 L cL k A n c ∧ Kept (Own k A n c) w wr ∧ Fam wr 5 k (rowV A n c) n mkB k 64 H (fun i => marks (mkB i) (n i + 64)) ∧
              FRow wr 34 (.slice (some ⟨G, 0, none⟩) k k) k zs) (fun p _ _ => k - (intOf p).toNat)
          case atStart => exact ⟨0, Nat.zero_le _, rfl, HL1.out, HB1.out, HF2.out, HO1.out⟩
          case round =>
            obtain ⟨i, hi, rfl, hl1, hb1, hf1, ho1⟩ := hrel
            have HL3 := hide hl1
            have HB3 := hide hb1
            have HF3 := hide hf1
            have HO3 := hide ho1
            clear hl1 hb1 hf1 ho1 HL1 HB1 HF2 HO1
            by_cases hlt : i < k
            · have hni : n i ≤ 1000000 := HN.out i
              have hH := HF3.out.gone i hlt
              obtain ⟨h, cH, eH⟩ := FZ.some_of hH (by omega)
              have HEH := hide eH
              clear hH
              go_wp2
              go_loopw [10] (fun p wr => ∃ (j : Nat), j ≤ n i + 64 ∧ p = .int .i64 j ∧ Lst wr 34 L cL k A n c ∧ Kept (Own k A n c) w wr ∧ Fam wr 5 k (rowV A n c) n mkB k 64 H (fun i => marks (mkB i) (n i + 64)) ∧
                FRow wr 34 (.slice (some ⟨G, 0, none⟩) k k) k zs) (fun p _ => n i + 64 - (intOf p).toNat)
              case atStart => exact ⟨0, Nat.zero_le _, rfl, HL3.out, HB3.out, HF3.out, HO3.out⟩
              case round =>
                obtain ⟨j, hj, rfl, hl1, hb1, hf1, ho1⟩ := hrel
                have HL4 := hide hl1
                have HB4 := hide hb1
                have HF4 := hide hf1
                have HO4 := hide ho1
                clear hl1 hb1 hf1 ho1 HL3 HB3 HF3 HO3
                have cA := HL4.out.cell hlt
                have cG := gs_cell HO4.out (HZ1.out i hlt) hlt
                rw [HEH.out] at cG
                have hH := HF4.out.gone i hlt
                rw [HEH.out] at hH
                by_cases hjn : j < n i + 64
                · have cH1 := mark_cell hH hjn (marks_byte hjn)
                  clear hH
                  by_cases hjk : j < n i
                  · obtain ⟨g, hg⟩ := row_some (HF4.out.rows i hlt) (by omega)
                    rw [hg] at cA
                    have hV := HF4.out.rows i hlt
                    unfold rowV at hV
                    rw [hg] at hV
                    have cV := mark_cell hV hjk (marks_byte hjk)
                    clear hV
                    have hd : decide ((j : Int) < (n i : Int)) = true := by simp; omega
                    have hd2 : decide (n i ≤ j) = false := by simp; omega
                    have HM := hide (fun w => later_mark i j (by omega) (by omega) w)
                    go_wp2
                    replace cA := Later.cell cA
                    replace cG := Later.cell cG
                    replace cH1 := Later.cell cH1
                    replace cV := Later.cell cV
                    refine wp_region_later (by kernel_rfl) (by kernel_rfl) ?_
                    repeat (go_big_quiet_step ((exact Later.calls _ HM.out)))
                    refine wpQuiet_nil ?_
                    rintro _ ⟨x, rfl⟩
                    have hxb := x.below
                    have HL5 := hide (FZ.below HL4.out hxb)
                    have HB5 := hide (HB4.out.later hxb)
                    have HF5 := hide (HF4.out.below hxb)
                    have HO5 := hide (FZ.below HO4.out hxb)
                    clear hxb HL4 HB4 HF4 HO4
                    go_wp2
                    go_roundw
                    case rel => exact ⟨j + 1, by omega, by go_num, HL5.out, HB5.out, HF5.out, HO5.out⟩
                    case measure => simp [intOf]; omega
                  · have hd : decide ((j : Int) < (n i : Int)) = false := by simp; omega
                    have hd2 : decide (n i ≤ j) = true := by simp; omega
                    have HM := hide (fun w => later_mark i j (by omega) (by omega) w)
                    go_wp2
                    replace cA := Later.cell cA
                    replace cG := Later.cell cG
                    replace cH1 := Later.cell cH1
                    refine wp_region_later (by kernel_rfl) (by kernel_rfl) ?_
                    repeat (go_big_quiet_step ((exact Later.calls _ HM.out)))
                    refine wpQuiet_nil ?_
                    rintro _ ⟨x, rfl⟩
                    have hxb := x.below
                    have HL5 := hide (FZ.below HL4.out hxb)
                    have HB5 := hide (HB4.out.later hxb)
                    have HF5 := hide (HF4.out.below hxb)
                    have HO5 := hide (FZ.below HO4.out hxb)
                    clear hxb HL4 HB4 HF4 HO4
                    go_wp2
                    go_roundw
                    case rel => exact ⟨j + 1, by omega, by go_num, HL5.out, HB5.out, HF5.out, HO5.out⟩
                    case measure => simp [intOf]; omega
                · have hj64 : j = n i + 64 := by omega
                  subst hj64
                  go_wp2
                  go_roundw
                  case rel => exact ⟨i + 1, by omega, by go_num, HL4.out, HB4.out, HF4.out, HO4.out⟩
                  case measure => simp [intOf]; omega
            · have hik : k = i := by omega
              subst hik
              have HF4 := hide (HF3.out.again (t' := 64) (H' := fun _ => .slice none 0 0) (C' := fun i => marks (mkB i) (n i) ++ marks (mkB (i + k)) 64))
              clear HF3 HZ1
              go_wp2
              go_loopw [11, 12, 13] (fun p _ _ wr => ∃ (i : Nat) (H : Nat → Value) (zs : List Value), i ≤ k ∧ p = .int .i64 i ∧ Lst wr 34 L cL k A n c ∧ Kept (Own k A n c) w wr ∧ Fam wr 5 k (rowV A n c) n mkB i 64 H (fun i => marks (mkB i) (n i) ++ marks (mkB (i + k)) 64) ∧
                  FRow wr 34 (.slice (some ⟨G, 0, none⟩) k k) k zs ∧ (∀ j, j < i → zs[j]? = some (H j))) (fun p _ _ _ => k - (intOf p).toNat)
              case atStart => exact ⟨0, _, _, Nat.zero_le _, rfl, HL3.out, HB3.out, HF4.out, HO3.out, fun i hi => absurd hi (by omega)⟩
              case round =>
                obtain ⟨i, H, zs, hi, rfl, hl1, hb1, hf1, ho1, hz1⟩ := hrel
                have HL1 := hide hl1
                have HB1 := hide hb1
                have HF2 := hide hf1
                have HO1 := hide ho1
                have HZ1 := hide hz1
                clear hl1 hb1 hf1 ho1 hz1 HL3 HB3 HF4 HO3
                by_cases hlt : i < k
                · have hni : n i ≤ 1000000 := HN.out i
                  obtain ⟨wq, rfl⟩ : ∃ wq : World, wq = wr := ⟨_, rfl⟩
                  go_wp2_with (at_make; refine stop_here ?_)
                  show Hid _
                  refine start_here ?_
                  refine wpList_make_full _ rfl (.const (.int .i64 64)) (.const (.int .i64 64)) 34 rfl 0 5 i1 _ 1 Tryz.underlying34 hi1 hy0 hy1 .i64 .i64 64 64 64 rfl rfl rfl rfl (by rw [hy2]; omega) (by simp only [maxLen]; omega) (Nat.zero_le _) ?_
                  intro w2 ho2 hg2
                  replace ho2 := FZ.of_owns ho2
                  have HB2 : Hid (Below wq.heap.size wq w2) := (Below.refl _ wq).grown hg2 (Nat.le_refl _) (fun _ e => nomatch e)
                  have HT : Hid (∃ ys, FRow w2 5 (.slice (some ⟨wq.heap.size, 0, none⟩) 64 64) 64 ys ∧ ys.take 0 = marks (mkB (i + k)) 0) := ⟨_, ho2, rfl⟩
                  clear ho2 hg2
                  have HTS := hide (rfl : wq.heap.size = wq.heap.size)
                  obtain ⟨T, hT⟩ : ∃ T, T = wq.heap.size := ⟨_, rfl⟩
                  rw [← hT] at HT
                  rw [← hT] at HB2
                  rw [← hT]
                  have HT2 := hide hT
                  clear hT HTS
                  go_wp2_with fail
                  go_loopw [13] (fun p wr => ∃ j : Nat, j ≤ 64 ∧ p = .int .i64 j ∧ Below T wq wr ∧ ∃ ys, FRow wr 5 (.slice (some ⟨T, 0, none⟩) 64 64) 64 ys ∧ ys.take j = marks (mkB (i + k)) j) (fun p _ => 64 - (intOf p).toNat)
                  case atStart => exact ⟨0, Nat.zero_le _, rfl, HB2.out, HT.out⟩
                  case round =>
                    obtain ⟨j, hj, rfl, hb, ys, ho, hy⟩ := hrel
                    have HB3 := hide hb
                    have HO3 := hide ho
                    have HY := hide hy
                    clear hb ho hy HB2 HT
                    by_cases hjn : j < 64
                    · have HC := hide (flip_same (mark_sum i k j (by omega) (by omega) wr))
                      have cF : wr.frozen? ⟨T, j, none⟩ = false := FZ.free HO3.out (by omega)
                      obtain ⟨u, _, cU⟩ := FZ.at_ HO3.out (show j < 64 by omega)
                      go_wp2_with (go_at_call 66; refine (mark_sum i k j (by omega) (by omega) _).mono ?_; rintro e w2 ⟨rfl, rfl⟩)
                      have HO4 : Hid (∃ ys, FRow (wr.setCell ⟨T, j, none⟩ (.int .u8 (markB (i + k) j))) 5 (.slice (some ⟨T, 0, none⟩) 64 64) 64 ys ∧ ys.take (j + 1) = marks (mkB (i + k)) (j + 1)) :=
                        ⟨_, FZ.set HO3.out (by omega) _, take_set_mark HY.out (by rw [HO3.out.1]; omega)⟩
                      have HB4 := hide (HB3.out.setCell (p := ⟨T, j, none⟩) (Nat.le_refl T) (.int .u8 (markB (i + k) j)))
                      clear HC cF cU HO3 HY HB3
                      go_roundw
                      case rel => exact ⟨j + 1, by omega, by go_num, HB4.out, HO4.out⟩
                      case measure => simp [intOf]; omega
                    · have hj64 : j = 64 := by omega
                      subst hj64
                      have hbq := HB3.out
                      rw [HT2.out] at hbq
                      have hyy : ys = marks (mkB (i + k)) 64 := by
                        have h := HY.out
                        rw [show (64 : Nat) = ys.length by rw [HO3.out.1], List.take_length] at h
                        rw [h, HO3.out.1]
                      subst hyy
                      have HL5 : Hid (Lst wr 34 L cL k A n c) := FZ.below HL1.out hbq
                      have HB5 := hide (HB1.out.later hbq)
                      have HF5 := hide (HF2.out.below hbq)
                      have HO5 := hide (FZ.below HO1.out hbq)
                      have cK := HL5.out.cell hlt
                      clear hbq HL1 HB1 HF2 HO1 HY HB3
                      go_wp2_with (at_builtin; refine stop_here ?_)
                      show Hid _
                      refine start_here ?_
                      refine wpList_append rfl (.tmp 148) (.tmp 149) 34 rfl 5 i1 _ 1 Tryz.underlying34 hi1 hy0 hy1 hy2 rfl (rowV A n c i) (n i) _ rfl (HF5.out.rows i hlt) ⟨T, 0, none⟩ 64 64 (marks (mkB (i + k)) 64) rfl HO3.out.1 (FZ.cellsA HO3.out) (marks_one (i + k) 64) (by decide) (by simp only [maxLen]; omega) (by omega) ?_
                      intro v' w' hgw
                      obtain ⟨A', c', rfl⟩ := FZ.slice hgw.1
                      have HG2 := hide ((Grow.start (HF5.out.rows i hlt)).step hgw)
                      have HF6 := hide (HF5.out.step hlt HG2.out)
                      have HO6 := hide (HO5.out.kept HG2.out.frame (by
                        rcases FZ.ne HO5.out (HF5.out.rows i hlt) (by decide) with h | h
                        · exact .inl h
                        · exact .inr h))
                      have HL6 : Hid (Lst w' 34 L cL k A n c) := HL5.out.kept HG2.out.frame (by
                        rcases FZ.ne HL5.out (HF5.out.rows i hlt) (by decide) with h | h
                        · exact .inl h
                        · exact .inr h)
                      have HB6 : Hid (Kept (Own k A n c) w w') := HB5.out.grown HG2.out.frame (fun g e _ hF => hF i hlt e)
                      obtain ⟨z0, hz0', cG⟩ := FZ.at_ HO6.out (show i < k by omega)
                      have cF : w'.frozen? ⟨G, i, none⟩ = false := FZ.free HO6.out (by omega)
                      clear HG2 hgw HF5 HO5 HL5 HB5 HO3 cK
                      go_wp2_with fail
                      go_roundw
                      case rel => exact ⟨i + 1, _, _, by omega, by go_num, HL6.out.kept (grown_set w' G i _) (.inr (by simp only [Value.ownBlock, ne_eq, Option.some.injEq]; omega)), HB6.out.setCell (p := ⟨G, i, none⟩) (fun h _ => absurd h (Nat.not_lt.2 hGB)) _, HF6.out.set HO6.out (by decide) _, FZ.set HO6.out (by omega) _, set_said HZ1.out (by rw [HO6.out.1]; omega) _⟩
                      case measure => simp [intOf]; omega
                · have hik : k = i := by omega
                  subst hik
                  go_wp2
                  go_loopw [14, 15] (fun p _ wr => ∃ (i : Nat), i ≤ k ∧ p = .int .i64 i ∧ Lst wr 34 L cL k A n c ∧ Kept (Own k A n c) w wr ∧ Fam wr 5 k (rowV A n c) n mkB k 64 H (fun i => marks (mkB i) (n i) ++ marks (mkB (i + k)) 64) ∧
                      FRow wr 34 (.slice (some ⟨G, 0, none⟩) k k) k zs) (fun p _ _ => k - (intOf p).toNat)
                  case atStart => exact ⟨0, Nat.zero_le _, rfl, HL1.out, HB1.out, HF2.out, HO1.out⟩
                  case round =>
                    obtain ⟨i, hi, rfl, hl1, hb1, hf1, ho1⟩ := hrel
                    have HL3 : Hid (Lst wr 34 L cL k A n c) := hl1
                    have HB3 := hide hb1
                    have HF3 := hide hf1
                    have HO3 := hide ho1
                    clear hl1 hb1 hf1 ho1 HL1 HB1 HF2 HO1
                    by_cases hlt : i < k
                    · have hni : n i ≤ 1000000 := HN.out i
                      have hH := HF3.out.gone i hlt
                      obtain ⟨h, cH, eH⟩ := FZ.some_of hH (by omega)
                      have HEH := hide eH
                      clear hH
                      go_wp2
                      go_loopw [15] (fun p wr => ∃ (j : Nat), j ≤ n i ∧ p = .int .i64 j ∧ Lst wr 34 L cL k A n c ∧ Kept (Own k A n c) w wr ∧ Fam wr 5 k (rowV A n c) n mkB k 64 H (fun i => marks (mkB i) (n i) ++ marks (mkB (i + k)) 64) ∧
                        FRow wr 34 (.slice (some ⟨G, 0, none⟩) k k) k zs) (fun p _ => n i - (intOf p).toNat)
                      case atStart => exact ⟨0, Nat.zero_le _, rfl, HL3.out, HB3.out, HF3.out, HO3.out⟩
                      case round =>
                        obtain ⟨j, hj, rfl, hl1, hb1, hf1, ho1⟩ := hrel
                        have HL4 : Hid (Lst wr 34 L cL k A n c) := hl1
                        have HB4 := hide hb1
                        have HF4 := hide hf1
                        have HO4 := hide ho1
                        clear hl1 hb1 hf1 ho1 HL3 HB3 HF3 HO3
                        have cA := HL4.out.cell hlt
                        by_cases hjk : j < n i
                        · have cG := gs_cell HO4.out (HZ1.out i hlt) hlt
                          rw [HEH.out] at cG
                          have hH := HF4.out.gone i hlt
                          rw [HEH.out] at hH
                          have cH1 := mark_cell hH (show j < n i + 64 by omega) ((List.getElem?_append_left (by rw [marks_length _ 1 (fun _ => rfl)]; omega)).trans (marks_byte hjk))
                          clear hH
                          obtain ⟨g, hg⟩ := row_some (HF4.out.rows i hlt) (by omega)
                          rw [hg] at cA
                          have hV := HF4.out.rows i hlt
                          unfold rowV at hV
                          rw [hg] at hV
                          have cV := mark_cell hV hjk (marks_byte hjk)
                          clear hV
                          have HM := hide (fun w => later_mark i j (by omega) (by omega) w)
                          go_wp2
                          replace cA := Later.cell cA
                          replace cG := Later.cell cG
                          replace cH1 := Later.cell cH1
                          replace cV := Later.cell cV
                          refine wp_region_later (by kernel_rfl) (by kernel_rfl) ?_
                          repeat (go_big_quiet_step ((exact Later.calls _ HM.out)))
                          refine wpQuiet_nil ?_
                          rintro _ ⟨x, rfl⟩
                          have hxb := x.below
                          have HL5 : Hid (Lst x.w 34 L cL k A n c) := FZ.below HL4.out hxb
                          have HB5 := hide (HB4.out.later hxb)
                          have HF5 := hide (HF4.out.below hxb)
                          have HO5 := hide (FZ.below HO4.out hxb)
                          clear hxb HL4 HB4 HF4 HO4
                          go_wp2
                          go_roundw
                          case rel => exact ⟨j + 1, by omega, by go_num, HL5.out, HB5.out, HF5.out, HO5.out⟩
                          case measure => simp [intOf]; omega
                        · have hjn : n i = j := by omega
                          have hd : decide ((j : Int) < (n i : Int)) = false := by simp; omega
                          go_wp2
                          go_roundw
                          case rel => exact ⟨i + 1, by omega, by go_num, HL4.out, HB4.out, HF4.out, HO4.out⟩
                          case measure => simp [intOf]; omega
                    · have hik : k = i := by omega
                      subst hik
                      go_wp2
                      go_ret
                      exact ⟨rfl, HB3.out⟩
end FZ
end Go.Proofs.YtolodcdhpnapmaaGreat

/-
  A region of a round that draws its order, each of whose operations tells one known value in whatever world: what it leaves. No program is named here.
-/
namespace Go.Proofs.YtolodcdhpnapmaaGreat
open Go.RowKit Go.Maps
set_option linter.unusedVariables false

section
variable {F : Fence} {n : Nat} {P : Program} {ops : Array Oper} {Q : Exit → Act → World → Prop}

/-- What every step keeps, holds at the end. -/
theorem wpAnyIn_keeps {md : Region.Mode} (I : Array Bool → Act → World → Prop) (hB : backward md ops = true)
    (hstep : ∀ (listed : Array Bool) a w i, listed.size = ops.size → I listed a w → i ∈ Region.ready md ops listed → wpOpIn F n P ops Q i (I (listed.setIfInBounds i true)) a w)
    (hend : ∀ (listed : Array Bool) a w, listed.size = ops.size → (∀ i, i < ops.size → listed.getD i false = true) → I listed a w → Q .normal a w) :
    ∀ fuel (listed : Array Bool) a w, listed.size = ops.size → listed.toList.count false ≤ fuel → I listed a w → wpAnyIn F n P md ops Q fuel listed a w := by
  intro fuel
  induction fuel with
  | zero =>
    intro listed a w hs hc hI
    have hr : Region.ready md ops listed = [] := by
      rw [List.eq_nil_iff_forall_not_mem]
      intro i hi
      obtain ⟨h0, h1, _⟩ := mem_ready hi
      have : false ∈ listed.toList := by
        rw [Array.getD_eq_getD_getElem?, Array.getElem?_eq_getElem (by omega)] at h1
        simp at h1
        rw [← h1]
        exact Array.mem_toList_iff.2 (Array.getElem_mem _)
      have := List.count_pos_iff.2 this
      omega
    exact ⟨hr, hend listed a w hs (ready_nil_all hB hs hr) hI⟩
  | succ fuel ih =>
    intro listed a w hs hc hI
    refine ⟨fun hr => hend listed a w hs (ready_nil_all hB hs hr) hI, fun i hi => ?_⟩
    obtain ⟨h0, h1, _⟩ := mem_ready hi
    refine wpOpIn_mono (fun a' w' h' => ih _ a' w' (by simpa using hs) ?_ h') (hstep listed a w i hs hI hi)
    have hil : i < listed.toList.length := by simp; omega
    have hf : listed.toList[i] = false := by
      rw [Array.getD_eq_getD_getElem?, Array.getElem?_eq_getElem (by omega)] at h1
      simpa using h1
    have hin : false ∈ listed.toList := hf ▸ List.getElem_mem hil
    have hpos := List.count_pos_iff.2 hin
    have hcs : (listed.toList.set i true).count false = listed.toList.count false - 1 := by
      rw [List.count_set hil, hf]
      rfl
    rw [Array.toList_setIfInBounds, hcs]
    omega

/-- Is an operation wanted, by the values that are told? -/
def wantS (vals : Nat → Value) (o : Oper) : Bool := match o.guard with
  | none => true
  | some (j, b) => match vals j with
    | .bool c => c == b
    | _ => false
def allTell (ops : Array Oper) : Bool := ops.toList.all fun o => o.dst.isSome
theorem allTell_spec (h : allTell ops = true) {i : Nat} {o : Oper} (hi : ops[i]? = some o) : o.dst ≠ none := by
  unfold allTell at h
  rw [List.all_eq_true] at h
  have := h o (List.mem_of_getElem? (by simpa using hi))
  intro hn
  rw [hn] at this
  cases this
/-- Each guard hangs on its operation. -/
def guardsHang (ops : Array Oper) : Bool := ops.toList.all fun o => match o.guard with | none => true | some (j, _) => hangs o j
theorem guardsHang_spec (h : guardsHang ops = true) {i j : Nat} {b : Bool} {o : Oper} (hi : ops[i]? = some o) (hg : o.guard = some (j, b)) : hangs o j = true := by
  unfold guardsHang at h
  rw [List.all_eq_true] at h
  have := h o (List.mem_of_getElem? (by simpa using hi))
  rw [hg] at this
  exact this
theorem yielded_of {a : Act} {j : Nat} {c : Bool} (h : sl ops a j = .bool c) : yielded ops a.tmps j = some c := by
  unfold sl at h
  unfold yielded
  cases hd : (ops[j]?).bind (·.dst) with
  | none => rw [hd] at h; simp [undef] at h
  | some d =>
    rw [hd] at h
    simp only [Option.bind_some] at h ⊢
    rw [Array.getD_eq_getD_getElem?] at h
    cases ht : a.tmps[d]? with
    | none => rw [ht] at h; simp [undef] at h
    | some v => rw [ht] at h; simp only [Option.getD_some] at h; rw [h]
theorem wanted_of {vals : Nat → Value} {o : Oper} {a : Act} (hv : ∀ j b, o.guard = some (j, b) → sl ops a j = vals j ∧ ∃ c, vals j = .bool c) : Region.wanted o (yielded ops a.tmps) = wantS vals o := by
  unfold Region.wanted wantS
  cases hg : o.guard with
  | none => rfl
  | some jb =>
    obtain ⟨j, b⟩ := jb
    obtain ⟨h1, c, h2⟩ := hv j b hg
    rw [h2] at h1
    simp only [yielded_of h1, h2]
    cases c <;> cases b <;> rfl

theorem wpIn_static {id : Nat} {a0 : Act} {w : World} (hF : ∀ f, F.fn f) (hmo : P.follows .mixedOrders = true) (vals : Nat → Value) (G : World → Prop)
    (hB : backward .any ops = true) (hA : dstApart ops = true) (hD : allTell ops = true) (hg : guardsHang ops = true) (hb : dstBelow ops a0.tmps.size = true)
    (hbool : ∀ (i : Nat) (o : Oper) (j : Nat) (b : Bool), ops[i]? = some o → o.guard = some (j, b) → ∃ c, vals j = .bool c) (hun : ∀ (i : Nat) (o : Oper), ops[i]? = some o → wantS vals o = false → vals i = undef)
    (h0 : G w.drew)
    (hstep : ∀ (i : Nat) (o : Oper), ops[i]? = some o → wantS vals o = true → ∀ (a : Act) (W : World), G W → (∀ t, unwritten ops t = true → a.tmps.getD t undef = a0.tmps.getD t undef) → (∀ k, hangs o k = true → sl ops a k = vals k) →
      o.uponIn F n P a (fun a' W' => a' = a.put o.dst (vals i) ∧ G W') Q ((o.semAt F.round a.eval).run P W))
    (h : ∀ (a : Act) W, a.defers = a0.defers → a.tmps.size = a0.tmps.size → (∀ t, unwritten ops t = true → a.tmps.getD t undef = a0.tmps.getD t undef) → (∀ j, j < ops.size → sl ops a j = vals j) → G W → Q .normal a W) :
    (Code.region id ops true).wpIn F n P Q a0 w := by
  refine wpIn_region_any hmo ?_
  refine wpAnyIn_keeps (fun listed a W => (a.defers = a0.defers ∧ a.tmps.size = a0.tmps.size ∧ (∀ t, unwritten ops t = true → a.tmps.getD t undef = a0.tmps.getD t undef)) ∧ G W ∧
    (∀ j, listed.getD j false = true → sl ops a j = vals j)) hB ?_ ?_ _ _ _ _ (by simp) (by simp) ?_
  · intro listed a W i hs ⟨⟨hd, hsz, hold⟩, hGW, hT⟩ hi
    obtain ⟨hlt, hnot, haft⟩ := mem_ready hi
    have ho : ops[i]? = some ops[i] := Array.getElem?_eq_getElem hlt
    generalize ops[i] = o at ho
    have hdone : ∀ j, hangs o j = true → listed.getD j false = true := fun j hh => by
      obtain ⟨ed, hed, hbd, hon⟩ := hangs_spec hh
      exact hon ▸ haft o ho ed hed hbd
    have hdst := allTell_spec hD ho
    have hput : ∀ v W', v = vals i → G W' → (((a.put o.dst v).defers = a0.defers ∧ (a.put o.dst v).tmps.size = a0.tmps.size ∧ (∀ t, unwritten ops t = true → (a.put o.dst v).tmps.getD t undef = a0.tmps.getD t undef)) ∧ G W' ∧
        (∀ j, (listed.setIfInBounds i true).getD j false = true → sl ops (a.put o.dst v) j = vals j)) := by
      rintro v W' rfl hG'
      have hsl := sl_put (a := a) hA (by rw [hsz]; exact hb) ho (vals i) (fun e => absurd e hdst)
      refine ⟨⟨?_, ?_, fun t ht => ?_⟩, hG', fun j hj => ?_⟩
      · unfold Act.put; split <;> exact hd
      · unfold Act.put; split <;> simp [hsz]
      · rw [← hold t ht]
        cases hd' : o.dst with
        | none => rfl
        | some d =>
          have : d ≠ t := fun e => unwritten_spec ht ho (e ▸ hd')
          simp [Act.put, Array.getD_eq_getD_getElem?, Array.getElem?_setIfInBounds_ne this]
      · rw [hsl]
        unfold upd
        split
        · subst j; rfl
        · rename_i hne
          exact hT j ((getD_set_true hj).resolve_left hne)
    have hw := wanted_of (a := a) (vals := vals) (o := o) (fun j b hgd => ⟨hT j (hdone j (guardsHang_spec hg ho hgd)), hbool i o j b ho hgd⟩)
    refine wpOpIn_step ho (fun K' hK' => ?_)
    rw [hw]
    cases hwt : wantS vals o
    · rw [if_neg (by simp)]
      exact ⟨fun f _ => hF f, hK' _ _ (hput _ _ (hun i o ho hwt).symm hGW)⟩
    · rw [if_pos rfl]
      refine Oper.wpIn_mono (K := fun a' W' => a' = a.put o.dst (vals i) ∧ G W') ?_ ⟨fun f _ => hF f, hstep i o ho hwt a W hGW hold (fun k hk => hT k (hdone k hk))⟩
      rintro a' W' ⟨rfl, hG'⟩
      exact hK' _ _ (hput _ _ rfl hG')
  · intro listed a W hs hall ⟨⟨hd, hsz, hold⟩, hGW, hT⟩
    exact h a W hd hsz hold (fun j hj => hT j (hall j hj)) hGW
  · have hz : ∀ j, (Array.replicate ops.size false).getD j false = false := fun j => by
      rw [Array.getD_eq_getD_getElem?, Array.getElem?_replicate]
      split <;> rfl
    exact ⟨⟨rfl, rfl, fun _ _ => rfl⟩, h0, fun j hj => by rw [hz] at hj; cases hj⟩
theorem static_call {lp n : Nat} {o : Oper} {a : Act} {W : World} {f : FuncId} {args : Array Value} {v : Value} {G : World → Prop} (hrun : (o.semAt (Fence.wide.inRound lp).round a.eval).run P W = .ok (.enter f args) W)
    (hc : Calls P f args W fun e w' => e = .returned v ∧ G w') : o.uponIn (Fence.wide.inRound lp) n P a (fun a' W' => a' = a.put o.dst v ∧ G W') Q ((o.semAt (Fence.wide.inRound lp).round a.eval).run P W) := by
  rw [hrun, Oper.uponIn_enter]
  refine ⟨(fun h => by cases h), (CallsIn.inRound lp (callsIn_wide.2 hc)).mono ?_⟩
  rintro e w' ⟨rfl, hG⟩
  exact ⟨rfl, hG⟩
theorem static_told {lp n : Nat} {o : Oper} {a : Act} {W : World} {v : Value} {G : World → Prop} (hrun : (o.semAt (Fence.wide.inRound lp).round a.eval).run P W = .ok (.value v) W)
    (hG : G W) : o.uponIn (Fence.wide.inRound lp) n P a (fun a' W' => a' = a.put o.dst v ∧ G W') Q ((o.semAt (Fence.wide.inRound lp).round a.eval).run P W) := by
  rw [hrun]
  exact ⟨rfl, hG⟩
end
end Go.Proofs.YtolodcdhpnapmaaGreat

/-
  A region that draws its order and has guards, of each of whose operations something is told: each guarded one is done. No program is named here.
-/
namespace Go.Proofs.YtolodcdhpnapmaaGreat
open Go.RowKit Go.Maps
set_option linter.unusedVariables false

section
variable {P : Program} {ops : Array Oper} {Q : Exit → Act → World → Prop}
theorem wanted_tells {a : Act} {o : Oper} (h : ∀ j b, o.guard = some (j, b) → sl ops a j = .bool b) : Region.wanted o (yielded ops a.tmps) = true := by
  unfold Region.wanted
  cases hg : o.guard with
  | none => rfl
  | some p =>
    obtain ⟨j, b⟩ := p
    simp [yielded_of (h j b hg)]
theorem wpAny_tells6 {a0 : Act} {w : World} (T : Nat → (Nat → Value) → World → Prop) (G : (Nat → Bool) → World → Prop)
    (hB : backward .any ops = true) (hA : dstApart ops = true) (hgd : ∀ (i : Nat) (o : Oper) (j : Nat) (b : Bool), ops[i]? = some o → o.guard = some (j, b) → hangs o j = true ∧ ∀ σ W, T j σ W → σ j = .bool b) (hb : dstBelow ops a0.tmps.size = true)
    (hdep : ∀ j oj σ σ' W, ops[j]? = some oj → T j σ W → (∀ k, k = j ∨ hangs oj k = true → σ' k = σ k) → T j σ' W)
    (h0 : G (fun _ => false) w) (hstep : ∀ i o, ops[i]? = some o → StepTells2 P ops Q T G a0 i o)
    (h : ∀ (a : Act) W, a.defers = a0.defers → a.tmps.size = a0.tmps.size → (∀ t, unwritten ops t = true → a.tmps.getD t undef = a0.tmps.getD t undef) → (∀ j, j < ops.size → T j (sl ops a) W) → G (fun j => decide (j < ops.size)) W → Q .normal a W) :
    wpAny P .any ops Q ops.size (Array.replicate ops.size false) a0 w := by
  refine wpAny_keeps (fun listed a W => (a.defers = a0.defers ∧ a.tmps.size = a0.tmps.size ∧ (∀ t, unwritten ops t = true → a.tmps.getD t undef = a0.tmps.getD t undef)) ∧ G (fun j => listed.getD j false) W ∧
    (∀ j, listed.getD j false = true → T j (sl ops a) W ∧ ∀ oj, ops[j]? = some oj → ∀ k, hangs oj k = true → listed.getD k false = true)) hB ?_ ?_ _ _ _ _ (by simp) ?_ ?_
  · intro listed a W i hs ⟨⟨hd, hsz, hold⟩, hGW, hT⟩ hi
    obtain ⟨hlt, hnot, haft⟩ := mem_ready hi
    have ho : ops[i]? = some ops[i] := Array.getElem?_eq_getElem hlt
    generalize ops[i] = o at ho
    have hil : listed.getD i false = false := by
      rw [Array.getD_eq_getD_getElem?, Array.getElem?_eq_getElem (by omega)] at hnot ⊢
      simpa using hnot
    have hdone : ∀ j, hangs o j = true → listed.getD j false = true := fun j hh => by
      obtain ⟨ed, hed, hbd, hon⟩ := hangs_spec hh
      exact hon ▸ haft o ho ed hed hbd
    refine wpOp_step ho (fun K' hK' => ?_)
    rw [if_pos (wanted_tells (fun k b' hk => (hgd i o k b' ho hk).2 _ _ (hT k (hdone k (hgd i o k b' ho hk).1)).1))]
    refine Oper.wp_mono ?_ (hstep i o ho (fun j => listed.getD j false) a W hil hGW hold (fun j hj => (hT j hj).1) hdone)
    rintro a' W' ⟨v, rfl, hv, hG', hT', hTi⟩
    have hsl := sl_put (a := a) hA (by rw [hsz]; exact hb) ho v hv
    have hGG : G (fun j => (listed.setIfInBounds i true).getD j false) W' := by
      have e : (fun j => (listed.setIfInBounds i true).getD j false) = (fun j => listed.getD j false || j == i) := by
        funext j
        by_cases hji : j = i
        · subst hji
          rw [Array.getD_eq_getD_getElem?, Array.getElem?_setIfInBounds_self_of_lt (by omega)]
          simp
        · rw [Array.getD_eq_getD_getElem?, Array.getElem?_setIfInBounds_ne (fun e => hji e.symm), ← Array.getD_eq_getD_getElem?]
          simp [hji]
      rw [e]
      exact hG'
    refine hK' _ _ ⟨⟨?_, ?_, fun t ht => ?_⟩, hGG, fun j hj => ?_⟩
    · unfold Act.put; split <;> exact hd
    · unfold Act.put; split <;> simp [hsz]
    · rw [← hold t ht]
      cases hd' : o.dst with
      | none => rfl
      | some d =>
        have : d ≠ t := fun e => unwritten_spec ht ho (e ▸ hd')
        simp [Act.put, Array.getD_eq_getD_getElem?, Array.getElem?_setIfInBounds_ne this]
    · rw [hsl]
      rcases getD_set_true hj with rfl | hj2
      · refine ⟨hTi, fun oj hoj k hk => ?_⟩
        rw [ho] at hoj; cases hoj
        exact getD_set_keep (hdone k hk)
      · refine ⟨?_, fun oj hoj k hk => getD_set_keep ((hT j hj2).2 oj hoj k hk)⟩
        have hjn : ops[j]? = some (ops[j]'(by
          rw [Array.getD_eq_getD_getElem?] at hj2
          by_cases h : j < ops.size
          · exact h
          · rw [Array.getElem?_eq_none (by omega)] at hj2; simp at hj2)) := Array.getElem?_eq_getElem _
        refine hdep j _ _ _ W' hjn (hT' j hj2) (fun k hk => ?_)
        unfold upd
        rw [if_neg]
        rintro rfl
        rcases hk with rfl | hk
        · rw [hil] at hj2; cases hj2
        · have := (hT j hj2).2 _ hjn k hk
          rw [hil] at this; cases this
  · intro listed a W hs hall ⟨⟨hd, hsz, hold⟩, hGW, hT⟩
    have e : (fun j => listed.getD j false) = (fun j => decide (j < ops.size)) := by
      funext j
      by_cases hj : j < ops.size
      · simp only [hj, decide_true]; exact hall j hj
      · rw [Array.getD_eq_getD_getElem?, Array.getElem?_eq_none (by omega)]
        simp [hj]
    rw [e] at hGW
    exact h a W hd hsz hold (fun j hj => (hT j (hall j hj)).1) hGW
  · simp
  · have hz : ∀ j, (Array.replicate ops.size false).getD j false = false := fun j => by
      rw [Array.getD_eq_getD_getElem?, Array.getElem?_replicate]
      split <;> rfl
    exact ⟨⟨rfl, rfl, fun _ _ => rfl⟩, by simp only [hz]; exact h0, fun j hj => by rw [hz] at hj; cases hj⟩

theorem wp_tells6 {id : Nat} {a0 : Act} {w : World} (hmo : P.follows .mixedOrders = true) (T : Nat → (Nat → Value) → World → Prop) (G : (Nat → Bool) → World → Prop)
    (hB : backward .any ops = true) (hA : dstApart ops = true) (hgd : ∀ (i : Nat) (o : Oper) (j : Nat) (b : Bool), ops[i]? = some o → o.guard = some (j, b) → hangs o j = true ∧ ∀ σ W, T j σ W → σ j = .bool b) (hb : dstBelow ops a0.tmps.size = true)
    (hdep : ∀ j oj σ σ' W, ops[j]? = some oj → T j σ W → (∀ k, k = j ∨ hangs oj k = true → σ' k = σ k) → T j σ' W)
    (h0 : G (fun _ => false) w.drew) (hstep : ∀ i o, ops[i]? = some o → StepTells2 P ops Q T G a0 i o)
    (h : ∀ (a : Act) W, a.defers = a0.defers → a.tmps.size = a0.tmps.size → (∀ t, unwritten ops t = true → a.tmps.getD t undef = a0.tmps.getD t undef) → (∀ j, j < ops.size → T j (sl ops a) W) → G (fun j => decide (j < ops.size)) W → Q .normal a W) :
    (Code.region id ops true).wp P Q a0 w := by
  refine wp_region_any hmo ?_
  exact wpAny_tells6 (w := w.drew) T G hB hA hgd hb hdep h0 hstep h
end
end Go.Proofs.YtolodcdhpnapmaaGreat

/-
  A region that draws its order and has guards, of each of whose operations something is told: what a guard shuts out is told nothing of. No program is named here.
-/
namespace Go.Proofs.YtolodcdhpnapmaaGreat
open Go.RowKit Go.Maps
set_option linter.unusedVariables false

section
variable {P : Program} {ops : Array Oper} {Q : Exit → Act → World → Prop}
theorem wanted_not {a : Act} {o : Oper} {j : Nat} {b : Bool} (hg : o.guard = some (j, b)) (h : sl ops a j = .bool (!b)) : ¬ Region.wanted o (yielded ops a.tmps) = true := by
  unfold Region.wanted
  rw [hg]
  cases b <;> simp [yielded_of h]
def StepTells7 (P : Program) (ops : Array Oper) (Q : Exit → Act → World → Prop) (T : Nat → (Nat → Value) → World → Prop) (G : (Nat → Bool) → World → Prop) (a0 : Act) (i : Nat) (o : Oper) : Prop :=
  ∀ (L : Nat → Bool) (a : Act) (W : World), L i = false → G L W → (∀ t, unwritten ops t = true → a.tmps.getD t undef = a0.tmps.getD t undef) → (∀ j, L j = true → T j (sl ops a) W) → (∀ k, hangs o k = true → L k = true) → Region.wanted o (yielded ops a.tmps) = true →
    o.wp P a W (Stepped2 ops T G L a i o) Q
theorem wpAny_tells7 {a0 : Act} {w : World} (T : Nat → (Nat → Value) → World → Prop) (G : (Nat → Bool) → World → Prop)
    (hB : backward .any ops = true) (hA : dstApart ops = true) (hgd : ∀ (i : Nat) (o : Oper) (j : Nat) (b : Bool), ops[i]? = some o → o.guard = some (j, b) → hangs o j = true ∧ ((∀ σ W, T j σ W → σ j = .bool b) ∨ ((∀ σ W, T j σ W → σ j = .bool (!b)) ∧ ∀ σ W, T i σ W))) (hsk : ∀ L W (i : Nat) (o : Oper), ops[i]? = some o → o.guard ≠ none → G L W → G (fun j => L j || j == i) W) (hb : dstBelow ops a0.tmps.size = true)
    (hdep : ∀ j oj σ σ' W, ops[j]? = some oj → T j σ W → (∀ k, k = j ∨ hangs oj k = true → σ' k = σ k) → T j σ' W)
    (h0 : G (fun _ => false) w) (hstep : ∀ i o, ops[i]? = some o → StepTells7 P ops Q T G a0 i o)
    (h : ∀ (a : Act) W, a.defers = a0.defers → a.tmps.size = a0.tmps.size → (∀ t, unwritten ops t = true → a.tmps.getD t undef = a0.tmps.getD t undef) → (∀ j, j < ops.size → T j (sl ops a) W) → G (fun j => decide (j < ops.size)) W → Q .normal a W) :
    wpAny P .any ops Q ops.size (Array.replicate ops.size false) a0 w := by
  refine wpAny_keeps (fun listed a W => (a.defers = a0.defers ∧ a.tmps.size = a0.tmps.size ∧ (∀ t, unwritten ops t = true → a.tmps.getD t undef = a0.tmps.getD t undef)) ∧ G (fun j => listed.getD j false) W ∧
    (∀ j, listed.getD j false = true → T j (sl ops a) W ∧ ∀ oj, ops[j]? = some oj → ∀ k, hangs oj k = true → listed.getD k false = true)) hB ?_ ?_ _ _ _ _ (by simp) ?_ ?_
  · intro listed a W i hs ⟨⟨hd, hsz, hold⟩, hGW, hT⟩ hi
    obtain ⟨hlt, hnot, haft⟩ := mem_ready hi
    have ho : ops[i]? = some ops[i] := Array.getElem?_eq_getElem hlt
    generalize ops[i] = o at ho
    have hil : listed.getD i false = false := by
      rw [Array.getD_eq_getD_getElem?, Array.getElem?_eq_getElem (by omega)] at hnot ⊢
      simpa using hnot
    have hdone : ∀ j, hangs o j = true → listed.getD j false = true := fun j hh => by
      obtain ⟨ed, hed, hbd, hon⟩ := hangs_spec hh
      exact hon ▸ haft o ho ed hed hbd
    refine wpOp_step ho (fun K' hK' => ?_)
    have hGe : ∀ W', G (fun j => listed.getD j false || j == i) W' → G (fun j => (listed.setIfInBounds i true).getD j false) W' := fun W' hG' => by
      have e : (fun j => (listed.setIfInBounds i true).getD j false) = (fun j => listed.getD j false || j == i) := by
        funext j
        by_cases hji : j = i
        · subst hji
          rw [Array.getD_eq_getD_getElem?, Array.getElem?_setIfInBounds_self_of_lt (by omega)]
          simp
        · rw [Array.getD_eq_getD_getElem?, Array.getElem?_setIfInBounds_ne (fun e => hji e.symm), ← Array.getD_eq_getD_getElem?]
          simp [hji]
      rw [e]
      exact hG'
    have main : ∀ v W', (o.dst = none → v = undef) → G (fun j => listed.getD j false || j == i) W' → (∀ j, listed.getD j false = true → T j (sl ops a) W') → T i (upd (sl ops a) i v) W' → K' (a.put o.dst v) W' := by
      intro v W' hv hG' hT' hTi
      have hsl := sl_put (a := a) hA (by rw [hsz]; exact hb) ho v hv
      refine hK' _ _ ⟨⟨?_, ?_, fun t ht => ?_⟩, hGe _ hG', fun j hj => ?_⟩
      · unfold Act.put; split <;> exact hd
      · unfold Act.put; split <;> simp [hsz]
      · rw [← hold t ht]
        cases hd' : o.dst with
        | none => rfl
        | some d =>
          have : d ≠ t := fun e => unwritten_spec ht ho (e ▸ hd')
          simp [Act.put, Array.getD_eq_getD_getElem?, Array.getElem?_setIfInBounds_ne this]
      · rw [hsl]
        rcases getD_set_true hj with rfl | hj2
        · refine ⟨hTi, fun oj hoj k hk => ?_⟩
          rw [ho] at hoj; cases hoj
          exact getD_set_keep (hdone k hk)
        · refine ⟨?_, fun oj hoj k hk => getD_set_keep ((hT j hj2).2 oj hoj k hk)⟩
          have hjn : ops[j]? = some (ops[j]'(by
            rw [Array.getD_eq_getD_getElem?] at hj2
            by_cases h : j < ops.size
            · exact h
            · rw [Array.getElem?_eq_none (by omega)] at hj2; simp at hj2)) := Array.getElem?_eq_getElem _
          refine hdep j _ _ _ W' hjn (hT' j hj2) (fun k hk => ?_)
          unfold upd
          rw [if_neg]
          rintro rfl
          rcases hk with rfl | hk
          · rw [hil] at hj2; cases hj2
          · have := (hT j hj2).2 _ hjn k hk
            rw [hil] at this; cases this
    by_cases hw : Region.wanted o (yielded ops a.tmps) = true
    case neg =>
      rw [if_neg hw]
      cases hg : o.guard with
      | none => exact absurd (wanted_tells (fun j b h => by rw [hg] at h; cases h)) hw
      | some p =>
        obtain ⟨k, b⟩ := p
        obtain ⟨h1, h2⟩ := hgd i o k b ho hg
        have hTk := (hT k (hdone k h1)).1
        have hTi : ∀ σ W, T i σ W := by
          rcases h2 with h2 | ⟨_, h2⟩
          · exact absurd (wanted_tells (fun j b' h => by rw [hg] at h; cases h; exact h2 _ _ hTk)) hw
          · exact h2
        exact main undef W (fun _ => rfl) (hsk _ _ i o ho (by rw [hg]; exact nofun) hGW) (fun j hj => (hT j hj).1) (hTi _ _)
    rw [if_pos hw]
    refine Oper.wp_mono ?_ (hstep i o ho (fun j => listed.getD j false) a W hil hGW hold (fun j hj => (hT j hj).1) hdone hw)
    rintro a' W' ⟨v, rfl, hv, hG', hT', hTi⟩
    exact main v W' hv hG' hT' hTi
  · intro listed a W hs hall ⟨⟨hd, hsz, hold⟩, hGW, hT⟩
    have e : (fun j => listed.getD j false) = (fun j => decide (j < ops.size)) := by
      funext j
      by_cases hj : j < ops.size
      · simp only [hj, decide_true]; exact hall j hj
      · rw [Array.getD_eq_getD_getElem?, Array.getElem?_eq_none (by omega)]
        simp [hj]
    rw [e] at hGW
    exact h a W hd hsz hold (fun j hj => (hT j (hall j hj)).1) hGW
  · simp
  · have hz : ∀ j, (Array.replicate ops.size false).getD j false = false := fun j => by
      rw [Array.getD_eq_getD_getElem?, Array.getElem?_replicate]
      split <;> rfl
    exact ⟨⟨rfl, rfl, fun _ _ => rfl⟩, by simp only [hz]; exact h0, fun j hj => by rw [hz] at hj; cases hj⟩

theorem wp_tells7 {id : Nat} {a0 : Act} {w : World} (hmo : P.follows .mixedOrders = true) (T : Nat → (Nat → Value) → World → Prop) (G : (Nat → Bool) → World → Prop)
    (hB : backward .any ops = true) (hA : dstApart ops = true) (hgd : ∀ (i : Nat) (o : Oper) (j : Nat) (b : Bool), ops[i]? = some o → o.guard = some (j, b) → hangs o j = true ∧ ((∀ σ W, T j σ W → σ j = .bool b) ∨ ((∀ σ W, T j σ W → σ j = .bool (!b)) ∧ ∀ σ W, T i σ W))) (hsk : ∀ L W (i : Nat) (o : Oper), ops[i]? = some o → o.guard ≠ none → G L W → G (fun j => L j || j == i) W) (hb : dstBelow ops a0.tmps.size = true)
    (hdep : ∀ j oj σ σ' W, ops[j]? = some oj → T j σ W → (∀ k, k = j ∨ hangs oj k = true → σ' k = σ k) → T j σ' W)
    (h0 : G (fun _ => false) w.drew) (hstep : ∀ i o, ops[i]? = some o → StepTells7 P ops Q T G a0 i o)
    (h : ∀ (a : Act) W, a.defers = a0.defers → a.tmps.size = a0.tmps.size → (∀ t, unwritten ops t = true → a.tmps.getD t undef = a0.tmps.getD t undef) → (∀ j, j < ops.size → T j (sl ops a) W) → G (fun j => decide (j < ops.size)) W → Q .normal a W) :
    (Code.region id ops true).wp P Q a0 w := by
  refine wp_region_any hmo ?_
  exact wpAny_tells7 (w := w.drew) T G hB hA hgd hsk hb hdep h0 hstep h
end
end Go.Proofs.YtolodcdhpnapmaaGreat
