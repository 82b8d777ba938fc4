/-
  The texts YN0, YN1, YN2, LQueueNumbers as one.
-/
import Derived.Test.YtflpifelamkagaaGreatY6
import Derived.Test.YtflpifelamkagaaGreatYOPS
import Derived.Lib.SmallJoins
import Derived.Test.YtflpifelamkagaaGreatY7
import Derived.Test.YtflpifelamkagaaGreatV9
import Derived.Test.YtflpifelamkagaaGreatRows
import Derived.Test.YtflpifelamkagaaGreatPB
import Derived.WalkKit
import Derived.ProofKit
import Derived.OpenShut
import Derived.ChangeMaps5

/-
  Deeds written out; rows that are marked.
-/
namespace Go.Proofs.YtflpifelamkagaaGreat
open Go.RowKit
set_option linter.unusedVariables false
set_option linter.unusedSimpArgs false

/-- Each block stays, rows of bytes may be marked. -/
structure Stb (W W' : World) : Prop where
  size : W.heap.size ≤ W'.heap.size
  blk : ∀ (g : Nat) (C : Array Value) (t : TypeId) (fr : Nat × Nat), W.heap[g]? = some (.cells C t fr) → ∃ fr', W'.heap[g]? = some (.cells C t fr') ∧ (t ≠ 5 → fr' = fr)
theorem Stb.refl (W : World) : Stb W W := ⟨Nat.le_refl _, fun g C t fr h => ⟨fr, h, fun _ => rfl⟩⟩
theorem Stb.below {W W' : World} (hb : Below W.heap.size W W') : Stb W W' := ⟨hb.size, fun g C t fr h => ⟨fr, (hb.block g (at_lt h)).trans h, fun _ => rfl⟩⟩
theorem conv_any {W : World} {g n c : Nat} {C : Array Value} {fr : Nat × Nat} (hg : W.heap[g]? = some (.cells C 5 fr)) :
    ∃ W', (convert 36 36 (.slice (some ⟨g, 0, none⟩) n c)).run Tryz.prog W = .ok (.slice (some ⟨g, 0, none⟩) n c) W' ∧ Stb W W' ∧ ∀ X, X ≤ g → Below X W W' := by
  have hsh : W.shape? g = some (5, C.size) := by unfold World.shape?; rw [hg]
  refine ⟨W.freeze ⟨g, C.size, none⟩ 1, ?_, ⟨?_, fun g' C' t' fr' h => ?_⟩, fun X hX => ⟨?_, ?_, ?_, ?_, fun k hk => ?_⟩⟩
  · simp [convert, run_underlying Tryz.underlying36, run_underlying Tryz.underlying5, markStringish, hsh]
  · unfold World.freeze
    rw [if_neg (by decide)]
    simp
  · unfold World.freeze
    rw [if_neg (by decide)]
    simp only [Array.getElem?_modify]
    by_cases e : g = g'
    · subst e
      rw [hg] at h
      injection h with h
      injection h with h1 h2 h3
      subst h1 h2 h3
      rw [if_pos rfl, hg]
      exact ⟨_, rfl, fun h => absurd rfl h⟩
    · rw [if_neg e]
      exact ⟨fr', h, fun _ => rfl⟩
  · unfold World.freeze; rw [if_neg (by decide)]
  · unfold World.freeze; rw [if_neg (by decide)]
  · unfold World.freeze; rw [if_neg (by decide)]
  · unfold World.freeze; rw [if_neg (by decide)]; simp
  · unfold World.freeze
    rw [if_neg (by decide)]
    simp only [Array.getElem?_modify]
    rw [if_neg (by omega)]
/-- A row of bytes written out. -/
def RLit (W : World) (r : ARow) : Prop := (r.A = none ∧ r.n = 0 ∧ r.c = 0 ∧ r.bs = []) ∨ ∃ (g : Nat) (l : List Int) (fr : Nat × Nat), r.A = some ⟨g, 0, none⟩ ∧ W.heap[g]? = some (.cells (u8s l).toArray 5 fr) ∧ r.bs = l.take r.n ∧ r.n ≤ l.length ∧ r.n ≤ r.c ∧ r.c ≤ 1000 ∧ ∀ b ∈ l, IsByte b
theorem RLit.stb {W W' : World} {r : ARow} (h : RLit W r) (hs : Stb W W') : RLit W' r := h.imp id fun ⟨g, l, fr, hA, hg, hr⟩ => by
  obtain ⟨fr', h1, _⟩ := hs.blk g _ _ _ hg
  exact ⟨g, l, fr', hA, h1, hr⟩
theorem RLit.kept {F : Nat → Prop} {W W' : World} {r : ARow} (h : RLit W r) (hk : Kept F W W') (hF : ∀ g C fr, W.heap[g]? = some (.cells C 5 fr) → F g) : RLit W' r :=
  h.imp id fun ⟨g, l, fr, hA, hg, hr⟩ => ⟨g, l, fr, hA, (hk.block g (at_lt hg) (hF g _ fr hg)).trans hg, hr⟩
theorem noR (W : World) : RLit W ⟨none, 0, 0, []⟩ := .inl ⟨rfl, rfl, rfl, rfl⟩
theorem RLit.inB {W : World} {r : ARow} (h : RLit W r) : InB W W.heap.size r := by
  obtain ⟨A, n, c, bs⟩ := r
  rcases h with ⟨e1, e2, e3, e4⟩ | ⟨g, l, fr, hA, hg, hb, hn, hc, hcc, hy⟩
  · simp only at e1 e2 e3 e4
    subst e1 e2 e3 e4
    exact ⟨Rd.nil, fun _ => rfl, Nat.le_refl _, by simp, fun b hb => by cases hb⟩
  · simp only at hA hb hn hc hcc
    subst hA hb
    refine ⟨⟨by simp [u8s, Nat.min_eq_left hn], fun _ => ⟨_, rfl, at_lt hg, fun j u hu => ?_⟩⟩, (fun e => by cases e), hc, by show c ≤ _; omega, fun b hb => hy b (List.mem_of_mem_take hb)⟩
    rw [add_own]
    simp only [World.cell?, hg]
    have : (u8s (l.take n))[j]? = some u := hu
    unfold u8s at this ⊢
    rw [List.map_take, List.getElem?_take] at this
    split at this
    · simpa using this
    · cases this
structure DoLit (W : World) (d : ADo) : Prop where
  b : RLit W d.b
  what : I64 d.what
  fl : 0 ≤ d.fl ∧ d.fl < 18446744073709551616
theorem DoLit.is {W : World} {d : ADo} (h : DoLit W d) : d.Is W W.heap.size := ⟨h.b.inB, h.what, h.fl⟩
theorem DoLit.stb {W W' : World} {d : ADo} (h : DoLit W d) (hs : Stb W W') : DoLit W' d := ⟨h.b.stb hs, h.what, h.fl⟩
theorem DoLit.kept {F : Nat → Prop} {W W' : World} {d : ADo} (h : DoLit W d) (hk : Kept F W W') (hF : ∀ g C fr, W.heap[g]? = some (.cells C 5 fr) → F g) : DoLit W' d := ⟨h.b.kept hk hF, h.what, h.fl⟩
/-- A list of deeds of the call's own. -/
structure DoLst (W : World) (X : Nat) (v : Value) (ds : List ADo) : Prop where
  own : W.ownsRow 0 40 3 v ds.length (ds.flatMap ADo.cells)
  lit : ∀ d ∈ ds, DoLit W d
  low : ∀ g, v.ownBlock = some g → X ≤ g
theorem DoLst.off {W : World} {X : Nat} {v : Value} {ds : List ADo} (h : DoLst W X v ds) : ∀ g C fr, W.heap[g]? = some (.cells C 5 fr) → v.ownBlock ≠ some g := fun g C fr hg e => by
  rcases h.own.2 with ⟨h0, _⟩ | ⟨g', cap, cur, h0, _, h2, _⟩
  · rw [h0] at e; cases e
  · rw [h0] at e
    simp only [Value.ownBlock, Option.some.injEq] at e
    subst e
    rw [hg] at h2
    injection h2 with h2
    injection h2 with _ h5
    exact absurd h5 (by decide)
theorem DoLst.ados {W : World} {X n c : Nat} {A : Option Addr} {ds : List ADo} (h : DoLst W X (.slice A n c) ds) (hn : n = ds.length) : ADos W W.heap.size A n ds := by
  subst hn
  obtain ⟨A', c', e, hr⟩ := owns_slice h.own
  cases e
  exact ⟨hr, fun d hd => (h.lit d hd).is⟩
theorem DoLst.stb {W W' : World} {X : Nat} {v : Value} {ds : List ADo} (h : DoLst W X v ds) (hs : Stb W W') : DoLst W' X v ds := by
  refine ⟨⟨h.own.1, ?_⟩, fun d hd => (h.lit d hd).stb hs, h.low⟩
  rcases h.own.2 with hn | ⟨g, cap, cur, e, h1, h2, rest⟩
  · exact .inl hn
  · obtain ⟨fr', h3, h4⟩ := hs.blk g _ _ _ h2
    rw [h4 (by decide)] at h3
    exact .inr ⟨g, cap, cur, e, h1, h3, rest⟩
theorem doInfo : (Tryz.prog.info? 40).map (fun i => (i.zero, i.size, i.bytes)) = some (some (.agg #[.int .i64 0, .slice none 0 0, .int .u64 0]), 3, 40) := by kernel_rfl
theorem do_parts : ∃ i, Tryz.prog.info? 40 = some i ∧ i.zero = some (.agg #[.int .i64 0, .slice none 0 0, .int .u64 0]) ∧ i.size = 3 ∧ i.bytes = 40 := by
  have h := doInfo
  cases hi : Tryz.prog.info? 40 with
  | none => rw [hi] at h; cases h
  | some i =>
    rw [hi] at h
    simp only [Option.map_some, Option.some.injEq, Prod.mk.injEq] at h
    exact ⟨i, rfl, h.1, h.2.1, h.2.2⟩
theorem one_cells (ds : List ADo) : ∀ u ∈ ds.flatMap ADo.cells, u.oneCell' = true := by
  intro u hu
  obtain ⟨d, _, hd⟩ := List.mem_flatMap.1 hu
  simp [ADo.cells] at hd
  rcases hd with rfl | rfl | rfl <;> rfl
/-- More deeds behind them. -/
theorem DoLst.more {W W' : World} {X : Nat} {v v' : Value} {ds es : List ADo} (h : DoLst W X v ds) (hl : Longer W W' 40 3 v v' (ds.length + es.length) (ds.flatMap ADo.cells ++ es.flatMap ADo.cells)) (he : ∀ d ∈ es, DoLit W d) (hX : X ≤ W.heap.size) : DoLst W' X v' (ds ++ es) ∧ Below X W W' := by
  have hk : Kept (fun g => v.ownBlock ≠ some g) W W' := (Kept.refl _ W).grown hl.2.1 (fun g e _ hh => hh e)
  refine ⟨⟨?_, fun d hd => ?_, fun g hg' => ?_⟩, hk.to_below (fun g hgX e => by have := h.low g e; omega) hX⟩
  · rw [List.length_append, List.flatMap_append]
    exact hl.1
  · rcases List.mem_append.1 hd with hd | hd
    · exact (h.lit d hd).kept hk h.off
    · exact (he d hd).kept hk h.off
  · rcases hl.2.2 with e | e
    · exact h.low g (e ▸ hg')
    · rw [e] at hg'
      injection hg' with hg'
      omega
def numL : List Int := [-9223372036854775808, -1, 0, 1, 2, 4, 1024, 1025, 9223372036854775807]
theorem num_at {i : Nat} (h : i < 9) : ∃ x, numL[i]? = some x ∧ I64 x := by
  have : ∀ i : Fin 9, ∃ x, numL[i.1]? = some x ∧ I64 x := by
    intro ⟨i, hi⟩
    match i, hi with
    | 0, _ => exact ⟨_, rfl, by unfold I64; omega⟩
    | 1, _ => exact ⟨_, rfl, by unfold I64; omega⟩
    | 2, _ => exact ⟨_, rfl, by unfold I64; omega⟩
    | 3, _ => exact ⟨_, rfl, by unfold I64; omega⟩
    | 4, _ => exact ⟨_, rfl, by unfold I64; omega⟩
    | 5, _ => exact ⟨_, rfl, by unfold I64; omega⟩
    | 6, _ => exact ⟨_, rfl, by unfold I64; omega⟩
    | 7, _ => exact ⟨_, rfl, by unfold I64; omega⟩
    | 8, _ => exact ⟨_, rfl, by unfold I64; omega⟩
  exact this ⟨i, h⟩
def numCells : Array Value := #[.int .i64 (-9223372036854775808), .int .i64 (-1), .int .i64 0, .int .i64 1, .int .i64 2, .int .i64 4, .int .i64 1024, .int .i64 1025, .int .i64 9223372036854775807]
theorem num_cell {W : World} {B : Nat} (hb : W.heap[B]? = some (.cells numCells 3 (0, 0))) {i : Nat} {x : Int} (hx : numL[i]? = some x) : W.cell? ⟨B, i, none⟩ = some (.int .i64 x) := by
  rw [blk_cell hb]
  have e : numCells = (numL.map (Value.int .i64 ·)).toArray := rfl
  rw [e]
  simp [hx]
/-- A literal of three bytes that is made a row. -/
theorem lit_row {W : World} {g : Nat} {l : List Int} {fr : Nat × Nat} (hg : W.heap[g]? = some (.cells (u8s l).toArray 5 fr)) (hl : l.length ≤ 1000) (hy : ∀ b ∈ l, IsByte b) (n c : Nat) (hn : n ≤ l.length) (hc : n ≤ c) (hcc : c ≤ 1000) : RLit W ⟨some ⟨g, 0, none⟩, n, c, l.take n⟩ :=
  .inr ⟨g, l, fr, rfl, hg, rfl, hn, hc, hcc, hy⟩
end Go.Proofs.YtflpifelamkagaaGreat

/-
  QueueNumbers: its five deeds and its three deeds.
-/
namespace Go.Proofs.YtflpifelamkagaaGreat
open Go.RowKit
set_option linter.unusedVariables false
set_option linter.unusedSimpArgs false

theorem i64c (n : Int) (h : -9223372036854775808 ≤ n ∧ n ≤ 9223372036854775807) : I64 n := h
theorem u64c (n : Int) (h : 0 ≤ n ∧ n < 18446744073709551616) : 0 ≤ n ∧ n < 18446744073709551616 := h
def noRow : ARow := ⟨none, 0, 0, []⟩
theorem noRow_lit (W : World) : RLit W noRow := noR W
theorem es_rd {W : World} {z g : Nat} {es : List ADo} (hel : es.length = z) (hgc : W.heap[g]? = some (.cells (es.flatMap ADo.cells).toArray 40 (0, 0))) : Rd W W.heap.size 3 (some ⟨g, 0, none⟩) z (es.flatMap ADo.cells) :=
  ⟨by rw [flat_length ADo.cells 3 (fun _ => rfl), hel], fun _ => ⟨_, rfl, at_lt hgc, fun jj u hu => by
    rw [add_own, blk_cell hgc]
    simpa using hu⟩⟩
/-- The three deeds of a round. -/
theorem three_parts (wr : World) (c1 c2 w3 m2 fn : Int) (mx : Nat) (hmx : mx ≤ 3) (h1 : IsByte c1) (h2 : IsByte c2) (h3 : I64 w3) (h4 : 0 ≤ m2 ∧ m2 < 18446744073709551616) (h5 : 0 ≤ fn ∧ fn < 18446744073709551616) (W6 : World)
    (hW6 : W6 = (((wr.alloc (.cells #[.int .u8 c1, .int .u8 120, .int .u8 121] 5)).alloc (.cells #[.int .u8 c2, .int .u8 122] 5)).alloc (.cells #[.int .i64 0, .slice (some ⟨wr.heap.size, 0, none⟩) mx 3, .int .u64 fn, .int .i64 w3, .slice none 0 0, .int .u64 0, .int .i64 0, .slice (some ⟨wr.heap.size + 1, 0, none⟩) 2 2, .int .u64 m2] 40))) :
    ∃ es : List ADo, es.length = 3 ∧ es.flatMap ADo.cells = [.int .i64 0, .slice (some ⟨wr.heap.size, 0, none⟩) mx 3, .int .u64 fn, .int .i64 w3, .slice none 0 0, .int .u64 0, .int .i64 0, .slice (some ⟨wr.heap.size + 1, 0, none⟩) 2 2, .int .u64 m2] ∧
      (∀ d ∈ es, DoLit W6 d) ∧ Rd W6 W6.heap.size 3 (some ⟨wr.heap.size + 2, 0, none⟩) 3 [.int .i64 0, .slice (some ⟨wr.heap.size, 0, none⟩) mx 3, .int .u64 fn, .int .i64 w3, .slice none 0 0, .int .u64 0, .int .i64 0, .slice (some ⟨wr.heap.size + 1, 0, none⟩) 2 2, .int .u64 m2] ∧ Below wr.heap.size wr W6 := by
  have b1 := below1 wr (.cells (u8s [c1, 120, 121]).toArray 5)
  have g1 := World.alloc_heap_new wr (.cells (u8s [c1, 120, 121]).toArray 5)
  have s1 : (wr.alloc (.cells (u8s [c1, 120, 121]).toArray 5)).heap.size = wr.heap.size + 1 := by simp
  obtain ⟨W4, hW4⟩ : ∃ W4, W4 = wr.alloc (.cells (u8s [c1, 120, 121]).toArray 5) := ⟨_, rfl⟩
  rw [← hW4] at b1 g1 s1
  have b2 := below1 W4 (.cells (u8s [c2, 122]).toArray 5)
  have g2 := World.alloc_heap_new W4 (.cells (u8s [c2, 122]).toArray 5)
  have s2 : (W4.alloc (.cells (u8s [c2, 122]).toArray 5)).heap.size = W4.heap.size + 1 := by simp
  obtain ⟨W5, hW5⟩ : ∃ W5, W5 = W4.alloc (.cells (u8s [c2, 122]).toArray 5) := ⟨_, rfl⟩
  rw [← hW5] at b2 g2 s2
  obtain ⟨es, hes⟩ : ∃ es : List ADo, es = [⟨0, ⟨some ⟨wr.heap.size, 0, none⟩, mx, 3, [c1, 120, 121].take mx⟩, fn⟩, ⟨w3, noRow, 0⟩, ⟨0, ⟨some ⟨wr.heap.size + 1, 0, none⟩, 2, 2, [c2, 122]⟩, m2⟩] := ⟨_, rfl⟩
  have e6 : W6 = W5.alloc (.cells (es.flatMap ADo.cells).toArray 40) := by
    rw [hW6, hW5, hW4, hes]
    rfl
  have b3 := below1 W5 (.cells (es.flatMap ADo.cells).toArray 40)
  have g3 := World.alloc_heap_new W5 (.cells (es.flatMap ADo.cells).toArray 40)
  rw [← e6] at b3 g3
  clear hW6 e6
  have q1 : W6.heap[wr.heap.size]? = some (.cells (u8s [c1, 120, 121]).toArray 5) := (b3.block _ (by omega)).trans ((b2.block _ (by omega)).trans g1)
  have q2 : W6.heap[wr.heap.size + 1]? = some (.cells (u8s [c2, 122]).toArray 5) := by
    rw [s1] at g2
    exact (b3.block _ (by omega)).trans g2
  have hec : es.flatMap ADo.cells = [.int .i64 0, .slice (some ⟨wr.heap.size, 0, none⟩) mx 3, .int .u64 fn, .int .i64 w3, .slice none 0 0, .int .u64 0, .int .i64 0, .slice (some ⟨wr.heap.size + 1, 0, none⟩) 2 2, .int .u64 m2] := by rw [hes]; rfl
  have hel : es.length = 3 := by rw [hes]; rfl
  have hrd := es_rd hel g3
  rw [show W5.heap.size = wr.heap.size + 2 by omega] at hrd
  refine ⟨es, hel, hec, fun d hd => ?_, by rw [hec] at hrd; exact hrd, b1.trans ((b2.mono (by omega)).trans (b3.mono (by omega)))⟩
  rw [hes] at hd
  simp only [List.mem_cons, List.not_mem_nil, or_false] at hd
  rcases hd with rfl | rfl | rfl
  · refine ⟨.inr ⟨_, [c1, 120, 121], (0, 0), rfl, q1, rfl, hmx, hmx, (by show 3 ≤ 1000; decide), fun b hb => ?_⟩, i64c 0 (by decide), h5⟩
    simp only [List.mem_cons, List.not_mem_nil, or_false] at hb
    rcases hb with rfl | rfl | rfl
    · exact h1
    · unfold IsByte; omega
    · unfold IsByte; omega
  · exact ⟨noR _, h3, u64c 0 (by decide)⟩
  · refine ⟨.inr ⟨_, [c2, 122], (0, 0), rfl, q2, rfl, Nat.le_refl _, Nat.le_refl _, (by show 2 ≤ 1000; decide), fun b hb => ?_⟩, i64c 0 (by decide), h4⟩
    simp only [List.mem_cons, List.not_mem_nil, or_false] at hb
    rcases hb with rfl | rfl
    · exact h2
    · unfold IsByte; omega
/-- Three signs as a row. -/
def mk3 (l : List Int) (w : World) : World := w.alloc (.cells (u8s l).toArray 5 (3, 4))
theorem mk3_abc (w : World) (n : Nat) (hn : n = w.heap.size) : (convert 36 36 (.slice (some ⟨n, 0, none⟩) 3 3)).run Tryz.prog (w.alloc (.cells #[.int .u8 97, .int .u8 98, .int .u8 99] 5)) = .ok (.slice (some ⟨n, 0, none⟩) 3 3) (mk3 [97, 98, 99] w) := by
  subst hn
  exact Joins.run_convert_bytes_const_at (P := Tryz.prog) w 36 5 #[.int .u8 97, .int .u8 98, .int .u8 99] 3 3 w.heap.size rfl Tryz.underlying36 Tryz.underlying5
theorem mk3_def (w : World) (n : Nat) (hn : n = w.heap.size) : (convert 36 36 (.slice (some ⟨n, 0, none⟩) 3 3)).run Tryz.prog (w.alloc (.cells #[.int .u8 100, .int .u8 101, .int .u8 102] 5)) = .ok (.slice (some ⟨n, 0, none⟩) 3 3) (mk3 [100, 101, 102] w) := by
  subst hn
  exact Joins.run_convert_bytes_const_at (P := Tryz.prog) w 36 5 #[.int .u8 100, .int .u8 101, .int .u8 102] 3 3 w.heap.size rfl Tryz.underlying36 Tryz.underlying5
/-- The law's five deeds. -/
theorem lives5 (kk ke va en : Int) (hkk : 0 ≤ kk ∧ kk < 256) (W : World) :
    Calls Tryz.prog 3 #[.agg #[.int .u8 kk, .int .i64 ke, .int .i64 va, .int .i64 en], .slice (some ⟨(mk3 [100, 101, 102] (mk3 [97, 98, 99] W)).heap.size, 0, none⟩) 5 5]
      ((mk3 [100, 101, 102] (mk3 [97, 98, 99] W)).alloc (.cells #[.int .i64 2, .slice none 0 0, .int .u64 0, .int .i64 0, .slice (some ⟨W.heap.size, 0, none⟩) 3 3, .int .u64 0, .int .i64 3, .slice none 0 0, .int .u64 0, .int .i64 0, .slice (some ⟨(mk3 [97, 98, 99] W).heap.size, 0, none⟩) 3 3, .int .u64 0, .int .i64 2, .slice none 0 0, .int .u64 0] 40)) fun e w' => e = .returned (.bool true) ∧ Below W.heap.size W w' := by
  have b1 : Below W.heap.size W (mk3 [97, 98, 99] W) := below1 W _
  have g1 : (mk3 [97, 98, 99] W).heap[W.heap.size]? = some (.cells (u8s [97, 98, 99]).toArray 5 (3, 4)) := World.alloc_heap_new W _
  generalize mk3 [97, 98, 99] W = W4 at *
  have b2 : Below W4.heap.size W4 (mk3 [100, 101, 102] W4) := below1 W4 _
  have g2 : (mk3 [100, 101, 102] W4).heap[W4.heap.size]? = some (.cells (u8s [100, 101, 102]).toArray 5 (3, 4)) := World.alloc_heap_new W4 _
  generalize mk3 [100, 101, 102] W4 = W5 at *
  obtain ⟨es, hes⟩ : ∃ es : List ADo, es = [⟨2, noRow, 0⟩, ⟨0, ⟨some ⟨W.heap.size, 0, none⟩, 3, 3, [97, 98, 99]⟩, 0⟩, ⟨3, noRow, 0⟩, ⟨0, ⟨some ⟨W4.heap.size, 0, none⟩, 3, 3, [100, 101, 102]⟩, 0⟩, ⟨2, noRow, 0⟩] := ⟨_, rfl⟩
  obtain ⟨W6, hW6⟩ : ∃ W6, W6 = W5.alloc (.cells (es.flatMap ADo.cells).toArray 40) := ⟨_, rfl⟩
  have b3 := below1 W5 (.cells (es.flatMap ADo.cells).toArray 40)
  have g3 := World.alloc_heap_new W5 (.cells (es.flatMap ADo.cells).toArray 40)
  rw [← hW6] at b3 g3
  have e6 : (W5.alloc (.cells #[.int .i64 2, .slice none 0 0, .int .u64 0, .int .i64 0, .slice (some ⟨W.heap.size, 0, none⟩) 3 3, .int .u64 0, .int .i64 3, .slice none 0 0, .int .u64 0, .int .i64 0, .slice (some ⟨W4.heap.size, 0, none⟩) 3 3, .int .u64 0, .int .i64 2, .slice none 0 0, .int .u64 0] 40)) = W6 := by
    rw [hW6, hes]
    rfl
  rw [e6]
  clear e6 hW6
  have l1 := at_lt g1
  have l2 := at_lt g2
  have z1 := b1.size
  have z2 := b2.size
  have z3 := b3.size
  have q1 := (b3.block _ (by omega)).trans ((b2.block _ l1).trans g1)
  have q2 := (b3.block _ l2).trans g2
  have hel : es.length = 5 := by rw [hes]; rfl
  have hado : ADos W6 W6.heap.size (some ⟨W5.heap.size, 0, none⟩) 5 es := ⟨es_rd hel g3, fun d hd => DoLit.is (by
    rw [hes] at hd
    simp only [List.mem_cons, List.not_mem_nil, or_false] at hd
    rcases hd with rfl | rfl | rfl | rfl | rfl
    · exact ⟨noR _, i64c 2 (by decide), u64c 0 (by decide)⟩
    · refine ⟨.inr ⟨_, [97, 98, 99], (3, 4), rfl, q1, rfl, Nat.le_refl _, Nat.le_refl _, (by show 3 ≤ 1000; decide), fun b hb => ?_⟩, i64c 0 (by decide), u64c 0 (by decide)⟩
      simp only [List.mem_cons, List.not_mem_nil, or_false] at hb
      unfold IsByte; omega
    · exact ⟨noR _, i64c 3 (by decide), u64c 0 (by decide)⟩
    · refine ⟨.inr ⟨_, [100, 101, 102], (3, 4), rfl, q2, rfl, Nat.le_refl _, Nat.le_refl _, (by show 3 ≤ 1000; decide), fun b hb => ?_⟩, i64c 0 (by decide), u64c 0 (by decide)⟩
      simp only [List.mem_cons, List.not_mem_nil, or_false] at hb
      unfold IsByte; omega
    · exact ⟨noR _, i64c 2 (by decide), u64c 0 (by decide)⟩)⟩
  refine (law_queueLives kk ke va en hkk _ 5 5 es W6 hado (by decide)).mono fun e w' ⟨h1, h2⟩ => ⟨h1, ?_⟩
  exact b1.trans ((b2.mono (by omega)).trans ((b3.mono (by omega)).trans (h2.mono (by omega))))
end Go.Proofs.YtflpifelamkagaaGreat

/-
  QueueNumbers' walk.
-/
namespace Go.Proofs.YtflpifelamkagaaGreat
open Go.RowKit
set_option linter.unusedVariables false
set_option linter.unusedSimpArgs false

theorem third (k : Nat) (h : k < 30) : ∃ kk : Nat, kk < 10 ∧ (k : Int).tdiv 3 = (kk : Int) ∧ IntKind.i64.wrap (kk : Int) = (kk : Int) ∧ IntKind.u8.wrap (kk : Int) = (kk : Int) := by
  refine ⟨k / 3, by omega, ?_, ?_, ?_⟩
  · rw [Int.tdiv_eq_ediv_of_nonneg (by omega)]; omega
  · simp [IntKind.wrap, IntKind.bits, IntKind.signed]; omega
  · simp [IntKind.wrap, IntKind.bits, IntKind.signed]; omega
theorem row_nums (i : Nat) (h : i < 6) : ∃ c1 c2 r4 r3 w3 r2 m2 : Int, IntKind.i64.wrap (97 + (i : Int)) = c1 ∧ IntKind.u8.wrap c1 = c1 ∧ IntKind.i64.wrap (65 + (i : Int)) = c2 ∧ IntKind.u8.wrap c2 = c2 ∧ (i : Int).tmod 4 = r4 ∧ r4.tmod 3 = r3 ∧ IntKind.i64.wrap (3 - r3) = w3 ∧ (i : Int).tmod 2 = r2 ∧ IntKind.i64.wrap (r2 * 2) = m2 ∧ IntKind.u64.wrap m2 = m2 ∧ IsByte c1 ∧ IsByte c2 ∧ I64 w3 ∧ (0 ≤ m2 ∧ m2 < 18446744073709551616) := by
  match i, h with
  | 0, _ => exact ⟨97, 65, 0, 0, 3, 0, 0, rfl, rfl, rfl, rfl, rfl, rfl, rfl, rfl, rfl, rfl, by unfold IsByte; omega, by unfold IsByte; omega, by unfold I64; omega, by omega⟩
  | 1, _ => exact ⟨98, 66, 1, 1, 2, 1, 2, rfl, rfl, rfl, rfl, rfl, rfl, rfl, rfl, rfl, rfl, by unfold IsByte; omega, by unfold IsByte; omega, by unfold I64; omega, by omega⟩
  | 2, _ => exact ⟨99, 67, 2, 2, 1, 0, 0, rfl, rfl, rfl, rfl, rfl, rfl, rfl, rfl, rfl, rfl, by unfold IsByte; omega, by unfold IsByte; omega, by unfold I64; omega, by omega⟩
  | 3, _ => exact ⟨100, 68, 3, 0, 3, 1, 2, rfl, rfl, rfl, rfl, rfl, rfl, rfl, rfl, rfl, rfl, by unfold IsByte; omega, by unfold IsByte; omega, by unfold I64; omega, by omega⟩
  | 4, _ => exact ⟨101, 69, 0, 0, 3, 0, 0, rfl, rfl, rfl, rfl, rfl, rfl, rfl, rfl, rfl, rfl, by unfold IsByte; omega, by unfold IsByte; omega, by unfold I64; omega, by omega⟩
  | 5, _ => exact ⟨102, 70, 1, 1, 2, 1, 2, rfl, rfl, rfl, rfl, rfl, rfl, rfl, rfl, rfl, rfl, by unfold IsByte; omega, by unfold IsByte; omega, by unfold I64; omega, by omega⟩
theorem top_nums (n : Nat) (h : n < 4) : ∃ mx : Nat, (if (n : Int) < 1 then 1 else (n : Int)) = (mx : Int) ∧ mx ≤ 3 := by
  match n, h with
  | 0, _ => exact ⟨1, rfl, by omega⟩
  | 1, _ => exact ⟨1, rfl, by omega⟩
  | 2, _ => exact ⟨2, rfl, by omega⟩
  | 3, _ => exact ⟨3, rfl, by omega⟩
theorem set_heap {w : World} {b i : Nat} {cs : Array Value} {t : TypeId} (h : w.heap[b]? = some (.cells cs t (0, 0))) (u : Value) : (w.setCell ⟨b, i, none⟩ u).heap[b]? = some (.cells (cs.setIfInBounds i u) t (0, 0)) := by
  simp [World.setCell, Array.getElem?_modify, h]
set_option maxRecDepth 100000 in
set_option maxHeartbeats 20000000 in
theorem law_queueNumbers (w : World) : Calls Tryz.prog 4 #[] w fun e w' => e = .returned (.bool true) ∧ Below w.heap.size w w' := by
  have hx := World.alloc_heap_new w (.cells numCells 3)
  have hb := below1 w (.cells numCells 3)
  generalize hW1 : w.alloc (.cells numCells 3) = W1 at hx hb
  have HW1 := hide hW1
  have HX := hide hx
  have HB := hide hb
  have HN : Hid (∀ W, Below W1.heap.size W1 W → ∀ (i : Nat) (x : Int), numL[i]? = some x → W.cell? ⟨w.heap.size, i, none⟩ = some (.int .i64 x)) := hide (fun W hbW i x hxx => num_cell ((hbW.block _ (at_lt hx)).trans hx) hxx)
  have HZ := hide (Below.refl W1.heap.size W1)
  have HEL : Hid (∀ (args : Array Value) (W : World), (callFunc 3 args).run Tryz.prog W = .ok (.enter 3 args) W) := hide (enters_of Tryz.func3 (by kernel_rfl) rfl)
  clear hx hb hW1
  go_enter Tryz.func4, Tryz.ntmps4
  go_upto_region 2 with fail
  refine Eq.mp (congrArg (Code.wp Tryz.prog _ _ _) HW1.out.symm) ?_
  go_wp2_with fail
  go_loopw [2] (fun u wq => ∃ i : Nat, i ≤ 9 ∧ u = .int .i64 i ∧ Below W1.heap.size W1 wq) (fun u _ => 9 - (intOf u).toNat)
  case atStart => exact ⟨0, by omega, rfl, HZ.out⟩
  case round =>
    obtain ⟨i, hi, rfl, hb⟩ := hrel
    have HBI := hide hb
    clear hb
    by_cases hi9 : i < 9
    · have di : decide ((i : Int) < 9) = true := decide_eq_true (by omega)
      obtain ⟨x, hx, hx64⟩ := num_at hi9
      have HXI := hide hx
      clear hx
      go_wp2_with fail
      go_loopw [3] (fun u wq => ∃ k : Nat, k ≤ 30 ∧ u = .int .i64 k ∧ Below W1.heap.size W1 wq) (fun u _ => 30 - (intOf u).toNat)
      case atStart => exact ⟨0, by omega, rfl, HBI.out⟩
      case round =>
        obtain ⟨k, hk, rfl, hb⟩ := hrel
        have HBK := hide hb
        clear hb
        by_cases hk30 : k < 30
        · have dk : decide ((k : Int) < 30) = true := decide_eq_true (by omega)
          obtain ⟨kk, hkk10, hkd, hk64, hk8⟩ := third k hk30
          have hkk : (0 : Int) ≤ (kk : Int) ∧ (kk : Int) < 256 := by omega
          have hbx := below1 wr (.cells #[.int .u8 kk, .int .i64 0, .int .i64 3, .int .i64 2] 24)
          have hxx := World.alloc_heap_new wr (.cells #[.int .u8 kk, .int .i64 0, .int .i64 3, .int .i64 2] 24)
          have cN := HN.out _ (HBK.out.trans (hbx.mono HBK.out.size)) i x HXI.out
          have hf0 : ∀ j, (wr.alloc (.cells #[.int .u8 kk, .int .i64 0, .int .i64 3, .int .i64 2] 24)).frozen? ⟨wr.heap.size, j, none⟩ = false := fun j => by unfold World.frozen?; simp only [hxx]; simp
          have j0 : (0 : Int) ≤ (i : Int) := by omega
          have j1 : (i : Int) < 9 := by omega
          by_cases h0 : (k : Int).tmod 3 = 0
          · skip
            have t0 : ((k : Int).tmod 3 == 0) = true := by simpa using h0
            have hb5 := below1 wr (.cells #[.int .u8 kk, .int .i64 x, .int .i64 3, .int .i64 2] 24)
            have hx5 := World.alloc_heap_new wr (.cells #[.int .u8 kk, .int .i64 x, .int .i64 3, .int .i64 2] 24)
            have cu : (wr.alloc (.cells #[.int .u8 kk, .int .i64 0, .int .i64 3, .int .i64 2] 24)).cell? ⟨wr.heap.size, 1, none⟩ = some (.int .i64 0) := (blk_cell hxx 1).trans rfl
            have hfz := hf0 1
            have HB5 := hide (HBK.out.trans (hb5.mono HBK.out.size))
            have HXX := hide hx5
            clear hb5 hx5 hbx hxx hf0
            go_upto_region 15 with fail
            generalize hSb : wr.heap.size = Sb at *
            generalize wr.alloc (.cells #[.int .u8 kk, .int .i64 x, .int .i64 3, .int .i64 2] 24) = W3 at HB5 HXX ⊢
            have y0 : W3.cell? ⟨Sb, 0, none⟩ = some (.int .u8 kk) := (blk_cell HXX.out 0).trans rfl
            have y1 : W3.cell? ⟨Sb, 1, none⟩ = some (.int .i64 x) := (blk_cell HXX.out 1).trans rfl
            have y2 : W3.cell? ⟨Sb, 2, none⟩ = some (.int .i64 3) := (blk_cell HXX.out 2).trans rfl
            have y3 : W3.cell? ⟨Sb, 3, none⟩ = some (.int .i64 2) := (blk_cell HXX.out 3).trans rfl
            have hc1 := mk3_abc W3 W3.heap.size rfl
            have hc2 := mk3_def (mk3 [97, 98, 99] W3) (mk3 [97, 98, 99] W3).heap.size rfl
            have HL5 := hide (lives5 kk x 3 2 hkk W3)
            clear cN cu hfz
            go_wp2_with (go_at_call 3; refine stop_here ?_)
            show Hid _
            refine start_here ?_
            refine HL5.out.mono ?_
            rintro e w7 ⟨rfl, hb⟩
            have HB7 := hide (HB5.out.trans (hb.mono HB5.out.size))
            clear hb y0 y1 y2 y3 hc1 hc2 HL5
            go_wp2_with fail
            go_roundw
            case rel => exact ⟨k + 1, by omega, by go_num, HB7.out⟩
            case measure => simp [intOf]; omega
          by_cases h1 : (k : Int).tmod 3 = 1
          · skip
            have t0 : ((k : Int).tmod 3 == 0) = false := by simpa using h0
            have t1 : ((k : Int).tmod 3 == 1) = true := by simpa using h1
            have hb5 := below1 wr (.cells #[.int .u8 kk, .int .i64 0, .int .i64 x, .int .i64 2] 24)
            have hx5 := World.alloc_heap_new wr (.cells #[.int .u8 kk, .int .i64 0, .int .i64 x, .int .i64 2] 24)
            have cu : (wr.alloc (.cells #[.int .u8 kk, .int .i64 0, .int .i64 3, .int .i64 2] 24)).cell? ⟨wr.heap.size, 2, none⟩ = some (.int .i64 3) := (blk_cell hxx 2).trans rfl
            have hfz := hf0 2
            have HB5 := hide (HBK.out.trans (hb5.mono HBK.out.size))
            have HXX := hide hx5
            clear hb5 hx5 hbx hxx hf0
            go_upto_region 15 with fail
            generalize hSb : wr.heap.size = Sb at *
            generalize wr.alloc (.cells #[.int .u8 kk, .int .i64 0, .int .i64 x, .int .i64 2] 24) = W3 at HB5 HXX ⊢
            have y0 : W3.cell? ⟨Sb, 0, none⟩ = some (.int .u8 kk) := (blk_cell HXX.out 0).trans rfl
            have y1 : W3.cell? ⟨Sb, 1, none⟩ = some (.int .i64 0) := (blk_cell HXX.out 1).trans rfl
            have y2 : W3.cell? ⟨Sb, 2, none⟩ = some (.int .i64 x) := (blk_cell HXX.out 2).trans rfl
            have y3 : W3.cell? ⟨Sb, 3, none⟩ = some (.int .i64 2) := (blk_cell HXX.out 3).trans rfl
            have hc1 := mk3_abc W3 W3.heap.size rfl
            have hc2 := mk3_def (mk3 [97, 98, 99] W3) (mk3 [97, 98, 99] W3).heap.size rfl
            have HL5 := hide (lives5 kk 0 x 2 hkk W3)
            clear cN cu hfz
            go_wp2_with (go_at_call 3; refine stop_here ?_)
            show Hid _
            refine start_here ?_
            refine HL5.out.mono ?_
            rintro e w7 ⟨rfl, hb⟩
            have HB7 := hide (HB5.out.trans (hb.mono HB5.out.size))
            clear hb y0 y1 y2 y3 hc1 hc2 HL5
            go_wp2_with fail
            go_roundw
            case rel => exact ⟨k + 1, by omega, by go_num, HB7.out⟩
            case measure => simp [intOf]; omega
          · skip
            have e3 : (k : Int).tmod 3 = (k : Int) % 3 := Int.tmod_eq_emod_of_nonneg (by omega)
            have h2 : (k : Int).tmod 3 = 2 := by omega
            clear e3
            have hb5 := below1 wr (.cells #[.int .u8 kk, .int .i64 0, .int .i64 3, .int .i64 x] 24)
            have hx5 := World.alloc_heap_new wr (.cells #[.int .u8 kk, .int .i64 0, .int .i64 3, .int .i64 x] 24)
            have cu : (wr.alloc (.cells #[.int .u8 kk, .int .i64 0, .int .i64 3, .int .i64 2] 24)).cell? ⟨wr.heap.size, 3, none⟩ = some (.int .i64 2) := (blk_cell hxx 3).trans rfl
            have hfz := hf0 3
            have HB5 := hide (HBK.out.trans (hb5.mono HBK.out.size))
            have HXX := hide hx5
            clear hb5 hx5 hbx hxx hf0
            go_upto_region 15 with fail
            generalize hSb : wr.heap.size = Sb at *
            generalize wr.alloc (.cells #[.int .u8 kk, .int .i64 0, .int .i64 3, .int .i64 x] 24) = W3 at HB5 HXX ⊢
            have y0 : W3.cell? ⟨Sb, 0, none⟩ = some (.int .u8 kk) := (blk_cell HXX.out 0).trans rfl
            have y1 : W3.cell? ⟨Sb, 1, none⟩ = some (.int .i64 0) := (blk_cell HXX.out 1).trans rfl
            have y2 : W3.cell? ⟨Sb, 2, none⟩ = some (.int .i64 3) := (blk_cell HXX.out 2).trans rfl
            have y3 : W3.cell? ⟨Sb, 3, none⟩ = some (.int .i64 x) := (blk_cell HXX.out 3).trans rfl
            have hc1 := mk3_abc W3 W3.heap.size rfl
            have hc2 := mk3_def (mk3 [97, 98, 99] W3) (mk3 [97, 98, 99] W3).heap.size rfl
            have HL5 := hide (lives5 kk 0 3 x hkk W3)
            clear cN cu hfz
            go_wp2_with (go_at_call 3; refine stop_here ?_)
            show Hid _
            refine start_here ?_
            refine HL5.out.mono ?_
            rintro e w7 ⟨rfl, hb⟩
            have HB7 := hide (HB5.out.trans (hb.mono HB5.out.size))
            clear hb y0 y1 y2 y3 hc1 hc2 HL5
            go_wp2_with fail
            go_roundw
            case rel => exact ⟨k + 1, by omega, by go_num, HB7.out⟩
            case measure => simp [intOf]; omega
        · obtain rfl : k = 30 := by omega
          go_wp2_with fail
          go_roundw
          case rel => exact ⟨i + 1, by omega, by go_num, HBK.out⟩
          case measure => simp [intOf]; omega
    · obtain rfl : i = 9 := by omega
      rw [show ((9 : Nat) : Int) = 9 from rfl]
      go_wp2_with fail
      go_loopw [5] (fun u wq => ∃ kd : Nat, kd ≤ 2 ∧ u = .int .i64 kd ∧ Below W1.heap.size W1 wq) (fun u _ => 2 - (intOf u).toNat)
      case atStart => exact ⟨0, by omega, rfl, HBI.out⟩
      case round =>
        obtain ⟨kd, hkd, rfl, hb⟩ := hrel
        have HB4 := hide hb
        clear hb
        by_cases hkd2 : kd < 2
        · have dkd : decide ((kd : Int) < 2) = true := decide_eq_true (by omega)
          go_wp2_with fail
          go_loopw [6] (fun u wq => ∃ fn : Nat, fn ≤ 5 ∧ u = .int .u64 fn ∧ Below W1.heap.size W1 wq) (fun u _ => 5 - (intOf u).toNat)
          case atStart => exact ⟨0, by omega, rfl, HB4.out⟩
          case round =>
            obtain ⟨fn, hfn, rfl, hb⟩ := hrel
            have HB6 := hide hb
            clear hb
            by_cases hfn5 : fn < 5
            · have dfn : decide ((fn : Int) < 5) = true := decide_eq_true (by omega)
              go_wp2_with fail
              go_loopw [7] (fun u wq => ∃ n : Nat, n ≤ 4 ∧ u = .int .i64 n ∧ Below W1.heap.size W1 wq) (fun u _ => 4 - (intOf u).toNat)
              case atStart => exact ⟨0, by omega, rfl, HB6.out⟩
              case round =>
                obtain ⟨n, hn, rfl, hb⟩ := hrel
                have HB7 := hide hb
                clear hb
                by_cases hn4 : n < 4
                · have dn : decide ((n : Int) < 4) = true := decide_eq_true (by omega)
                  obtain ⟨W3, hW3⟩ : ∃ W3, W3 = wr := ⟨_, rfl⟩
                  have HL0 : Hid (DoLst wr W3.heap.size (.slice none 0 0) []) := hide ⟨owns_nil _ _ _, (fun d hd => by cases hd), (fun g hg => by cases hg)⟩
                  have HB3 : Hid (Below W1.heap.size W1 W3) := hide (by rw [hW3]; exact HB7.out)
                  have HZ3 : Hid (Below W3.heap.size W3 wr) := hide (by rw [hW3]; exact Below.refl _ _)
                  clear hW3
                  go_wp2_with fail
                  go_loopw [8, 9] (fun v u wq => ∃ (i : Nat) (ds : List ADo), i ≤ 6 ∧ u = .int .i64 i ∧ ds.length = 3 * i ∧ DoLst wq W3.heap.size v ds ∧ Below W3.heap.size W3 wq) (fun _ u _ => 6 - (intOf u).toNat)
                  case atStart => exact ⟨0, [], by omega, rfl, rfl, HL0.out, HZ3.out⟩
                  case round =>
                    obtain ⟨i, ds, hi, rfl, hdl, hL, hb⟩ := hrel
                    have HL := hide hL
                    have HB5 := hide hb
                    clear hL hb
                    by_cases hi6 : i < 6
                    · have dj : decide ((i : Int) < 6) = true := decide_eq_true (by omega)
                      obtain ⟨c1, c2, r4, r3, w3, r2, m2, a1, a2, a3, a4, a5, a6, a7, a8, a9, a10, a11, a12, a13, a14⟩ := row_nums i hi6
                      obtain ⟨mx, hm1, hmx⟩ := top_nums n hn4
                      have HK := hide (And.intro a11 (And.intro a12 (And.intro a13 a14)))
                      have hcut := fun W => cut_head (some ⟨wr.heap.size, 0, none⟩) 3 3 mx (by omega) W
                      clear a11 a12 a13 a14
                      go_wp2_with (at_builtin; refine stop_here ?_)
                      show Hid _
                      refine start_here ?_
                      obtain ⟨es, hel, hec, hlit, hrd, hb6⟩ := three_parts wr c1 c2 w3 m2 fn mx hmx HK.out.1 HK.out.2.1 HK.out.2.2.1 HK.out.2.2.2 (by omega) _ rfl
                      generalize hW6 : (((wr.alloc (.cells #[.int .u8 c1, .int .u8 120, .int .u8 121] 5)).alloc (.cells #[.int .u8 c2, .int .u8 122] 5)).alloc (.cells #[.int .i64 0, .slice (some ⟨wr.heap.size, 0, none⟩) mx 3, .int .u64 fn, .int .i64 w3, .slice none 0 0, .int .u64 0, .int .i64 0, .slice (some ⟨wr.heap.size + 1, 0, none⟩) 2 2, .int .u64 m2] 40)) = W6 at *
                      clear hW6
                      obtain ⟨iD, hD0, hD1, hD2, hD3⟩ := do_parts
                      have hL6 := HL.out.stb (Stb.below hb6)
                      refine wpList_append_rd _ rfl (.tmp 75) (.tmp 99) 25 rfl 40 iD _ 3 40 Tryz.underlying25 hD0 hD1 hD2 hD3 rfl (by decide) u8 ds.length (ds.flatMap ADo.cells) rfl hL6.own _ (some ⟨wr.heap.size + 2, 0, none⟩) 3 3 _ rfl hrd (fun e => by cases e) (fun u hu => by rw [← hec] at hu; exact one_cells es u hu) (by unfold maxLen; omega) (by omega) ?_
                      intro v' w7 hl
                      have hl' : Longer W6 w7 40 3 u8 v' (ds.length + es.length) (ds.flatMap ADo.cells ++ es.flatMap ADo.cells) := by rw [hel, hec]; exact hl
                      obtain ⟨hm1', hm2'⟩ := hL6.more hl' hlit (Nat.le_trans HB5.out.size hb6.size)
                      have HD2 := hide hm1'
                      have HG2 := hide ((HB5.out.trans (hb6.mono HB5.out.size)).trans hm2')
                      have HLN : Hid ((ds ++ es).length = 3 * (i + 1)) := hide (by rw [List.length_append]; omega)
                      clear hl hl' hm1' hm2' hL6 hrd hb6 hlit hec hcut
                      go_wp2_with fail
                      go_roundw
                      case rel => exact ⟨i + 1, ds ++ es, by omega, by go_num, HLN.out, HD2.out, HG2.out⟩
                      case measure => simp [intOf]; omega
                    · obtain rfl : i = 6 := by omega
                      obtain ⟨Al, cl, rfl, _⟩ := owns_slice HL.out.own
                      have HBW : Hid (Below W1.heap.size W1 wr) := hide (HB3.out.trans (HB5.out.mono HB3.out.size))
                      have HAD : Hid (ADos wr wr.heap.size Al 18 ds) := hide (by have h := HL.out.ados rfl; rw [hdl] at h; exact h)
                      obtain ⟨kq, hkq, hw1, hw2⟩ : ∃ kq : Int, (0 ≤ kq ∧ kq < 256) ∧ IntKind.u8.wrap (kd : Int) = (kd : Int) ∧ IntKind.u8.wrap (5 + (kd : Int)) = kq := by
                        match kd, hkd2 with
                        | 0, _ => exact ⟨5, by omega, rfl, rfl⟩
                        | 1, _ => exact ⟨6, by omega, rfl, rfl⟩
                      have HQL : Hid (∀ W, Below W1.heap.size W1 W → ADos W W.heap.size Al 18 ds → Calls Tryz.prog 3 #[.agg #[.int .u8 kq, .int .i64 0, .int .i64 2, .int .i64 3], .slice Al 18 cl] W fun e w' => e = .returned (.bool true) ∧ Below W.heap.size W w') := hide (fun W _ h => law_queueLives kq 0 2 3 hkq Al 18 cl ds W h (by decide))
                      go_wp2_with (go_at_call 3; refine stop_here ?_)
                      show Hid _
                      refine start_here ?_
                      refine (HQL.out _ HBW.out HAD.out).mono ?_
                      rintro e w7 ⟨rfl, hb⟩
                      have HB8 := hide (HBW.out.trans (hb.mono HBW.out.size))
                      clear hb
                      go_wp2_with fail
                      go_roundw
                      case rel => exact ⟨n + 1, by omega, by go_num, HB8.out⟩
                      case measure => simp [intOf]; omega
                · obtain rfl : n = 4 := by omega
                  go_wp2_with fail
                  go_roundw
                  case rel => exact ⟨fn + 1, by omega, by go_num, HB7.out⟩
                  case measure => simp [intOf]; omega
            · obtain rfl : fn = 5 := by omega
              go_wp2_with fail
              go_roundw
              case rel => exact ⟨kd + 1, by omega, by go_num, HB6.out⟩
              case measure => simp [intOf]; omega
        · obtain rfl : kd = 2 := by omega
          have HBX : Hid (Below w.heap.size w wr) := hide (HB.out.trans (HB4.out.mono HB.out.size))
          go_wp2_with fail
          refine (law_queueNil none 0 0 18446744073709551615 wr).mono ?_
          rintro e w7 ⟨rfl, hb⟩
          have HB7 := hide (below_in HBX.out hb)
          clear hb
          go_wp2_with fail
          refine (law_queueLives 0 0 0 0 (by decide) none 0 0 [] w7 ⟨Rd.nil, fun d hd => by cases hd⟩ (by omega)).mono ?_
          rintro e w8 ⟨rfl, hb⟩
          have HB8 := hide (below_in HB7.out hb)
          clear hb
          go_wp2_with fail
          refine (awake_any w8).mono ?_
          rintro e w9 ⟨rfl, hb⟩
          have HB9 := hide (below_in HB8.out hb)
          clear hb
          go_wp2_with fail
          go_ret
          exact ⟨rfl, HB9.out⟩
end Go.Proofs.YtflpifelamkagaaGreat

/-
  Proved: the closed law QueueNumbers answers true (makes at their ends and past them; values of each length about theirs, each flag, with room and without); without conditions.
-/
namespace Go.Proofs.YtflpifelamkagaaGreat.queueNumbers
open Go.ChangeShapes Go.WideShapes Go.ChangeAt Go.RowKit Go.Joins
set_option linter.unusedVariables false

theorem own : ownKnob Tryz.prog.godebug = none := by kernel_rfl

set_option maxRecDepth 100000 in
theorem lifted (os : Os) (started : os.Started) (H : Type) (enc : TypeId × Value → H) :
    ReturnsInHanded {} Tryz.checked os 4 .any (Rows.queueNumbersSpec.pre6 enc Tryz.prog Tryz.f4 Rows.queueNumbersRow.domain false) (Rows.queueNumbersSpec.post enc Tryz.prog Tryz.f4 false true false false) := by
  refine returnsInHanded_of_change (C := Tryz.checked) own started (by kernel_rfl) Tryz.func4
    (ChangeSpec.witness6 (enc := enc) (C := Tryz.checked) false ⟨#[], #[], []⟩ 8 (by kernel_rfl) (by kernel_rfl) (by kernel_rfl) (by kernel_rfl)) ?_
  intro W base args ds gs before hval0 hW hcnd _
  have hval : ∀ (j : Nat) t v, Tryz.f4.params[j]? = some t → args[j]? = some v → Value.okWide Tryz.prog W .any base t v := hval0
  have hW' := hW
  obtain ⟨p, q, hA0, hV, rfl, hfz, hnd⟩ := hW
  have hA : DataW.TrodAll enc Tryz.prog W 0 (fun _ => true) true Tryz.f4.params.toList args.toList ds p := hA0
  rw [Tryz.params4] at hA hval
  obtain ⟨rfl, rfl, rfl⟩ := trodAll_none hA
  obtain ⟨rfl, rfl⟩ := trodVars_none hV
  clear hA0 hval0
  simp only [List.append_nil] at hW'
  refine (law_queueNumbers W).mono fun e W' ⟨he, hb⟩ => ?_
  subst he
  exact ⟨_, rfl, post_new hW' (fun _ _ _ => (trodAll_cons_mk (shut_bool Tryz.underlying4 _) trodAll_mk0)) (fun sp hsp => trodAll_mk0) (fun _ _ => rfl) (by simp) hb (ok_one (by kernel_rfl) rfl (okWide_bool_mk Tryz.underlying4 _))⟩

theorem over : Rows.queueNumbersRow.holds Tryz.pinned (OpenSpec.ofChange Rows.queueNumbersSpec) :=
  OpenClaim.holds_of_wide 4 Tryz.f4 rfl rfl rfl rfl rfl rfl rfl ⟨rfl, rfl, rfl, rfl, rfl⟩ rfl rfl rfl rfl rfl (by kernel_rfl) Tryz.func4 (by kernel_rfl)
    (of_decide_eq_true (by kernel_rfl)) (by unfold Func.isWrapper; first | (rw [if_pos (by decide +kernel)]; kernel_rfl) | (rw [if_neg (by decide +kernel)]; exact ⟨rfl, rfl⟩))
    (fun os started H enc _ => lifted os started H enc)

/-- The given statement. -/
theorem proved : Rows.QueueNumbersSaid :=
  over
#print axioms proved
end Go.Proofs.YtflpifelamkagaaGreat.queueNumbers
