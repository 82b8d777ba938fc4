/-
  Deeds written out, and lists of them; rows of zeros.
-/
import Derived.Test.YtbllnjkagleenaaGreatLV
import Derived.Test.YtbllnjkagleenaaGreatLN
import Derived.Test.YtbllnjkagleenaaGreatRT4
import Derived.Test.YtbllnjkagleenaaGreatAP4
import Derived.Deep.OwnRows
namespace Go.Proofs.YtbllnjkagleenaaGreat
open Go.RowKit
set_option linter.unusedVariables false

theorem written_in {ops : Array Oper} {t : Tmp} (h : unwritten ops t = false) (ts : List Nat) (hts : (ops.toList.all fun o => match o.dst with | some d => ts.contains d | none => true) = true) : t ∈ ts := by
  unfold unwritten at h
  rw [List.all_eq_false] at h
  obtain ⟨o, ho, hd⟩ := h
  have h2 := List.all_eq_true.1 hts o ho
  cases hdo : o.dst with
  | none => simp [hdo] at hd
  | some d =>
    rw [hdo] at h2 hd
    simp at hd h2
    subst hd
    exact h2
theorem cell_marked {W : World} {g j : Nat} {C : Array Value} {t : TypeId} {fr : Nat × Nat} (h : W.heap[g]? = some (.cells C t fr)) : W.cell? ⟨g, j, none⟩ = C[j]? := by
  simp [World.cell?, h]
theorem new_at (w : World) (o : Obj) : (w.alloc o).heap[w.heap.size]? = some o := World.alloc_heap_new w o
theorem new_at_of (w : World) (o : Obj) (g : Nat) (hg : g = w.heap.size) : (w.alloc o).heap[g]? = some o := by
  subst hg
  exact new_at w o
def noB : ARow := ⟨none, 0, 0, []⟩
structure DoLit (W : World) (d : ADo) : Prop where
  what : wfI d.what
  region : wfI d.region
  off : wfI d.off
  size : wfI d.size
  b : d.b = noB ∨ ∃ (g : Nat) (C : Array Value) (fr : Nat × Nat), d.b.A = some ⟨g, 0, none⟩ ∧ W.heap[g]? = some (.cells C 5 fr) ∧ d.b.n ≤ 1000 ∧ d.b.bs.length = d.b.n ∧ ∀ (j : Nat) (u : Value), (u8s d.b.bs)[j]? = some u → C[j]? = some u
theorem DoLit.is {W : World} {d : ADo} (h : DoLit W d) : d.Is W W.heap.size := by
  rcases h.b with hb | ⟨g, C, fr, hA, hg, hn, hl, hc⟩
  · refine ⟨?_, ?_, ?_, h.what, h.region, h.off, h.size⟩
    · rw [hb]; exact ⟨rfl, fun h => absurd h (by simp [noB])⟩
    · rw [hb]; exact fun _ => rfl
    · rw [hb]; simp [noB]
  · refine ⟨⟨by simp [u8s, hl], fun _ => ⟨_, hA, at_lt hg, fun j u hu => ?_⟩⟩, (fun e => by rw [hA] at e; cases e), by omega, h.what, h.region, h.off, h.size⟩
    rw [add_own, cell_marked hg]
    exact hc j u hu
theorem DoLit.kept {F : Nat → Prop} {W W' : World} {d : ADo} (h : DoLit W d) (hk : Kept F W W') (hF : ∀ g C fr, W.heap[g]? = some (.cells C 5 fr) → F g) : DoLit W' d :=
  ⟨h.what, h.region, h.off, h.size, h.b.imp id fun ⟨g, C, fr, hA, hg, hr⟩ => ⟨g, C, fr, hA, (hk.block g (at_lt hg) (hF g C fr hg)).trans hg, hr⟩⟩
theorem DoLit.later {W W' : World} {d : ADo} (h : DoLit W d) (hb : Below W.heap.size W W') : DoLit W' d := h.kept (F := fun _ => True) (Kept.of_below hb) (fun _ _ _ _ => trivial)
/-- A list of deeds of the call's own. -/
structure DoLst (W : World) (X : Nat) (v : Value) (ds : List ADo) : Prop where
  own : W.ownsRow 0 28 6 v ds.length (ds.flatMap ADo.cells)
  lit : ∀ d ∈ ds, DoLit W d
  low : ∀ g, v.ownBlock = some g → X ≤ g
theorem DoLst.off {W : World} {X : Nat} {v : Value} {ds : List ADo} (h : DoLst W X v ds) : ∀ g C fr, W.heap[g]? = some (.cells C 5 fr) → v.ownBlock ≠ some g := fun g C fr hg e => by
  rcases h.own.2 with ⟨h0, _⟩ | ⟨g', cap, cur, h0, _, h2, _⟩
  · rw [h0] at e; cases e
  · rw [h0] at e
    simp only [Value.ownBlock, Option.some.injEq] at e
    subst e
    rw [hg] at h2
    injection h2 with h2
    injection h2 with _ h5
    cases h5
theorem DoLst.ados {W : World} {X n c : Nat} {A : Option Addr} {ds : List ADo} (h : DoLst W X (.slice A n c) ds) (hn : n = ds.length) : ADos W W.heap.size A n ds := by
  subst hn
  obtain ⟨A', c', e, hr⟩ := owns_slice h.own
  cases e
  exact ⟨hr, fun d hd => (h.lit d hd).is⟩
theorem DoLst.later {W W' : World} {X : Nat} {v : Value} {ds : List ADo} (h : DoLst W X v ds) (hb : Below W.heap.size W W') : DoLst W' X v ds := ⟨owns_kept_below h.own hb, fun d hd => (h.lit d hd).later hb, h.low⟩
theorem DoLst.grown {W W' : World} {X m : Nat} {v v' : Value} {ds es : List ADo} (h : DoLst W X v ds) (hg : Grown2 W W' 28 6 v v' ds.length m (ds.flatMap ADo.cells ++ es.flatMap ADo.cells)) (hm : m = es.length) (he : ∀ d ∈ es, DoLit W d) (hX : X ≤ W.heap.size) : DoLst W' X v' (ds ++ es) ∧ Below X W W' := by
  subst hm
  obtain ⟨hk, hv⟩ := grown2_kept hg
  refine ⟨⟨?_, fun d hd => ?_, fun g hg' => ?_⟩, hk.to_below (fun g hgX e => by have := h.low g e; omega) hX⟩
  · rw [List.length_append, List.flatMap_append]
    exact hg.1
  · rcases List.mem_append.1 hd with hd | hd
    · exact (h.lit d hd).kept hk h.off
    · exact (he d hd).kept hk h.off
  · rcases hv with e | e
    · exact h.low g (e ▸ hg')
    · rw [e] at hg'
      injection hg' with hg'
      omega
theorem cells_length (ds : List ADo) : (ds.flatMap ADo.cells).length = ds.length * 6 := flat_length ADo.cells 6 (fun _ => rfl) ds
theorem one_cells (ds : List ADo) : ∀ u ∈ ds.flatMap ADo.cells, u.oneCell' = true := by
  intro u hu
  obtain ⟨d, _, hd⟩ := List.mem_flatMap.1 hu
  simp [ADo.cells] at hd
  rcases hd with rfl | rfl | rfl | rfl | rfl | rfl <;> rfl
theorem lst_new (W : World) (X : Nat) (ds : List ADo) (hl : ∀ d ∈ ds, DoLit W d) (hX : X ≤ W.heap.size) (hn : ds.length ≤ 1000) : DoLst (W.alloc (.cells (ds.flatMap ADo.cells).toArray 28)) X (.slice (some ⟨W.heap.size, 0, none⟩) ds.length ds.length) ds := by
  refine ⟨⟨cells_length ds, .inr ⟨W.heap.size, ds.length, (ds.flatMap ADo.cells).toArray, rfl, Nat.zero_le _, World.alloc_heap_new W _, Nat.le_refl _, by simp only [maxLen]; omega, by rw [List.size_toArray, cells_length], by rw [← cells_length]; simp only [List.take_length]⟩⟩, fun d hd => (hl d hd).later (below1 W _), fun g hg => by cases hg; exact hX⟩
theorem lst_new_at (W : World) (X g : Nat) (hg : g = W.heap.size) (ds : List ADo) (hl : ∀ d ∈ ds, DoLit W d) (hX : X ≤ W.heap.size) (hn : ds.length ≤ 1000) : DoLst (W.alloc (.cells (ds.flatMap ADo.cells).toArray 28)) X (.slice (some ⟨g, 0, none⟩) ds.length ds.length) ds := by
  subst hg
  exact lst_new W X ds hl hX hn
theorem two_of {P : ADo → Prop} {a b : ADo} (ha : P a) (hb : P b) : ∀ d ∈ [a, b], P d := by
  intro d hd
  simp only [List.mem_cons, List.mem_nil_iff, or_false] at hd
  rcases hd with rfl | rfl
  · exact ha
  · exact hb
theorem four_of {P : ADo → Prop} {a b c d : ADo} (ha : P a) (hb : P b) (hc : P c) (hd : P d) : ∀ x ∈ [a, b, c, d], P x := by
  intro x hx
  simp only [List.mem_cons, List.mem_nil_iff, or_false] at hx
  rcases hx with rfl | rfl | rfl | rfl
  · exact ha
  · exact hb
  · exact hc
  · exact hd
theorem lst_at {W : World} {g : Nat} {es : List ADo} (hg : W.heap[g]? = some (.cells (es.flatMap ADo.cells).toArray 28 (0, 0))) : ∀ j u, (es.flatMap ADo.cells)[j]? = some u → W.cell? ((⟨g, 0, none⟩ : Addr).add j) = some u := fun j u hu => by
  rw [add_own, blk_cell hg]
  simpa using hu
theorem lit_plain (W : World) (a r k o s : Int) (h1 : wfI a) (h2 : wfI r) (h3 : wfI o) (h4 : wfI s) : DoLit W ⟨a, r, k, o, s, noB⟩ := ⟨h1, h2, h3, h4, .inl rfl⟩
theorem lit_bytes {W : World} {g : Nat} {l : List Int} {fr : Nat × Nat} (hg : W.heap[g]? = some (.cells (u8s l).toArray 5 fr)) (a r k o s : Int) (n c : Nat) (hn : n ≤ l.length) (hl : l.length ≤ 1000) (h1 : wfI a) (h2 : wfI r) (h3 : wfI o) (h4 : wfI s) : DoLit W ⟨a, r, k, o, s, ⟨some ⟨g, 0, none⟩, n, c, l.take n⟩⟩ := by
  refine ⟨h1, h2, h3, h4, .inr ⟨g, _, fr, rfl, hg, by show n ≤ 1000; omega, by show (l.take n).length = n; rw [List.length_take]; omega, fun j u hu => ?_⟩⟩
  have hu' : (u8s (l.take n))[j]? = some u := hu
  unfold u8s at hu' ⊢
  rw [List.map_take, List.getElem?_take] at hu'
  split at hu'
  · simpa using hu'
  · cases hu'
theorem wi0 : wfI 0 := WalkArith.wf_i64 ⟨by decide, by decide⟩
theorem wi1 : wfI 1 := WalkArith.wf_i64 ⟨by decide, by decide⟩
theorem wi2 : wfI 2 := WalkArith.wf_i64 ⟨by decide, by decide⟩
theorem wi3 : wfI 3 := WalkArith.wf_i64 ⟨by decide, by decide⟩
theorem wi4 : wfI 4 := WalkArith.wf_i64 ⟨by decide, by decide⟩
theorem wi5 : wfI 5 := WalkArith.wf_i64 ⟨by decide, by decide⟩
theorem doInfo : (Tryz.prog.info? 28).map (fun i => (i.zero, i.size, i.bytes)) = some (some (.agg #[.int .i64 0, .int .i64 0, .int .u8 0, .int .i64 0, .int .i64 0, .slice none 0 0]), 6, 64) := by kernel_rfl
theorem zeros (n : Nat) (hn : n ≤ 1000000) : ∃ (Z : Array Value) (l : List Int), (∀ W : World, (Instr.makeSlice 26 (.int .i64 (n : Int)) (.int .i64 (n : Int))).run Tryz.prog W = .ok (.slice (some ⟨W.heap.size, 0, none⟩) n n) (W.alloc (.cells Z 5))) ∧ ∀ W : World, Rd (W.alloc (.cells Z 5)) (W.heap.size + 1) 1 (some ⟨W.heap.size, 0, none⟩) n (u8s l) := by
  have e : madeCells #[Value.int .u8 0] n = (u8s (List.replicate n 0)).toArray := by
    apply Array.ext'
    apply List.ext_getElem
    · simp [size_madeCells, u8s]
    · intro i h1 h2
      simp [madeCells, u8s, Nat.mod_one]
  refine ⟨madeCells #[Value.int .u8 0] n, List.replicate n 0, fun W => run_make_row' 26 5 (.int .u8 0) 1 Tryz.underlying26 u8info rfl .i64 .i64 n (by omega) (by omega) W, fun W => ?_⟩
  rw [e]
  exact cells_rd W (u8s (List.replicate n 0)) 5 1 n (by simp [u8s])
def sixD : List ADo := [⟨5, 1, 0, 0, 0, noB⟩, ⟨5, 1, 0, 0, 0, noB⟩, ⟨3, 1, 0, 0, 0, noB⟩, ⟨3, 2, 0, 0, 4, noB⟩, ⟨0, 0, 2, 0, 0, noB⟩, ⟨3, 3, 0, 0, 0, noB⟩]
theorem six_lit (W : World) : ∀ d ∈ sixD, DoLit W d := by
  intro d hd
  simp only [sixD, List.mem_cons, List.mem_nil_iff, or_false] at hd
  rcases hd with rfl | rfl | rfl | rfl | rfl | rfl
  · exact lit_plain W 5 1 0 0 0 wi5 wi1 wi0 wi0
  · exact lit_plain W 5 1 0 0 0 wi5 wi1 wi0 wi0
  · exact lit_plain W 3 1 0 0 0 wi3 wi1 wi0 wi0
  · exact lit_plain W 3 2 0 0 4 wi3 wi2 wi0 wi4
  · exact lit_plain W 0 0 2 0 0 wi0 wi0 wi0 wi0
  · exact lit_plain W 3 3 0 0 0 wi3 wi3 wi0 wi0
end Go.Proofs.YtbllnjkagleenaaGreat
