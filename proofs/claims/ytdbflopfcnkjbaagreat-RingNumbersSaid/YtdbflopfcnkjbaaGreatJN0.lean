/-
  Deeds written out; rows that are marked.
-/
import Derived.Test.YtdbflopfcnkjbaaGreatJD
import Derived.Test.YtdbflopfcnkjbaaGreatJ7
import Derived.Test.YtdbflopfcnkjbaaGreatRT4
import Derived.Lib.SmallJoins
namespace Go.Proofs.YtdbflopfcnkjbaaGreat
open Go.RowKit
set_option linter.unusedVariables false
set_option linter.unusedSimpArgs false

/-- Each block stays, rows of bytes may be marked. -/
structure Stb (W W' : World) : Prop where
  size : W.heap.size ≤ W'.heap.size
  blk : ∀ (g : Nat) (C : Array Value) (t : TypeId) (fr : Nat × Nat), W.heap[g]? = some (.cells C t fr) → ∃ fr', W'.heap[g]? = some (.cells C t fr') ∧ (t ≠ 5 → fr' = fr)
theorem Stb.refl (W : World) : Stb W W := ⟨Nat.le_refl _, fun g C t fr h => ⟨fr, h, fun _ => rfl⟩⟩
theorem Stb.below {W W' : World} (hb : Below W.heap.size W W') : Stb W W' := ⟨hb.size, fun g C t fr h => ⟨fr, (hb.block g (at_lt h)).trans h, fun _ => rfl⟩⟩
theorem conv_any {W : World} {g n c : Nat} {C : Array Value} {fr : Nat × Nat} (hg : W.heap[g]? = some (.cells C 5 fr)) :
    ∃ W', (convert 27 27 (.slice (some ⟨g, 0, none⟩) n c)).run Tryz.prog W = .ok (.slice (some ⟨g, 0, none⟩) n c) W' ∧ Stb W W' ∧ ∀ X, X ≤ g → Below X W W' := by
  have hsh : W.shape? g = some (5, C.size) := by unfold World.shape?; rw [hg]
  refine ⟨W.freeze ⟨g, C.size, none⟩ 1, ?_, ⟨?_, fun g' C' t' fr' h => ?_⟩, fun X hX => ⟨?_, ?_, ?_, ?_, fun k hk => ?_⟩⟩
  · simp [convert, run_underlying Tryz.underlying27, run_underlying Tryz.underlying5, markStringish, hsh]
  · unfold World.freeze
    rw [if_neg (by decide)]
    simp
  · unfold World.freeze
    rw [if_neg (by decide)]
    simp only [Array.getElem?_modify]
    by_cases e : g = g'
    · subst e
      rw [hg] at h
      injection h with h
      injection h with h1 h2 h3
      subst h1 h2 h3
      rw [if_pos rfl, hg]
      exact ⟨_, rfl, fun h => absurd rfl h⟩
    · rw [if_neg e]
      exact ⟨fr', h, fun _ => rfl⟩
  · unfold World.freeze; rw [if_neg (by decide)]
  · unfold World.freeze; rw [if_neg (by decide)]
  · unfold World.freeze; rw [if_neg (by decide)]
  · unfold World.freeze; rw [if_neg (by decide)]; simp
  · unfold World.freeze
    rw [if_neg (by decide)]
    simp only [Array.getElem?_modify]
    rw [if_neg (by omega)]
/-- A row of bytes written out. -/
def RLit (W : World) (r : ARow) : Prop := (r.A = none ∧ r.n = 0 ∧ r.c = 0 ∧ r.bs = []) ∨ ∃ (g : Nat) (l : List Int) (fr : Nat × Nat), r.A = some ⟨g, 0, none⟩ ∧ W.heap[g]? = some (.cells (u8s l).toArray 5 fr) ∧ r.bs = l.take r.n ∧ r.n ≤ l.length ∧ r.n ≤ r.c ∧ r.c ≤ 1000 ∧ ∀ b ∈ l, IsByte b
theorem RLit.stb {W W' : World} {r : ARow} (h : RLit W r) (hs : Stb W W') : RLit W' r := h.imp id fun ⟨g, l, fr, hA, hg, hr⟩ => by
  obtain ⟨fr', h1, _⟩ := hs.blk g _ _ _ hg
  exact ⟨g, l, fr', hA, h1, hr⟩
theorem RLit.kept {F : Nat → Prop} {W W' : World} {r : ARow} (h : RLit W r) (hk : Kept F W W') (hF : ∀ g C fr, W.heap[g]? = some (.cells C 5 fr) → F g) : RLit W' r :=
  h.imp id fun ⟨g, l, fr, hA, hg, hr⟩ => ⟨g, l, fr, hA, (hk.block g (at_lt hg) (hF g _ fr hg)).trans hg, hr⟩
theorem noR (W : World) : RLit W ⟨none, 0, 0, []⟩ := .inl ⟨rfl, rfl, rfl, rfl⟩
theorem RLit.inB {W : World} {r : ARow} (h : RLit W r) : InB W W.heap.size r := by
  obtain ⟨A, n, c, bs⟩ := r
  rcases h with ⟨e1, e2, e3, e4⟩ | ⟨g, l, fr, hA, hg, hb, hn, hc, hcc, hy⟩
  · simp only at e1 e2 e3 e4
    subst e1 e2 e3 e4
    exact ⟨Rd.nil, fun _ => rfl, Nat.le_refl _, by simp, fun b hb => by cases hb⟩
  · simp only at hA hb hn hc hcc
    subst hA hb
    refine ⟨⟨by simp [u8s, Nat.min_eq_left hn], fun _ => ⟨_, rfl, at_lt hg, fun j u hu => ?_⟩⟩, (fun e => by cases e), hc, by show c ≤ _; omega, fun b hb => hy b (List.mem_of_mem_take hb)⟩
    rw [add_own]
    simp only [World.cell?, hg]
    have : (u8s (l.take n))[j]? = some u := hu
    unfold u8s at this ⊢
    rw [List.map_take, List.getElem?_take] at this
    split at this
    · simpa using this
    · cases this
/-- A deed written out. -/
def DoLit (W : World) (d : ADo) : Prop := RLit W d.b
theorem DoLit.is {W : World} {d : ADo} (h : DoLit W d) : d.Is W W.heap.size := ⟨RLit.inB h⟩
theorem DoLit.stb {W W' : World} {d : ADo} (h : DoLit W d) (hs : Stb W W') : DoLit W' d := RLit.stb h hs
def noRow : ARow := ⟨none, 0, 0, []⟩
theorem noRow_lit (W : World) : RLit W noRow := noR W
theorem es_rd {W : World} {z g : Nat} {es : List ADo} (hel : es.length = z) (hgc : W.heap[g]? = some (.cells (es.flatMap ADo.cells).toArray 29 (0, 0))) : Rd W W.heap.size 2 (some ⟨g, 0, none⟩) z (es.flatMap ADo.cells) :=
  ⟨by rw [flat_length ADo.cells 2 (fun _ => rfl), hel], fun _ => ⟨_, rfl, at_lt hgc, fun jj u hu => by
    rw [add_own, blk_cell hgc]
    simpa using hu⟩⟩
def numL : List Int := [-9223372036854775808, -1, 0, 1, 15, 16, 17, 16384, 16385, 9223372036854775807]
theorem num_at {i : Nat} (h : i < 10) : ∃ x, numL[i]? = some x ∧ I64 x := by
  have : ∀ i : Fin 10, ∃ x, numL[i.1]? = some x ∧ I64 x := by
    intro ⟨i, hi⟩
    match i, hi with
    | 0, _ => exact ⟨_, rfl, by unfold I64; omega⟩
    | 1, _ => exact ⟨_, rfl, by unfold I64; omega⟩
    | 2, _ => exact ⟨_, rfl, by unfold I64; omega⟩
    | 3, _ => exact ⟨_, rfl, by unfold I64; omega⟩
    | 4, _ => exact ⟨_, rfl, by unfold I64; omega⟩
    | 5, _ => exact ⟨_, rfl, by unfold I64; omega⟩
    | 6, _ => exact ⟨_, rfl, by unfold I64; omega⟩
    | 7, _ => exact ⟨_, rfl, by unfold I64; omega⟩
    | 8, _ => exact ⟨_, rfl, by unfold I64; omega⟩
    | 9, _ => exact ⟨_, rfl, by unfold I64; omega⟩
  exact this ⟨i, h⟩
def numCells : Array Value := #[.int .i64 (-9223372036854775808), .int .i64 (-1), .int .i64 0, .int .i64 1, .int .i64 15, .int .i64 16, .int .i64 17, .int .i64 16384, .int .i64 16385, .int .i64 9223372036854775807]
theorem num_cell {W : World} {B : Nat} (hb : W.heap[B]? = some (.cells numCells 3 (0, 0))) {i : Nat} {x : Int} (hx : numL[i]? = some x) : W.cell? ⟨B, i, none⟩ = some (.int .i64 x) := by
  rw [blk_cell hb]
  have e : numCells = (numL.map (Value.int .i64 ·)).toArray := rfl
  rw [e]
  simp [hx]
/-- The law's four deeds. -/
theorem lives4 (kk ke va en : Int) (hkk : 0 ≤ kk ∧ kk < 256) (W : World) :
    Calls Tryz.prog 4 #[.agg #[.int .u8 kk, .int .i64 ke, .int .i64 va, .int .i64 en], .slice (some ⟨(mkN W [97, 98, 99]).heap.size, 0, none⟩) 4 4]
      ((mkN W [97, 98, 99]).alloc (.cells #[.bool true, .slice none 0 0, .bool false, .slice (some ⟨W.heap.size, 0, none⟩) 3 3, .bool false, .slice none 0 0, .bool true, .slice none 0 0] 29)) fun e w' => e = .returned (.bool true) ∧ Below W.heap.size W w' := by
  have b1 := mkN_below W [97, 98, 99]
  have g1 : (mkN W [97, 98, 99]).heap[W.heap.size]? = some (.cells (u8s [97, 98, 99]).toArray 5 (3, 4)) := World.alloc_heap_new W _
  generalize mkN W [97, 98, 99] = W5 at *
  obtain ⟨es, hes⟩ : ∃ es : List ADo, es = [⟨true, noRow⟩, ⟨false, ⟨some ⟨W.heap.size, 0, none⟩, 3, 3, [97, 98, 99]⟩⟩, ⟨false, noRow⟩, ⟨true, noRow⟩] := ⟨_, rfl⟩
  obtain ⟨W6, hW6⟩ : ∃ W6, W6 = W5.alloc (.cells (es.flatMap ADo.cells).toArray 29) := ⟨_, rfl⟩
  have b3 := below1 W5 (.cells (es.flatMap ADo.cells).toArray 29)
  have g3 := World.alloc_heap_new W5 (.cells (es.flatMap ADo.cells).toArray 29)
  rw [← hW6] at b3 g3
  have e6 : (W5.alloc (.cells #[.bool true, .slice none 0 0, .bool false, .slice (some ⟨W.heap.size, 0, none⟩) 3 3, .bool false, .slice none 0 0, .bool true, .slice none 0 0] 29)) = W6 := by
    rw [hW6, hes]
    rfl
  rw [e6]
  clear e6 hW6
  have l1 := at_lt g1
  have z1 := b1.size
  have z3 := b3.size
  have q1 := (b3.block _ l1).trans g1
  have hel : es.length = 4 := by rw [hes]; rfl
  have hado : ADos W6 W6.heap.size (some ⟨W5.heap.size, 0, none⟩) 4 es := ⟨es_rd hel g3, fun d hd => DoLit.is (by
    rw [hes] at hd
    simp only [List.mem_cons, List.not_mem_nil, or_false] at hd
    rcases hd with rfl | rfl | rfl | rfl
    · exact noR _
    · refine .inr ⟨_, [97, 98, 99], (3, 4), rfl, q1, rfl, Nat.le_refl _, Nat.le_refl _, (by show 3 ≤ 1000; decide), fun b hb => ?_⟩
      simp only [List.mem_cons, List.not_mem_nil, or_false] at hb
      unfold IsByte; omega
    · exact noR _
    · exact noR _)⟩
  refine (law_ringLives kk ke va en hkk _ 4 4 es W6 hado (by decide)).mono fun e w' ⟨h1, h2⟩ => ⟨h1, ?_⟩
  exact b1.trans ((b3.mono (by omega)).trans (h2.mono (by omega)))
/-- A row of bytes is told. -/
def LitT (v : Value) (W : World) : Prop := ∃ r : ARow, v = .slice r.A r.n r.c ∧ RLit W r
def Lit1 (base : Nat) (v : Value) (W : World) : Prop := ∃ (g : Nat) (fr : Nat × Nat), v = .slice (some ⟨g, 0, none⟩) 1 1 ∧ W.heap[g]? = some (.cells (u8s [120]).toArray 5 fr) ∧ base ≤ g
def DoT (v : Value) (W : World) : Prop := ∃ d : ADo, v = .agg #[.bool d.take, .slice d.b.A d.b.n d.b.c] ∧ DoLit W d
def EsT (base : Nat) (v : Value) (W : World) : Prop := ∃ (g : Nat) (es : List ADo), v = .slice (some ⟨g, 0, none⟩) 8 8 ∧ es.length = 8 ∧ (∀ d ∈ es, DoLit W d) ∧ W.heap[g]? = some (.cells (es.flatMap ADo.cells).toArray 29 (0, 0)) ∧ base ≤ g
/-- What the region that writes deeds tells: of room r, n bytes, m what is left of the room behind n's low bits q. -/
def TRN (r n q m base : Nat) (k : Nat) (σ : Nat → Value) (W : World) : Prop :=
  match k with
  | 0 => σ 0 = .int .i64 n
  | 1 => LitT (σ 1) W
  | 2 => DoT (σ 2) W
  | 3 => Lit1 base (σ 3) W
  | 4 => LitT (σ 4) W
  | 5 => DoT (σ 5) W
  | 6 => σ 6 = .int .i64 r
  | 7 => σ 7 = .int .i64 n
  | 8 => σ 8 = .int .i64 q
  | 9 => σ 9 = .int .i64 m
  | 10 => LitT (σ 10) W
  | 11 => DoT (σ 11) W
  | 12 => DoT (σ 12) W
  | 13 => σ 13 = .int .i64 n
  | 14 => LitT (σ 14) W
  | 15 => DoT (σ 15) W
  | 16 => DoT (σ 16) W
  | 17 => DoT (σ 17) W
  | 18 => DoT (σ 18) W
  | 19 => EsT base (σ 19) W
  | 20 => EsT base (σ 20) W
  | _ => True
theorem LitT.stb {v : Value} {W W' : World} (h : LitT v W) (hs : Stb W W') : LitT v W' := by obtain ⟨r, h1, h2⟩ := h; exact ⟨r, h1, h2.stb hs⟩
theorem Lit1.stb {base : Nat} {v : Value} {W W' : World} (h : Lit1 base v W) (hs : Stb W W') : Lit1 base v W' := by
  obtain ⟨g, fr, h1, h2, h3⟩ := h
  obtain ⟨fr', h4, _⟩ := hs.blk g _ _ _ h2
  exact ⟨g, fr', h1, h4, h3⟩
theorem DoT.stb {v : Value} {W W' : World} (h : DoT v W) (hs : Stb W W') : DoT v W' := by obtain ⟨d, h1, h2⟩ := h; exact ⟨d, h1, h2.stb hs⟩
theorem EsT.stb {base : Nat} {v : Value} {W W' : World} (h : EsT base v W) (hs : Stb W W') : EsT base v W' := by
  obtain ⟨g, es, h1, h2, h3, h4, h5⟩ := h
  obtain ⟨fr', h6, h7⟩ := hs.blk g _ _ _ h4
  rw [h7 (by decide)] at h6
  exact ⟨g, es, h1, h2, fun d hd => (h3 d hd).stb hs, h6, h5⟩
theorem TRN.stb {r n q m base k : Nat} {σ : Nat → Value} {W W' : World} (h : TRN r n q m base k σ W) (hs : Stb W W') : TRN r n q m base k σ W' := by
  unfold TRN at h ⊢
  split at h <;> first | exact h | exact LitT.stb h hs | exact Lit1.stb h hs | exact DoT.stb h hs | exact EsT.stb h hs
theorem TRN.dep {r n q m base k : Nat} {σ σ' : Nat → Value} {W : World} (h : TRN r n q m base k σ W) (h0 : σ' k = σ k) : TRN r n q m base k σ' W := by
  unfold TRN at h ⊢
  split at h <;> first | (rw [h0]; exact h) | exact h
/-- The world meanwhile. -/
def GRN (base : Nat) (Wb : World) (L : Nat → Bool) (W : World) : Prop := Stb Wb W ∧ Below base Wb W ∧ base ≤ W.heap.size
theorem Stb.trans {A B C : World} (h : Stb A B) (k : Stb B C) : Stb A C := ⟨Nat.le_trans h.size k.size, fun g C t fr hg => by
  obtain ⟨fr', h3, h4⟩ := h.blk g C t fr hg
  obtain ⟨fr2, h5, h6⟩ := k.blk g C t fr' h3
  exact ⟨fr2, h5, fun ht => (h6 ht).trans (h4 ht)⟩⟩
theorem GRN.step {base : Nat} {Wb W W' : World} {L L' : Nat → Bool} (h : GRN base Wb L W) (hs : Stb W W') (hb : Below base W W') : GRN base Wb L' W' := ⟨h.1.trans hs, h.2.1.trans hb, Nat.le_trans h.2.2 hs.size⟩
theorem GRN.same {base : Nat} {Wb W : World} {L L' : Nat → Bool} (h : GRN base Wb L W) : GRN base Wb L' W := h
theorem GRN.alloc {base : Nat} {Wb W W' : World} {L L' : Nat → Bool} (h : GRN base Wb L W) (hb : Below W.heap.size W W') : GRN base Wb L' W' := h.step (Stb.below hb) (hb.mono h.2.2)
theorem zerosLit (n : Nat) (hn : n ≤ 1000) (W : World) : RLit (W.alloc (.cells (u8s (List.replicate n 0)).toArray 5)) ⟨some ⟨W.heap.size, 0, none⟩, n, n, (List.replicate n 0).take n⟩ :=
  .inr ⟨W.heap.size, List.replicate n 0, (0, 0), rfl, World.alloc_heap_new W _, rfl, by simp, Nat.le_refl _, by show n ≤ 1000; omega, fun b hb => by
    rw [List.mem_replicate] at hb
    unfold IsByte
    omega⟩
theorem written_in {ops : Array Oper} {t : Tmp} (h : unwritten ops t = false) (ts : List Nat) (hts : (ops.toList.all fun o => match o.dst with | some d => ts.contains d | none => true) = true) : t ∈ ts := by
  unfold unwritten at h
  rw [List.all_eq_false] at h
  obtain ⟨o, ho, hd⟩ := h
  have h2 := List.all_eq_true.1 hts o ho
  cases hdo : o.dst with
  | none => simp [hdo] at hd
  | some d =>
    rw [hdo] at h2 hd
    simp at hd h2
    subst hd
    exact h2
/-- A long row of noughts reads so, and so does each of its beginnings. -/
theorem zeros_rd (n m : Nat) (h : m ≤ n) (W : World) : ∃ l : List Int, l.length = m ∧ Rd (W.alloc (.cells (u8s (List.replicate n 0)).toArray 5)) (W.heap.size + 1) 1 (some ⟨W.heap.size, 0, none⟩) m (u8s l) := by
  refine ⟨List.replicate m 0, by simp, by simp [u8s], fun _ => ⟨_, rfl, Nat.lt_succ_self _, fun j u hu => ?_⟩⟩
  have h1 := (rd_new W (List.replicate n 0) n (by simp)).2 (by
    have := (List.getElem?_eq_some_iff.1 hu).1
    simp [u8s] at this
    omega)
  obtain ⟨ad, e, _, hc⟩ := h1
  cases e
  refine hc j u ?_
  have hj := (List.getElem?_eq_some_iff.1 hu).1
  simp [u8s] at hj hu ⊢
  rw [List.getElem?_replicate, if_pos hj] at hu
  rw [List.getElem?_replicate, if_pos (by omega)]
  exact hu
end Go.Proofs.YtdbflopfcnkjbaaGreat
