/-
  The texts NH1, NH0, HLL, LN as one.
-/
import Derived.Test.YtolodcdhpnapmaaGreatMC
import Derived.Test.YtolodcdhpnapmaaGreatMB
import Derived.Test.YtolodcdhpnapmaaGreatMD
import Derived.Test.YtolodcdhpnapmaaGreatMG
import Derived.Test.YtolodcdhpnapmaaGreatMI

/-
  HashNumbers: makes at their ends.
-/
namespace Go.Proofs.YtolodcdhpnapmaaGreat
open Go.RowKit
set_option linter.unusedVariables false
set_option linter.unusedSimpArgs false

def numL : List Int := [-9223372036854775808, -1, 0, 1, 2, 3, 64, 65, 1024, 1025, 9223372036854775807]
theorem num_at {i : Nat} (h : i < 11) : ∃ x, numL[i]? = some x ∧ I64 x := by
  have : ∀ i : Fin 11, ∃ x, numL[i.1]? = some x ∧ I64 x := by
    intro ⟨i, hi⟩
    match i, hi with
    | 0, _ => exact ⟨_, rfl, by unfold I64; omega⟩
    | 1, _ => exact ⟨_, rfl, by unfold I64; omega⟩
    | 2, _ => exact ⟨_, rfl, by unfold I64; omega⟩
    | 3, _ => exact ⟨_, rfl, by unfold I64; omega⟩
    | 4, _ => exact ⟨_, rfl, by unfold I64; omega⟩
    | 5, _ => exact ⟨_, rfl, by unfold I64; omega⟩
    | 6, _ => exact ⟨_, rfl, by unfold I64; omega⟩
    | 7, _ => exact ⟨_, rfl, by unfold I64; omega⟩
    | 8, _ => exact ⟨_, rfl, by unfold I64; omega⟩
    | 9, _ => exact ⟨_, rfl, by unfold I64; omega⟩
    | 10, _ => exact ⟨_, rfl, by unfold I64; omega⟩
  exact this ⟨i, h⟩
def numCells : Array Value := #[.int .i64 (-9223372036854775808), .int .i64 (-1), .int .i64 0, .int .i64 1, .int .i64 2, .int .i64 3, .int .i64 64, .int .i64 65, .int .i64 1024, .int .i64 1025, .int .i64 9223372036854775807]
theorem num_cell {W : World} {B : Nat} (hb : W.heap[B]? = some (.cells numCells 3 (0, 0))) {i : Nat} {x : Int} (hx : numL[i]? = some x) : W.cell? ⟨B, i, none⟩ = some (.int .i64 x) := by
  rw [blk_cell hb]
  have e : numCells = (numL.map (Value.int .i64 ·)).toArray := rfl
  rw [e]
  simp [hx]
def NewAll (k key val ent : Int) (w : World) (e : Ending) (w' : World) : Prop := (newE k key val ent = 0 ∧ ∃ g, e = .returned (.tuple #[.pointer (some ⟨g, 0, none⟩), .int .i64 0]) ∧ Below w.heap.size w w') ∨ (newE k key val ent ≠ 0 ∧ e = .returned (.tuple #[.pointer none, .int .i64 (newE k key val ent)]) ∧ Below w.heap.size w w')
theorem new_all (k key val ent : Int) (w : World) (hk : 0 ≤ k ∧ k < 256) : Calls Tryz.prog 4 #[.agg #[.int .u8 k, .int .i64 key, .int .i64 val, .int .i64 ent]] w (NewAll k key val ent w) := by
  by_cases he : newE k key val ent = 0
  · obtain ⟨rfl, hsp, h5, h6, h1, h2, h3, h4⟩ := newE_yes he
    obtain ⟨ks, rfl⟩ : ∃ n : Nat, key = n := ⟨key.toNat, by omega⟩
    obtain ⟨sz, rfl⟩ : ∃ n : Nat, val = n := ⟨val.toNat, by omega⟩
    obtain ⟨n, rfl⟩ : ∃ n : Nat, ent = n := ⟨ent.toNat, by omega⟩
    refine (new_yes n ks sz w hsp (by omega) (by omega) (by omega)).mono ?_
    rintro e w' ⟨b, cb, mb, s, rfl, ha, hb⟩
    exact .inl ⟨he, _, rfl, hb⟩
  · exact (new_no k key val ent w hk he).mono fun e w' ⟨h1, h2⟩ => .inr ⟨he, h1, h2⟩
theorem rnew_all (k key val ent : Int) (w : World) (hk : 0 ≤ k ∧ k < 256) : Calls Tryz.prog 5 #[.agg #[.int .u8 k, .int .i64 key, .int .i64 val, .int .i64 ent]] w (NewAll k key val ent w) := by
  by_cases he : newE k key val ent = 0
  · obtain ⟨rfl, hsp, h5, h6, h1, h2, h3, h4⟩ := newE_yes he
    obtain ⟨ks, rfl⟩ : ∃ n : Nat, key = n := ⟨key.toNat, by omega⟩
    obtain ⟨sz, rfl⟩ : ∃ n : Nat, val = n := ⟨val.toNat, by omega⟩
    obtain ⟨n, rfl⟩ : ∃ n : Nat, ent = n := ⟨ent.toNat, by omega⟩
    refine (rnew_yes n ks sz w hsp (by omega) (by omega) (by omega)).mono ?_
    rintro e w' ⟨x, y, lc, M, rfl, ha, _, _, hb⟩
    exact .inl ⟨he, _, rfl, hb⟩
  · exact (rnew_no k key val ent w hk he).mono fun e w' ⟨h1, h2⟩ => .inr ⟨he, h1, h2⟩
end Go.Proofs.YtolodcdhpnapmaaGreat

/-
  Rows and deeds written out for hashes: what is told of them lasts.
-/
namespace Go.Proofs.YtolodcdhpnapmaaGreat
open Go.RowKit Go.Maps
set_option linter.unusedVariables false
set_option linter.unusedSimpArgs false

/-- Each block's cells stay. -/
structure Mv (W W' : World) : Prop where
  size : W.heap.size ≤ W'.heap.size
  blk : ∀ (g : Nat) (C : Array Value) (t : TypeId) (fr : Nat × Nat), W.heap[g]? = some (.cells C t fr) → ∃ fr', W'.heap[g]? = some (.cells C t fr')
theorem Mv.refl (W : World) : Mv W W := ⟨Nat.le_refl _, fun g C t fr h => ⟨fr, h⟩⟩
theorem Mv.cell {W W' : World} (hm : Mv W W') (a : Addr) (v : Value) (h : W.cell? a = some v) : W'.cell? a = some v := by
  unfold World.cell? at h ⊢
  cases hb : W.heap[a.block]? with
  | none => rw [hb] at h; cases h
  | some o =>
    rw [hb] at h
    cases o with
    | cells C t fr =>
      obtain ⟨fr', h2⟩ := hm.blk _ _ _ _ hb
      rw [h2]
      exact h
    | _ => cases h
theorem Mv.below {W W' : World} (hb : Below W.heap.size W W') : Mv W W' := ⟨hb.size, fun g C t fr h => ⟨fr, (hb.block g (at_lt h)).trans h⟩⟩
theorem Rd.mv {W W' : World} {B B' sz n : Nat} {A : Option Addr} {xs : List Value} (h : Rd W B sz A n xs) (hm : Mv W W') (hB : B ≤ B') : Rd W' B' sz A n xs :=
  ⟨h.1, fun hn => by
    obtain ⟨ad, e, h1, h2⟩ := h.2 hn
    exact ⟨ad, e, Nat.lt_of_lt_of_le h1 hB, fun j u hu => hm.cell _ _ (h2 j u hu)⟩⟩
theorem InB.mv {W W' : World} {r : ARow} (h : InB W W.heap.size r) (hm : Mv W W') : InB W' W'.heap.size r := ⟨Rd.mv h.rd hm hm.size, h.nil, h.le, h.cap, h.byte⟩
theorem ADo.Is.mv {W W' : World} {d : ADo} (h : d.Is W W.heap.size) (hm : Mv W W') : d.Is W' W'.heap.size := ⟨h.k.mv hm, h.v.mv hm, h.what, h.fl, h.pl, h.of⟩
/-- A row of bytes is told. -/
def LitT (v : Value) (W : World) : Prop := ∃ r : ARow, v = .slice r.A r.n r.c ∧ InB W W.heap.size r
theorem LitT.mv {v : Value} {W W' : World} (h : LitT v W) (hm : Mv W W') : LitT v W' := by
  obtain ⟨r, h1, h2⟩ := h
  exact ⟨r, h1, h2.mv hm⟩
def DoT (v : Value) (W : World) : Prop := ∃ d : ADo, v = .agg d.cells.toArray ∧ d.Is W W.heap.size
theorem DoT.mv {v : Value} {W W' : World} (h : DoT v W) (hm : Mv W W') : DoT v W' := by
  obtain ⟨d, h1, h2⟩ := h
  exact ⟨d, h1, h2.mv hm⟩
theorem noRow_in (W : World) : InB W W.heap.size ⟨none, 0, 0, []⟩ := ⟨Rd.nil, fun _ => rfl, Nat.le_refl _, by simp, fun b hb => by cases hb⟩
/-- A text becomes a row. -/
theorem text_row (W : World) (k : List UInt8) (hk : k.length ≤ 1000) : ∃ v W', (convert 9 34 (encStr k)).run Tryz.prog W = .ok v W' ∧ LitT v W' ∧ Below W.heap.size W W' := by
  obtain ⟨cap, hc, h⟩ := conv_text W k
  have hat := text_at W k cap hc
  refine ⟨_, _, h, ⟨⟨some ⟨W.heap.size, 0, none⟩, k.length, cap, ints k⟩, rfl, hat.rd, nofun, hc, by show k.length ≤ _; omega, ints_byte k⟩, (Below.refl _ W).drew.alloc (Nat.le_refl _) _⟩
/-- A literal of bytes, made since X. -/
def Lit1 (X : Nat) (v : Value) (l : List Int) (W : World) : Prop := ∃ g fr, v = .slice (some ⟨g, 0, none⟩) l.length l.length ∧ X ≤ g ∧ W.heap[g]? = some (.cells (u8s l).toArray 5 fr)
theorem conv_lit {X : Nat} {v : Value} {l : List Int} {W : World} (h : Lit1 X v l W) (hl : l.length ≤ 1000) (hb : ∀ x ∈ l, IsByte x) : ∃ W', (convert 34 34 v).run Tryz.prog W = .ok v W' ∧ LitT v W' ∧ Mv W W' ∧ Below X W W' := by
  obtain ⟨g, fr, rfl, hX, hg⟩ := h
  have hsh : W.shape? g = some (5, (u8s l).toArray.size) := by unfold World.shape?; rw [hg]
  have hm : Mv W (W.freeze ⟨g, (u8s l).toArray.size, none⟩ 1) := by
    refine ⟨?_, fun g' C' t' fr' hv => ?_⟩
    · unfold World.freeze
      rw [if_neg (by decide)]
      simp
    · unfold World.freeze
      rw [if_neg (by decide)]
      simp only [Array.getElem?_modify]
      by_cases e : g = g'
      · subst e
        rw [hg] at hv
        injection hv with hv
        injection hv with h1 h2 h3
        subst h1 h2 h3
        rw [if_pos rfl, hg]
        exact ⟨_, rfl⟩
      · rw [if_neg e]
        exact ⟨fr', hv⟩
  refine ⟨W.freeze ⟨g, (u8s l).toArray.size, none⟩ 1, ?_, ⟨⟨some ⟨g, 0, none⟩, l.length, l.length, l⟩, rfl, ?_, nofun, Nat.le_refl _, by show l.length ≤ _; omega, hb⟩, hm, ?_⟩
  · simp [convert, run_underlying Tryz.underlying34, run_underlying Tryz.underlying5, markStringish, hsh]
  · refine ⟨by simp [u8s], fun _ => ⟨_, rfl, Nat.lt_of_lt_of_le (at_lt hg) hm.size, fun j u hu => hm.cell _ _ ?_⟩⟩
    rw [add_own]
    simp only [World.cell?, hg]
    simpa using hu
  · refine ⟨?_, ?_, ?_, ?_, fun k hk => ?_⟩
    · unfold World.freeze; rw [if_neg (by decide)]
    · unfold World.freeze; rw [if_neg (by decide)]
    · unfold World.freeze; rw [if_neg (by decide)]
    · unfold World.freeze; rw [if_neg (by decide)]; simp
    · unfold World.freeze
      rw [if_neg (by decide)]
      simp only [Array.getElem?_modify]
      rw [if_neg (by omega)]
theorem Lit1.mv {X : Nat} {v : Value} {l : List Int} {W W' : World} (h : Lit1 X v l W) (hm : Mv W W') : Lit1 X v l W' := by
  obtain ⟨g, fr, h1, h2, h3⟩ := h
  obtain ⟨fr', h4⟩ := hm.blk _ _ _ _ h3
  exact ⟨g, fr', h1, h2, h4⟩
def EsT (v : Value) (W : World) : Prop := ∃ g es, v = .slice (some ⟨g, 0, none⟩) 9 9 ∧ ADos W W.heap.size (some ⟨g, 0, none⟩) 9 es
theorem EsT.mv {v : Value} {W W' : World} (h : EsT v W) (hm : Mv W W') : EsT v W' := by
  obtain ⟨g, es, h1, h2⟩ := h
  exact ⟨g, es, h1, Rd.mv h2.outer hm hm.size, fun d hd => (h2.inner d hd).mv hm⟩
def keyL : List (List UInt8) := [[97, 97], [98, 98], [99, 99], [97], [], [97, 97, 97], [0, 0], [255, 255]]
def keyCells : Array Value := #[.string ⟨#[97, 97]⟩, .string ⟨#[98, 98]⟩, .string ⟨#[99, 99]⟩, .string ⟨#[97]⟩, .string ⟨#[]⟩, .string ⟨#[97, 97, 97]⟩, .string ⟨#[0, 0]⟩, .string ⟨#[255, 255]⟩]
theorem key_at {i : Nat} (h : i < 8) : ∃ t, keyL[i]? = some t ∧ t.length ≤ 3 := by
  match i, h with
  | 0, _ => exact ⟨_, rfl, by decide⟩
  | 1, _ => exact ⟨_, rfl, by decide⟩
  | 2, _ => exact ⟨_, rfl, by decide⟩
  | 3, _ => exact ⟨_, rfl, by decide⟩
  | 4, _ => exact ⟨_, rfl, by decide⟩
  | 5, _ => exact ⟨_, rfl, by decide⟩
  | 6, _ => exact ⟨_, rfl, by decide⟩
  | 7, _ => exact ⟨_, rfl, by decide⟩
theorem key_cell {W : World} {B i : Nat} {t : List UInt8} (hb : W.heap[B]? = some (.cells keyCells 9 (0, 0))) (ht : keyL[i]? = some t) : W.cell? ⟨B, i, none⟩ = some (encStr t) := by
  rw [blk_cell hb]
  have e : keyCells = (keyL.map encStr).toArray := rfl
  rw [e]
  simp [ht]
end Go.Proofs.YtolodcdhpnapmaaGreat

/-
  HashLives: the deeds, one after another, by both hashes.
-/
namespace Go.Proofs.YtolodcdhpnapmaaGreat
open Go.RowKit Go.Maps
set_option linter.unusedVariables false

theorem InB.up {w : World} {B B' : Nat} {r : ARow} (h : InB w B r) (hb : B ≤ B') : InB w B' r := ⟨h.rd.mono hb, h.nil, h.le, h.cap, h.byte⟩
theorem ADos.up {w : World} {B B' : Nat} {A : Option Addr} {m : Nat} {ds : List ADo} (h : ADos w B A m ds) (hb : B ≤ B') : ADos w B' A m ds :=
  ⟨h.outer.mono hb, fun d hd => by have h1 := h.inner d hd; exact ⟨h1.k.up hb, h1.v.up hb, h1.what, h1.fl, h1.pl, h1.of⟩⟩
theorem par_new {s sz n : Nat} {M : List HS} (hl : M.length = n) (hz : ∀ r ∈ M, r.key = none ∧ r.bs = List.replicate sz 0) : Par (zHSs s sz n) M := by
  unfold Par
  apply List.ext_getElem?
  intro i
  rw [List.getElem?_map, List.getElem?_map]
  by_cases hi : i < n
  · have h1 : i < (zHSs s sz n).length := by rw [zHSs_len]; exact hi
    have h2 : i < M.length := by omega
    rw [List.getElem?_eq_getElem h1, List.getElem?_eq_getElem h2]
    have e1 := (zHSs_at (List.getElem?_eq_getElem h1)).2
    obtain ⟨e2, e3⟩ := hz _ (List.getElem_mem h2)
    simp only [Option.map_some]
    rw [e1, e2, e3]
    rfl
  · rw [List.getElem?_eq_none (by rw [zHSs_len]; omega), List.getElem?_eq_none (by omega)]
theorem RHsh.lower {w : World} {B B' x y lc ks sz : Nat} {M : List HS} (h : RHsh w B x y lc ks sz M) (hB : B' ≤ B) : RHsh w B' x y lc ks sz M := { h with low := fun g hg => Nat.le_trans hB (h.low g hg) }
theorem both_new {w0 w1 w2 : World} {b cb mb s ks sz x y lc n : Nat} {M : List HS} (h0 : Below w0.heap.size w0 w1) (h1 : Hsh w1 w0.heap.size b cb mb ks sz (zHSs s sz n)) (hb : Below w1.heap.size w1 w2) (h2 : RHsh w2 w1.heap.size x y lc ks sz M) (hM : M.length = n) (hz : ∀ r ∈ M, r.key = none ∧ r.bs = List.replicate sz 0) : Both (fun _ => True) w0 w2 b cb mb ks sz (zHSs s sz n) x y lc := by
  have hs := h0.size
  refine ⟨h1.below hb, ⟨M, h2.lower hs, par_new hM hz, fun g hg => ⟨fun hc => ?_, trivial⟩⟩, fun g hg => trivial, h0.trans (hb.mono hs)⟩
  have h3 := h1.lt g hc
  have h4 := h2.low g hg
  omega
set_option maxRecDepth 100000 in
set_option maxHeartbeats 4000000 in
theorem law_hashLives (k key val ent : Int) (A : Option Addr) (m c : Nat) (ds : List ADo) (w : World) (hk : 0 ≤ k ∧ k < 256) (h : ADos w w.heap.size A m ds) (hmc : m ≤ c) (hm : c ≤ 140737488351232) :
    Calls Tryz.prog 6 #[.agg #[.int .u8 k, .int .i64 key, .int .i64 val, .int .i64 ent], .slice A m c] w fun e w' => e = .returned (.bool true) ∧ Below w.heap.size w w' := by
  have hx := World.alloc_heap_new w (.cells #[.int .u8 k, .int .i64 key, .int .i64 val, .int .i64 ent] 25)
  have hb1 := below1 w (.cells #[.int .u8 k, .int .i64 key, .int .i64 val, .int .i64 ent] 25)
  have hz := hb1.size
  have HX := hide hx
  have HB1 := hide hb1
  have HA := hide ((h.below hb1).up hz)
  clear h hx hb1
  go_enter Tryz.func6, Tryz.ntmps6
  go_wp2_with fail
  generalize w.alloc (.cells #[.int .u8 k, .int .i64 key, .int .i64 val, .int .i64 ent] 25) = W1 at *
  refine (great_any k key val ent A m c W1.heap.size ds W1 HA.out (Nat.le_refl _) (by omega)).mono ?_
  rintro e w1 ⟨g, rfl, hb, hg⟩
  have HB2 := hide hb
  have hx2 := (hb.block _ (at_lt HX.out)).trans HX.out
  have HX2 := hide hx2
  clear hb hx2
  cases g with
  | true =>
    go_wp2_with fail
    refine (awake_any w1).mono ?_
    rintro e w2 ⟨rfl, hb⟩
    have HB := hide (HB1.out.trans ((HB2.out.trans (hb.mono HB2.out.size)).mono hz))
    clear hb
    go_wp2
    go_ret
    exact ⟨rfl, HB.out⟩
  | false =>
    have HN := hide (hg rfl).1
    have HE := hide (hg rfl).2
    have x0 : w1.cell? ⟨w.heap.size, 0, none⟩ = some (.int .u8 k) := (blk_cell HX2.out 0).trans rfl
    have x1 : w1.cell? ⟨w.heap.size, 1, none⟩ = some (.int .i64 key) := (blk_cell HX2.out 1).trans rfl
    have x2 : w1.cell? ⟨w.heap.size, 2, none⟩ = some (.int .i64 val) := (blk_cell HX2.out 2).trans rfl
    have x3 : w1.cell? ⟨w.heap.size, 3, none⟩ = some (.int .i64 ent) := (blk_cell HX2.out 3).trans rfl
    clear hg
    by_cases he : newE k key val ent = 0
    · obtain ⟨rfl, hsp, hk1, hk2, hv1, hv2, hn1, hn2⟩ := newE_yes he
      obtain ⟨ks, rfl⟩ : ∃ s : Nat, key = s := ⟨key.toNat, by omega⟩
      obtain ⟨sz, rfl⟩ : ∃ s : Nat, val = s := ⟨val.toNat, by omega⟩
      obtain ⟨n, rfl⟩ : ∃ s : Nat, ent = s := ⟨ent.toNat, by omega⟩
      have HSP := hide hsp
      have hn40 : n ≤ 40 := by have := HE.out; omega
      clear he hsp HE
      go_wp2_with fail
      refine (new_yes n ks sz w1 HSP.out (by omega) (by omega) (by omega)).mono ?_
      rintro e w2 ⟨b, cb, mb, s, rfl, ha, hb⟩
      have HAr := hide (ha.lower HB2.out.size)
      have HB3 := hide (HB2.out.trans (hb.mono HB2.out.size))
      have hx3 := (hb.block _ (at_lt HX2.out)).trans HX2.out
      have x0 : w2.cell? ⟨w.heap.size, 0, none⟩ = some (.int .u8 2) := (blk_cell hx3 0).trans rfl
      have x1 : w2.cell? ⟨w.heap.size, 1, none⟩ = some (.int .i64 ks) := (blk_cell hx3 1).trans rfl
      have x2 : w2.cell? ⟨w.heap.size, 2, none⟩ = some (.int .i64 sz) := (blk_cell hx3 2).trans rfl
      have x3 : w2.cell? ⟨w.heap.size, 3, none⟩ = some (.int .i64 n) := (blk_cell hx3 3).trans rfl
      clear ha hb hx3
      go_wp2_with fail
      refine (rnew_yes n ks sz w2 HSP.out (by omega) (by omega) (by omega)).mono ?_
      rintro e w3 ⟨x, y, lc, M, rfl, hr, hMl, hMz, hb⟩
      have HS0 := hide (both_new HB3.out HAr.out hb hr hMl hMz)
      have HZ : Hid ((zHSs s sz n).length = n) := hide (zHSs_len s sz n)
      clear hr hb x0 x1 x2 x3 HAr HB3 hMl hMz
      generalize zHSs s sz n = L0 at *
      go_wp2_with fail
      go_loopw [9] (fun u wr => ∃ (j : Nat) (L : List HS), j ≤ m ∧ u = .int .i64 j ∧ L.length = n ∧ Both (fun _ => True) W1 wr b cb mb ks sz L x y lc) (fun u _ => m - (intOf u).toNat)
      case atStart => exact ⟨0, L0, Nat.zero_le _, rfl, HZ.out, HS0.out⟩
      case round =>
        obtain ⟨j, L, hj, rfl, hl, hB⟩ := hrel
        have HT := hide hB
        have HL := hide hl
        clear hB hl
        by_cases hjm : j < m
        · have hAr := HA.out.below HT.out.below
          obtain ⟨ad, d, rfl, hd, hadb, hc⟩ := hAr.cell hjm
          have HI := hide (HA.out.inner d (List.mem_of_getElem? hd))
          have HN1 := hide (HN.out d (List.mem_of_getElem? hd))
          have c0 : wr.cell? (ad.add (j * 6)) = some (.int .i64 d.what) := hc 0 _ rfl
          have c1 := hc 1 _ rfl
          have c2 := hc 2 _ rfl
          have c3 := hc 3 _ rfl
          have c4 := hc 4 _ rfl
          have c5 := hc 5 _ rfl
          rw [add_parts ad _ 1 (by decide)] at c1
          rw [add_parts ad _ 2 (by decide)] at c2
          rw [add_parts ad _ 3 (by decide)] at c3
          rw [add_parts ad _ 4 (by decide)] at c4
          rw [add_parts ad _ 5 (by decide)] at c5
          clear hc hAr hd
          go_wp2_with fail
          refine (step_any W1 wr b cb mb ks sz x y lc L d HT.out HI.out HN1.out.1 HN1.out.2).mono ?_
          rintro e w5 ⟨rfl, L', hl', hB'⟩
          have HS5 := hide hB'
          have HL5 := hide (hl'.trans HL.out)
          clear hB' hl' c0 c1 c2 c3 c4 c5
          go_wp2_with fail
          go_roundw
          case rel => exact ⟨j + 1, L', by omega, by go_num, HL5.out, HS5.out⟩
          case measure => simp [intOf]; omega
        · have hjq : j = m := by omega
          clear hjm hj
          subst hjq
          go_wp2_with fail
          go_loopw [10, 11, 12, 13, 14] (fun u a1 a2 a3 a4 wq => ∃ j : Nat, j ≤ n ∧ u = .int .i64 j ∧ Both (fun _ => True) W1 wq b cb mb ks sz L x y lc) (fun u _ _ _ _ _ => n - (intOf u).toNat)
          case atStart => exact ⟨0, Nat.zero_le _, rfl, HT.out⟩
          case round =>
            obtain ⟨j, hj, rfl, hB⟩ := hrel
            have k3 : wr.cell? ⟨w.heap.size, 3, none⟩ = some (.int .i64 n) := (blk_cell ((hB.below.block _ (at_lt HX.out)).trans HX.out) 3).trans rfl
            have HQ := hide hB
            clear hB HT
            by_cases hjn : j < n
            · go_wp2_with fail
              refine (value_any (i := (j : Int)) HQ.out.a).mono ?_
              rintro e wh ⟨A1, m1, c1, er, rfl, he1, hm1, ho1, hb⟩
              have HCh := hide (HQ.out.later hb)
              have HO1 := hide ho1
              have HM1 := hide hm1
              have hbg := HCh.out.a.big
              clear hb ho1 he1 hm1 k3
              go_wp2_with fail
              refine (HCh.out.rvalue (j : Int)).mono ?_
              rintro e wi ⟨A2, m2, c2, er2, rfl, he2, hm2, ho2, hb⟩
              obtain rfl : m2 = m1 := hm2.trans HM1.out.symm
              have hm20 : m2 ≤ 1000000 := by
                rw [hm2]
                exact Nat.le_trans (valM_le _ _ _) (by omega)
              have HCi := hide (HCh.out.later hb)
              have HR1 := hide (owns_kept_below HO1.out.1 hb)
              have HR2 := hide ho2.1
              clear hb ho2 he2 hm2 HO1 HM1
              go_wp2_with fail
              have hr1 := rd_of_slice HR1.out
              have hr2 := rd_of_slice HR2.out
              refine (sameBytes_yes A1 A2 m2 c1 c2 wi.heap.size _ wi hr1 hr2 (Nat.le_refl _) hm20).mono ?_
              rintro e wk ⟨rfl, hb⟩
              have HCk := hide (HCi.out.later hb)
              clear hb hr1 hr2
              go_wp2_with fail
              go_roundw
              case rel => exact ⟨j + 1, by omega, by go_num, HCk.out⟩
              case measure => simp [intOf]; omega
            · have hjq : j = n := by omega
              clear hjn hj
              subst hjq
              go_wp2_with fail
              have HQ2 := hide (HQ.out.mono (N' := fun g => g < wr.heap.size) (fun g hg _ => hg))
              have HLn : Hid (L.length ≤ 40) := hide (by rw [HL.out]; exact hn40)
              clear k3
              refine (keys_any W1.heap.size b cb mb ks sz L _ HQ2.out.a).mono ?_
              rintro e wa ⟨v1, rs1, rfl, ht1, hk1, hb⟩
              obtain ⟨A1, c1, rfl, _⟩ := owns_slice ht1.row
              have HC1 := hide (HQ2.out.later hb)
              have HT1 := hide ht1
              have HK1 := hide hk1
              have HS1 := hide hb.size
              clear hb ht1 hk1
              go_wp2_with fail
              refine (keys_any W1.heap.size b cb mb ks sz L _ HC1.out.a).mono ?_
              rintro e wb ⟨v2, rs2, rfl, ht2, hk2, hb⟩
              obtain ⟨A2, c2, rfl, _⟩ := owns_slice ht2.row
              have HC2 := hide (HC1.out.later hb)
              have HT1b := hide (HT1.out.below hb)
              have HT2 := hide ht2
              have HK2 := hide hk2
              have HLo := hide HT1.out.lo
              have HS2 := hide (Nat.le_trans HS1.out hb.size)
              have HB0 := hide HQ.out.below.size
              clear hb ht2 hk2 HT1
              go_wp2_with fail
              refine (keys_apart HLn.out HT1b.out HT2.out HLo.out HS1.out HK1.out HK2.out HC2.out.a.keys_len HS2.out).mono ?_
              rintro e wc ⟨rfl, hb⟩
              have HC3 := hide (HC2.out.over hb (fun g _ h => h) HB0.out)
              clear hb HT1b HT2 HC1 HC2
              go_wp2_with fail
              refine (keys_any W1.heap.size b cb mb ks sz L _ HC3.out.a).mono ?_
              rintro e wd ⟨v4, rs4, rfl, ht4, hk4, hb⟩
              obtain ⟨A4, c4, rfl, _⟩ := owns_slice ht4.row
              have HCm := hide (HC3.out.later hb)
              have HT4 := hide ht4
              have HK4 := hide hk4
              clear hb ht4 hk4 HC3
              go_wp2_with fail
              refine HCm.out.rkeys.mono ?_
              rintro e we ⟨v5, rs5, rfl, ht5, hk5, hb⟩
              obtain ⟨A5, c5, rfl, _⟩ := owns_slice ht5.row
              have HCn := hide (HCm.out.later hb)
              have HT4n := hide (HT4.out.below hb)
              have HT5 := hide ht5
              have HK5 := hide hk5
              clear hb ht5 hk5 HT4 HCm
              go_wp2_with fail
              refine (same_keys (by have := HCn.out.a.many.2; omega) HT4n.out HT5.out HK4.out HK5.out HCn.out.a.keys_len).mono ?_
              rintro e wf ⟨rfl, hb⟩
              have HCo := hide (HCn.out.later hb)
              clear hb HT4n HT5 HCn
              go_wp2_with fail
              refine (awake_any _).mono ?_
              rintro e w4 ⟨rfl, hb⟩
              have HB := hide (HB1.out.trans ((HCo.out.below.trans (hb.mono HCo.out.below.size)).mono hz))
              clear hb
              go_wp2
              go_ret
              exact ⟨rfl, HB.out⟩
    · obtain ⟨r, hr⟩ : ∃ r, r = newE k key val ent := ⟨_, rfl⟩
      have hn := new_no k key val ent w1 hk he
      have hrn := fun W => rnew_no k key val ent W hk he
      rw [← hr] at hn
      simp only [← hr] at hrn he
      have HRN := hide hrn
      have HNN := hide hn
      have HHr := hide hr
      clear hr hrn hn
      go_wp2_with fail
      refine HNN.out.mono ?_
      rintro e w2 ⟨rfl, hb⟩
      have HB3 := hide (HB2.out.trans (hb.mono HB2.out.size))
      have hx3 := (hb.block _ (at_lt HX2.out)).trans HX2.out
      have x0 : w2.cell? ⟨w.heap.size, 0, none⟩ = some (.int .u8 k) := (blk_cell hx3 0).trans rfl
      have x1 : w2.cell? ⟨w.heap.size, 1, none⟩ = some (.int .i64 key) := (blk_cell hx3 1).trans rfl
      have x2 : w2.cell? ⟨w.heap.size, 2, none⟩ = some (.int .i64 val) := (blk_cell hx3 2).trans rfl
      have x3 : w2.cell? ⟨w.heap.size, 3, none⟩ = some (.int .i64 ent) := (blk_cell hx3 3).trans rfl
      clear hb hx3
      go_wp2_with fail
      refine (HRN.out w2).mono ?_
      rintro e w3 ⟨rfl, hb⟩
      have HB4 := hide (HB3.out.trans (hb.mono HB3.out.size))
      clear hb x0 x1 x2 x3
      go_wp2_with fail
      refine (awake_any w3).mono ?_
      rintro e w4 ⟨rfl, hb⟩
      have HB := hide (HB1.out.trans ((HB4.out.trans (hb.mono HB4.out.size)).mono hz))
      clear hb
      go_wp2
      go_ret
      exact ⟨rfl, HB.out⟩
end Go.Proofs.YtolodcdhpnapmaaGreat

/-
  No hash, and one that nobody made, have nothing: HashNil's walk.
-/
namespace Go.Proofs.YtolodcdhpnapmaaGreat
open Go.RowKit
set_option linter.unusedVariables false

theorem below_in {w0 W w' : World} (h : Below w0.heap.size w0 W) (hb : Below W.heap.size W w') : Below w0.heap.size w0 w' := h.trans (hb.mono h.size)
set_option maxRecDepth 100000 in
set_option maxHeartbeats 1000000 in
theorem law_hashNil (what fl pl off : Int) (KA VA : Option Addr) (kn kc vn vc : Nat) (w : World) : Calls Tryz.prog 7 #[.agg #[.int .i64 what, .slice KA kn kc, .slice VA vn vc, .int .u64 fl, .int .i64 pl, .int .i64 off]] w fun e w' => e = .returned (.bool true) ∧ Below w.heap.size w w' := by
  have hx := World.alloc_heap_new w (.cells #[.int .i64 what, .slice KA kn kc, .slice VA vn vc, .int .u64 fl, .int .i64 pl, .int .i64 off] 37)
  have hb := below1 w (.cells #[.int .i64 what, .slice KA kn kc, .slice VA vn vc, .int .u64 fl, .int .i64 pl, .int .i64 off] 37)
  generalize hW1 : w.alloc (.cells #[.int .i64 what, .slice KA kn kc, .slice VA vn vc, .int .u64 fl, .int .i64 pl, .int .i64 off] 37) = W1 at hx hb
  have HW1 := hide hW1
  have HX := hide hx
  have HB := hide hb
  have c1 := blk_cell hx 1
  have c2 := blk_cell hx 2
  have c3 := blk_cell hx 3
  have c4 := blk_cell hx 4
  have c5 := blk_cell hx 5
  simp at c1 c2 c3 c4 c5
  have hxl := at_lt hx
  clear hW1 hx hb
  go_enter Tryz.func7, Tryz.ntmps7
  by_cases hg : (1000 : Int) < (kn : Int) ∨ (1000 : Int) < (vn : Int)
  · have HA := hide (awake_any W1)
    by_cases h1 : (1000 : Int) < (kn : Int)
    · have g1 : decide ((1000 : Int) < (kn : Int)) = true := decide_eq_true h1
      go_upto_region 1 with fail
      refine Eq.mp (congrArg (Code.wp Tryz.prog _ _ _) HW1.out.symm) ?_
      go_wp2_with (go_at_call 8; refine HA.out.mono ?_; rintro e w9 ⟨rfl, hb⟩; have HB9 := hide (below_in HB.out hb); clear hb)
      go_ret
      exact ⟨rfl, HB9.out⟩
    · have g1 : decide ((1000 : Int) < (kn : Int)) = false := decide_eq_false h1
      have g2 : decide ((1000 : Int) < (vn : Int)) = true := decide_eq_true (by omega)
      go_upto_region 1 with fail
      refine Eq.mp (congrArg (Code.wp Tryz.prog _ _ _) HW1.out.symm) ?_
      go_wp2_with (go_at_call 8; refine HA.out.mono ?_; rintro e w9 ⟨rfl, hb⟩; have HB9 := hide (below_in HB.out hb); clear hb)
      go_ret
      exact ⟨rfl, HB9.out⟩
  · have g1 : decide ((1000 : Int) < (kn : Int)) = false := decide_eq_false (by omega)
    have g2 : decide ((1000 : Int) < (vn : Int)) = false := decide_eq_false (by omega)
    clear hg
    go_upto_region 1 with fail
    refine Eq.mp (congrArg (Code.wp Tryz.prog _ _ _) HW1.out.symm) ?_
    go_upto_region 4 with fail
    obtain ⟨q0, q1⟩ := two_boxes W1 (.cells #[.pointer none, .int .i64 0, .map none, .int .i64 0, .slice none 0 0] 51) (.cells #[.pointer none, .pointer (some ⟨W1.heap.size, 0, none⟩)] 26)
    have hb2 := below2 W1 (.cells #[.pointer none, .int .i64 0, .map none, .int .i64 0, .slice none 0 0] 51) (.cells #[.pointer none, .pointer (some ⟨W1.heap.size, 0, none⟩)] 26)
    generalize hW2 : (W1.alloc (.cells #[.pointer none, .int .i64 0, .map none, .int .i64 0, .slice none 0 0] 51)).alloc (.cells #[.pointer none, .pointer (some ⟨W1.heap.size, 0, none⟩)] 26) = W2 at q0 q1 hb2
    replace hW2 := hide hW2
    have HB2 := hide (below_in HB.out hb2)
    have HN1 : Hid (NoH none W2) := hide (noH_nil W2)
    have HN2 : Hid (NoH (some ⟨W1.heap.size, 0, none⟩) W2) := hide (noH_zero (by rw [blk_cell q0]; rfl))
    have HZ := hide (Below.refl W2.heap.size W2)
    replace HX := hide ((hb2.block _ (at_lt HX.out)).trans HX.out)
    have HQ := hide q1
    clear q0 q1 hb2 hW2 c1 c2 c3 c4 c5
    have cells_at : ∀ W, Below W2.heap.size W2 W → (W.cell? ⟨w.heap.size, 1, none⟩ = some (.slice KA kn kc) ∧ W.cell? ⟨w.heap.size, 2, none⟩ = some (.slice VA vn vc) ∧ W.cell? ⟨w.heap.size, 3, none⟩ = some (.int .u64 fl) ∧ W.cell? ⟨w.heap.size, 4, none⟩ = some (.int .i64 pl) ∧ W.cell? ⟨w.heap.size, 5, none⟩ = some (.int .i64 off)) ∧
        W.cell? ⟨W1.heap.size + 1, 0, none⟩ = some (.pointer none) ∧ W.cell? ⟨W1.heap.size + 1, 1, none⟩ = some (.pointer (some ⟨W1.heap.size, 0, none⟩)) := fun W hb => by
      have h1 := (hb.block _ (at_lt HX.out)).trans HX.out
      have h2 := (hb.block _ (at_lt HQ.out)).trans HQ.out
      refine ⟨⟨?_, ?_, ?_, ?_, ?_⟩, ?_, ?_⟩ <;> first | (rw [blk_cell h1]; rfl) | (rw [blk_cell h2]; rfl)
    have HC := hide cells_at
    clear cells_at
    obtain ⟨⟨c1, c2, c3, c4, c5⟩, e0, e1⟩ := HC.out W2 HZ.out
    go_wp2_with fail
    refine wp_loop_rounds 3 ?_
    rw [rounds_succ]
    go_wp2_with (first
      | (go_at_call 24; refine (lookup_not _ KA kn kc _ (HN1.out.later HZ.out)).mono ?_; rintro e wx0 ⟨rfl, hb⟩; have Hx0 := hide (below_in HZ.out hb); clear hb; obtain ⟨⟨c1x0, c2x0, c3x0, c4x0, c5x0⟩, e0x0, e1x0⟩ := HC.out _ Hx0.out)
      | (go_at_call 17; refine (value_not _ pl _ (HN1.out.later Hx0.out)).mono ?_; rintro e wx1 ⟨rfl, hb⟩; have Hx1 := hide (below_in Hx0.out hb); clear hb; obtain ⟨⟨c1x1, c2x1, c3x1, c4x1, c5x1⟩, e0x1, e1x1⟩ := HC.out _ Hx1.out)
      | (go_at_call 25; refine (upd_not _ KA VA kn kc vn vc fl _ (HN1.out.later Hx1.out)).mono ?_; rintro e wx2 ⟨rfl, hb⟩; have Hx2 := hide (below_in Hx1.out hb); clear hb; obtain ⟨⟨c1x2, c2x2, c3x2, c4x2, c5x2⟩, e0x2, e1x2⟩ := HC.out _ Hx2.out)
      | (go_at_call 26; refine (del_not _ KA kn kc _ (HN1.out.later Hx2.out)).mono ?_; rintro e wx3 ⟨rfl, hb⟩; have Hx3 := hide (below_in Hx2.out hb); clear hb; obtain ⟨⟨c1x3, c2x3, c3x3, c4x3, c5x3⟩, e0x3, e1x3⟩ := HC.out _ Hx3.out)
      | (go_at_call 27; refine (set_not _ pl off VA vn vc _ (HN1.out.later Hx3.out)).mono ?_; rintro e wx4 ⟨rfl, hb⟩; have Hx4 := hide (below_in Hx3.out hb); clear hb; obtain ⟨⟨c1x4, c2x4, c3x4, c4x4, c5x4⟩, e0x4, e1x4⟩ := HC.out _ Hx4.out)
      | (go_at_call 21; refine (keys_not _ _ (HN1.out.later Hx4.out)).mono ?_; rintro e wk ⟨rfl, hwk⟩; replace hwk := hwk.symm; subst hwk))
    rw [rounds_succ]
    go_wp2_with (first
      | (go_at_call 24; refine (lookup_not _ KA kn kc _ (HN2.out.later Hx4.out)).mono ?_; rintro e wy0 ⟨rfl, hb⟩; have Hy0 := hide (below_in Hx4.out hb); clear hb; obtain ⟨⟨c1y0, c2y0, c3y0, c4y0, c5y0⟩, e0y0, e1y0⟩ := HC.out _ Hy0.out)
      | (go_at_call 17; refine (value_not _ pl _ (HN2.out.later Hy0.out)).mono ?_; rintro e wy1 ⟨rfl, hb⟩; have Hy1 := hide (below_in Hy0.out hb); clear hb; obtain ⟨⟨c1y1, c2y1, c3y1, c4y1, c5y1⟩, e0y1, e1y1⟩ := HC.out _ Hy1.out)
      | (go_at_call 25; refine (upd_not _ KA VA kn kc vn vc fl _ (HN2.out.later Hy1.out)).mono ?_; rintro e wy2 ⟨rfl, hb⟩; have Hy2 := hide (below_in Hy1.out hb); clear hb; obtain ⟨⟨c1y2, c2y2, c3y2, c4y2, c5y2⟩, e0y2, e1y2⟩ := HC.out _ Hy2.out)
      | (go_at_call 26; refine (del_not _ KA kn kc _ (HN2.out.later Hy2.out)).mono ?_; rintro e wy3 ⟨rfl, hb⟩; have Hy3 := hide (below_in Hy2.out hb); clear hb; obtain ⟨⟨c1y3, c2y3, c3y3, c4y3, c5y3⟩, e0y3, e1y3⟩ := HC.out _ Hy3.out)
      | (go_at_call 27; refine (set_not _ pl off VA vn vc _ (HN2.out.later Hy3.out)).mono ?_; rintro e wy4 ⟨rfl, hb⟩; have Hy4 := hide (below_in Hy3.out hb); clear hb; obtain ⟨⟨c1y4, c2y4, c3y4, c4y4, c5y4⟩, e0y4, e1y4⟩ := HC.out _ Hy4.out)
      | (go_at_call 21; refine (keys_not _ _ (HN2.out.later Hy4.out)).mono ?_; rintro e wk ⟨rfl, hwk⟩; replace hwk := hwk.symm; subst hwk))
    rw [rounds_succ]
    have HBx := hide (below_in HB2.out Hy4.out)
    go_wp2_with (go_at_call 8; refine (awake_any _).mono ?_; rintro e w9 ⟨rfl, hb⟩; have HB10 := hide (below_in HBx.out hb); clear hb)
    go_ret
    exact ⟨rfl, HB10.out⟩
end Go.Proofs.YtolodcdhpnapmaaGreat
