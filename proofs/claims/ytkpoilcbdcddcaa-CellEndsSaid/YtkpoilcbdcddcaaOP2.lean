/-
  Deeds that came in are opened.
-/
import Derived.Test.YtkpoilcbdcddcaaOP
namespace Go.Proofs.Ytkpoilcbdcddcaa
open Go.ChangeShapes Go.WideShapes Go.ChangeAt Go.RowKit Go.Deep
set_option linter.unusedVariables false
set_option linter.unusedSimpArgs false

/-- A deed that came in. -/
structure ADeed where
  what : Int
  off : Int
  size : Int
  c : C4
  b : ARow
def ADeed.cells (d : ADeed) : List Value := [.int .i64 d.what, .int .i64 d.off, .int .i64 d.size, .int .u8 d.c.k, .int .u64 d.c.wd, .int .i64 d.c.rg, .int .i64 d.c.of, .slice d.b.A d.b.n d.b.c]
structure ADeed.Is (w : World) (B : Nat) (d : ADeed) : Prop where
  rd : Rd w B 1 d.b.A d.b.n (u8s d.b.bs)
  le : d.b.n ≤ d.b.c
  cap : d.b.c ≤ 140737488351232
  byte : ∀ x ∈ d.b.bs, 0 ≤ x ∧ x < 256
  fits : d.c.Fits
  what : -9223372036854775808 ≤ d.what ∧ d.what ≤ 9223372036854775807
  off : -9223372036854775808 ≤ d.off ∧ d.off ≤ 9223372036854775807
  size : -9223372036854775808 ≤ d.size ∧ d.size ≤ 9223372036854775807
/-- Deeds that came in. -/
structure ADeeds (w : World) (B : Nat) (A : Option Addr) (m : Nat) (ds : List ADeed) : Prop where
  outer : Rd w B 8 A m (ds.flatMap ADeed.cells)
  inner : ∀ d ∈ ds, d.Is w B
theorem ADeeds.below {w w' : World} {B : Nat} {A : Option Addr} {m : Nat} {ds : List ADeed} (h : ADeeds w B A m ds) (hb : Below B w w') : ADeeds w' B A m ds :=
  ⟨h.outer.below hb, fun d hd => ⟨(h.inner d hd).rd.below hb, (h.inner d hd).le, (h.inner d hd).cap, (h.inner d hd).byte, (h.inner d hd).fits, (h.inner d hd).what, (h.inner d hd).off, (h.inner d hd).size⟩⟩
theorem ADeeds.len {w : World} {B : Nat} {A : Option Addr} {m : Nat} {ds : List ADeed} (h : ADeeds w B A m ds) : ds.length = m := by
  have h1 := h.outer.1
  rw [flat_length ADeed.cells 8 (fun _ => rfl)] at h1
  omega
theorem ADeeds.cell {w : World} {B : Nat} {A : Option Addr} {m j : Nat} {ds : List ADeed} (h : ADeeds w B A m ds) (hj : j < m) : ∃ ad d, A = some ad ∧ ds[j]? = some d ∧ ad.block < B ∧
    ∀ t u, d.cells[t]? = some u → w.cell? (ad.add (j * 8 + t)) = some u := by
  obtain ⟨ad, e, hb, hc⟩ := h.outer.2 (by omega)
  have hl := h.len
  have hr : ds[j]? = some ds[j] := List.getElem?_eq_getElem (by omega)
  refine ⟨ad, ds[j], e, hr, hb, fun t u hu => hc _ u ?_⟩
  have ht : t < 8 := by
    have := (List.getElem?_eq_some_iff.1 hu).1
    simpa [ADeed.cells] using this
  rw [flat_at ADeed.cells 8 (fun _ => rfl) ds j t ht, hr]
  exact hu
section
variable {H : Type} {enc : TypeId × Value → H} {W : World}
theorem each_part (P : Program) : ∀ (ts : List TypeId) (ds : List (DataW H)) (j : Nat) (t : TypeId) (d : DataW H), ts[j]? = some t → ds[j]? = some d → ∀ n ∈ d.weights P t, n ∈ DataW.weightsEach P ts ds := by
  intro ts
  induction ts with
  | nil => intro ds j t d h; simp at h
  | cons t0 ts ih =>
    intro ds j t d ht hd n hn
    cases ds with
    | nil => simp at hd
    | cons d0 ds =>
      simp only [DataW.weightsEach, List.mem_append]
      cases j with
      | zero =>
        simp at ht hd
        subst ht hd
        exact .inl hn
      | succ j => exact .inr (ih ds j t d (by simpa using ht) (by simpa using hd) n hn)
/-- A struct's fields, by their places. -/
theorem view_fields {t : TypeId} {ts : List (TypeId × Nat × Nat)} (hst : ∃ fs : Array Field, Try.prog.underlying t = some (.struct fs) ∧ fs.toList.map (fun f => (f.type, f.offset, Try.prog.cellsOf f.type)) = ts) {fuel : Nat} {cs : List Value} {x : DataW H × List MemPlace}
    (hx : Szd t x.1) (h : DataW.trod enc Try.prog W 0 (fun _ => true) true fuel t cs = some x) : cs.length = Try.prog.cellsOf t ∧ ∃ n, ∀ (j : Nat) (u : TypeId) (o k : Nat), ts[j]? = some (u, o, k) → ∃ y, Szd u y.1 ∧ DataW.trod enc Try.prog W 0 (fun _ => true) true n u ((cs.drop o).take k) = some y := by
  obtain ⟨fs, ht, h4⟩ := hst
  obtain ⟨ys, n, _, hxy, hlen, hyl, hf⟩ := DataW.trod_struct ht h
  subst hxy
  subst h4
  refine ⟨hlen, n, fun j u o k hu => ?_⟩
  rw [List.getElem?_map, Array.getElem?_toList] at hu
  cases hfj : fs[j]? with
  | none => rw [hfj] at hu; cases hu
  | some f =>
    rw [hfj] at hu
    simp only [Option.map_some, Option.some.injEq, Prod.mk.injEq] at hu
    obtain ⟨rfl, rfl, rfl⟩ := hu
    have hd := hf j f hfj
    have hys : ys[j]? = some (ys[j]'(by have := (Array.getElem?_eq_some_iff.1 hfj).1; omega)) := List.getElem?_eq_getElem _
    rw [hys] at hd
    refine ⟨_, fun m hm => hx m ?_, hd⟩
    simp only [DataW.weights, ht]
    exact each_part Try.prog _ _ j f.type _ (by rw [List.getElem?_map, Array.getElem?_toList, hfj]; rfl) (by rw [List.getElem?_map, hys]; rfl) m hm
theorem deed_struct : ∃ fs : Array Field, Try.prog.underlying 39 = some (.struct fs) ∧ fs.toList.map (fun f => (f.type, f.offset, Try.prog.cellsOf f.type)) = [(3, 0, 1), (2, 1, 1), (3, 2, 1), (33, 3, 4), (37, 7, 1)] := ⟨_, Try.underlying39, by kernel_rfl⟩
theorem cells39 : Try.prog.cellsOf 39 = 8 := by kernel_rfl
theorem bytes39 : Try.prog.bytesOf 39 = 80 := by kernel_rfl
theorem view_deed {fuel : Nat} {cs : List Value} {x : DataW H × List MemPlace} (hx : Szd 39 x.1) (h : DataW.trod enc Try.prog W 0 (fun _ => true) true fuel 39 cs = some x) : ∃ d : ADeed, d.Is W W.heap.size ∧ cs = d.cells := by
  obtain ⟨hl, n, hf⟩ := view_fields deed_struct hx h
  rw [cells39] at hl
  match cs, hl with
  | [v0, v1, v2, v3, v4, v5, v6, v7], _ =>
    obtain ⟨y0, _, h0⟩ := hf 0 3 0 1 rfl
    obtain ⟨y1, _, h1⟩ := hf 1 2 1 1 rfl
    obtain ⟨y2, _, h2⟩ := hf 2 3 2 1 rfl
    obtain ⟨y3, _, h3⟩ := hf 3 33 3 4 rfl
    obtain ⟨y4, z4, h4⟩ := hf 4 37 7 1 rfl
    obtain ⟨m0, rfl, w0⟩ := int_one (v := v0) Try.underlying3 ⟨y0, h0⟩
    obtain ⟨m1, rfl, w1⟩ := int_one (v := v1) Try.underlying2 ⟨y1, h1⟩
    obtain ⟨m2, rfl, w2⟩ := int_one (v := v2) Try.underlying3 ⟨y2, h2⟩
    obtain ⟨c, hc, he⟩ := view_c4 h3
    obtain ⟨r, hr, hb⟩ := view_bytes z4 h4
    simp [C4.cs] at he
    simp at hb
    obtain ⟨rfl, rfl, rfl, rfl⟩ := he
    subst hb
    exact ⟨⟨m0, m1, m2, c, r⟩, ⟨hr.1, hr.2.2.1, hr.2.2.2.1, hr.2.2.2.2, hc, i64_of_wf w0, i64_of_wf w1, i64_of_wf w2⟩, rfl⟩
theorem view_deeds {fuel : Nat} {cs : List Value} {x : DataW H × List MemPlace} (hx : Szd 22 x.1) (h : DataW.trod enc Try.prog W 0 (fun _ => true) true fuel 22 cs = some x) :
    ∃ (A : Option Addr) (m c : Nat) (ds : List ADeed), cs = [.slice A m c] ∧ ADeeds W W.heap.size A m ds ∧ m ≤ c ∧ c ≤ 140737488351232 := by
  obtain ⟨A, c, l, hcs, hr, hl, h1, h2, h3⟩ := view_rows (P := fun d : ADeed => d.Is W W.heap.size) Try.underlying22 cells39 (by decide) ADeed.cells (fun _ => rfl) view_deed hx h
  rw [bytes39] at h3
  have h4 : c ≤ 140737488351232 := by simp only [reachBytes] at h3; omega
  exact ⟨A, l.length, c, l, hcs, ⟨hr, hl⟩, h1, h4⟩
end
end Go.Proofs.Ytkpoilcbdcddcaa
