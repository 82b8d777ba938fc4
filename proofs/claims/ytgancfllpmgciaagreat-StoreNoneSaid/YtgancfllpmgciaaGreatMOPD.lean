/-
  A deed that came in is opened: its cells.
-/
import Derived.Test.YtgancfllpmgciaaGreatOPH
namespace Go.Proofs.YtgancfllpmgciaaGreat
open Go.ChangeShapes Go.WideShapes Go.ChangeAt Go.RowKit Go.Deep
set_option linter.unusedVariables false
structure ADeed where
  kd : Int
  hd : Int
  k : Int
  key : Int
  val : Int
  ent : Int
  ka : ARow
  va : ARow
  fl : Int
  pl : Int
  of : Int
def ADeed.cells (d : ADeed) : List Value := [.int .i64 d.kd, .int .i64 d.hd, .int .u8 d.k, .int .i64 d.key, .int .i64 d.val, .int .i64 d.ent, .slice d.ka.A d.ka.n d.ka.c, .slice d.va.A d.va.n d.va.c, .int .u64 d.fl, .int .i64 d.pl, .int .i64 d.of]
section
variable {H : Type} {enc : TypeId × Value → H} {W : World}
theorem each_part (P : Program) : ∀ (ts : List TypeId) (ds : List (DataW H)) (j : Nat) (t : TypeId) (d : DataW H), ts[j]? = some t → ds[j]? = some d → ∀ n ∈ d.weights P t, n ∈ DataW.weightsEach P ts ds := by
  intro ts
  induction ts with
  | nil => intro ds j t d h; simp at h
  | cons t0 ts ih =>
    intro ds j t d ht hd n hn
    cases ds with
    | nil => simp at hd
    | cons d0 ds =>
      simp only [DataW.weightsEach, List.mem_append]
      cases j with
      | zero =>
        simp at ht hd
        subst ht hd
        exact .inl hn
      | succ j => exact .inr (ih ds j t d (by simpa using ht) (by simpa using hd) n hn)
theorem view_parts {t : TypeId} {N : Nat} {ts : List (TypeId × Nat × Nat)} (hst : ∃ fs : Array Field, Tryz.prog.underlying t = some (.struct fs) ∧ Tryz.prog.cellsOf t = N ∧ fs.toList.map (fun f => (f.type, f.offset, Tryz.prog.cellsOf f.type)) = ts) {fuel : Nat} {cs : List Value} {x : DataW H × List MemPlace}
    (hx : Szd t x.1) (h : DataW.trod enc Tryz.prog W 0 (fun _ => true) true fuel t cs = some x) : cs.length = N ∧ ∃ n, ∀ (j : Nat) (u : TypeId) (o s : Nat), ts[j]? = some (u, o, s) → ∃ y, Szd u y.1 ∧ DataW.trod enc Tryz.prog W 0 (fun _ => true) true n u ((cs.drop o).take s) = some y := by
  obtain ⟨fs, ht, hct, h4⟩ := hst
  obtain ⟨ys, n, _, hxy, hlen, hyl, hf⟩ := DataW.trod_struct ht h
  subst hxy
  rw [hct] at hlen
  subst h4
  refine ⟨hlen, n, fun j u o s hu => ?_⟩
  rw [List.getElem?_map, Array.getElem?_toList] at hu
  cases hfj : fs[j]? with
  | none => rw [hfj] at hu; cases hu
  | some f =>
    rw [hfj] at hu
    simp at hu
    obtain ⟨rfl, rfl, rfl⟩ := hu
    have hd := hf j f hfj
    have hys : ys[j]? = some (ys[j]'(by have := (Array.getElem?_eq_some_iff.1 hfj).1; omega)) := List.getElem?_eq_getElem _
    rw [hys] at hd
    refine ⟨_, fun m hm => hx m ?_, hd⟩
    simp only [DataW.weights, ht]
    exact each_part Tryz.prog _ _ j f.type _ (by rw [List.getElem?_map, Array.getElem?_toList, hfj]; rfl) (by rw [List.getElem?_map, hys]; rfl) m hm
theorem deed_struct : ∃ fs : Array Field, Tryz.prog.underlying 28 = some (.struct fs) ∧ Tryz.prog.cellsOf 28 = 11 ∧ fs.toList.map (fun f => (f.type, f.offset, Tryz.prog.cellsOf f.type)) = [(3, 0, 1), (3, 1, 1), (24, 2, 4), (25, 6, 1), (25, 7, 1), (26, 8, 1), (3, 9, 1), (3, 10, 1)] := ⟨_, Tryz.underlying28, by kernel_rfl, by kernel_rfl⟩
theorem spec_struct : ∃ fs : Array Field, Tryz.prog.underlying 24 = some (.struct fs) ∧ Tryz.prog.cellsOf 24 = 4 ∧ fs.toList.map (fun f => (f.type, f.offset, Tryz.prog.cellsOf f.type)) = [(22, 0, 1), (3, 1, 1), (3, 2, 1), (3, 3, 1)] := ⟨_, Tryz.underlying24, by kernel_rfl, by kernel_rfl⟩
theorem int_of {k : IntKind} {t : TypeId} (ht : Tryz.prog.underlying t = some (.int k)) {n : Nat} {v : Value} (h : ∃ y : DataW H × List MemPlace, Szd t y.1 ∧ DataW.trod enc Tryz.prog W 0 (fun _ => true) true n t [v] = some y) : ∃ m, v = .int k m ∧ (Lit.int k m).wf = true := by
  obtain ⟨y, _, h⟩ := h
  exact int_one ht ⟨y, h⟩
theorem view_spec {fuel : Nat} {cs : List Value} {x : DataW H × List MemPlace} (hx : Szd 24 x.1) (h : DataW.trod enc Tryz.prog W 0 (fun _ => true) true fuel 24 cs = some x) : ∃ m0 m1 m2 m3, cs = [.int .u8 m0, .int .i64 m1, .int .i64 m2, .int .i64 m3] := by
  obtain ⟨hl, n, hf⟩ := view_parts spec_struct hx h
  match cs, hl with
  | [v0, v1, v2, v3], _ =>
    obtain ⟨m0, rfl, _⟩ := int_of Tryz.underlying22 (hf 0 _ _ _ rfl)
    obtain ⟨m1, rfl, _⟩ := int_of Tryz.underlying3 (hf 1 _ _ _ rfl)
    obtain ⟨m2, rfl, _⟩ := int_of Tryz.underlying3 (hf 2 _ _ _ rfl)
    obtain ⟨m3, rfl, _⟩ := int_of Tryz.underlying3 (hf 3 _ _ _ rfl)
    exact ⟨m0, m1, m2, m3, rfl⟩
theorem view_deed {fuel : Nat} {cs : List Value} {x : DataW H × List MemPlace} (hx : Szd 28 x.1) (h : DataW.trod enc Tryz.prog W 0 (fun _ => true) true fuel 28 cs = some x) : ∃ d : ADeed, True ∧ cs = d.cells := by
  obtain ⟨hl, n, hf⟩ := view_parts deed_struct hx h
  match cs, hl with
  | [v0, v1, v2, v3, v4, v5, v6, v7, v8, v9, v10], _ =>
    obtain ⟨m0, rfl, _⟩ := int_of Tryz.underlying3 (hf 0 _ _ _ rfl)
    obtain ⟨m1, rfl, _⟩ := int_of Tryz.underlying3 (hf 1 _ _ _ rfl)
    obtain ⟨y2, hy2, h2⟩ := hf 2 _ _ _ rfl
    obtain ⟨s0, s1, s2, s3, hs⟩ := view_spec hy2 h2
    obtain ⟨y3, hy3, h3⟩ := hf 3 _ _ _ rfl
    obtain ⟨r1, _, hc1⟩ := view_bytes hy3 h3
    obtain ⟨y4, hy4, h4⟩ := hf 4 _ _ _ rfl
    obtain ⟨r2, _, hc2⟩ := view_bytes hy4 h4
    obtain ⟨m5, rfl, _⟩ := int_of Tryz.underlying26 (hf 5 _ _ _ rfl)
    obtain ⟨m6, rfl, _⟩ := int_of Tryz.underlying3 (hf 6 _ _ _ rfl)
    obtain ⟨m7, rfl, _⟩ := int_of Tryz.underlying3 (hf 7 _ _ _ rfl)
    simp at hc1 hc2 hs
    obtain ⟨rfl, rfl, rfl, rfl⟩ := hs
    subst hc1 hc2
    exact ⟨⟨m0, m1, s0, s1, s2, s3, r1, r2, m5, m6, m7⟩, trivial, rfl⟩
end
end Go.Proofs.YtgancfllpmgciaaGreat
