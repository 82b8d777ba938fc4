/-
  A deed that came in is opened.
-/
import Derived.Test.YtdbflopfcnkjbaaGreatOP
namespace Go.Proofs.YtdbflopfcnkjbaaGreat
open Go.ChangeShapes Go.WideShapes Go.ChangeAt Go.RowKit Go.Deep
set_option linter.unusedVariables false
structure ADo where
  take : Bool
  b : ARow
def ADo.cells (d : ADo) : List Value := [.bool d.take, .slice d.b.A d.b.n d.b.c]
def I64 (n : Int) : Prop := -9223372036854775808 ≤ n ∧ n ≤ 9223372036854775807
/-- A row of bytes that came in, below block B. -/
structure InB (w : World) (B : Nat) (r : ARow) : Prop where
  rd : Rd w B 1 r.A r.n (u8s r.bs)
  nil : r.A = none → r.n = 0
  le : r.n ≤ r.c
  cap : r.c ≤ 140737488351232
  byte : ∀ b ∈ r.bs, IsByte b
theorem InB.below {w w' : World} {B : Nat} {r : ARow} (h : InB w B r) (hb : Below B w w') : InB w' B r := ⟨h.rd.below hb, h.nil, h.le, h.cap, h.byte⟩
theorem InB.mono {w : World} {B B' : Nat} {r : ARow} (h : InB w B r) (hB : B ≤ B') : InB w B' r := ⟨h.rd.mono hB, h.nil, h.le, h.cap, h.byte⟩
theorem InB.len {w : World} {B : Nat} {r : ARow} (h : InB w B r) : r.bs.length = r.n := by have := h.rd.1; simpa [u8s] using this
structure ADo.Is (w : World) (B : Nat) (d : ADo) : Prop where
  b : InB w B d.b
theorem ADo.Is.below {w w' : World} {B : Nat} {d : ADo} (h : d.Is w B) (hb : Below B w w') : d.Is w' B := ⟨h.b.below hb⟩
section
variable {H : Type} {enc : TypeId × Value → H} {W : World}
theorem each_part (P : Program) : ∀ (ts : List TypeId) (ds : List (DataW H)) (j : Nat) (t : TypeId) (d : DataW H), ts[j]? = some t → ds[j]? = some d → ∀ n ∈ d.weights P t, n ∈ DataW.weightsEach P ts ds := by
  intro ts
  induction ts with
  | nil => intro ds j t d h; simp at h
  | cons t0 ts ih =>
    intro ds j t d ht hd n hn
    cases ds with
    | nil => simp at hd
    | cons d0 ds =>
      simp only [DataW.weightsEach, List.mem_append]
      cases j with
      | zero =>
        simp at ht hd
        subst ht hd
        exact .inl hn
      | succ j => exact .inr (ih ds j t d (by simpa using ht) (by simpa using hd) n hn)
theorem view_sized {t : TypeId} {ts : List TypeId} (hst : ∃ fs : Array Field, Tryz.prog.underlying t = some (.struct fs) ∧ oneCellFields Tryz.prog fs = true ∧ Tryz.prog.cellsOf t = fs.size ∧ fs.toList.map (·.type) = ts) {fuel : Nat} {cs : List Value} {x : DataW H × List MemPlace}
    (hx : Szd t x.1) (h : DataW.trod enc Tryz.prog W 0 (fun _ => true) true fuel t cs = some x) : cs.length = ts.length ∧ ∃ n, ∀ (j : Nat) (u : TypeId) (v : Value), ts[j]? = some u → cs[j]? = some v → ∃ y, Szd u y.1 ∧ DataW.trod enc Tryz.prog W 0 (fun _ => true) true n u [v] = some y := by
  obtain ⟨fs, ht, h1, hct, h4⟩ := hst
  obtain ⟨ys, n, _, hxy, hlen, hyl, hf⟩ := DataW.trod_struct ht h
  subst hxy
  rw [hct] at hlen
  subst h4
  refine ⟨by rw [hlen]; simp, n, fun j u v hu hv => ?_⟩
  rw [List.getElem?_map, Array.getElem?_toList] at hu
  cases hfj : fs[j]? with
  | none => rw [hfj] at hu; cases hu
  | some f =>
    rw [hfj] at hu
    simp at hu
    subst hu
    have hd := hf j f hfj
    obtain ⟨h2, h3⟩ := hone_of h1 j _ hfj
    rw [h2, h3] at hd
    have hys : ys[j]? = some (ys[j]'(by have := (Array.getElem?_eq_some_iff.1 hfj).1; omega)) := List.getElem?_eq_getElem _
    have hcs : (cs.drop j).take 1 = [v] := by
      obtain ⟨hlt, he⟩ := List.getElem?_eq_some_iff.1 hv
      rw [List.drop_eq_getElem_cons hlt, List.take_succ_cons, List.take_zero, he]
    rw [hcs, hys] at hd
    refine ⟨_, fun m hm => hx m ?_, hd⟩
    simp only [DataW.weights, ht]
    exact each_part Tryz.prog _ _ j f.type _ (by rw [List.getElem?_map, Array.getElem?_toList, hfj]; rfl) (by rw [List.getElem?_map, hys]; rfl) m hm
theorem do_struct : ∃ fs : Array Field, Tryz.prog.underlying 29 = some (.struct fs) ∧ oneCellFields Tryz.prog fs = true ∧ Tryz.prog.cellsOf 29 = fs.size ∧ fs.toList.map (·.type) = [4, 27] := ⟨_, Tryz.underlying29, by kernel_rfl, by kernel_rfl, by kernel_rfl⟩
theorem int_of {k : IntKind} {t : TypeId} (ht : Tryz.prog.underlying t = some (.int k)) {n : Nat} {v : Value} (h : ∃ y : DataW H × List MemPlace, Szd t y.1 ∧ DataW.trod enc Tryz.prog W 0 (fun _ => true) true n t [v] = some y) : ∃ m, v = .int k m ∧ (Lit.int k m).wf = true := by
  obtain ⟨y, _, h⟩ := h
  exact int_one ht ⟨y, h⟩
theorem i64c (n : Int) (h : -9223372036854775808 ≤ n ∧ n ≤ 9223372036854775807) : I64 n := h
theorem bool_of {t : TypeId} (ht : Tryz.prog.underlying t = some .bool) {n : Nat} {v : Value} (h : ∃ y : DataW H × List MemPlace, Szd t y.1 ∧ DataW.trod enc Tryz.prog W 0 (fun _ => true) true n t [v] = some y) : ∃ m, v = .bool m := by
  obtain ⟨y, _, h⟩ := h
  obtain ⟨m, hm, _⟩ := DataW.trod_bool ht h
  exact ⟨m, by simpa using hm⟩
theorem inB_of {r : ARow} (h : r.Is W) : InB W W.heap.size r := ⟨h.1, h.2.1, h.2.2.1, h.2.2.2.1, fun b hb => h.2.2.2.2 b hb⟩
theorem view_do {fuel : Nat} {cs : List Value} {x : DataW H × List MemPlace} (hx : Szd 29 x.1) (h : DataW.trod enc Tryz.prog W 0 (fun _ => true) true fuel 29 cs = some x) : ∃ d : ADo, d.Is W W.heap.size ∧ cs = d.cells := by
  obtain ⟨hl, n, hf⟩ := view_sized do_struct hx h
  match cs, hl with
  | [v0, v1], _ =>
    obtain ⟨m0, rfl⟩ := bool_of Tryz.underlying4 (hf 0 4 v0 rfl rfl)
    obtain ⟨y1, hy1, h1⟩ := hf 1 27 v1 rfl rfl
    obtain ⟨r1, hr1, hc1⟩ := view_bytes hy1 h1
    simp at hc1
    subst hc1
    exact ⟨⟨m0, r1⟩, ⟨inB_of hr1⟩, rfl⟩
end
end Go.Proofs.YtdbflopfcnkjbaaGreat
