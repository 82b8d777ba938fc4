/-
  Deeds that came in are opened.
-/
import Derived.Test.YtbllnjkagleenaaOP
import Derived.Test.YtbllnjkagleenaaGO
namespace Go.Proofs.Ytbllnjkagleenaa
open Go.ChangeShapes Go.WideShapes Go.ChangeAt Go.RowKit Go.Deep
set_option linter.unusedVariables false
section
variable {H : Type} {enc : TypeId × Value → H} {W : World}
theorem each_part (P : Program) : ∀ (ts : List TypeId) (ds : List (DataW H)) (j : Nat) (t : TypeId) (d : DataW H), ts[j]? = some t → ds[j]? = some d → ∀ n ∈ d.weights P t, n ∈ DataW.weightsEach P ts ds := by
  intro ts
  induction ts with
  | nil => intro ds j t d h; simp at h
  | cons t0 ts ih =>
    intro ds j t d ht hd n hn
    cases ds with
    | nil => simp at hd
    | cons d0 ds =>
      simp only [DataW.weightsEach, List.mem_append]
      cases j with
      | zero =>
        simp at ht hd
        subst ht hd
        exact .inl hn
      | succ j => exact .inr (ih ds j t d (by simpa using ht) (by simpa using hd) n hn)
theorem view_sized {t : TypeId} {ts : List TypeId} (hst : ∃ fs : Array Field, Try.prog.underlying t = some (.struct fs) ∧ oneCellFields Try.prog fs = true ∧ Try.prog.cellsOf t = fs.size ∧ fs.toList.map (·.type) = ts) {fuel : Nat} {cs : List Value} {x : DataW H × List MemPlace}
    (hx : Szd t x.1) (h : DataW.trod enc Try.prog W 0 (fun _ => true) true fuel t cs = some x) : cs.length = ts.length ∧ ∃ n, ∀ (j : Nat) (u : TypeId) (v : Value), ts[j]? = some u → cs[j]? = some v → ∃ y, Szd u y.1 ∧ DataW.trod enc Try.prog W 0 (fun _ => true) true n u [v] = some y := by
  obtain ⟨fs, ht, h1, hct, h4⟩ := hst
  obtain ⟨ys, n, _, hxy, hlen, hyl, hf⟩ := DataW.trod_struct ht h
  subst hxy
  rw [hct] at hlen
  subst h4
  refine ⟨by rw [hlen]; simp, n, fun j u v hu hv => ?_⟩
  rw [List.getElem?_map, Array.getElem?_toList] at hu
  cases hfj : fs[j]? with
  | none => rw [hfj] at hu; cases hu
  | some f =>
    rw [hfj] at hu
    simp at hu
    subst hu
    have hd := hf j f hfj
    obtain ⟨h2, h3⟩ := hone_of h1 j _ hfj
    rw [h2, h3] at hd
    have hys : ys[j]? = some (ys[j]'(by have := (Array.getElem?_eq_some_iff.1 hfj).1; omega)) := List.getElem?_eq_getElem _
    have hcs : (cs.drop j).take 1 = [v] := by
      obtain ⟨hlt, he⟩ := List.getElem?_eq_some_iff.1 hv
      rw [List.drop_eq_getElem_cons hlt, List.take_succ_cons, List.take_zero, he]
    rw [hcs, hys] at hd
    refine ⟨_, fun m hm => hx m ?_, hd⟩
    simp only [DataW.weights, ht]
    exact each_part Try.prog _ _ j f.type _ (by rw [List.getElem?_map, Array.getElem?_toList, hfj]; rfl) (by rw [List.getElem?_map, hys]; rfl) m hm
theorem do_struct : ∃ fs : Array Field, Try.prog.underlying 33 = some (.struct fs) ∧ oneCellFields Try.prog fs = true ∧ Try.prog.cellsOf 33 = fs.size ∧ fs.toList.map (·.type) = [3, 3, 30, 2, 3, 31] := ⟨_, Try.underlying33, by kernel_rfl, by kernel_rfl, by kernel_rfl⟩
theorem int_of {k : IntKind} {t : TypeId} (ht : Try.prog.underlying t = some (.int k)) {n : Nat} {v : Value} (h : ∃ y : DataW H × List MemPlace, Szd t y.1 ∧ DataW.trod enc Try.prog W 0 (fun _ => true) true n t [v] = some y) : ∃ m, v = .int k m ∧ (Lit.int k m).wf = true := by
  obtain ⟨y, _, h⟩ := h
  exact int_one ht ⟨y, h⟩
theorem view_do {fuel : Nat} {cs : List Value} {x : DataW H × List MemPlace} (hx : Szd 33 x.1) (h : DataW.trod enc Try.prog W 0 (fun _ => true) true fuel 33 cs = some x) : ∃ d : ADo, d.Is W W.heap.size ∧ cs = d.cells := by
  obtain ⟨hl, n, hf⟩ := view_sized do_struct hx h
  match cs, hl with
  | [v0, v1, v2, v3, v4, v5], _ =>
    obtain ⟨m0, rfl, w0⟩ := int_of Try.underlying3 (hf 0 3 v0 rfl rfl)
    obtain ⟨m1, rfl, w1⟩ := int_of Try.underlying3 (hf 1 3 v1 rfl rfl)
    obtain ⟨m2, rfl, _⟩ := int_of Try.underlying30 (hf 2 30 v2 rfl rfl)
    obtain ⟨m3, rfl, w3⟩ := int_of Try.underlying2 (hf 3 2 v3 rfl rfl)
    obtain ⟨m4, rfl, w4⟩ := int_of Try.underlying3 (hf 4 3 v4 rfl rfl)
    obtain ⟨y, hy, h5⟩ := hf 5 31 v5 rfl rfl
    obtain ⟨r, hr, hc⟩ := view_bytes hy h5
    simp at hc
    subst hc
    exact ⟨⟨m0, m1, m2, m3, m4, r⟩, ⟨hr.1, hr.2.1, Nat.le_trans hr.2.2.1 hr.2.2.2.1, w0, w1, w3, w4⟩, rfl⟩
theorem cells33 : Try.prog.cellsOf 33 = 6 := by kernel_rfl
theorem bytes33 : Try.prog.bytesOf 33 = 64 := by kernel_rfl
theorem view_dos {fuel : Nat} {cs : List Value} {x : DataW H × List MemPlace} (hx : Szd 22 x.1) (h : DataW.trod enc Try.prog W 0 (fun _ => true) true fuel 22 cs = some x) :
    ∃ (A : Option Addr) (m c : Nat) (ds : List ADo), cs = [.slice A m c] ∧ ADos W W.heap.size A m ds ∧ m ≤ c ∧ c ≤ 140737488351232 := by
  obtain ⟨A, c, l, hcs, hr, hl, h1, h2, h3⟩ := view_rows (P := fun d : ADo => d.Is W W.heap.size) Try.underlying22 cells33 (by decide) ADo.cells (fun _ => rfl) view_do hx h
  rw [bytes33] at h3
  have h4 : c ≤ 140737488351232 := by simp only [reachBytes] at h3; omega
  exact ⟨A, l.length, c, l, hcs, ⟨hr, hl⟩, h1, h4⟩
end
end Go.Proofs.Ytbllnjkagleenaa
