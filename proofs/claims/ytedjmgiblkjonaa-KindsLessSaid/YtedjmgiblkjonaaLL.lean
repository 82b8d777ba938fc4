/-
  KindsLess: whatever the table and whatever is kept of it: where the table is short and right, so is each of its types, fields and helpers, and so is the table of those kept: it returns true for every input, and each argument reads behind the call as it read before. No condition.
-/
import Derived.Test.YtedjmgiblkjonaaRows
import Derived.Test.YtedjmgiblkjonaaHP
import Derived.ProofKit
import Derived.Carry
import Derived.Deep.Slices
import Derived.Deep.Fields
import Derived.Deep.Grids
import Derived.Test.YtedjmgiblkjonaaF1
import Derived.Test.YtedjmgiblkjonaaK1
import Derived.Test.YtedjmgiblkjonaaD4
import Derived.Deep.RegionLaw
import Derived.Test.YtedjmgiblkjonaaD6
import Derived.SizedLaws
import Derived.WalkKit
import Derived.OpenShut
import Derived.Lib.SmallJoins
import Derived.ChangeMaps5
namespace Go.Proofs.Ytedjmgiblkjonaa
open Go.ChangeShapes Go.WideShapes Go.ChangeAt Go.RowKit Go.Deep
set_option linter.unusedVariables false

section
variable {H : Type} {enc : TypeId × Value → H} {W : World}
theorem wf_u8 {n : Int} (h : (Lit.int .u8 n).wf = true) : (0 ≤ n ∧ n < 256) := by
  simp [Lit.wf, IntKind.min, IntKind.max, IntKind.bits, IntKind.signed] at h
  exact ⟨h.1, by omega⟩
/-- A row of elements, each of which can be opened. -/
theorem view_rows {α : Type} {t e : TypeId} {sz : Nat} (ht : Try.prog.underlying t = some (.slice e)) (hce : Try.prog.cellsOf e = sz) (hsz : 0 < sz) (cf : α → List Value) (hcf : ∀ a, (cf a).length = sz) (P : α → Prop)
    (view : ∀ {fuel : Nat} {cs : List Value} {x : DataW H × List MemPlace}, DataW.trod enc Try.prog W 0 (fun _ => true) true fuel e cs = some x → ∃ a, P a ∧ cs = cf a)
    {fuel : Nat} {cs : List Value} {x : DataW H × List MemPlace} (hf : DataW.trod enc Try.prog W 0 (fun _ => true) true fuel t cs = some x) :
    ∃ (A : Option Addr) (c : Nat) (l : List α), cs = [.slice A l.length c] ∧ Rd W W.heap.size sz A l.length (l.flatMap cf) ∧ (∀ a ∈ l, P a) ∧ l.length ≤ c ∧ c ≤ maxLen := by
  rcases open_slice ht hf with ⟨hcs, hx⟩ | ⟨a, n, c, m, k, D, Pl, hcs, _, hl, hm, hmm, hx, hi⟩
  · exact ⟨none, 0, [], hcs, ⟨by simp, fun h => absurd h (by simp)⟩, by simp, by simp, by simp [maxLen]⟩
  · simp only [if_true] at hmm
    subst hmm
    rw [hce] at hi
    have hs : ∀ i, i < n → ∃ s : α, P s ∧ ∀ j u, (cf s)[j]? = some u → W.cell? (a.add (i * sz + j)) = some u := by
      intro i hin
      obtain ⟨cs', h1, h2⟩ := hi i (by omega)
      obtain ⟨s, hsf, rfl⟩ := view h2
      obtain ⟨_, hcl, hat⟩ := World.cells?_some h1
      refine ⟨s, hsf, fun j u hj => ?_⟩
      have hlt : j < sz := by have := (List.getElem?_eq_some_iff.1 hj).1; rw [hcf] at this; exact this
      rw [← add_add, hat j hlt, hj]
    have hl2 : ∃ l : List α, l.length = n ∧ ∀ i s, l[i]? = some s → P s ∧ ∀ j u, (cf s)[j]? = some u → W.cell? (a.add (i * sz + j)) = some u := by
      clear hf hi hl hm hcs hx
      revert hs
      induction n with
      | zero => exact fun _ => ⟨[], rfl, by simp⟩
      | succ n ih =>
        intro hs
        obtain ⟨l, h1, h2⟩ := ih (fun i hi => hs i (by omega))
        obtain ⟨s, h3, h4⟩ := hs n (by omega)
        refine ⟨l ++ [s], by simp [h1], fun i t ht => ?_⟩
        rcases Nat.lt_or_ge i n with hlt | hge
        · rw [List.getElem?_append_left (by omega)] at ht
          exact h2 i t ht
        · have hin : i = n := by
            have := (List.getElem?_eq_some_iff.1 ht).1
            simp [h1] at this
            omega
          subst hin
          rw [List.getElem?_append_right (by omega), h1, Nat.sub_self] at ht
          simp at ht
          subst ht
          exact ⟨h3, h4⟩
    obtain ⟨l, hll, hls⟩ := hl2
    subst hll
    have hc : ∀ j u, (l.flatMap cf)[j]? = some u → W.cell? (a.add j) = some u := by
      intro j u hu
      have e : j = j / sz * sz + j % sz := by have := Nat.div_add_mod j sz; rw [Nat.mul_comm]; omega
      have hmod := Nat.mod_lt j hsz
      rw [e, flat_at cf sz hcf l (j / sz) (j % sz) hmod] at hu
      rw [e]
      rcases hq : l[j / sz]? with _ | s
      · rw [hq] at hu; simp at hu
      · rw [hq] at hu
        exact (hls _ s hq).2 _ u hu
    refine ⟨some a, _, l, hcs, ⟨by rw [flat_length cf sz hcf], fun hn => ⟨a, rfl, ?_, hc⟩⟩, fun s hsm => ?_, hl, hm⟩
    · obtain ⟨s, _, h4⟩ := hs 0 hn
      have hcl := hcf s
      have h0 : (cf s)[0]? = some ((cf s)[0]'(by omega)) := List.getElem?_eq_getElem _
      have := World.block_lt_of_cell? W _ (h4 0 _ h0)
      rwa [block_add] at this
    · obtain ⟨i, hi'⟩ := List.getElem?_of_mem hsm
      exact (hls i s hi').1
/-- A struct all of whose fields have one cell. -/
theorem view_one {t : TypeId} {fs : Array Field} (ht : Try.prog.underlying t = some (.struct fs)) (h1 : oneCellFields Try.prog fs = true) (hct : Try.prog.cellsOf t = fs.size) {fuel : Nat} {cs : List Value} {x : DataW H × List MemPlace}
    (h : DataW.trod enc Try.prog W 0 (fun _ => true) true fuel t cs = some x) :
    cs.length = fs.size ∧ ∃ n, ∀ (j : Nat) (f : Field) (v : Value), fs[j]? = some f → cs[j]? = some v → ∃ y, DataW.trod enc Try.prog W 0 (fun _ => true) true n f.type [v] = some y := by
  obtain ⟨ys, n, _, _, hlen, hyl, hf⟩ := DataW.trod_struct ht h
  rw [hct] at hlen
  refine ⟨hlen, n, fun j f v hj hv => ?_⟩
  have hd := hf j f hj
  obtain ⟨h2, h3⟩ := hone_of h1 j _ hj
  rw [h2, h3] at hd
  have hys : ys[j]? = some (ys[j]'(by have := (Array.getElem?_eq_some_iff.1 hj).1; omega)) := List.getElem?_eq_getElem _
  have hcs : (cs.drop j).take 1 = [v] := by
    obtain ⟨hlt, he⟩ := List.getElem?_eq_some_iff.1 hv
    rw [List.drop_eq_getElem_cons hlt, List.take_succ_cons, List.take_zero, he]
  rw [hcs, hys] at hd
  exact ⟨_, hd⟩
theorem field_struct : ∃ fs : Array Field, Try.prog.underlying 65 = some (.struct fs) ∧ oneCellFields Try.prog fs = true ∧ Try.prog.cellsOf 65 = fs.size ∧ fs.toList.map (·.type) = [3, 3, 63, 4] := ⟨_, Try.underlying65, by kernel_rfl, by kernel_rfl, by kernel_rfl⟩
theorem need_struct : ∃ fs : Array Field, Try.prog.underlying 99 = some (.struct fs) ∧ oneCellFields Try.prog fs = true ∧ Try.prog.cellsOf 99 = fs.size ∧ fs.toList.map (·.type) = [3, 3, 3] := ⟨_, Try.underlying99, by kernel_rfl, by kernel_rfl, by kernel_rfl⟩
theorem arg_struct : ∃ fs : Array Field, Try.prog.underlying 46 = some (.struct fs) ∧ oneCellFields Try.prog fs = true ∧ Try.prog.cellsOf 46 = fs.size ∧ fs.toList.map (·.type) = [44, 2, 2, 41] := ⟨_, Try.underlying46, by kernel_rfl, by kernel_rfl, by kernel_rfl⟩
theorem type_struct : ∃ fs : Array Field, Try.prog.underlying 62 = some (.struct fs) ∧ oneCellFields Try.prog fs = true ∧ Try.prog.cellsOf 62 = fs.size ∧ fs.toList.map (·.type) = [9, 3, 59, 60, 2, 2] := ⟨_, Try.underlying62, by kernel_rfl, by kernel_rfl, by kernel_rfl⟩
theorem ret_struct : ∃ fs : Array Field, Try.prog.underlying 30 = some (.struct fs) ∧ oneCellFields Try.prog fs = true ∧ Try.prog.cellsOf 30 = fs.size ∧ fs.toList.map (·.type) = [28, 2, 2, 3] := ⟨_, Try.underlying30, by kernel_rfl, by kernel_rfl, by kernel_rfl⟩
/-- The same, by the fields' types. -/
theorem view_by {t : TypeId} {ts : List TypeId} (hst : ∃ fs : Array Field, Try.prog.underlying t = some (.struct fs) ∧ oneCellFields Try.prog fs = true ∧ Try.prog.cellsOf t = fs.size ∧ fs.toList.map (·.type) = ts) {fuel : Nat} {cs : List Value} {x : DataW H × List MemPlace}
    (h : DataW.trod enc Try.prog W 0 (fun _ => true) true fuel t cs = some x) : cs.length = ts.length ∧ ∃ n, ∀ (j : Nat) (u : TypeId) (v : Value), ts[j]? = some u → cs[j]? = some v → ∃ y, DataW.trod enc Try.prog W 0 (fun _ => true) true n u [v] = some y := by
  obtain ⟨fs, h1, h2, h3, h4⟩ := hst
  obtain ⟨h5, n, h6⟩ := view_one h1 h2 h3 h
  refine ⟨by rw [h5, ← h4]; simp, n, fun j u v hu hv => ?_⟩
  rw [← h4, List.getElem?_map, Array.getElem?_toList] at hu
  cases hf : fs[j]? with
  | none => rw [hf] at hu; cases hu
  | some f =>
    rw [hf] at hu
    simp at hu
    subst hu
    exact h6 j f v hf hv
theorem int_one {k : IntKind} {t : TypeId} (ht : Try.prog.underlying t = some (.int k)) {n : Nat} {v : Value} (h : ∃ y, DataW.trod enc Try.prog W 0 (fun _ => true) true n t [v] = some y) : ∃ m, v = .int k m ∧ (Lit.int k m).wf = true := by
  obtain ⟨y, h⟩ := h
  obtain ⟨m, hm, _, hw⟩ := DataW.trod_int ht h
  exact ⟨m, by simpa using hm, hw⟩
theorem view_field {fuel : Nat} {cs : List Value} {x : DataW H × List MemPlace} (h : DataW.trod enc Try.prog W 0 (fun _ => true) true fuel 65 cs = some x) : ∃ f : FieldM, True ∧ cs = f.cells := by
  obtain ⟨hl, n, hf⟩ := view_by field_struct h
  match cs, hl with
  | [v0, v1, v2, v3], _ =>
    obtain ⟨m0, rfl, _⟩ := int_one Try.underlying3 (hf 0 3 v0 rfl rfl)
    obtain ⟨m1, rfl, _⟩ := int_one Try.underlying3 (hf 1 3 v1 rfl rfl)
    obtain ⟨m2, rfl, _⟩ := int_one Try.underlying63 (hf 2 63 v2 rfl rfl)
    obtain ⟨y, h3⟩ := hf 3 4 v3 rfl rfl
    obtain ⟨b, hb, _⟩ := DataW.trod_bool Try.underlying4 h3
    simp at hb
    subst hb
    exact ⟨⟨m0, m1, m2, b⟩, trivial, rfl⟩
theorem view_need {fuel : Nat} {cs : List Value} {x : DataW H × List MemPlace} (h : DataW.trod enc Try.prog W 0 (fun _ => true) true fuel 99 cs = some x) : ∃ f : NeedM, True ∧ cs = f.cells := by
  obtain ⟨hl, n, hf⟩ := view_by need_struct h
  match cs, hl with
  | [v0, v1, v2], _ =>
    obtain ⟨m0, rfl, _⟩ := int_one Try.underlying3 (hf 0 3 v0 rfl rfl)
    obtain ⟨m1, rfl, _⟩ := int_one Try.underlying3 (hf 1 3 v1 rfl rfl)
    obtain ⟨m2, rfl, _⟩ := int_one Try.underlying3 (hf 2 3 v2 rfl rfl)
    exact ⟨⟨m0, m1, m2⟩, trivial, rfl⟩
theorem view_mk {fuel : Nat} {cs : List Value} {x : DataW H × List MemPlace} (h : DataW.trod enc Try.prog W 0 (fun _ => true) true fuel 22 cs = some x) : ∃ m : Int, (0 ≤ m ∧ m < 256) ∧ cs = [.int .u8 m] := by
  obtain ⟨m, hm, _, hw⟩ := DataW.trod_int Try.underlying22 h
  exact ⟨m, wf_u8 hw, hm⟩
theorem cells65 : Try.prog.cellsOf 65 = 4 := by kernel_rfl
theorem cells99 : Try.prog.cellsOf 99 = 3 := by kernel_rfl
theorem cells22 : Try.prog.cellsOf 22 = 1 := by kernel_rfl
theorem cells46 : Try.prog.cellsOf 46 = 4 := by kernel_rfl
theorem cells62 : Try.prog.cellsOf 62 = 6 := by kernel_rfl
theorem cells32 : Try.prog.cellsOf 32 = 9 := by kernel_rfl
theorem mks_flat (l : List Int) : l.flatMap (fun m => [Value.int .u8 m]) = mks l := by
  unfold mks
  induction l with
  | nil => rfl
  | cons a l ih => simp [ih]
/-- What an argument holds. -/
def ArgP (W : World) (x : ArgX) : Prop := Rd W W.heap.size 1 x.A x.a.maps.length (mks x.a.maps) ∧ x.a.maps.length ≤ x.c ∧ x.c ≤ maxLen ∧ ∀ m ∈ x.a.maps, 0 ≤ m ∧ m < 256
theorem view_arg {fuel : Nat} {cs : List Value} {x : DataW H × List MemPlace} (h : DataW.trod enc Try.prog W 0 (fun _ => true) true fuel 46 cs = some x) : ∃ a : ArgX, ArgP W a ∧ cs = a.cells := by
  obtain ⟨hl, n, hf⟩ := view_by arg_struct h
  match cs, hl with
  | [v0, v1, v2, v3], _ =>
    obtain ⟨m0, rfl, _⟩ := int_one Try.underlying44 (hf 0 44 v0 rfl rfl)
    obtain ⟨m1, rfl, _⟩ := int_one Try.underlying2 (hf 1 2 v1 rfl rfl)
    obtain ⟨m2, rfl, _⟩ := int_one Try.underlying2 (hf 2 2 v2 rfl rfl)
    obtain ⟨y, h3⟩ := hf 3 41 v3 rfl rfl
    obtain ⟨A, c, l, hc, hr, hp, h4, h5⟩ := view_rows Try.underlying41 cells22 (by decide) (fun m => [Value.int .u8 m]) (fun _ => rfl) (fun m : Int => 0 ≤ m ∧ m < 256) (fun h => view_mk h) h3
    simp at hc
    subst hc
    rw [mks_flat] at hr
    exact ⟨⟨⟨m0, m1, m2, l⟩, A, c⟩, ⟨hr, h4, h5, hp⟩, rfl⟩
/-- What a type holds. -/
def TypeP (W : World) (x : TypeX) : Prop := x.name.size ≤ maxLen ∧ Rd W W.heap.size 4 x.F x.fl.length (fcells x.fl) ∧ Rd W W.heap.size 3 x.N x.nl.length (ncells x.nl) ∧ (x.fl.length ≤ x.fc ∧ x.fc ≤ maxLen) ∧ x.nl.length ≤ x.nc ∧ x.nc ≤ maxLen
theorem view_type {fuel : Nat} {cs : List Value} {x : DataW H × List MemPlace} (h : DataW.trod enc Try.prog W 0 (fun _ => true) true fuel 62 cs = some x) : ∃ a : TypeX, TypeP W a ∧ cs = a.cells := by
  obtain ⟨hl, n, hf⟩ := view_by type_struct h
  match cs, hl with
  | [v0, v1, v2, v3, v4, v5], _ =>
    obtain ⟨y, h0⟩ := hf 0 9 v0 rfl rfl
    obtain ⟨s, hs, _, hsl⟩ := DataW.trod_string Try.underlying9 h0
    simp at hs
    subst hs
    obtain ⟨m1, rfl, _⟩ := int_one Try.underlying3 (hf 1 3 v1 rfl rfl)
    obtain ⟨y, h2⟩ := hf 2 59 v2 rfl rfl
    obtain ⟨F, fc, fl, hc, hr, _, h4, h5⟩ := view_rows Try.underlying59 cells65 (by decide) FieldM.cells (fun _ => rfl) (fun _ => True) (fun h => view_field h) h2
    simp at hc
    subst hc
    obtain ⟨y, h3⟩ := hf 3 60 v3 rfl rfl
    obtain ⟨N, nc, nl, hc, hr', _, h4', h5'⟩ := view_rows Try.underlying60 cells99 (by decide) NeedM.cells (fun _ => rfl) (fun _ => True) (fun h => view_need h) h3
    simp at hc
    subst hc
    obtain ⟨m4, rfl, _⟩ := int_one Try.underlying2 (hf 4 2 v4 rfl rfl)
    obtain ⟨m5, rfl, _⟩ := int_one Try.underlying2 (hf 5 2 v5 rfl rfl)
    exact ⟨⟨s, m1, F, fc, fl, N, nc, nl, m4, m5⟩, ⟨hsl, hr, hr', ⟨h4, h5⟩, h4', h5'⟩, rfl⟩
end
end Go.Proofs.Ytedjmgiblkjonaa
namespace Go.Proofs.Ytedjmgiblkjonaa
open Go.ChangeShapes Go.WideShapes Go.ChangeAt Go.RowKit Go.Deep
set_option linter.unusedVariables false

section
variable {H : Type} {enc : TypeId × Value → H} {W : World}
theorem cells30 : Try.prog.cellsOf 30 = 4 := by kernel_rfl
theorem cells3' : Try.prog.cellsOf 3 = 1 := by kernel_rfl
theorem cells25' : Try.prog.cellsOf 25 = 1 := by kernel_rfl
theorem cells27 : Try.prog.cellsOf 27 = 1 := by kernel_rfl
theorem cells4' : Try.prog.cellsOf 4 = 1 := by kernel_rfl
theorem cells9' : Try.prog.cellsOf 9 = 1 := by kernel_rfl
theorem cells51 : Try.prog.cellsOf 51 = 1 := by kernel_rfl
theorem cells52 : Try.prog.cellsOf 52 = 1 := by kernel_rfl
theorem help_struct : ∃ fs : Array Field, Try.prog.underlying 32 = some (.struct fs) ∧ fs.toList.map (fun f => (f.type, f.offset)) = [(3, 0), (3, 1), (3, 2), (25, 3), (27, 4), (30, 5)] := ⟨_, Try.underlying32, by kernel_rfl⟩
theorem table_struct : ∃ fs : Array Field, Try.prog.underlying 54 = some (.struct fs) ∧ oneCellFields Try.prog fs = true ∧ Try.prog.cellsOf 54 = fs.size ∧ fs.toList.map (·.type) = [9, 51, 52] := ⟨_, Try.underlying54, by kernel_rfl, by kernel_rfl, by kernel_rfl⟩
/-- A struct, by the fields' types and places. -/
theorem view_at {t : TypeId} {ts : List (TypeId × Nat)} (hst : ∃ fs : Array Field, Try.prog.underlying t = some (.struct fs) ∧ fs.toList.map (fun f => (f.type, f.offset)) = ts) {fuel : Nat} {cs : List Value} {x : DataW H × List MemPlace}
    (h : DataW.trod enc Try.prog W 0 (fun _ => true) true fuel t cs = some x) : cs.length = Try.prog.cellsOf t ∧ ∃ n, ∀ (j : Nat) (u : TypeId) (o : Nat), ts[j]? = some (u, o) → ∃ y, DataW.trod enc Try.prog W 0 (fun _ => true) true n u ((cs.drop o).take (Try.prog.cellsOf u)) = some y := by
  obtain ⟨fs, h1, h4⟩ := hst
  obtain ⟨ys, n, _, _, hlen, hyl, hf⟩ := DataW.trod_struct h1 h
  refine ⟨hlen, n, fun j u o hu => ?_⟩
  rw [← h4, List.getElem?_map, Array.getElem?_toList] at hu
  cases hq : fs[j]? with
  | none => rw [hq] at hu; cases hu
  | some f =>
    rw [hq] at hu
    simp at hu
    obtain ⟨rfl, rfl⟩ := hu
    have := hf j f hq
    have hj : j < ys.length := by have := (Array.getElem?_eq_some_iff.1 hq).1; omega
    rw [List.getElem?_eq_getElem hj] at this
    exact ⟨_, this⟩
/-- What a helper holds. -/
def HelpP (W : World) (x : HelpX) : Prop := Rd W W.heap.size 4 x.A x.lx.length (xcells x.lx) ∧ (∀ a ∈ x.lx, ArgP W a) ∧ x.lx.length ≤ x.c ∧ x.c ≤ maxLen
set_option maxRecDepth 100000 in
theorem view_help {fuel : Nat} {cs : List Value} {x : DataW H × List MemPlace} (h : DataW.trod enc Try.prog W 0 (fun _ => true) true fuel 32 cs = some x) : ∃ a : HelpX, HelpP W a ∧ cs = a.cells := by
  obtain ⟨hl, n, hf⟩ := view_at help_struct h
  rw [cells32] at hl
  match cs, hl with
  | [v0, v1, v2, v3, v4, v5, v6, v7, v8], _ =>
    have g0 := hf 0 3 0 rfl
    have g1 := hf 1 3 1 rfl
    have g2 := hf 2 3 2 rfl
    have g3 := hf 3 25 3 rfl
    obtain ⟨y4, g4⟩ := hf 4 27 4 rfl
    obtain ⟨y5, g5⟩ := hf 5 30 5 rfl
    rw [cells3'] at g0 g1 g2
    rw [cells25'] at g3
    rw [cells27] at g4
    rw [cells30] at g5
    obtain ⟨m0, rfl, _⟩ := int_one Try.underlying3 g0
    obtain ⟨m1, rfl, _⟩ := int_one Try.underlying3 g1
    obtain ⟨m2, rfl, _⟩ := int_one Try.underlying3 g2
    obtain ⟨m3, rfl, _⟩ := int_one Try.underlying25 g3
    obtain ⟨A, c, l, hc, hr, hp, h4, h5⟩ := view_rows Try.underlying27 cells46 (by decide) ArgX.cells (fun _ => rfl) (ArgP W) (fun h => view_arg h) g4
    simp at hc
    subst hc
    obtain ⟨_, n', hf'⟩ := view_by ret_struct g5
    obtain ⟨m5, rfl, _⟩ := int_one Try.underlying28 (hf' 0 28 v5 rfl rfl)
    obtain ⟨m6, rfl, _⟩ := int_one Try.underlying2 (hf' 1 2 v6 rfl rfl)
    obtain ⟨m7, rfl, _⟩ := int_one Try.underlying2 (hf' 2 2 v7 rfl rfl)
    obtain ⟨m8, rfl, _⟩ := int_one Try.underlying3 (hf' 3 3 v8 rfl rfl)
    exact ⟨⟨m0, m1, m2, m3, A, c, l, m5, m6, m7, m8⟩, ⟨hr, hp, h4, h5⟩, rfl⟩
/-- A table: its name, its types and its helpers. -/
theorem view_table {fuel : Nat} {cs : List Value} {x : DataW H × List MemPlace} (h : DataW.trod enc Try.prog W 0 (fun _ => true) true fuel 54 cs = some x) :
    ∃ (pv : ByteArray) (T Hp : Option Addr) (tc hc : Nat) (tl : List TypeX) (hl : List HelpX), cs = [.string pv, .slice T tl.length tc, .slice Hp hl.length hc] ∧ pv.size ≤ maxLen ∧ Rd W W.heap.size 6 T tl.length (tcells tl) ∧ Rd W W.heap.size 9 Hp hl.length (hcells hl) ∧
      (tl.length ≤ tc ∧ tc ≤ maxLen) ∧ (hl.length ≤ hc ∧ hc ≤ maxLen) ∧ (∀ x ∈ tl, TypeP W x) ∧ ∀ x ∈ hl, HelpP W x := by
  obtain ⟨hl, n, hf⟩ := view_by table_struct h
  match cs, hl with
  | [v0, v1, v2], _ =>
    obtain ⟨y0, h0⟩ := hf 0 9 v0 rfl rfl
    obtain ⟨s, hs, _, hsl⟩ := DataW.trod_string Try.underlying9 h0
    simp at hs
    subst hs
    obtain ⟨y1, h1⟩ := hf 1 51 v1 rfl rfl
    obtain ⟨T, tc, tl, hc, hr, hp, h4, h5⟩ := view_rows Try.underlying51 cells62 (by decide) TypeX.cells (fun _ => rfl) (TypeP W) (fun h => view_type h) h1
    simp at hc
    subst hc
    obtain ⟨y2, h2⟩ := hf 2 52 v2 rfl rfl
    obtain ⟨Hp, hc', hl', hc, hr', hp', h4', h5'⟩ := view_rows Try.underlying52 cells32 (by decide) HelpX.cells (fun _ => rfl) (HelpP W) (fun h => view_help h) h2
    simp at hc
    subst hc
    exact ⟨s, T, Hp, tc, hc', tl, hl', rfl, hsl, hr, hr', ⟨h4, h5⟩, ⟨h4', h5'⟩, hp, hp'⟩
theorem bools_flat (l : List Bool) : l.flatMap (fun b => [Value.bool b]) = l.map Value.bool := by
  induction l with
  | nil => rfl
  | cons a l ih => simp [ih]
theorem view_keep {fuel : Nat} {cs : List Value} {x : DataW H × List MemPlace} (h : DataW.trod enc Try.prog W 0 (fun _ => true) true fuel 55 cs = some x) :
    ∃ (A : Option Addr) (c : Nat) (l : List Bool), cs = [.slice A l.length c] ∧ Rd W W.heap.size 1 A l.length (l.map Value.bool) ∧ l.length ≤ c ∧ c ≤ maxLen := by
  obtain ⟨A, c, l, hc, hr, _, h4, h5⟩ := view_rows (α := Bool) Try.underlying55 cells4' (by decide) (fun b => [Value.bool b]) (fun _ => rfl) (fun _ => True) (fun h => by
    obtain ⟨b, hb, _⟩ := DataW.trod_bool Try.underlying4 h
    exact ⟨b, trivial, hb⟩) h
  rw [bools_flat] at hr
  exact ⟨A, c, l, hc, hr, h4, h5⟩
end
/-- What a short table holds, as a table's error needs it. -/
theorem short_types {W : World} {tl : List TypeX} (h : ∀ x ∈ tl, TypeP W x) (hs : tl.all shortT = true) : TypesOk W W.heap.size tl := fun x hx => by
  obtain ⟨h1, h2, h3, h4, h5, h6⟩ := h x hx
  have h7 := List.all_eq_true.1 hs x hx
  simp [shortT] at h7
  exact ⟨h1, h2, h3, ⟨by omega, h4⟩, by omega, h5, h6⟩
theorem short_helps {W : World} {hl : List HelpX} (h : ∀ x ∈ hl, HelpP W x) (hs : hl.all shortH = true) : HelpsOk W W.heap.size hl := fun x hx => by
  obtain ⟨h1, h2, h3, h4⟩ := h x hx
  have h7 := List.all_eq_true.1 hs x hx
  simp only [shortH, Bool.and_eq_true, decide_eq_true_eq] at h7
  refine ⟨h1, fun a ha => ?_, by omega, h3, h4⟩
  obtain ⟨h8, h9, h10, h11⟩ := h2 a ha
  have h12 := List.all_eq_true.1 h7.2 a ha
  simp [shortA] at h12
  exact ⟨h8, by omega, h9, h10, h11⟩
end Go.Proofs.Ytedjmgiblkjonaa
namespace Go.Proofs.Ytedjmgiblkjonaa
open Go.RowKit Go.Maps
set_option linter.unusedVariables false

theorem tableM_zero {pv : ByteArray} {tl : List TypeX} {hl : List HelpX} : tableM pv tl hl = 0 ↔ nameM pv.data.toList = true ∧ tl.length ≤ 16 ∧ hl.length ≤ 64 ∧ Rises typeE typeAbv tl ∧ Rises helpE helpAbv hl := by
  rw [← riseM_zero (na := 7) (by decide), ← riseM_zero (na := 7) (by decide)]
  unfold tableM
  split
  · rename_i h
    simp [h]
  · rename_i h
    have h' : nameM pv.data.toList = true := by simpa using h
    split
    · constructor
      · intro h; cases h
      · intro ⟨_, h, _⟩; omega
    · split
      · constructor
        · intro h; cases h
        · intro ⟨_, _, h, _⟩; omega
      · split
        · rename_i h3
          constructor
          · intro h; exact absurd h h3
          · intro ⟨_, _, _, h, _⟩; exact absurd h h3
        · rename_i h1 h2 h3
          have h3' : riseM typeE typeAbv 7 tl = 0 := by simpa using h3
          exact ⟨fun h => ⟨h', by omega, by omega, h3', h⟩, fun h => h.2.2.2.2⟩
theorem tableM_sub {pv : ByteArray} {tl tl' : List TypeX} {hl hl' : List HelpX} (h : tableM pv tl hl = 0) (h1 : tl'.Sublist tl) (h2 : hl'.Sublist hl) : tableM pv tl' hl' = 0 := by
  rw [tableM_zero] at h ⊢
  obtain ⟨a, b, c, d, e⟩ := h
  have := h1.length_le
  have := h2.length_le
  exact ⟨a, by omega, by omega, rises_sub typeAbv_trans h1 d, rises_sub helpAbv_trans h2 e⟩
theorem table_type {pv : ByteArray} {tl : List TypeX} {hl : List HelpX} (h : tableM pv tl hl = 0) (x : TypeX) (hx : x ∈ tl) : typeE x = 0 := (tableM_zero.1 h).2.2.2.1.1 x hx
theorem table_help {pv : ByteArray} {tl : List TypeX} {hl : List HelpX} (h : tableM pv tl hl = 0) (x : HelpX) (hx : x ∈ hl) : helpE x = 0 := (tableM_zero.1 h).2.2.2.2.1 x hx
theorem table_field {pv : ByteArray} {tl : List TypeX} {hl : List HelpX} (h : tableM pv tl hl = 0) (x : TypeX) (hx : x ∈ tl) (f : FieldM) (hf : f ∈ x.fl) : x.fl.find? (fun g => g.off == f.off && g.size == f.size) = some f :=
  field_found (typeM_right (table_type h x hx)).1 (typeM_right (table_type h x hx)).2 f hf
/-- A field asked for at its own place is told. -/
theorem field_own {pv : ByteArray} {tl : List TypeX} {hl : List HelpX} (h : tableM pv tl hl = 0) {W : World} {B : Nat} (hto : TypesOk W B tl) (x : TypeX) (hx : x ∈ tl) (f : FieldM) (hf : f ∈ x.fl) (X : World) (hX : Below B W X) (hB : B ≤ X.heap.size) :
    Calls Try.prog 22 #[.agg #[.string x.name, .int .i64 x.ctx, .slice x.F x.fl.length x.fc, .slice x.N x.nl.length x.nc, .int .i64 x.lo, .int .i64 x.hi], .int .i64 f.off, .int .i64 f.size] X fun e w' => e = .returned (.tuple #[.agg #[.int .i64 f.off, .int .i64 f.size, .int .u8 f.kind, .bool f.write], .bool true]) ∧ Below X.heap.size X w' := by
  obtain ⟨h1, h2, h3, ⟨h4, h5, h6⟩, h7, h8, h9⟩ := hto x hx
  exact field_there x.name x.ctx x.lo x.hi f.off f.size x.F x.N x.fl.length x.fc x.nl.length x.nc B x.fl f X (h2.below hX) hB h4 (table_field h x hx f hf)
theorem TypesOk.sub {W : World} {B : Nat} {l m : List TypeX} (h : TypesOk W B l) (hs : m.Sublist l) : TypesOk W B m := fun x hx => h x (hs.subset hx)
theorem HelpsOk.sub {W : World} {B : Nat} {l m : List HelpX} (h : HelpsOk W B l) (hs : m.Sublist l) : HelpsOk W B m := fun x hx => h x (hs.subset hx)
theorem TypesOk.mono {W : World} {B B' : Nat} {l : List TypeX} (h : TypesOk W B l) (hB : B ≤ B') : TypesOk W B' l := fun x hx => by
  obtain ⟨h1, h2, h3, h4⟩ := h x hx
  exact ⟨h1, h2.mono hB, h3.mono hB, h4⟩
theorem HelpsOk.mono {W : World} {B B' : Nat} {l : List HelpX} (h : HelpsOk W B l) (hB : B ≤ B') : HelpsOk W B' l := fun x hx => by
  obtain ⟨h1, h2, h3⟩ := h x hx
  exact ⟨h1.mono hB, h2.mono hB, h3⟩
theorem sub_push {α : Type} {l m : List α} {i : Nat} {x : α} (hs : m.Sublist (l.take i)) (hx : l[i]? = some x) : (m ++ [x]).Sublist (l.take (i + 1)) := by
  obtain ⟨h1, h2⟩ := List.getElem?_eq_some_iff.1 hx
  rw [List.take_succ_eq_append_getElem h1, h2]
  exact hs.append (List.Sublist.refl _)
theorem sub_skip {α : Type} {l m : List α} {i : Nat} (hs : m.Sublist (l.take i)) : m.Sublist (l.take (i + 1)) := hs.trans (List.take_sublist_take_left (by omega))
end Go.Proofs.Ytedjmgiblkjonaa
namespace Go.Proofs.Ytedjmgiblkjonaa
open Go.RowKit Go.Maps
set_option linter.unusedVariables false

theorem mkInfo : (Try.prog.info? 22).map (fun i => (i.zero, i.size, i.bytes)) = some (some (.int .u8 0), 1, 1) := by kernel_rfl
theorem argInfo : (Try.prog.info? 46).map (fun i => (i.zero, i.size, i.bytes)) = some (some (.agg #[.int .u8 0, .int .i64 0, .int .i64 0, .slice none 0 0]), 4, 48) := by kernel_rfl
theorem infoParts {t : TypeId} {z : Value} {s b : Nat} (h : (Try.prog.info? t).map (fun i => (i.zero, i.size, i.bytes)) = some (some z, s, b)) : ∃ i, Try.prog.info? t = some i ∧ i.zero = some z ∧ i.size = s ∧ i.bytes = b := by
  cases hi : Try.prog.info? t with
  | none => rw [hi] at h; cases h
  | some i =>
    rw [hi] at h
    simp only [Option.map_some, Option.some.injEq, Prod.mk.injEq] at h
    exact ⟨i, rfl, h.1, h.2.1, h.2.2⟩
theorem owns_room {w : World} {e : TypeId} {sz n c : Nat} {A : Option Addr} {xs : List Value} (h : w.ownsRow 0 e sz (.slice A n c) n xs) : n ≤ c ∧ c ≤ maxLen ∧ Rd w w.heap.size sz A n xs := by
  obtain ⟨A', c', e', hr⟩ := owns_slice h
  injection e' with e1 e2 e3
  subst e1 e3
  refine ⟨?_, ?_, hr⟩
  · rcases h.2 with ⟨e1, e2⟩ | ⟨g, cap, cur, e1, _, _, h1, h2, _⟩
    · omega
    · injection e1 with _ _ e3; omega
  · rcases h.2 with ⟨e1, e2⟩ | ⟨g, cap, cur, e1, _, _, h1, h2, _⟩
    · injection e1 with _ _ e3; unfold maxLen; omega
    · injection e1 with _ _ e3; omega
theorem Rd.none_zero {w : World} {B sz n : Nat} {A : Option Addr} {xs : List Value} (h : Rd w B sz A n xs) : A = none → n = 0 := by
  intro e
  rcases Nat.eq_zero_or_pos n with h0 | h0
  · exact h0
  · obtain ⟨ad, e', _⟩ := h.2 h0
    rw [e] at e'; cases e'
theorem mks_one (l : List Int) : ∀ u ∈ mks l, u.oneCell' = true := by
  intro u hu
  obtain ⟨x, _, rfl⟩ := List.mem_map.1 hu
  rfl
theorem xcells_one (l : List ArgX) : ∀ u ∈ xcells l, u.oneCell' = true := by
  intro u hu
  obtain ⟨x, _, hx⟩ := List.mem_flatMap.1 hu
  simp only [ArgX.cells, List.mem_cons, List.not_mem_nil, or_false] at hx
  rcases hx with rfl | rfl | rfl | rfl <;> rfl
theorem own_keep {w w' : World} {e : TypeId} {sz n b : Nat} {v : Value} {xs : List Value} (h : w.ownsRow 0 e sz v n xs) (hg : w.grownBy w' (some b)) (hne : ∀ g, v.ownBlock = some g → g ≠ b) : w'.ownsRow 0 e sz v n xs := by
  refine h.kept hg ?_
  cases hq : v.ownBlock with
  | none => exact .inl rfl
  | some g => exact .inr (by intro e; injection e with e; exact hne g hq e)
/-- Maps that were copied: a row of the call's own. -/
def OwnMks (w w' : World) (l : List Int) (A : Option Addr) (c : Nat) : Prop := w'.ownsRow 0 22 1 (.slice A l.length c) l.length (mks l) ∧ (∀ g, (Value.slice A l.length c).ownBlock = some g → w.heap.size ≤ g) ∧ Below w.heap.size w w'
def CopiedMks (w : World) (l : List Int) (e : Ending) (w' : World) : Prop := ∃ A c, e = .returned (.slice A l.length c) ∧ OwnMks w w' l A c
set_option maxRecDepth 100000 in
set_option maxHeartbeats 1000000 in
theorem copyMks_any (A : Option Addr) (c B : Nat) (l : List Int) (w : World) (h : Rd w B 1 A l.length (mks l)) (hB : B ≤ w.heap.size) (hn : l.length ≤ 1000000) :
    Calls Try.prog 100 #[.slice A l.length c] w (CopiedMks w l) := by
  obtain ⟨i0, hi, hz0, hz1, hz2⟩ := infoParts mkInfo
  have HH := hide h
  generalize hln : l.length = n at *
  have HLN := hide hln
  clear h hln
  go_enter Try.func100, Try.ntmps100
  go_wp2_with (at_builtin; refine stop_here ?_)
  show Hid _
  refine start_here ?_
  refine wpList_append_rd _ ?cg (.tmp 4) (.tmp 5) _ ?c0 22 i0 _ 1 1 Try.underlying41 hi hz0 hz1 hz2 rfl (by decide) (.slice none 0 0) 0 [] rfl (World.ownsRow_nil w 0 22 1) B A n c (mks l) rfl HH.out HH.out.none_zero (mks_one l) (by unfold maxLen; omega) (by omega) ?_
  case cg => rfl
  case c0 => rfl
  intro v' w' hl
  have hb := longer_below (B := w.heap.size) (Below.refl _ _) (Nat.le_refl _) (fun g e => by cases e) hl
  have hf := longer_from (B := w.heap.size) hl (Nat.le_refl _) (fun g e => by cases e)
  obtain ⟨hown, _, _⟩ := hl
  rw [Nat.zero_add, List.nil_append] at hown
  obtain ⟨A', c', rfl, _⟩ := owns_slice hown
  have HR := hide (show OwnMks w w' l A' c' from ⟨by rw [HLN.out]; exact hown, by rw [HLN.out]; exact hf, hb⟩)
  clear hown hf hb
  go_wp2
  go_ret
  exact ⟨A', c', by rw [HLN.out]; rfl, HR.out⟩
/-- An argument whose maps are a row of the call's own, in another block than the row v. -/
def OwnX (w : World) (v : Value) (x : ArgX) : Prop := w.ownsRow 0 22 1 (.slice x.A x.a.maps.length x.c) x.a.maps.length (mks x.a.maps) ∧ ((Value.slice x.A x.a.maps.length x.c).ownBlock = none ∨ (Value.slice x.A x.a.maps.length x.c).ownBlock ≠ v.ownBlock)
theorem OwnX.below {w w' : World} {v : Value} {x : ArgX} (h : OwnX w v x) (hb : w.grownBy w' none) : OwnX w' v x := by
  refine ⟨h.1.kept hb ?_, h.2⟩
  cases hq : (Value.slice x.A x.a.maps.length x.c).ownBlock with
  | none => exact .inl rfl
  | some g => exact .inr (by simp)
theorem OwnX.longer {w w' : World} {v v' : Value} {e : TypeId} {sz n : Nat} {xs : List Value} {x : ArgX} (h : OwnX w v x) (hl : Longer w w' e sz v v' n xs) : OwnX w' v' x := by
  obtain ⟨h1, h2, h3⟩ := hl
  refine ⟨h.1.kept h2 h.2, ?_⟩
  rcases h3 with h3 | h3
  · rw [h3]; exact h.2
  · cases hq : (Value.slice x.A x.a.maps.length x.c).ownBlock with
    | none => exact .inl rfl
    | some g =>
      have := h.1.lt g hq
      rw [h3]
      exact .inr (by intro e; injection e with e; omega)
theorem below_owns {w w' : World} {e : TypeId} {sz n : Nat} {v : Value} {xs : List Value} (h : w.ownsRow 0 e sz v n xs) (hb : Below w.heap.size w w') : w'.ownsRow 0 e sz v n xs := by
  refine ⟨h.1, ?_⟩
  rcases h.2 with h2 | ⟨g, cap, cur, e1, e2, e3, rest⟩
  · exact .inl h2
  · exact .inr ⟨g, cap, cur, e1, e2, (hb.block g (at_lt e3)).trans e3, rest⟩
theorem OwnX.from_below {w w' : World} {v : Value} {x : ArgX} (h : OwnX w v x) (hb : Below w.heap.size w w') : OwnX w' v x := ⟨below_owns h.1 hb, h.2⟩
theorem new_arg (w : World) (x : ArgX) {b : Nat} (hb : w.heap.size = b) : Rd (w.alloc (.cells x.cells.toArray 46)) (b + 1) 4 (some ⟨b, 0, none⟩) 1 x.cells := by
  subst hb
  exact cells_rd w x.cells 46 4 1 rfl
/-- Rows of arguments that were copied. -/
def OwnArgs (w w' : World) (l : List ArgM) (v : Value) (lx : List ArgX) : Prop :=
  lx.map ArgX.a = l ∧ w'.ownsRow 0 46 4 v l.length (xcells lx) ∧ (∀ x ∈ lx, OwnX w' v x ∧ ∀ g, (Value.slice x.A x.a.maps.length x.c).ownBlock = some g → w.heap.size ≤ g) ∧ (∀ g, v.ownBlock = some g → w.heap.size ≤ g) ∧ Below w.heap.size w w'
def CopiedArg (w : World) (a : ArgM) (e : Ending) (w' : World) : Prop := ∃ A c, e = .returned (a.v A c) ∧ OwnMks w w' a.maps A c
set_option maxRecDepth 100000 in
set_option maxHeartbeats 1000000 in
theorem copyArg_any (a : ArgM) (A : Option Addr) (c B : Nat) (w : World) (h : Rd w B 1 A a.maps.length (mks a.maps)) (hB : B ≤ w.heap.size) (hn : a.maps.length ≤ 1000000) :
    Calls Try.prog 73 #[a.v A c] w (CopiedArg w a) := by
  obtain ⟨kd, lo, hi, mp⟩ := a
  simp only [ArgM.v] at h hn ⊢
  have HC : Hid (∀ X : World, Below w.heap.size w X → Calls Try.prog 100 #[.slice A mp.length c] X (CopiedMks X mp)) := hide (fun X hX => copyMks_any A c B mp X (h.below (hX.mono hB)) (Nat.le_trans hB hX.size) hn)
  clear h
  generalize hln : mp.length = n at *
  have HLN := hide hln
  clear hln
  go_enter Try.func73, Try.ntmps73
  go_wp2_with fail
  refine name_call (fun W1 hW1 => ?_)
  obtain ⟨b1, b2⟩ := two_boxes w (.cells #[.int .u8 kd, .int .i64 lo, .int .i64 hi, .slice A n c] 46) (.cells #[.int .u8 0, .int .i64 0, .int .i64 0, .slice none 0 0] 46)
  have l1 := below2 w (.cells #[.int .u8 kd, .int .i64 lo, .int .i64 hi, .slice A n c] 46) (.cells #[.int .u8 0, .int .i64 0, .int .i64 0, .slice none 0 0] 46)
  rw [← hW1] at b1 b2 l1
  clear hW1
  ((with_reducible refine (HC.out _ l1).mono ?_))
  rintro e w1 ⟨A', c', rfl, ho, hf, hb⟩
  rw [HLN.out] at ho hf ⊢
  have z1 : w.heap.size + 1 < W1.heap.size := at_lt b2
  replace b1 := (hb.block _ (at_lt b1)).trans b1
  replace b2 := (hb.block _ (at_lt b2)).trans b2
  have c0 := blk_cell b1 0
  have c1 := blk_cell b1 1
  have c2 := blk_cell b1 2
  have c3 := blk_cell b1 3
  have d0 := blk_cell b2 0
  have d1 := blk_cell b2 1
  have d2 := blk_cell b2 2
  have d3 := blk_cell b2 3
  have f0 := Joins.unfrozen_of_block b1 3
  have g0 := Joins.unfrozen_of_block b2 0
  have g1 := Joins.unfrozen_of_block b2 1
  have g2 := Joins.unfrozen_of_block b2 2
  have g3 := Joins.unfrozen_of_block b2 3
  simp at c0 c1 c2 c3 d0 d1 d2 d3
  have t1 : (w1.setCell ⟨w.heap.size, 3, none⟩ (.slice A' n c')).heap[w.heap.size]? = some (.cells #[.int .u8 kd, .int .i64 lo, .int .i64 hi, .slice A' n c'] 46 (0, 0)) := Joins.block_setCell (i := 3) b1 (.slice A' n c')
  have t2 := blk_kept b2 (grown_set w1 w.heap.size 3 (.slice A' n c')) (by omega)
  have HB := hide hb
  have HL := hide l1
  have HO := hide ho
  have HF := hide hf
  have T1 := hide t1
  have T2 := hide t2
  clear b1 b2 t1 t2 hb l1 ho hf HC
  go_wp2
  obtain ⟨hs, hgr⟩ := store_4 T2.out (.int .u8 kd) (.int .i64 lo) (.int .i64 hi) (.slice A' n c')
  have hgr0 := grown_set w1 w.heap.size 3 (.slice A' n c')
  have k1 := own_keep (own_keep HO.out hgr0 (fun g hg e => by have := HF.out g hg; omega)) hgr (fun g hg e => by have := HF.out g hg; omega)
  have hbel := ((HL.out.trans (HB.out.mono HL.out.size)).grown hgr0 (Nat.le_trans HL.out.size HB.out.size) (fun k e => by cases e; exact Nat.le_refl _)).grown hgr (Nat.le_trans (Nat.le_trans HL.out.size HB.out.size) hgr0.size) (fun k e => by cases e; exact Nat.le_succ _)
  refine bodyPost_ret (v := .agg #[.int .u8 kd, .int .i64 lo, .int .i64 hi, .slice A' n c']) ?_ rfl ⟨A', c', by simp only [ArgM.v, HLN.out], ?_, ?_, hbel⟩
  · have e0 := blk_cell hs 0
    have e1 := blk_cell hs 1
    have e2 := blk_cell hs 2
    have e3 := blk_cell hs 3
    simp only [List.getElem?_toArray, List.getElem?_cons_zero, List.getElem?_cons_succ] at e0 e1 e2 e3
    simp [results, Try.results73, go_sem, e0, e1, e2, e3]
  · simp only [HLN.out]; exact k1
  · simp only [HLN.out]
    intro g hg
    have := HF.out g hg
    have := HL.out.size
    omega
theorem map_snoc_take {l : List ArgM} {lx : List ArgX} {k : Nat} {a : ArgM} {A : Option Addr} {c : Nat} (h : lx.map ArgX.a = l.take k) (ha : l[k]? = some a) : (lx ++ [(⟨a, A, c⟩ : ArgX)]).map ArgX.a = l.take (k + 1) := by
  obtain ⟨h1, h2⟩ := List.getElem?_eq_some_iff.1 ha
  rw [List.map_append, h, List.take_succ_eq_append_getElem h1, h2]
  rfl
theorem xcells_snoc (lx : List ArgX) (x : ArgX) : xcells (lx ++ [x]) = xcells lx ++ x.cells := by simp [xcells]
def CopiedArgs (w : World) (l : List ArgM) (e : Ending) (w' : World) : Prop := ∃ v lx, e = .returned v ∧ OwnArgs w w' l v lx
set_option maxRecDepth 100000 in
set_option maxHeartbeats 2000000 in
theorem copyArgs_any (A : Option Addr) (n c B : Nat) (l : List ArgM) (w : World) (h : Args w B A n l) (hB : B ≤ w.heap.size) (hn : n ≤ 1000000) :
    Calls Try.prog 43 #[.slice A n c] w (CopiedArgs w l) := by
  obtain ⟨i0, hi, hz0, hz1, hz2⟩ := infoParts argInfo
  have HL := hide h.1
  have HH := hide h
  clear h
  go_enter Try.func43, Try.ntmps43
  go_wp2
  go_loopw [3, 4] (fun v p wr => ∃ (k : Nat) (lx : List ArgX), k ≤ n ∧ p = .int .i64 k ∧ OwnArgs w wr (l.take k) v lx) (fun _ p _ => n - (intOf p).toNat)
  case atStart => exact ⟨0, [], Nat.zero_le _, rfl, by simp, World.ownsRow_nil w 0 46 4, fun x hx => absurd hx (by simp), fun g hg => absurd hg (by simp [Value.ownBlock]), Below.refl _ _⟩
  case round =>
    obtain ⟨k, lx, hk, rfl, ho⟩ := hrel
    by_cases hlt : k < n
    · obtain ⟨hm, hrow, hx, hf, hb⟩ := ho
      have hkl : (l.take k).length = k := by rw [List.length_take, HL.out]; omega
      rw [hkl] at hrow
      obtain ⟨ad, a, rfl, hab, hl, hc⟩ := (HH.out.below (hb.mono hB)).at_ hlt
      obtain ⟨Am, cm, q0, q1, q2, q3, q4, q5⟩ := hc
      have hBr : B ≤ wr.heap.size := Nat.le_trans hB hb.size
      have hC : Hid (Calls Try.prog 73 #[a.v Am cm] wr (CopiedArg wr a)) := hide (copyArg_any a Am cm B wr q4 hBr q5.1)
      have HB := hide hb
      have HF := hide hf
      have HR := hide hrow
      have HX := hide hx
      have HM := hide hm
      have HLK := hide hl
      clear hb hf hrow hx hm hl hkl q4 q5
      simp only [ArgM.v] at hC
      go_wp2_with fail
      ((with_reducible refine hC.out.mono ?_))
      rintro e w1 ⟨A', c', rfl, ho1, hf1, hb1⟩
      have z0 := HB.out.size
      have z1 := hb1.size
      have HO1 := hide ho1
      have HF1 := hide hf1
      have HB1 := hide hb1
      clear hC ho1 hf1 hb1 q0 q1 q2 q3
      simp only [ArgM.v]
      go_wp2_with (at_builtin; refine stop_here ?_)
      show Hid _
      refine start_here ?_
      have hg0 : w1.grownBy ((w1.alloc (.cells #[.int .u8 a.kind, .int .i64 a.lo, .int .i64 a.hi, .slice A' a.maps.length c'] 46)).alloc (.cells #[.int .u8 a.kind, .int .i64 a.lo, .int .i64 a.hi, .slice A' a.maps.length c'] 46)) none :=
        ⟨rfl, rfl, rfl, by simp; omega, fun q hq _ => (Below.heap_alloc _ _ q (by simp; omega)).trans (Below.heap_alloc _ _ q hq)⟩
      have hlu3 := fun g (hg : u3.ownBlock = some g) => HR.out.lt g hg
      have hrow1 : w1.ownsRow 0 46 4 u3 k (xcells lx) := below_owns HR.out HB1.out
      have hx1 : ∀ x ∈ lx, OwnX w1 u3 x := fun x hx => (HX.out x hx).1.from_below HB1.out
      have hnew : OwnX w1 u3 ⟨a, A', c'⟩ := ⟨HO1.out, by
        cases hq : (Value.slice A' a.maps.length c').ownBlock with
        | none => exact .inl rfl
        | some g =>
          have h1 := HF1.out g hq
          exact .inr (by intro e; have := hlu3 g e.symm; omega)⟩
      refine wpList_append_rd _ ?cg (.tmp 17) (.tmp 19) _ ?c0 46 i0 _ 4 48 Try.underlying27 hi hz0 hz1 hz2 rfl (by decide) u3 k (xcells lx) rfl (World.ownsRow.alloc (World.ownsRow.alloc hrow1 _) _) _ (some ⟨w1.heap.size + 1, 0, none⟩) 1 1 (ArgX.cells ⟨a, A', c'⟩) rfl
        (new_arg _ ⟨a, A', c'⟩ (by simp)) (fun h => nomatch h) ?c1 (by unfold maxLen; omega) (by omega) ?_
      case cg => rfl
      case c0 => rfl
      case c1 => intro u hu; exact xcells_one [⟨a, A', c'⟩] u (by simpa [xcells] using hu)
      intro v' w2 hlg
      have hwb : Below w.heap.size w _ := (HB.out.trans (HB1.out.mono z0)).grown hg0 (Nat.le_trans z0 z1) (fun k e => by cases e)
      have hN : OwnArgs w w2 (l.take (k + 1)) v' (lx ++ [⟨a, A', c'⟩]) := by
        have hB1 : w.heap.size ≤ ((w1.alloc (.cells #[.int .u8 a.kind, .int .i64 a.lo, .int .i64 a.hi, .slice A' a.maps.length c'] 46)).alloc (.cells #[.int .u8 a.kind, .int .i64 a.lo, .int .i64 a.hi, .slice A' a.maps.length c'] 46)).heap.size := Nat.le_trans (Nat.le_trans z0 z1) hg0.size
        refine ⟨map_snoc_take HM.out HLK.out, ?_, ?_, longer_from hlg hB1 HF.out, longer_below hwb hB1 HF.out hlg⟩
        · rw [xcells_snoc, List.length_take, HL.out, Nat.min_eq_left (by omega)]
          exact hlg.1
        · intro x hx
          rcases List.mem_append.1 hx with hx | hx
          · exact ⟨((hx1 x hx).below hg0).longer hlg, (HX.out x hx).2⟩
          · simp at hx; subst hx; exact ⟨(hnew.below hg0).longer hlg, fun g hg => Nat.le_trans z0 (HF1.out g hg)⟩
      have HN := hide hN
      clear hN hwb hlg hnew hx1 hrow1 hlu3 hg0
      go_wp2
      go_roundw
      case rel => exact ⟨k + 1, _, by omega, by go_num, HN.out⟩
      case measure => simp [intOf]; omega
    · have hkn : k = n := by omega
      subst hkn
      have HO : Hid (OwnArgs w wr l u3 lx) := hide (by rwa [List.take_of_length_le (by rw [HL.out]; exact Nat.le_refl _)] at ho)
      clear ho
      go_wp2
      go_ret
      exact ⟨_, lx, rfl, HO.out⟩
end Go.Proofs.Ytedjmgiblkjonaa
namespace Go.Proofs.Ytedjmgiblkjonaa
open Go.RowKit Go.Maps
set_option linter.unusedVariables false

theorem step_append_rd {P : Program} (w : World) {ops : Array Oper} {o : Oper} {a : Act} {K : Act → World → Prop} {Q : Exit → Act → World → Prop} {E : Prop} (hgd : o.guard = none) (s x : Operand) (t : TypeId)
    (ho : o.op = .call { callee := .builtin .append, args := #[s, x], argTypes := #[t, t] })
    (e : TypeId) (i : TypeInfo) (z : Value) (sz bytes : Nat) (ht : P.underlying t = some (.slice e)) (hi : P.info? e = some i) (hz : i.zero = some z)
    (hsize : i.size = sz) (hby : i.bytes = bytes) (hzs : z.cells.size = sz) (hsz : 0 < sz)
    (v : Value) (n : Nat) (xs : List Value) (hs : a.eval s = v) (hown : w.ownsRow 0 e sz v n xs)
    (B : Nat) (A : Option Addr) (m c : Nat) (news : List Value) (hx : a.eval x = .slice A m c) (hr : Rd w B sz A m news) (hA : A = none → m = 0) (h1 : ∀ u ∈ news, u.oneCell' = true)
    (h63 : n + m ≤ maxLen) (hbytes : (n + m) * bytes ≤ 140737488355328)
    (h : ∀ v' w', Longer w w' e sz v v' (n + m) (xs ++ news) → K (a.put o.dst v') w') :
    if Region.wanted o (yielded ops a.tmps) = true then Oper.wp P o a w K Q else E := by
  have hw : Region.wanted o (yielded ops a.tmps) = true := by simp [Region.wanted, hgd]
  rw [if_pos hw]
  obtain ⟨v', w', hrun, hl⟩ := run_append_rd (P := P) w t o.type e i z sz bytes ht hi hz hsize hby hzs hsz v n xs hown B A m c news hr hA h1 h63 hbytes
  unfold Oper.wp execOp
  simp only [ho, resolve, invoke, builtin, Sem.run_bind, Sem.run_pure, Result.andThen_ok, List.map_toArray, List.map_cons, List.map_nil, hs, hx, hrun]
  exact h v' w' hl
theorem typeInfo : (Try.prog.info? 62).map (fun i => (i.zero, i.size, i.bytes)) = some (some (.agg #[.string ⟨#[]⟩, .int .i64 0, .slice none 0 0, .slice none 0 0, .int .i64 0, .int .i64 0]), 6, 88) := by kernel_rfl
theorem helpInfo : (Try.prog.info? 32).map (fun i => (i.zero, i.size, i.bytes)) = some (some (.agg #[.int .i64 0, .int .i64 0, .int .i64 0, .int .u8 0, .slice none 0 0, .int .u8 0, .int .i64 0, .int .i64 0, .int .i64 0]), 9, 88) := by kernel_rfl
theorem type_one (x : TypeX) : ∀ u ∈ x.cells, u.oneCell' = true := by
  intro u hu
  simp only [TypeX.cells, List.mem_cons, List.not_mem_nil, or_false] at hu
  rcases hu with rfl | rfl | rfl | rfl | rfl | rfl <;> rfl
theorem help_one (x : HelpX) : ∀ u ∈ x.cells, u.oneCell' = true := by
  intro u hu
  simp only [HelpX.cells, List.mem_cons, List.not_mem_nil, or_false] at hu
  rcases hu with rfl | rfl | rfl | rfl | rfl | rfl | rfl | rfl | rfl <;> rfl
theorem tcells_snoc (l : List TypeX) (x : TypeX) : tcells (l ++ [x]) = tcells l ++ x.cells := by simp [tcells]
theorem hcells_snoc (l : List HelpX) (x : HelpX) : hcells (l ++ [x]) = hcells l ++ x.cells := by simp [hcells]
/-- The append of a type. -/
theorem append_type (x : TypeX) (W : World) (u : Value) (l : List TypeX) (hO : W.ownsRow 0 62 6 u l.length (tcells l)) (hk : l.length ≤ 100) {b : Nat} (hr : Rd W (b + 1) 6 (some ⟨b, 0, none⟩) 1 x.cells)
    {ops : Array Oper} {o : Oper} {a : Act} {K : Act → World → Prop} {Q : Exit → Act → World → Prop} {E : Prop} (hgd : o.guard = none) (ho : o.op = .call { callee := .builtin .append, args := #[.tmp 90, .tmp 96], argTypes := #[51, 51] })
    (hs : a.eval (.tmp 90) = u) (hx : a.eval (.tmp 96) = .slice (some ⟨b, 0, none⟩) 1 1)
    (h : ∀ v' w', Longer W w' 62 6 u v' (l ++ [x]).length (tcells (l ++ [x])) → K (a.put o.dst v') w') :
    if Region.wanted o (yielded ops a.tmps) = true then Oper.wp Try.prog o a W K Q else E := by
  obtain ⟨i0, hi, hz0, hz1, hz2⟩ := infoParts typeInfo
  refine step_append_rd _ hgd (.tmp 90) (.tmp 96) 51 ho 62 i0 _ 6 88 Try.underlying51 hi hz0 hz1 hz2 rfl (by decide) u l.length (tcells l) hs hO (b + 1) (some ⟨b, 0, none⟩) 1 1 x.cells hx hr nofun (type_one x) (by simp only [maxLen]; omega) (by omega) ?_
  intro v' w' hl
  refine h v' w' ?_
  rw [tcells_snoc, List.length_append]
  exact hl
/-- The append of a helper. -/
theorem append_help (x : HelpX) (W : World) (u : Value) (l : List HelpX) (hO : W.ownsRow 0 32 9 u l.length (hcells l)) (hk : l.length ≤ 100) {b : Nat} (hr : Rd W (b + 1) 9 (some ⟨b, 0, none⟩) 1 x.cells)
    {ops : Array Oper} {o : Oper} {a : Act} {K : Act → World → Prop} {Q : Exit → Act → World → Prop} {E : Prop} (hgd : o.guard = none) (ho : o.op = .call { callee := .builtin .append, args := #[.tmp 125, .tmp 131], argTypes := #[52, 52] })
    (hs : a.eval (.tmp 125) = u) (hx : a.eval (.tmp 131) = .slice (some ⟨b, 0, none⟩) 1 1)
    (h : ∀ v' w', Longer W w' 32 9 u v' (l ++ [x]).length (hcells (l ++ [x])) → K (a.put o.dst v') w') :
    if Region.wanted o (yielded ops a.tmps) = true then Oper.wp Try.prog o a W K Q else E := by
  obtain ⟨i0, hi, hz0, hz1, hz2⟩ := infoParts helpInfo
  refine step_append_rd _ hgd (.tmp 125) (.tmp 131) 52 ho 32 i0 _ 9 88 Try.underlying52 hi hz0 hz1 hz2 rfl (by decide) u l.length (hcells l) hs hO (b + 1) (some ⟨b, 0, none⟩) 1 1 x.cells hx hr nofun (help_one x) (by simp only [maxLen]; omega) (by omega) ?_
  intro v' w' hl
  refine h v' w' ?_
  rw [hcells_snoc, List.length_append]
  exact hl
theorem new_type (w : World) (x : TypeX) : Rd (w.alloc (.cells x.cells.toArray 62)) (w.heap.size + 1) 6 (some ⟨w.heap.size, 0, none⟩) 1 x.cells := cells_rd w x.cells 62 6 1 rfl
theorem new_help (w : World) (x : HelpX) : Rd (w.alloc (.cells x.cells.toArray 32)) (w.heap.size + 1) 9 (some ⟨w.heap.size, 0, none⟩) 1 x.cells := cells_rd w x.cells 32 9 1 rfl
end Go.Proofs.Ytedjmgiblkjonaa
namespace Go.Proofs.Ytedjmgiblkjonaa
open Go.RowKit Go.Maps
set_option linter.unusedVariables false

theorem owns_set {w : World} {e : TypeId} {sz n : Nat} {v : Value} {xs : List Value} (h : w.ownsRow 0 e sz v n xs) (p : Addr) (u : Value) (hne : ∀ q, v.ownBlock = some q → q ≠ p.block) : (w.setCell p u).ownsRow 0 e sz v n xs := by
  refine ⟨h.1, ?_⟩
  rcases h.2 with h2 | ⟨g, cap, cur, e1, e2, e3, rest⟩
  · exact .inl h2
  · exact .inr ⟨g, cap, cur, e1, e2, (Below.heap_setCell w p u g (hne g (by rw [e1]; rfl))).trans e3, rest⟩
theorem append_type_at (x : TypeX) (wy : World) (u : Value) (l : List TypeX) (hO : wy.ownsRow 0 62 6 u l.length (tcells l)) (hk : l.length ≤ 100)
    {ops : Array Oper} {o : Oper} {a : Act} {K : Act → World → Prop} {Q : Exit → Act → World → Prop} {E : Prop} (hgd : o.guard = none) (ho : o.op = .call { callee := .builtin .append, args := #[.tmp 90, .tmp 96], argTypes := #[51, 51] })
    (hs : a.eval (.tmp 90) = u) (hx : a.eval (.tmp 96) = .slice (some ⟨wy.heap.size, 0, none⟩) 1 1)
    (h : ∀ v' w', Longer (wy.alloc (.cells x.cells.toArray 62)).drew w' 62 6 u v' (l ++ [x]).length (tcells (l ++ [x])) → K (a.put o.dst v') w') :
    if Region.wanted o (yielded ops a.tmps) = true then Oper.wp Try.prog o a (wy.alloc (.cells x.cells.toArray 62)).drew K Q else E :=
  append_type x (wy.alloc (.cells x.cells.toArray 62)).drew u l (World.ownsRow.alloc hO _) hk ((new_type wy x).kept fun _ _ => rfl) hgd ho hs hx h
theorem after_type {x : TypeX} {wy w9 : World} {u v : Value} {g n : Nat} {xs : List Value} (hg : g < wy.heap.size) (hu : ∀ h, u.ownBlock = some h → g < h) (hl : Longer (wy.alloc (.cells x.cells.toArray 62)).drew w9 62 6 u v n xs) :
    Below (g + 1) wy w9 ∧ (∀ h, v.ownBlock = some h → g < h) ∧ w9.ownsRow 0 62 6 v n xs :=
  ⟨longer_below ((Below.refl (g + 1) wy).alloc (by omega) _).drew (by simp; omega) hu hl, longer_from (B := g + 1) hl (by simp; omega) hu, hl.1⟩
theorem owns_low {B : Nat} {w w' : World} {e : TypeId} {sz n : Nat} {v : Value} {xs : List Value} (h : w.ownsRow 0 e sz v n xs) (hv : ∀ q, v.ownBlock = some q → q < B) (hb : Below B w w') : w'.ownsRow 0 e sz v n xs := by
  refine ⟨h.1, ?_⟩
  rcases h.2 with h2 | ⟨g, cap, cur, e1, e2, e3, rest⟩
  · exact .inl h2
  · exact .inr ⟨g, cap, cur, e1, e2, (hb.block g (hv g (by rw [e1]; rfl))).trans e3, rest⟩
theorem owns_lt' {w : World} {e : TypeId} {sz n : Nat} {v : Value} {xs : List Value} (h : w.ownsRow 0 e sz v n xs) : ∀ q, v.ownBlock = some q → q < w.heap.size := by
  intro q hq
  rcases h.2 with ⟨h2, _⟩ | ⟨g, cap, cur, e1, e2, e3, rest⟩
  · rw [h2] at hq; cases hq
  · rw [e1] at hq
    have : g = q := by injection hq
    subst this
    exact at_lt e3
theorem append_help_at (x : HelpX) (wy : World) (u : Value) (l : List HelpX) (hO : wy.ownsRow 0 32 9 u l.length (hcells l)) (hk : l.length ≤ 100)
    {ops : Array Oper} {o : Oper} {a : Act} {K : Act → World → Prop} {Q : Exit → Act → World → Prop} {E : Prop} (hgd : o.guard = none) (ho : o.op = .call { callee := .builtin .append, args := #[.tmp 125, .tmp 131], argTypes := #[52, 52] })
    (hs : a.eval (.tmp 125) = u) (hx : a.eval (.tmp 131) = .slice (some ⟨wy.heap.size, 0, none⟩) 1 1)
    (h : ∀ v' w', Longer (wy.alloc (.cells x.cells.toArray 32)).drew w' 32 9 u v' (l ++ [x]).length (hcells (l ++ [x])) → K (a.put o.dst v') w') :
    if Region.wanted o (yielded ops a.tmps) = true then Oper.wp Try.prog o a (wy.alloc (.cells x.cells.toArray 32)).drew K Q else E :=
  append_help x (wy.alloc (.cells x.cells.toArray 32)).drew u l (World.ownsRow.alloc hO _) hk ((new_help wy x).kept fun _ _ => rfl) hgd ho hs hx h
theorem after_help {x : HelpX} {wy w9 : World} {u v : Value} {B n : Nat} {xs : List Value} (hB : B ≤ wy.heap.size) (hu : ∀ h, u.ownBlock = some h → B ≤ h) (hl : Longer (wy.alloc (.cells x.cells.toArray 32)).drew w9 32 9 u v n xs) :
    Below B wy w9 ∧ (∀ h, v.ownBlock = some h → B ≤ h) ∧ w9.ownsRow 0 32 9 v n xs :=
  ⟨longer_below ((Below.refl B wy).alloc hB _).drew (by simp; omega) hu hl, longer_from (B := B) hl (by simp; omega) hu, hl.1⟩
theorem less_state {w W : World} {t gf n tc i : Nat} {ad af : Addr} {pv : ByteArray} {h : Value} {x : TypeX} {f : FieldM} {tl : List TypeX} (hp : Rd w t 6 (some ad) n (tcells tl)) (hx : tl[i]? = some x) (hlt : i < n) (e2 : x.F = some af) (LL : Below t w W)
    (bt : W.heap[t]? = some (.cells #[.string pv, .slice (some ad) n tc, h] 54 (0, 0))) (bf : W.heap[gf]? = some (.cells #[.int .i64 f.off, .int .i64 f.size, .int .u8 f.kind, .bool f.write] 65 (0, 0))) :
    W.cell? ⟨t, 1, none⟩ = some (.slice (some ad) n tc) ∧ W.cell? (ad.add (i * 6)) = some (.string x.name) ∧ W.cell? ⟨(ad.add (i * 6)).block, (ad.add (i * 6)).off + 1, none⟩ = some (.int .i64 x.ctx) ∧ W.cell? ⟨(ad.add (i * 6)).block, (ad.add (i * 6)).off + 2, none⟩ = some (.slice (some af) x.fl.length x.fc) ∧ W.cell? ⟨(ad.add (i * 6)).block, (ad.add (i * 6)).off + 3, none⟩ = some (.slice x.N x.nl.length x.nc) ∧ W.cell? ⟨(ad.add (i * 6)).block, (ad.add (i * 6)).off + 4, none⟩ = some (.int .i64 x.lo) ∧ W.cell? ⟨(ad.add (i * 6)).block, (ad.add (i * 6)).off + 5, none⟩ = some (.int .i64 x.hi) ∧ W.cell? ⟨gf, 0, none⟩ = some (.int .i64 f.off) ∧ W.cell? ⟨gf, 1, none⟩ = some (.int .i64 f.size) ∧ W.cell? ⟨gf, 2, none⟩ = some (.int .u8 f.kind) ∧ W.cell? ⟨gf, 3, none⟩ = some (.bool f.write) := by
  obtain ⟨ad', x', e1, hab', hx', x0, x1, x2, x3, x4, x5⟩ := Rd.type (hp.below LL) hlt
  obtain rfl : ad = ad' := by injection e1
  obtain rfl : x = x' := by have := hx.symm.trans hx'; injection this
  rw [e2] at x2
  exact ⟨(blk_cell bt 1).trans rfl, x0, x1, x2, x3, x4, x5, (blk_cell bf 0).trans rfl, (blk_cell bf 1).trans rfl, (blk_cell bf 2).trans rfl, (blk_cell bf 3).trans rfl⟩
set_option maxRecDepth 100000 in
set_option maxHeartbeats 4000000 in
theorem law_kindsLess (pv : ByteArray) (T H K : Option Addr) (n tc m hc kn kc : Nat) (tl : List TypeX) (hl : List HelpX) (ks : List Bool) (w : World) (hs : pv.size ≤ maxLen) (hp : Rd w w.heap.size 6 T n (tcells tl)) (hq : Rd w w.heap.size 9 H m (hcells hl))
    (hnc : n ≤ tc) (htc : tc ≤ maxLen) (hmc : m ≤ hc) (hhc : hc ≤ maxLen) (hkp : Rd w w.heap.size 1 K kn (ks.map Value.bool)) (hkc : kn ≤ kc) (hkm : kc ≤ maxLen)
    (htl : ∀ x ∈ tl, TypeP w x) (hhl : ∀ x ∈ hl, HelpP w x) :
    Calls Try.prog 6 #[.agg #[.string pv, .slice T n tc, .slice H m hc], .slice K kn kc] w fun e w' => e = .returned (.bool true) ∧ Below w.heap.size w w' := by
  have hA := hide (fun w => awake_any w)
  have hl1 := hide (Rd.tcells_len hp)
  have hl2 := hide (Rd.hcells_len hq)
  have HTL := hide htl
  have HHL := hide hhl
  have b1 := World.alloc_heap_new w (.cells #[.string pv, .slice T n tc, .slice H m hc] 54)
  have l1 := below1 w (.cells #[.string pv, .slice T n tc, .slice H m hc] 54)
  have hSm : Hid (∀ X, Below w.heap.size w X → Calls Try.prog 19 #[.agg #[.string pv, .slice T n tc, .slice H m hc]] X (SmallTold tl hl X)) := hide (fun X hX =>
    small_any pv T H n tc m hc w.heap.size tl hl X hs (hp.below hX) (hq.below hX) hX.size hnc htc hmc hhc
      (fun x hx => by obtain ⟨q1, q2, q3, q4, q5, q6⟩ := htl x hx; exact ⟨q1, by omega, by omega⟩)
      (fun x hx => by
        obtain ⟨q1, q2, q3, q4⟩ := hhl x hx
        exact ⟨by omega, q1.below hX, fun a ha => by obtain ⟨r1, r2, r3, r4⟩ := q2 a ha; omega⟩))
  have hTb : Hid (tl.length ≤ 20 ∧ hl.length ≤ 70 ∧ tl.all shortT = true ∧ hl.all shortH = true → ∀ X, Below w.heap.size w X → Calls Try.prog 20 #[.agg #[.string pv, .slice T n tc, .slice H m hc]] X fun e w' => e = .returned (.int .i64 (tableM pv tl hl)) ∧ Below X.heap.size X w') := hide (fun hh X hX =>
    table_any pv T H n tc m hc w.heap.size tl hl X hs (hp.below hX) (hq.below hX) ((short_types htl hh.2.2.1).below hX) ((short_helps hhl hh.2.2.2).below hX) hX.size (by rw [← hl1.out]; omega) hnc htc (by rw [← hl2.out]; omega) hmc hhc)
  have HP := hide hp
  have HQ := hide hq
  have HK := hide hkp
  have hks : kn ≤ 9223372036854775807 := by unfold maxLen at hkm; omega
  have HPV := hide hs
  clear hp hq hkp htl hhl hs
  go_enter Try.func6, Try.ntmps6
  go_wp2_with fail
  refine name_call (fun W1 hW1 => ?_)
  rw [← hW1] at b1 l1
  clear hW1
  (with_reducible refine (hA.out _).mono ?_)
  rintro e w1 ⟨rfl, hb1⟩
  clear hA
  have z1 : w.heap.size < W1.heap.size := at_lt b1
  have B1 := hide ((hb1.block _ z1).trans b1)
  have L1 := hide (l1.trans (hb1.mono l1.size))
  clear b1 l1 hb1
  have b1 := B1.out
  have c0 := blk_cell b1 0
  have c1 := blk_cell b1 1
  have c2 := blk_cell b1 2
  simp only [List.getElem?_toArray, List.getElem?_cons_zero, List.getElem?_cons_succ] at c0 c1 c2
  clear b1
  go_wp2_with fail
  ((with_reducible refine (hSm.out _ L1.out).mono ?_))
  rintro e w2 ⟨b, rfl, hyes, hb2⟩
  clear hSm
  have lt2 : w.heap.size < w1.heap.size := at_lt B1.out
  have B2 := hide ((hb2.block _ lt2).trans B1.out)
  have L2 := hide (L1.out.trans (hb2.mono L1.out.size))
  clear hb2 c0 c1 c2
  cases b
  · clear hyes hTb
    go_wp2
    go_ret
    exact ⟨rfl, L2.out⟩
  have HY := hide (hyes rfl)
  have hTb2 := hide (hTb.out (hyes rfl))
  clear hyes hTb
  have b2 := B2.out
  have c0 := blk_cell b2 0
  have c1 := blk_cell b2 1
  have c2 := blk_cell b2 2
  simp only [List.getElem?_toArray, List.getElem?_cons_zero, List.getElem?_cons_succ] at c0 c1 c2
  clear b2
  go_wp2_with fail
  ((with_reducible refine (hTb2.out _ L2.out).mono ?_))
  rintro e w3 ⟨rfl, hb3⟩
  clear hTb2
  have lt3 : w.heap.size < w2.heap.size := at_lt B2.out
  have B3 := hide ((hb3.block _ lt3).trans B2.out)
  have L3 := hide (L2.out.trans (hb3.mono L2.out.size))
  clear hb3 c0 c1 c2
  by_cases ht0 : tableM pv tl hl = 0
  case neg =>
    have hd : (tableM pv tl hl != 0) = true := by simpa using ht0
    go_wp2
    go_ret
    exact ⟨rfl, L3.out⟩
  have HT0 := hide ht0
  rw [ht0]
  clear ht0
  have lt3' : w.heap.size < w3.heap.size := at_lt B3.out
  have b3 := B3.out
  have c0 := blk_cell b3 0
  have c1 := blk_cell b3 1
  have c2 := blk_cell b3 2
  simp only [List.getElem?_toArray, List.getElem?_cons_zero, List.getElem?_cons_succ] at c0 c1 c2
  clear b3
  go_wp2_with fail
  refine name_world (fun W4 hW4 => ?_)
  have b4 : W4.heap[w3.heap.size]? = some (.cells #[.string pv, .slice none 0 0, .slice none 0 0] 54 (0, 0)) := by rw [hW4]; exact World.alloc_heap_new w3 _
  have l4 : Below w3.heap.size w3 W4 := by rw [hW4]; exact below1 w3 _
  have hn16 : n ≤ 16 := by have := (tableM_zero.1 HT0.out).2.1; rw [hl1.out] at this; exact this
  have hm64 : m ≤ 64 := by have := (tableM_zero.1 HT0.out).2.2.1; rw [hl2.out] at this; exact this
  clear hW4 c0 c1 c2 hnc htc hmc hhc hkc hkm lt2 lt3
  have HTO : Hid (TypesOk w w.heap.size tl) := hide (short_types HTL.out HY.out.2.2.1)
  have HHO : Hid (HelpsOk w w.heap.size hl) := hide (short_helps HHL.out HY.out.2.2.2)
  have HLT := hide lt3'
  clear lt3' HTL HHL
  generalize hg : w3.heap.size = g at *
  have HG := hide hg
  clear hg
  generalize ht : w.heap.size = t at *
  have HTT := hide ht
  clear ht
  go_loopw [6] (fun p wr => ∃ (i : Nat) (l : List TypeX) (u : Value), i ≤ n ∧ p = .int .i64 i ∧ Below g w3 wr ∧ wr.heap[g]? = some (.cells #[.string pv, u, .slice none 0 0] 54 (0, 0)) ∧ wr.ownsRow 0 62 6 u l.length (tcells l) ∧ (∀ h, u.ownBlock = some h → g < h) ∧ l.Sublist (tl.take i)) (fun p _ => n - (intOf p).toNat)
  case atStart => exact ⟨0, [], .slice none 0 0, Nat.zero_le _, rfl, l4, b4, World.ownsRow_nil W4 0 62 6, (fun h e => nomatch e), by simp⟩
  case round =>
    obtain ⟨i, l, u, hi, rfl, hb, hbl, ho, hu, hsub⟩ := hrel
    have LT := hide (L3.out.trans (hb.mono (by have := HLT.out; have := HG.out; omega)))
    have BT := hide ((hb.block t (by have := HLT.out; omega)).trans B3.out)
    by_cases hlt : i < n
    · obtain ⟨ad, x, rfl, hab, hx, x0, x1, x2, x3, x4, x5⟩ := Rd.type (HP.out.below LT.out) hlt
      have HXX := hide hx
      have HXM := hide (List.mem_of_getElem? hx)
      have HTE := hide (typeE_any HTO.out x HXM.out wr LT.out (by have := LT.out.size; have := HTT.out; omega))
      have HBW := hide hb
      have HBL := hide hbl
      have HO := hide ho
      have HU := hide hu
      have HSUB := hide hsub
      have bt := BT.out
      have c1 := blk_cell bt 1
      simp only [List.getElem?_toArray, List.getElem?_cons_zero, List.getElem?_cons_succ] at c1
      clear hb hbl ho hu hsub hx bt
      go_wp2_with fail
      ((with_reducible refine HTE.out.mono ?_))
      rintro e wa ⟨rfl, hba⟩
      clear HTE c1 x0 x1 x2 x3 x4 x5
      rw [table_type HT0.out x HXM.out]
      have hgr : g < wr.heap.size := at_lt HBL.out
      have htg : t < g := by have := HLT.out; have := HG.out; omega
      have LTA := hide (LT.out.trans (hba.mono (by have := LT.out.size; have := HTT.out; omega)))
      have BTA := hide ((hba.block t (by omega)).trans BT.out)
      have BLA := hide ((hba.block g hgr).trans HBL.out)
      have OA := hide (below_owns HO.out hba)
      have HBA := hide (HBW.out.trans (hba.mono (by have := HBW.out.size; have := HG.out; omega)))
      clear hba HBL HO LT BT HBW
      obtain ⟨wo, rfl⟩ : ∃ wo : World, wo = wa := ⟨_, rfl⟩
      go_wp2_with fail
      go_loopw [7] (fun p wr => ∃ k : Nat, k ≤ x.fl.length ∧ p = .int .i64 k ∧ Below wo.heap.size wo wr) (fun p _ => x.fl.length - (intOf p).toNat)
      case atStart => exact ⟨0, Nat.zero_le _, rfl, Below.refl _ _⟩
      case round =>
        obtain ⟨k, hk, rfl, hb⟩ := hrel
        have hzo : g < wo.heap.size := at_lt BLA.out
        have LTB := hide (LTA.out.trans (hb.mono (by omega)))
        have BTB := hide ((hb.block t (by omega)).trans BTA.out)
        have HB := hide hb
        clear hb
        have bt := BTB.out
        have c1 := blk_cell bt 1
        simp only [List.getElem?_toArray, List.getElem?_cons_zero, List.getElem?_cons_succ] at c1
        clear bt
        obtain ⟨ad', x', e1, hab', hx', x0, x1, x2, x3, x4, x5⟩ := Rd.type (HP.out.below LTB.out) hlt
        obtain rfl : ad = ad' := by injection e1
        obtain rfl : x = x' := by have := HXX.out.symm.trans hx'; injection this
        clear hx' e1 hab'
        have hfl : x.fl.length ≤ 1000000 := (HTO.out x HXM.out).2.2.2.1.1
        by_cases hlk : k < x.fl.length
        · obtain ⟨af, f, e2, hab2, hf, f0, f1, f2, f3⟩ := ((HTO.out x HXM.out).2.1.below LTB.out).field hlk
          have HFM := hide (List.mem_of_getElem? hf)
          rw [e2] at x2
          have E2 := hide e2
          clear hf e2
          have hFld : Hid (∀ X, Below t w X → Calls Try.prog 22 #[.agg #[.string x.name, .int .i64 x.ctx, .slice (some af) x.fl.length x.fc, .slice x.N x.nl.length x.nc, .int .i64 x.lo, .int .i64 x.hi], .int .i64 f.off, .int .i64 f.size] X fun e w' => e = .returned (.tuple #[.agg #[.int .i64 f.off, .int .i64 f.size, .int .u8 f.kind, .bool f.write], .bool true]) ∧ Below X.heap.size X w') := hide (fun X hX => by
            have := field_own HT0.out HTO.out x HXM.out f HFM.out X hX (by have := hX.size; have := HTT.out; omega)
            rw [E2.out] at this
            exact this)
          go_wp2_with fail
          clear c1 x0 x1 x2 x3 x4 x5 f0 f1 f2 f3
          refine name_world (fun WF hWF => ?_)
          have bF : WF.heap[wr.heap.size]? = some (.cells #[.int .i64 f.off, .int .i64 f.size, .int .u8 f.kind, .bool f.write] 65 (0, 0)) := by rw [hWF]; exact World.alloc_heap_new wr _
          have lF : Below wr.heap.size wr WF := by rw [hWF]; exact below1 wr _
          clear hWF
          have LTF := hide (LTB.out.trans (lF.mono (by have := LTB.out.size; have := HTT.out; omega)))
          have LBF := hide (HB.out.trans (lF.mono HB.out.size))
          have hwr : wo.heap.size ≤ wr.heap.size := HB.out.size
          have hgf : wr.heap.size < WF.heap.size := at_lt bF
          generalize hgq : wr.heap.size = gf at *
          have BF := hide bF
          clear bF lF
          have hSt : Hid (∀ W, Below WF.heap.size WF W → W.cell? ⟨t, 1, none⟩ = some (.slice (some ad) n tc) ∧ W.cell? (ad.add (i * 6)) = some (.string x.name) ∧ W.cell? ⟨(ad.add (i * 6)).block, (ad.add (i * 6)).off + 1, none⟩ = some (.int .i64 x.ctx) ∧ W.cell? ⟨(ad.add (i * 6)).block, (ad.add (i * 6)).off + 2, none⟩ = some (.slice (some af) x.fl.length x.fc) ∧ W.cell? ⟨(ad.add (i * 6)).block, (ad.add (i * 6)).off + 3, none⟩ = some (.slice x.N x.nl.length x.nc) ∧ W.cell? ⟨(ad.add (i * 6)).block, (ad.add (i * 6)).off + 4, none⟩ = some (.int .i64 x.lo) ∧ W.cell? ⟨(ad.add (i * 6)).block, (ad.add (i * 6)).off + 5, none⟩ = some (.int .i64 x.hi) ∧ W.cell? ⟨gf, 0, none⟩ = some (.int .i64 f.off) ∧ W.cell? ⟨gf, 1, none⟩ = some (.int .i64 f.size) ∧ W.cell? ⟨gf, 2, none⟩ = some (.int .u8 f.kind) ∧ W.cell? ⟨gf, 3, none⟩ = some (.bool f.write)) := hide (fun W hW => by
            exact less_state HP.out HXX.out hlt E2.out (LTF.out.trans (hW.mono (by have := LTF.out.size; have := HTT.out; omega))) (((LBF.out.trans (hW.mono LBF.out.size)).block t (by omega)).trans BTA.out) ((hW.block gf hgf).trans BF.out))
          have hS0 := hSt.out WF (Below.refl _ _)
          go_region_held3 (fun W => W.cell? ⟨t, 1, none⟩ = some (.slice (some ad) n tc) ∧ W.cell? (ad.add (i * 6)) = some (.string x.name) ∧ W.cell? ⟨(ad.add (i * 6)).block, (ad.add (i * 6)).off + 1, none⟩ = some (.int .i64 x.ctx) ∧ W.cell? ⟨(ad.add (i * 6)).block, (ad.add (i * 6)).off + 2, none⟩ = some (.slice (some af) x.fl.length x.fc) ∧ W.cell? ⟨(ad.add (i * 6)).block, (ad.add (i * 6)).off + 3, none⟩ = some (.slice x.N x.nl.length x.nc) ∧ W.cell? ⟨(ad.add (i * 6)).block, (ad.add (i * 6)).off + 4, none⟩ = some (.int .i64 x.lo) ∧ W.cell? ⟨(ad.add (i * 6)).block, (ad.add (i * 6)).off + 5, none⟩ = some (.int .i64 x.hi) ∧ W.cell? ⟨gf, 0, none⟩ = some (.int .i64 f.off) ∧ W.cell? ⟨gf, 1, none⟩ = some (.int .i64 f.size) ∧ W.cell? ⟨gf, 2, none⟩ = some (.int .u8 f.kind) ∧ W.cell? ⟨gf, 3, none⟩ = some (.bool f.write)) (first | exact hS0 | exact hS9 | exact hSt.out _ (HB9.out.alloc HB9.out.size _) | exact hSt.out _ (HB9.out.grown (store_4 B9.out _ _ _ _).2 HB9.out.size (fun k e => by cases e; first | exact Nat.le_refl _ | exact HB9.out.size)) | go_keep)
            (first
              | (go_at_call 22; ((with_reducible refine (hFld.out _ LTF.out.drew).mono ?_)); rintro e w9 ⟨rfl, hb9⟩; have HB9 := hide (Below.trans (Below.refl WF.heap.size WF).drew hb9); have hS9 := hSt.out w9 HB9.out; clear hb9)
              | (go_at_call 22; ((with_reducible refine (hFld.out _ (LTF.out.alloc (by have := LTF.out.size; have := HTT.out; omega) (.cells #[.int .i64 0, .int .i64 0, .int .u8 0, .bool false] 65)).drew).mono ?_)); rintro e w9 ⟨rfl, hb9⟩; have HB9 := hide (Below.trans ((Below.refl WF.heap.size WF).alloc (Nat.le_refl _) (.cells #[.int .i64 0, .int .i64 0, .int .u8 0, .bool false] 65)).drew (hb9.mono (by simp))); have hS9 := hSt.out w9 HB9.out; have B9 := hide ((hb9.block WF.heap.size (by simp)).trans (World.alloc_heap_new WF (.cells #[.int .i64 0, .int .i64 0, .int .u8 0, .bool false] 65))); clear hb9;
                  (have d0 := blk_cell B9.out 0); (have d1 := blk_cell B9.out 1); (have d2 := blk_cell B9.out 2); (have d3 := blk_cell B9.out 3); (have g0 := Joins.unfrozen_of_block B9.out 0); (have g1 := Joins.unfrozen_of_block B9.out 1); (have g2 := Joins.unfrozen_of_block B9.out 2); (have g3 := Joins.unfrozen_of_block B9.out 3);
                  simp only [List.getElem?_toArray, List.getElem?_cons_zero, List.getElem?_cons_succ] at d0 d1 d2 d3))
          · generalize hW5 : w9.alloc (.cells #[.int .i64 f.off, .int .i64 f.size, .int .u8 f.kind, .bool f.write] 65) = W5
            have q8 : W5.heap[gf]? = some (.cells #[.int .i64 f.off, .int .i64 f.size, .int .u8 f.kind, .bool f.write] 65 (0, 0)) := by rw [← hW5]; exact ((Below.refl w9.heap.size w9).alloc (Nat.le_refl _) _).block _ (by have := HB9.out.size; omega) |>.trans ((HB9.out.block _ hgf).trans BF.out)
            have q9 : W5.heap[w9.heap.size]? = some (.cells #[.int .i64 f.off, .int .i64 f.size, .int .u8 f.kind, .bool f.write] 65 (0, 0)) := by rw [← hW5]; exact World.alloc_heap_new w9 _
            have l5 : Below WF.heap.size WF W5 := by rw [← hW5]; exact HB9.out.alloc HB9.out.size _
            clear hW5
            have L5 := hide (LBF.out.trans (l5.mono LBF.out.size))
            have y0 := blk_cell q8 0
            have y1 := blk_cell q8 1
            have y2 := blk_cell q8 2
            have y3 := blk_cell q8 3
            have e0 := blk_cell q9 0
            have e1 := blk_cell q9 1
            have e2 := blk_cell q9 2
            have e3 := blk_cell q9 3
            simp only [List.getElem?_toArray, List.getElem?_cons_zero, List.getElem?_cons_succ] at y0 y1 y2 y3 e0 e1 e2 e3
            clear q8 q9 l5 hS0 hS9 hSt hFld
            go_wp2
            go_roundw
            case rel => exact ⟨k + 1, by omega, by go_num, L5.out⟩
            case measure => simp [intOf]; omega
          · obtain ⟨st, hgr⟩ := store_4 B9.out (.int .i64 f.off) (.int .i64 f.size) (.int .u8 f.kind) (.bool f.write)
            have l9 := HB9.out.grown hgr HB9.out.size (fun k e => by cases e; exact Nat.le_refl _)
            generalize hW5 : (((w9.setCell ⟨WF.heap.size, 0, none⟩ (.int .i64 f.off)).setCell ⟨WF.heap.size, 1, none⟩ (.int .i64 f.size)).setCell ⟨WF.heap.size, 2, none⟩ (.int .u8 f.kind)).setCell ⟨WF.heap.size, 3, none⟩ (.bool f.write) = W5 at *
            have q8 : W5.heap[gf]? = some (.cells #[.int .i64 f.off, .int .i64 f.size, .int .u8 f.kind, .bool f.write] 65 (0, 0)) := (l9.block _ hgf).trans BF.out
            have q9 := st
            have l5 := l9
            clear hW5 st l9 hgr d0 d1 d2 d3 g0 g1 g2 g3 B9
            have L5 := hide (LBF.out.trans (l5.mono LBF.out.size))
            have y0 := blk_cell q8 0
            have y1 := blk_cell q8 1
            have y2 := blk_cell q8 2
            have y3 := blk_cell q8 3
            have e0 := blk_cell q9 0
            have e1 := blk_cell q9 1
            have e2 := blk_cell q9 2
            have e3 := blk_cell q9 3
            simp only [List.getElem?_toArray, List.getElem?_cons_zero, List.getElem?_cons_succ] at y0 y1 y2 y3 e0 e1 e2 e3
            clear q8 q9 l5 hS0 hS9 hSt hFld
            go_wp2
            go_roundw
            case rel => exact ⟨k + 1, by omega, by go_num, L5.out⟩
            case measure => simp [intOf]; omega
        · have hkx : k = x.fl.length := by omega
          have BLB := hide ((HB.out.block g hzo).trans BLA.out)
          have OB := hide (below_owns OA.out HB.out)
          have HBB := hide (HBA.out.trans (HB.out.mono (by omega)))
          have hln : l.length ≤ i := by have := HSUB.out.length_le; rw [List.length_take] at this; omega
          clear BLA OA HBA HB BTA LTA
          by_cases hik : i < kn
          · obtain ⟨ak, eK, hbk, hck⟩ := (HK.out.below LTB.out).2 (by omega)
            have hkl : ks.length = kn := by have := HK.out.1; simpa using this
            obtain ⟨b, hki⟩ : ∃ b, wr.cell? (ak.add i) = some (.bool b) := ⟨_, hck i (.bool (ks[i]'(by omega))) (by simp [List.getElem?_eq_getElem (show i < ks.length by omega)])⟩
            clear hck hbk
            subst eK
            have hd : decide ((i : Int) < (kn : Int)) = true := by simp; omega
            cases b
            · clear x0 x1 x3 x4 x5
              go_wp2
              go_roundw
              case rel => exact ⟨i + 1, l, u, by omega, by go_num, HBB.out, BLB.out, OB.out, HU.out, sub_skip HSUB.out⟩
              case measure => simp [intOf]; omega
            · have bl := BLB.out
              have y1 := blk_cell bl 1
              have g1 := Joins.unfrozen_of_block bl 1
              simp only [List.getElem?_toArray, List.getElem?_cons_zero, List.getElem?_cons_succ] at y1
              clear bl
              go_wp2_with fail
              have hgw : g < wr.heap.size := at_lt BLB.out
              have htw : t < wr.heap.size := by omega
              have haw : ad.block < wr.heap.size := by have := LTB.out.size; have := HTT.out; omega
              have n1 : (⟨g, 1, none⟩ : Addr).block ≠ wr.heap.size := Nat.ne_of_lt hgw
              go_region_law (first | (refine append_type_at x wr u l OB.out (by omega) (by rfl) (by rfl) (by rfl) (by rfl) ?_; intro v9 w9 hl9; obtain ⟨hB9, hv9, ho9⟩ := after_type hgw HU.out hl9; obtain ⟨A9, c9, ev9, _⟩ := owns_slice ho9; subst ev9; have hb9 := (hB9.block g (by omega)).trans BLB.out; have y9 := blk_cell hb9 1; have g9 := Joins.unfrozen_of_block hb9 1; have VB9 := hide hB9; have VV9 := hide hv9; have VO9 := hide ho9; have VG9 := hide hb9; clear hl9 hB9 hv9 ho9 hb9; simp only [List.getElem?_toArray, List.getElem?_cons_zero, List.getElem?_cons_succ] at y9))
              all_goals
                have ev : (l ++ [x]).length = l.length + 1 := by simp
                rw [ev] at VO9 VV9
                have st : (w9.setCell ⟨g, 1, none⟩ (.slice A9 (l.length + 1) c9)).heap[g]? = some (.cells #[.string pv, .slice A9 (l.length + 1) c9, .slice none 0 0] 54 (0, 0)) := Joins.block_setCell (i := 1) VG9.out _
                have lB : Below g w3 (w9.setCell ⟨g, 1, none⟩ (.slice A9 (l.length + 1) c9)) := (HBB.out.trans (VB9.out.mono (by omega))).setCell (Nat.le_refl g) _
                have oB := owns_set VO9.out ⟨g, 1, none⟩ (.slice A9 (l.length + 1) c9) (fun q hq => by have := VV9.out q hq; show q ≠ g; omega)
                rw [← ev] at oB
                have ST := hide st
                have LB := hide lB
                have OBB := hide oB
                clear st lB oB x0 x1 x3 x4 x5
                go_wp2
                go_roundw
                case rel => exact ⟨i + 1, l ++ [x], .slice A9 (l.length + 1) c9, by omega, by go_num, LB.out, ST.out, by rw [← ev]; exact OBB.out, VV9.out, sub_push HSUB.out HXX.out⟩
                case measure => simp [intOf]; omega
          · have hd : decide ((i : Int) < (kn : Int)) = false := by simp; omega
            clear x0 x1 x3 x4 x5
            go_wp2
            go_roundw
            case rel => exact ⟨i + 1, l, u, by omega, by go_num, HBB.out, BLB.out, OB.out, HU.out, sub_skip HSUB.out⟩
            case measure => simp [intOf]; omega
    · have hkn : i = n := by omega
      subst hkn
      have HSB := hide (show l.Sublist tl by rwa [List.take_of_length_le (by rw [hl1.out]; exact Nat.le_refl _)] at hsub)
      have HBW := hide hb
      have HBL := hide hbl
      have HO := hide ho
      have HU := hide hu
      have bt := BT.out
      have c1 := blk_cell bt 1
      simp only [List.getElem?_toArray, List.getElem?_cons_zero, List.getElem?_cons_succ] at c1
      clear hb hbl ho hu hsub bt hi hn16
      obtain ⟨wo, rfl⟩ : ∃ wo : World, wo = wr := ⟨_, rfl⟩
      go_wp2_with fail
      clear c1
      have hgo : g < wo.heap.size := at_lt HBL.out
      have htg : t < g := by have := HLT.out; have := HG.out; omega
      have HVU := hide (owns_lt' HO.out)
      go_loopw [11] (fun p wr => ∃ (j : Nat) (l2 : List HelpX) (u2 : Value), j ≤ m ∧ p = .int .i64 j ∧ Below g wo wr ∧ wo.heap.size ≤ wr.heap.size ∧ wr.heap[g]? = some (.cells #[.string pv, u, u2] 54 (0, 0)) ∧ wr.ownsRow 0 62 6 u l.length (tcells l) ∧ wr.ownsRow 0 32 9 u2 l2.length (hcells l2) ∧ (∀ h, u2.ownBlock = some h → wo.heap.size ≤ h) ∧ l2.Sublist (hl.take j)) (fun p _ => m - (intOf p).toNat)
      case atStart => exact ⟨0, [], .slice none 0 0, Nat.zero_le _, rfl, Below.refl _ _, Nat.le_refl _, HBL.out, HO.out, World.ownsRow_nil wo 0 32 9, (fun h e => nomatch e), by simp⟩
      case round =>
        obtain ⟨j, l2, u2, hj, rfl, hb, hz, hbl, ho, ho2, hu2, hsub⟩ := hrel
        clear HBL HO
        have LT1 := hide (LT.out.trans (hb.mono (by omega)))
        have BT1 := hide ((hb.block t (by omega)).trans BT.out)
        have HB := hide hb
        have HBL := hide hbl
        have HO := hide ho
        have HO2 := hide ho2
        have HU2 := hide hu2
        have HSUB := hide hsub
        have bt := BT1.out
        have c2 := blk_cell bt 2
        simp only [List.getElem?_toArray, List.getElem?_cons_zero, List.getElem?_cons_succ] at c2
        clear hb hbl ho ho2 hu2 hsub bt
        by_cases hlj : j < m
        · obtain ⟨ad, x, rfl, hab, hx, x0, x1, x2, x3, x4, x5, x6, x7, x8⟩ := Rd.help (HQ.out.below LT1.out) hlj
          have HXX := hide hx
          have HXM := hide (List.mem_of_getElem? hx)
          have HTE := hide (helpE_any HHO.out x HXM.out wr LT1.out (by have := LT1.out.size; have := HTT.out; omega))
          clear hx
          go_wp2_with fail
          ((with_reducible refine HTE.out.mono ?_))
          rintro e wa ⟨rfl, hba⟩
          clear HTE c2 x0 x1 x2 x3 x4 x5 x6 x7 x8
          rw [table_help HT0.out x HXM.out]
          have hgr : g < wr.heap.size := at_lt HBL.out
          have LTA := hide (LT1.out.trans (hba.mono (by have := LT1.out.size; have := HTT.out; omega)))
          have BTA := hide ((hba.block t (by omega)).trans BT1.out)
          have BLA := hide ((hba.block g hgr).trans HBL.out)
          have OA := hide (below_owns HO.out hba)
          have OA2 := hide (below_owns HO2.out hba)
          have HBA := hide (HB.out.trans (hba.mono (by omega)))
          have hza : wo.heap.size ≤ wa.heap.size := Nat.le_trans hz hba.size
          clear hba HBL HO HO2 LT1 BT1 HB
          have bt := BTA.out
          have c2 := blk_cell bt 2
          simp only [List.getElem?_toArray, List.getElem?_cons_zero, List.getElem?_cons_succ] at c2
          clear bt
          obtain ⟨ad', x', e1, hab', hx', x0, x1, x2, x3, x4, x5, x6, x7, x8⟩ := Rd.help (HQ.out.below LTA.out) hlj
          obtain rfl : ad = ad' := by injection e1
          obtain rfl : x = x' := by have := HXX.out.symm.trans hx'; injection this
          clear hx' e1 hab'
          have hln : l2.length ≤ j := by have := HSUB.out.length_le; rw [List.length_take] at this; omega
          by_cases hik : j < kn
          · obtain ⟨ak, eK, hbk, hck⟩ := (HK.out.below LTA.out).2 (by omega)
            have hkl : ks.length = kn := by have := HK.out.1; simpa using this
            obtain ⟨b, hki⟩ : ∃ b, wa.cell? (ak.add j) = some (.bool b) := ⟨_, hck j (.bool (ks[j]'(by omega))) (by simp [List.getElem?_eq_getElem (show j < ks.length by omega)])⟩
            clear hck hbk
            subst eK
            have hd : decide ((j : Int) < (kn : Int)) = true := by simp; omega
            cases b
            · have bl := BLA.out
              have y1 := blk_cell bl 2
              have g1 := Joins.unfrozen_of_block bl 2
              simp only [List.getElem?_toArray, List.getElem?_cons_zero, List.getElem?_cons_succ] at y1
              clear bl
              go_wp2_with fail
              have hgw : g < wa.heap.size := at_lt BLA.out
              have htw : t < wa.heap.size := by omega
              have haw : ad.block < wa.heap.size := by omega
              have n1 : (⟨g, 2, none⟩ : Addr).block ≠ wa.heap.size := Nat.ne_of_lt hgw
              go_region_law (first | (refine append_help_at x wa u2 l2 OA2.out (by omega) (by rfl) (by rfl) (by rfl) (by rfl) ?_; intro v9 w9 hl9; obtain ⟨hB9, hv9, ho9⟩ := after_help hza HU2.out hl9; obtain ⟨A9, c9, ev9, _⟩ := owns_slice ho9; subst ev9; have hb9 := (hB9.block g (by omega)).trans BLA.out; have y9 := blk_cell hb9 2; have g9 := Joins.unfrozen_of_block hb9 2; have VB9 := hide hB9; have VV9 := hide hv9; have VO9 := hide ho9; have VG9 := hide hb9; clear hl9 hB9 hv9 ho9 hb9; simp only [List.getElem?_toArray, List.getElem?_cons_zero, List.getElem?_cons_succ] at y9))
              all_goals
                have ev : (l2 ++ [x]).length = l2.length + 1 := by simp
                rw [ev] at VO9 VV9
                have st : (w9.setCell ⟨g, 2, none⟩ (.slice A9 (l2.length + 1) c9)).heap[g]? = some (.cells #[.string pv, u, .slice A9 (l2.length + 1) c9] 54 (0, 0)) := Joins.block_setCell (i := 2) VG9.out _
                have lB : Below g wo (w9.setCell ⟨g, 2, none⟩ (.slice A9 (l2.length + 1) c9)) := (HBA.out.trans (VB9.out.mono (by omega))).setCell (Nat.le_refl g) _
                have oB := owns_set VO9.out ⟨g, 2, none⟩ (.slice A9 (l2.length + 1) c9) (fun q hq => by have := VV9.out q hq; show q ≠ g; omega)
                have oU := owns_set (owns_low OA.out HVU.out VB9.out) ⟨g, 2, none⟩ (.slice A9 (l2.length + 1) c9) (fun q hq => by have := HU.out q hq; show q ≠ g; omega)
                rw [← ev] at oB
                have zB : wo.heap.size ≤ (w9.setCell ⟨g, 2, none⟩ (.slice A9 (l2.length + 1) c9)).heap.size := Nat.le_trans hza (Nat.le_trans VB9.out.size (Below.setCell (Below.refl g w9) (Nat.le_refl g) _).size)
                have ST := hide st
                have LB := hide lB
                have OBB := hide oB
                have OU := hide oU
                have ZB := hide zB
                clear st lB oB oU zB x0 x1 x2 x3 x4 x5 x6 x7 x8
                go_wp2
                go_roundw
                case rel => exact ⟨j + 1, l2 ++ [x], .slice A9 (l2.length + 1) c9, by omega, by go_num, LB.out, ZB.out, ST.out, OU.out, by rw [← ev]; exact OBB.out, VV9.out, sub_push HSUB.out HXX.out⟩
                case measure => simp [intOf]; omega
            · clear x0 x1 x2 x3 x4 x5 x6 x7 x8
              go_wp2
              go_roundw
              case rel => exact ⟨j + 1, l2, u2, by omega, by go_num, HBA.out, hza, BLA.out, OA.out, OA2.out, HU2.out, sub_skip HSUB.out⟩
              case measure => simp [intOf]; omega
          · have hd : decide ((j : Int) < (kn : Int)) = false := by simp; omega
            clear x0 x1 x2 x3 x4 x5 x6 x7 x8
            go_wp2
            go_roundw
            case rel => exact ⟨j + 1, l2, u2, by omega, by go_num, HBA.out, hza, BLA.out, OA.out, OA2.out, HU2.out, sub_skip HSUB.out⟩
            case measure => simp [intOf]; omega
        · have hjm : j = m := by omega
          have HSB2 := hide (show l2.Sublist hl by have := HSUB.out; rwa [List.take_of_length_le (by rw [hl2.out]; omega)] at this)
          obtain ⟨A1, d1, rfl, _⟩ := owns_slice HO.out
          obtain ⟨A2, d2, rfl, _⟩ := owns_slice HO2.out
          obtain ⟨r1, r2, r3⟩ := owns_room HO.out
          obtain ⟨s1, s2, s3⟩ := owns_room HO2.out
          have hl16 : l.length ≤ 1000000 := by have := HSB.out.length_le; have := HY.out.1; omega
          have hl64 : l2.length ≤ 1000000 := by have := HSB2.out.length_le; have := HY.out.2.1; omega
          have hzt : t ≤ wr.heap.size := by have := LT1.out.size; have := HTT.out; omega
          have hTb := hide (table_any pv A1 A2 l.length d1 l2.length d2 wr.heap.size l l2 wr HPV.out r3 s3 (((HTO.out.sub HSB.out).below LT1.out).mono hzt) (((HHO.out.sub HSB2.out).below LT1.out).mono hzt) (Nat.le_refl _) hl16 r1 r2 hl64 s1 s2)
          rw [tableM_sub HT0.out HSB.out HSB2.out] at hTb
          have bl := HBL.out
          have y0 := blk_cell bl 0
          have y1 := blk_cell bl 1
          have y2 := blk_cell bl 2
          simp only [List.getElem?_toArray, List.getElem?_cons_zero, List.getElem?_cons_succ] at y0 y1 y2
          clear bl r1 r2 r3 s1 s2 s3
          go_wp2_with fail
          ((with_reducible refine hTb.out.mono ?_))
          rintro e wz ⟨rfl, hbz⟩
          have LZ := hide (LT1.out.trans (hbz.mono hzt))
          clear hTb hbz y0 y1 y2 c2
          go_wp2
          go_ret
          exact ⟨rfl, by have := LZ.out; rw [← HTT.out] at this; exact this⟩
end Go.Proofs.Ytedjmgiblkjonaa
namespace Go.Proofs.Ytedjmgiblkjonaa
open Go.ChangeShapes Go.WideShapes Go.ChangeAt Go.RowKit Go.Deep
set_option linter.unusedVariables false

section
variable {H : Type} {enc : TypeId × Value → H} {P : Program}
/-- The arguments read as they did, what was there is as it was. -/
theorem post_new {f : Func} {s : ChangeSpec} {apart fresh handsOn again : Bool} {W W' : World} {args : Array Value} {v : Value} {ds gs : List (DataW H)} {before pa pv : List MemPlace}
    (hW : DataW.Whole enc P f.params.toList s.vars apart W args.toList ds gs before)
    (hres : ∀ (b : Nat) (sp : Nat → Bool) (hd : Bool), DataW.TrodAll enc P W' b sp hd f.resultTypes.toList (v.resultList f.resultTypes.size) (s.fn H (ds ++ gs)).results [])
    (hargs : ∀ sp : Nat → Bool, (∀ p ∈ before, sp p.block = true) → DataW.TrodAll enc P W' 0 sp true f.params.toList args.toList (s.fn H (ds ++ gs)).args pa)
    (hvars : ∀ sp : Nat → Bool, (∀ p ∈ before, sp p.block = true) → DataW.TrodVars enc P W' sp s.vars (s.fn H (ds ++ gs)).vars pv)
    (hps : before = pa ++ pv) (hb : Below W.heap.size W W')
    (hok : ∀ (j : Nat) (t : TypeId) (r : Value), f.resultTypes[j]? = some t → (v.resultList f.resultTypes.size)[j]? = some r → Value.okWide P W' .any 0 t r) :
    s.post enc P f apart fresh handsOn again W args v W' := by
  have old : ∀ p ∈ before, p.block < W.heap.size := fun p hp => hW.lt p hp
  have low : ∀ p ∈ before, decide (p.block < W.heap.size) = true := fun p hp => by simpa using old p hp
  have inv : ∀ p, p ∈ pv → p ∈ before := fun p hp => by rw [hps]; exact List.mem_append_right _ hp
  refine ⟨ds, gs, before, [], pa, pv, hW, hres _ _ _, hargs (fun b => decide (b < W.heap.size)) low, hvars _ low, World.keptBut_mono (fun p hp => ⟨hp, ?_⟩) (hb.frame (· ∈ before)), fun _ => ⟨hok, ?_⟩⟩
  · rw [hps, List.mem_append] at hp
    exact .inr hp
  · obtain ⟨_, _, _, _, _, hfz, hnd⟩ := hW
    refine ⟨_, _, ([] ++ pa) ++ pv, ⟨[] ++ pa, pv, trodAll_append (hargs _ (fun _ _ => rfl)) (hres _ _ _), hvars _ (fun _ _ => rfl), rfl, fun b off hp => ?_, fun ha => ?_⟩, fun p hp _ => ?_⟩
    · have hin : MemPlace.cell b off ∈ before := by rw [hps]; simpa using hp
      rw [hb.frozen (old _ hin)]
      exact hfz b off hin
    · have h := hnd ha
      rw [hps] at h
      simpa using h
    · rw [hps]
      simpa using hp
/-- An argument reads as it did, whatever of its spare room is looked at. -/
theorem Below.reads {t : TypeId} (hl : laidOutB P = true) (hr : P.readableRec t = true) (hrow : t < P.types.size) {W W' : World} {v : Value} {d : DataW H} {ps : List MemPlace}
    (h : DataW.Trod enc P W 0 (fun _ => true) true t v d ps) (hb : Below W.heap.size W W') (hlt : ∀ x ∈ ps, x.block < W.heap.size) (sp : Nat → Bool) (hsp : ∀ x ∈ ps, sp x.block = true) :
    DataW.Trod enc P W' 0 sp true t v d ps :=
  WideElems.Trod_stays hl hr hrow h (fun x hx => hb.same (hlt x hx)) hsp
end
end Go.Proofs.Ytedjmgiblkjonaa
namespace Go.Proofs.Ytedjmgiblkjonaa.kindsLess
open Go.ChangeShapes Go.WideShapes Go.ChangeAt Go.RowKit Go.Joins
set_option linter.unusedVariables false

theorem own : ownKnob Try.prog.godebug = none := by kernel_rfl
theorem laidOut : laidOutB Try.prog = true := by kernel_rfl

set_option maxRecDepth 100000 in
theorem lifted (os : Os) (started : os.Started) (H : Type) (enc : TypeId × Value → H) :
    ReturnsInHanded {} Try.checked os 6 .any (Rows.kindsLessSpec.pre6 enc Try.prog Try.f6 Rows.kindsLessRow.domain false) (Rows.kindsLessSpec.post enc Try.prog Try.f6 false true false false) := by
  refine returnsInHanded_of_change_sized (C := Try.checked) own started (by kernel_rfl) Try.func6
    (ChangeSpec.witness6 (enc := enc) (C := Try.checked) false ⟨#[], #[.agg #[.string ⟨#[]⟩, .slice none 0 0, .slice none 0 0], .slice none 0 0], []⟩ 8 (by kernel_rfl) (by kernel_rfl) (by kernel_rfl) (by kernel_rfl)) ?_
  intro W base args ds gs before hval0 hW _ hsz0 _
  clear hsz0
  have hval : ∀ (j : Nat) t v, Try.f6.params[j]? = some t → args[j]? = some v → Value.okWide Try.prog W .any base t v := hval0
  have hW' := hW
  obtain ⟨p, q, hA0, hV, rfl, _, _⟩ := hW
  have hA : DataW.TrodAll enc Try.prog W 0 (fun _ => true) true Try.f6.params.toList args.toList ds p := hA0
  rw [Try.params6] at hA hval
  obtain ⟨v0, vs0, d0, ds0, p0, q0, hargs, rfl, rfl, h0, r0⟩ := trodAll_cons hA
  obtain ⟨v1, vs1, d1, ds1, p1, q1, rfl, rfl, rfl, h1, r1⟩ := trodAll_cons r0
  obtain ⟨rfl, rfl, rfl⟩ := trodAll_nil r1
  obtain rfl : args = #[v0, v1] := by cases args; simp_all
  obtain ⟨rfl, rfl⟩ := trodVars_none hV
  obtain ⟨cs0, rfl, _⟩ := okWide_struct Try.underlying54 (hval 0 54 v0 rfl rfl)
  have k0 := h0
  obtain ⟨fu0, hf0⟩ := h0
  obtain ⟨a1, n1, c1, rfl⟩ := okWide_slice Try.underlying55 (hval 1 55 v1 rfl rfl)
  have k1 := h1
  obtain ⟨fu1, hf1⟩ := h1
  clear hA0 hval0
  simp only [List.append_nil] at hW'
  have hlt : ∀ x ∈ p0 ++ (p1), x.block < W.heap.size := fun x hx => by simpa using hW'.lt x (by simpa using hx)
  obtain ⟨pv, T, Hp, tc, hc, tl, hl, hcs, hpv, hr1, hr2, ⟨hn1, hn2⟩, ⟨hm1, hm2⟩, hty, hhe⟩ := view_table hf0
  have hcs0 : cs0 = #[.string pv, .slice T tl.length tc, .slice Hp hl.length hc] := by
    have h : cs0.toList = [.string pv, .slice T tl.length tc, .slice Hp hl.length hc] := hcs
    cases cs0
    simp only at h
    subst h
    rfl
  subst hcs0
  obtain ⟨K, kc, ks, hks, hkr, hk1, hk2⟩ := view_keep hf1
  have hks' : [Value.slice a1 n1 c1] = [Value.slice K ks.length kc] := hks
  simp only [List.cons.injEq, Value.slice.injEq, and_true] at hks'
  obtain ⟨rfl, rfl, rfl⟩ := hks'
  refine (law_kindsLess pv T Hp a1 tl.length tc hl.length hc ks.length c1 tl hl ks W hpv hr1 hr2 hn1 hn2 hm1 hm2 hkr hk1 hk2 hty hhe).mono fun e W' ⟨he, hb⟩ => ?_
  subst he
  exact ⟨_, rfl, post_new hW' (fun _ _ _ => (trodAll_cons_mk (shut_bool Try.underlying4 _) trodAll_mk0)) (fun sp hsp => (trodAll_cons_mk (Below.reads laidOut (by kernel_rfl) (of_decide_eq_true (by kernel_rfl)) k0 hb (fun x hx => hlt x (by simp [hx])) sp (fun x hx => hsp x (by simp [hx]))) (trodAll_cons_mk (Below.reads laidOut (by kernel_rfl) (of_decide_eq_true (by kernel_rfl)) k1 hb (fun x hx => hlt x (by simp [hx])) sp (fun x hx => hsp x (by simp [hx]))) trodAll_mk0))) (fun _ _ => rfl) (by simp) hb (ok_one (by kernel_rfl) rfl (okWide_bool_mk Try.underlying4 _))⟩

theorem over : Rows.kindsLessRow.holds Try.pinned (OpenSpec.ofChange Rows.kindsLessSpec) :=
  OpenClaim.holds_of_wide 6 Try.f6 rfl rfl rfl rfl rfl rfl rfl ⟨rfl, rfl, rfl, rfl, rfl⟩ rfl rfl rfl rfl rfl (by kernel_rfl) Try.func6 (by kernel_rfl)
    (of_decide_eq_true (by kernel_rfl)) (by unfold Func.isWrapper; first | (rw [if_pos (by decide +kernel)]; kernel_rfl) | (rw [if_neg (by decide +kernel)]; exact ⟨rfl, rfl⟩))
    (fun os started H enc _ => lifted os started H enc)

/-- The given statement. -/
theorem proved : Rows.KindsLessSaid :=
  over
#print axioms proved
end Go.Proofs.Ytedjmgiblkjonaa.kindsLess
