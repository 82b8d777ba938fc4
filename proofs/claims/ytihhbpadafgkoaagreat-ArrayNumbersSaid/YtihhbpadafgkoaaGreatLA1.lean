/-
  The texts OP, XOPD, XOPS, ST1, ST2, ST, XGR, LL2, XLN as one.
-/
import Derived.Test.YtihhbpadafgkoaaGreatAA
import Derived.ProofKit
import Derived.Carry
import Derived.Deep.Slices
import Derived.Deep.Fields
import Derived.Deep.Grids
import Derived.Test.YtihhbpadafgkoaaGreatST0
import Derived.Test.YtihhbpadafgkoaaGreatAB
import Derived.Deep.CutBlock
import Derived.Deep.CutRange
import Derived.Test.YtihhbpadafgkoaaGreatSI
import Derived.Test.YtihhbpadafgkoaaGreatRF4
import Derived.Test.YtihhbpadafgkoaaGreatAWK

/-
  Arguments, opened.
-/
namespace Go.Proofs.YtihhbpadafgkoaaGreat
open Go.ChangeShapes Go.WideShapes Go.ChangeAt Go.RowKit Go.Deep
set_option linter.unusedVariables false

theorem i64_of_wf {n : Int} (h : (Lit.int .i64 n).wf = true) : -9223372036854775808 ≤ n ∧ n ≤ 9223372036854775807 := by
  simp [Lit.wf, IntKind.min, IntKind.max, IntKind.bits, IntKind.signed] at h
  exact ⟨h.1, by omega⟩
section
variable {H : Type} {enc : TypeId × Value → H} {W : World}
theorem wf_u8 {n : Int} (h : (Lit.int .u8 n).wf = true) : (0 ≤ n ∧ n < 256) := by
  simp [Lit.wf, IntKind.min, IntKind.max, IntKind.bits, IntKind.signed] at h
  exact ⟨h.1, by omega⟩
/-- All that a datum holds is within the machine's reach. -/
def Szd (t : TypeId) (d : DataW H) : Prop := ∀ n ∈ d.weights Tryz.prog t, n ≤ reachBytes
theorem Szd.elems {t e : TypeId} (ht : Tryz.prog.underlying t = some (.slice e)) {es sp : List (DataW H)} (h : Szd t (.slice es sp)) : (es.length + sp.length) * Tryz.prog.bytesOf e ≤ reachBytes ∧ ∀ d ∈ es, Szd e d := by
  have hall : ∀ (l : List (DataW H)) d, d ∈ l → ∀ n ∈ d.weights Tryz.prog e, n ∈ DataW.weightsAll Tryz.prog e l := by
    intro l
    induction l with
    | nil => intro d hd; cases hd
    | cons x r ih =>
      intro d hd n hn
      simp only [DataW.weightsAll, List.mem_append]
      rcases List.mem_cons.1 hd with rfl | hd
      · exact .inl hn
      · exact .inr (ih d hd n hn)
  refine ⟨h _ (by simp [DataW.weights, ht]), fun d hd n hn => h n ?_⟩
  simp only [DataW.weights, ht, List.mem_cons, List.mem_append]
  exact .inr (.inl (hall es d hd n hn))
/-- A row of elements, each of which can be opened. -/
theorem view_rows {α : Type} {t e : TypeId} {sz : Nat} (ht : Tryz.prog.underlying t = some (.slice e)) (hce : Tryz.prog.cellsOf e = sz) (hsz : 0 < sz) (cf : α → List Value) (hcf : ∀ a, (cf a).length = sz) (P : α → Prop)
    (view : ∀ {fuel : Nat} {cs : List Value} {x : DataW H × List MemPlace}, Szd e x.1 → DataW.trod enc Tryz.prog W 0 (fun _ => true) true fuel e cs = some x → ∃ a, P a ∧ cs = cf a)
    {fuel : Nat} {cs : List Value} {x : DataW H × List MemPlace} (hx0 : Szd t x.1) (hf : DataW.trod enc Tryz.prog W 0 (fun _ => true) true fuel t cs = some x) :
    ∃ (A : Option Addr) (c : Nat) (l : List α), cs = [.slice A l.length c] ∧ Rd W W.heap.size sz A l.length (l.flatMap cf) ∧ (∀ a ∈ l, P a) ∧ l.length ≤ c ∧ c ≤ maxLen ∧ c * Tryz.prog.bytesOf e ≤ reachBytes := by
  rcases open_slice ht hf with ⟨hcs, hx⟩ | ⟨a, n, c, m, k, D, Pl, hcs, _, hl, hm, hmm, hx, hi⟩
  · exact ⟨none, 0, [], hcs, ⟨by simp, fun h => absurd h (by simp)⟩, by simp, by simp, by simp [maxLen], by simp⟩
  · simp only [if_true] at hmm
    subst hmm
    rw [hce] at hi
    subst hx
    obtain ⟨hw, hwe⟩ := Szd.elems ht hx0
    have hw2 : m * Tryz.prog.bytesOf e ≤ reachBytes := by
      have e1 : ((List.range n).map D).length + ((List.range (m - n)).map fun j => D (n + j)).length = m := by simp; omega
      rwa [e1] at hw
    have hs : ∀ i, i < n → ∃ s : α, P s ∧ ∀ j u, (cf s)[j]? = some u → W.cell? (a.add (i * sz + j)) = some u := by
      intro i hin
      obtain ⟨cs', h1, h2⟩ := hi i (by omega)
      obtain ⟨s, hsf, rfl⟩ := view (x := (D i, Pl i)) (hwe (D i) (List.mem_map.2 ⟨i, List.mem_range.2 hin, rfl⟩)) h2
      obtain ⟨_, hcl, hat⟩ := World.cells?_some h1
      refine ⟨s, hsf, fun j u hj => ?_⟩
      have hlt : j < sz := by have := (List.getElem?_eq_some_iff.1 hj).1; rw [hcf] at this; exact this
      rw [← add_add, hat j hlt, hj]
    clear hw hwe hx0
    have hl2 : ∃ l : List α, l.length = n ∧ ∀ i s, l[i]? = some s → P s ∧ ∀ j u, (cf s)[j]? = some u → W.cell? (a.add (i * sz + j)) = some u := by
      clear hf hi hl hm hcs hw2
      revert hs
      induction n with
      | zero => exact fun _ => ⟨[], rfl, by simp⟩
      | succ n ih =>
        intro hs
        obtain ⟨l, h1, h2⟩ := ih (fun i hi => hs i (by omega))
        obtain ⟨s, h3, h4⟩ := hs n (by omega)
        refine ⟨l ++ [s], by simp [h1], fun i t ht => ?_⟩
        rcases Nat.lt_or_ge i n with hlt | hge
        · rw [List.getElem?_append_left (by omega)] at ht
          exact h2 i t ht
        · have hin : i = n := by
            have := (List.getElem?_eq_some_iff.1 ht).1
            simp [h1] at this
            omega
          subst hin
          rw [List.getElem?_append_right (by omega), h1, Nat.sub_self] at ht
          simp at ht
          subst ht
          exact ⟨h3, h4⟩
    obtain ⟨l, hll, hls⟩ := hl2
    subst hll
    have hc : ∀ j u, (l.flatMap cf)[j]? = some u → W.cell? (a.add j) = some u := by
      intro j u hu
      have e : j = j / sz * sz + j % sz := by have := Nat.div_add_mod j sz; rw [Nat.mul_comm]; omega
      have hmod := Nat.mod_lt j hsz
      rw [e, flat_at cf sz hcf l (j / sz) (j % sz) hmod] at hu
      rw [e]
      rcases hq : l[j / sz]? with _ | s
      · rw [hq] at hu; simp at hu
      · rw [hq] at hu
        exact (hls _ s hq).2 _ u hu
    refine ⟨some a, _, l, hcs, ⟨by rw [flat_length cf sz hcf], fun hn => ⟨a, rfl, ?_, hc⟩⟩, fun s hsm => ?_, hl, hm, hw2⟩
    · obtain ⟨s, _, h4⟩ := hs 0 hn
      have hcl := hcf s
      have h0 : (cf s)[0]? = some ((cf s)[0]'(by omega)) := List.getElem?_eq_getElem _
      have := World.block_lt_of_cell? W _ (h4 0 _ h0)
      rwa [block_add] at this
    · obtain ⟨i, hi'⟩ := List.getElem?_of_mem hsm
      exact (hls i s hi').1
/-- A struct all of whose fields have one cell. -/
theorem view_one {t : TypeId} {fs : Array Field} (ht : Tryz.prog.underlying t = some (.struct fs)) (h1 : oneCellFields Tryz.prog fs = true) (hct : Tryz.prog.cellsOf t = fs.size) {fuel : Nat} {cs : List Value} {x : DataW H × List MemPlace}
    (h : DataW.trod enc Tryz.prog W 0 (fun _ => true) true fuel t cs = some x) :
    cs.length = fs.size ∧ ∃ n, ∀ (j : Nat) (f : Field) (v : Value), fs[j]? = some f → cs[j]? = some v → ∃ y, DataW.trod enc Tryz.prog W 0 (fun _ => true) true n f.type [v] = some y := by
  obtain ⟨ys, n, _, _, hlen, hyl, hf⟩ := DataW.trod_struct ht h
  rw [hct] at hlen
  refine ⟨hlen, n, fun j f v hj hv => ?_⟩
  have hd := hf j f hj
  obtain ⟨h2, h3⟩ := hone_of h1 j _ hj
  rw [h2, h3] at hd
  have hys : ys[j]? = some (ys[j]'(by have := (Array.getElem?_eq_some_iff.1 hj).1; omega)) := List.getElem?_eq_getElem _
  have hcs : (cs.drop j).take 1 = [v] := by
    obtain ⟨hlt, he⟩ := List.getElem?_eq_some_iff.1 hv
    rw [List.drop_eq_getElem_cons hlt, List.take_succ_cons, List.take_zero, he]
  rw [hcs, hys] at hd
  exact ⟨_, hd⟩
/-- The same, by the fields' types. -/
theorem view_by {t : TypeId} {ts : List TypeId} (hst : ∃ fs : Array Field, Tryz.prog.underlying t = some (.struct fs) ∧ oneCellFields Tryz.prog fs = true ∧ Tryz.prog.cellsOf t = fs.size ∧ fs.toList.map (·.type) = ts) {fuel : Nat} {cs : List Value} {x : DataW H × List MemPlace}
    (h : DataW.trod enc Tryz.prog W 0 (fun _ => true) true fuel t cs = some x) : cs.length = ts.length ∧ ∃ n, ∀ (j : Nat) (u : TypeId) (v : Value), ts[j]? = some u → cs[j]? = some v → ∃ y, DataW.trod enc Tryz.prog W 0 (fun _ => true) true n u [v] = some y := by
  obtain ⟨fs, h1, h2, h3, h4⟩ := hst
  obtain ⟨h5, n, h6⟩ := view_one h1 h2 h3 h
  refine ⟨by rw [h5, ← h4]; simp, n, fun j u v hu hv => ?_⟩
  rw [← h4, List.getElem?_map, Array.getElem?_toList] at hu
  cases hf : fs[j]? with
  | none => rw [hf] at hu; cases hu
  | some f =>
    rw [hf] at hu
    simp at hu
    subst hu
    exact h6 j f v hf hv
theorem int_one {k : IntKind} {t : TypeId} (ht : Tryz.prog.underlying t = some (.int k)) {n : Nat} {v : Value} (h : ∃ y, DataW.trod enc Tryz.prog W 0 (fun _ => true) true n t [v] = some y) : ∃ m, v = .int k m ∧ (Lit.int k m).wf = true := by
  obtain ⟨y, h⟩ := h
  obtain ⟨m, hm, _, hw⟩ := DataW.trod_int ht h
  exact ⟨m, by simpa using hm, hw⟩
theorem view_u8 {fuel : Nat} {cs : List Value} {x : DataW H × List MemPlace} (_ : Szd 5 x.1) (h : DataW.trod enc Tryz.prog W 0 (fun _ => true) true fuel 5 cs = some x) : ∃ m : Int, (0 ≤ m ∧ m < 256) ∧ cs = [.int .u8 m] := by
  obtain ⟨m, hm, _, hw⟩ := DataW.trod_int Tryz.underlying5 h
  exact ⟨m, wf_u8 hw, hm⟩
theorem cells5 : Tryz.prog.cellsOf 5 = 1 := by kernel_rfl
theorem cells31 : Tryz.prog.cellsOf 34 = 1 := by kernel_rfl
theorem u8s_flat (l : List Int) : l.flatMap (fun m => [Value.int .u8 m]) = u8s l := by
  unfold u8s
  induction l with
  | nil => rfl
  | cons m l ih => simp [ih]
/-- A row of bytes that came in. -/
def ARow.Is (W : World) (r : ARow) : Prop := Rd W W.heap.size 1 r.A r.n (u8s r.bs) ∧ (r.A = none → r.n = 0) ∧ r.n ≤ r.c ∧ r.c ≤ 140737488351232 ∧ ∀ b ∈ r.bs, IsByte b
theorem bytes5 : Tryz.prog.bytesOf 5 = 1 := by kernel_rfl
theorem bytes31 : Tryz.prog.bytesOf 34 = 24 := by kernel_rfl
theorem view_bytes {fuel : Nat} {cs : List Value} {x : DataW H × List MemPlace} (hx : Szd 34 x.1) (h : DataW.trod enc Tryz.prog W 0 (fun _ => true) true fuel 34 cs = some x) : ∃ r : ARow, r.Is W ∧ cs = [r.sl] := by
  obtain ⟨A, c, l, hcs, hr, hl, h1, h2, h3⟩ := view_rows (P := fun m => 0 ≤ m ∧ m < 256) Tryz.underlying34 cells5 (by decide) (fun m : Int => [Value.int .u8 m]) (fun _ => rfl) view_u8 hx h
  rw [bytes5] at h3
  have h4 : c ≤ 140737488351232 := by simp only [reachBytes] at h3; omega
  rw [u8s_flat] at hr
  refine ⟨⟨A, l.length, c, l⟩, ⟨hr, fun h => ?_, h1, h4, hl⟩, hcs⟩
  rcases Nat.eq_zero_or_pos l.length with h0 | h0
  · exact h0
  · obtain ⟨ad, e, _⟩ := hr.2 h0
    rw [show A = none from h] at e
    cases e
theorem sl_flat (l : List ARow) : l.flatMap (fun r => [r.sl]) = l.map ARow.sl := by
  induction l with
  | nil => rfl
  | cons m l ih => simp [ih]
theorem view_rowsB {fuel : Nat} {cs : List Value} {x : DataW H × List MemPlace} (hx : Szd 56 x.1) (h : DataW.trod enc Tryz.prog W 0 (fun _ => true) true fuel 56 cs = some x) :
    ∃ (A : Option Addr) (m c : Nat) (rs : List ARow), cs = [.slice A m c] ∧ ARows W W.heap.size A m rs ∧ m ≤ c ∧ c ≤ 140737488351232 := by
  obtain ⟨A, c, l, hcs, hr, hl, h1, h2, h3⟩ := view_rows (P := fun r : ARow => r.Is W) Tryz.underlying56 cells31 (by decide) (fun r : ARow => [r.sl]) (fun _ => rfl) view_bytes hx h
  rw [bytes31] at h3
  have h4 : c ≤ 140737488351232 := by simp only [reachBytes] at h3; omega
  rw [sl_flat] at hr
  refine ⟨A, l.length, c, l, hcs, ⟨hr, fun r hrm => ?_⟩, h1, h4⟩
  obtain ⟨g1, g2, g3, g4, _⟩ := hl r hrm
  exact ⟨g1, g2, by omega⟩
end
end Go.Proofs.YtihhbpadafgkoaaGreat

/-
  A deed that came in is opened.
-/
namespace Go.Proofs.YtihhbpadafgkoaaGreat
open Go.ChangeShapes Go.WideShapes Go.ChangeAt Go.RowKit Go.Deep
set_option linter.unusedVariables false
structure ADo where
  what : Int
  k : ARow
  v : ARow
  fl : Int
  pl : Int
  of : Int
def ADo.cells (d : ADo) : List Value := [.int .i64 d.what, .slice d.k.A d.k.n d.k.c, .slice d.v.A d.v.n d.v.c, .int .u64 d.fl, .int .i64 d.pl, .int .i64 d.of]
def I64 (n : Int) : Prop := -9223372036854775808 ≤ n ∧ n ≤ 9223372036854775807
/-- A row of bytes that came in, below block B. -/
structure InB (w : World) (B : Nat) (r : ARow) : Prop where
  rd : Rd w B 1 r.A r.n (u8s r.bs)
  nil : r.A = none → r.n = 0
  le : r.n ≤ r.c
  cap : r.c ≤ 140737488351232
  byte : ∀ b ∈ r.bs, IsByte b
theorem InB.below {w w' : World} {B : Nat} {r : ARow} (h : InB w B r) (hb : Below B w w') : InB w' B r := ⟨h.rd.below hb, h.nil, h.le, h.cap, h.byte⟩
structure ADo.Is (w : World) (B : Nat) (d : ADo) : Prop where
  k : InB w B d.k
  v : InB w B d.v
  what : I64 d.what
  fl : 0 ≤ d.fl ∧ d.fl < 18446744073709551616
  pl : I64 d.pl
  of : I64 d.of
theorem ADo.Is.below {w w' : World} {B : Nat} {d : ADo} (h : d.Is w B) (hb : Below B w w') : d.Is w' B := ⟨h.k.below hb, h.v.below hb, h.what, h.fl, h.pl, h.of⟩
theorem u64_of_wf {n : Int} (h : (Lit.int .u64 n).wf = true) : 0 ≤ n ∧ n < 18446744073709551616 := by
  simp [Lit.wf, IntKind.min, IntKind.max, IntKind.bits, IntKind.signed] at h
  exact ⟨h.1, by omega⟩
section
variable {H : Type} {enc : TypeId × Value → H} {W : World}
theorem each_part (P : Program) : ∀ (ts : List TypeId) (ds : List (DataW H)) (j : Nat) (t : TypeId) (d : DataW H), ts[j]? = some t → ds[j]? = some d → ∀ n ∈ d.weights P t, n ∈ DataW.weightsEach P ts ds := by
  intro ts
  induction ts with
  | nil => intro ds j t d h; simp at h
  | cons t0 ts ih =>
    intro ds j t d ht hd n hn
    cases ds with
    | nil => simp at hd
    | cons d0 ds =>
      simp only [DataW.weightsEach, List.mem_append]
      cases j with
      | zero =>
        simp at ht hd
        subst ht hd
        exact .inl hn
      | succ j => exact .inr (ih ds j t d (by simpa using ht) (by simpa using hd) n hn)
theorem view_sized {t : TypeId} {ts : List TypeId} (hst : ∃ fs : Array Field, Tryz.prog.underlying t = some (.struct fs) ∧ oneCellFields Tryz.prog fs = true ∧ Tryz.prog.cellsOf t = fs.size ∧ fs.toList.map (·.type) = ts) {fuel : Nat} {cs : List Value} {x : DataW H × List MemPlace}
    (hx : Szd t x.1) (h : DataW.trod enc Tryz.prog W 0 (fun _ => true) true fuel t cs = some x) : cs.length = ts.length ∧ ∃ n, ∀ (j : Nat) (u : TypeId) (v : Value), ts[j]? = some u → cs[j]? = some v → ∃ y, Szd u y.1 ∧ DataW.trod enc Tryz.prog W 0 (fun _ => true) true n u [v] = some y := by
  obtain ⟨fs, ht, h1, hct, h4⟩ := hst
  obtain ⟨ys, n, _, hxy, hlen, hyl, hf⟩ := DataW.trod_struct ht h
  subst hxy
  rw [hct] at hlen
  subst h4
  refine ⟨by rw [hlen]; simp, n, fun j u v hu hv => ?_⟩
  rw [List.getElem?_map, Array.getElem?_toList] at hu
  cases hfj : fs[j]? with
  | none => rw [hfj] at hu; cases hu
  | some f =>
    rw [hfj] at hu
    simp at hu
    subst hu
    have hd := hf j f hfj
    obtain ⟨h2, h3⟩ := hone_of h1 j _ hfj
    rw [h2, h3] at hd
    have hys : ys[j]? = some (ys[j]'(by have := (Array.getElem?_eq_some_iff.1 hfj).1; omega)) := List.getElem?_eq_getElem _
    have hcs : (cs.drop j).take 1 = [v] := by
      obtain ⟨hlt, he⟩ := List.getElem?_eq_some_iff.1 hv
      rw [List.drop_eq_getElem_cons hlt, List.take_succ_cons, List.take_zero, he]
    rw [hcs, hys] at hd
    refine ⟨_, fun m hm => hx m ?_, hd⟩
    simp only [DataW.weights, ht]
    exact each_part Tryz.prog _ _ j f.type _ (by rw [List.getElem?_map, Array.getElem?_toList, hfj]; rfl) (by rw [List.getElem?_map, hys]; rfl) m hm
theorem do_struct : ∃ fs : Array Field, Tryz.prog.underlying 37 = some (.struct fs) ∧ oneCellFields Tryz.prog fs = true ∧ Tryz.prog.cellsOf 37 = fs.size ∧ fs.toList.map (·.type) = [3, 34, 34, 35, 3, 3] := ⟨_, Tryz.underlying37, by kernel_rfl, by kernel_rfl, by kernel_rfl⟩
theorem int_of {k : IntKind} {t : TypeId} (ht : Tryz.prog.underlying t = some (.int k)) {n : Nat} {v : Value} (h : ∃ y : DataW H × List MemPlace, Szd t y.1 ∧ DataW.trod enc Tryz.prog W 0 (fun _ => true) true n t [v] = some y) : ∃ m, v = .int k m ∧ (Lit.int k m).wf = true := by
  obtain ⟨y, _, h⟩ := h
  exact int_one ht ⟨y, h⟩
theorem inB_of {r : ARow} (h : r.Is W) : InB W W.heap.size r := ⟨h.1, h.2.1, h.2.2.1, h.2.2.2.1, fun b hb => h.2.2.2.2 b hb⟩
theorem view_do {fuel : Nat} {cs : List Value} {x : DataW H × List MemPlace} (hx : Szd 37 x.1) (h : DataW.trod enc Tryz.prog W 0 (fun _ => true) true fuel 37 cs = some x) : ∃ d : ADo, d.Is W W.heap.size ∧ cs = d.cells := by
  obtain ⟨hl, n, hf⟩ := view_sized do_struct hx h
  match cs, hl with
  | [v0, v1, v2, v3, v4, v5], _ =>
    obtain ⟨m0, rfl, w0⟩ := int_of Tryz.underlying3 (hf 0 3 v0 rfl rfl)
    obtain ⟨y1, hy1, h1⟩ := hf 1 34 v1 rfl rfl
    obtain ⟨r1, hr1, hc1⟩ := view_bytes hy1 h1
    obtain ⟨y2, hy2, h2⟩ := hf 2 34 v2 rfl rfl
    obtain ⟨r2, hr2, hc2⟩ := view_bytes hy2 h2
    obtain ⟨m3, rfl, w3⟩ := int_of Tryz.underlying35 (hf 3 35 v3 rfl rfl)
    obtain ⟨m4, rfl, w4⟩ := int_of Tryz.underlying3 (hf 4 3 v4 rfl rfl)
    obtain ⟨m5, rfl, w5⟩ := int_of Tryz.underlying3 (hf 5 3 v5 rfl rfl)
    simp at hc1 hc2
    subst hc1 hc2
    exact ⟨⟨m0, r1, r2, m3, m4, m5⟩, ⟨inB_of hr1, inB_of hr2, i64_of_wf w0, u64_of_wf w3, i64_of_wf w4, i64_of_wf w5⟩, rfl⟩
end
end Go.Proofs.YtihhbpadafgkoaaGreat

/-
  Deeds that came in.
-/
namespace Go.Proofs.YtihhbpadafgkoaaGreat
open Go.ChangeShapes Go.WideShapes Go.ChangeAt Go.RowKit Go.Deep
set_option linter.unusedVariables false
/-- Deeds that came in. -/
structure ADos (w : World) (B : Nat) (A : Option Addr) (m : Nat) (ds : List ADo) : Prop where
  outer : Rd w B 6 A m (ds.flatMap ADo.cells)
  inner : ∀ d ∈ ds, d.Is w B
theorem ADos.below {w w' : World} {B : Nat} {A : Option Addr} {m : Nat} {ds : List ADo} (h : ADos w B A m ds) (hb : Below B w w') : ADos w' B A m ds :=
  ⟨h.outer.below hb, fun d hd => (h.inner d hd).below hb⟩
theorem ADos.len {w : World} {B : Nat} {A : Option Addr} {m : Nat} {ds : List ADo} (h : ADos w B A m ds) : ds.length = m := by
  have h1 := h.outer.1
  rw [flat_length ADo.cells 6 (fun _ => rfl)] at h1
  omega
theorem ADos.cell {w : World} {B : Nat} {A : Option Addr} {m j : Nat} {ds : List ADo} (h : ADos w B A m ds) (hj : j < m) : ∃ ad d, A = some ad ∧ ds[j]? = some d ∧ ad.block < B ∧
    ∀ t u, d.cells[t]? = some u → w.cell? (ad.add (j * 6 + t)) = some u := by
  obtain ⟨ad, e, hb, hc⟩ := h.outer.2 (by omega)
  have hl := h.len
  have hr : ds[j]? = some ds[j] := List.getElem?_eq_getElem (by omega)
  refine ⟨ad, ds[j], e, hr, hb, fun t u hu => hc _ u ?_⟩
  have ht : t < 6 := by
    have := (List.getElem?_eq_some_iff.1 hu).1
    simpa [ADo.cells] using this
  rw [flat_at ADo.cells 6 (fun _ => rfl) ds j t ht, hr]
  exact hu
section
variable {H : Type} {enc : TypeId × Value → H} {W : World}
theorem cellsDo : Tryz.prog.cellsOf 37 = 6 := by kernel_rfl
theorem bytesDo : Tryz.prog.bytesOf 37 = 80 := by kernel_rfl
theorem view_dos {fuel : Nat} {cs : List Value} {x : DataW H × List MemPlace} (hx : Szd 33 x.1) (h : DataW.trod enc Tryz.prog W 0 (fun _ => true) true fuel 33 cs = some x) :
    ∃ (A : Option Addr) (m c : Nat) (ds : List ADo), cs = [.slice A m c] ∧ ADos W W.heap.size A m ds ∧ m ≤ c ∧ c ≤ 140737488351232 := by
  obtain ⟨A, c, l, hcs, hr, hl, h1, h2, h3⟩ := view_rows (P := fun d : ADo => d.Is W W.heap.size) Tryz.underlying33 cellsDo (by decide) ADo.cells (fun _ => rfl) view_do hx h
  rw [bytesDo] at h3
  have h4 : c ≤ 140737488351232 := by simp only [reachBytes] at h3; omega
  exact ⟨A, l.length, c, l, hcs, ⟨hr, hl⟩, h1, h4⟩
end
end Go.Proofs.YtihhbpadafgkoaaGreat

/-
  One array's call is done, then the other's: what stands.
-/
namespace Go.Proofs.YtihhbpadafgkoaaGreat
open Go.RowKit
set_option linter.unusedVariables false

/-- What stands beside a deed's step: both arrays, each before or behind its call, and the step's own. -/
structure Two (w0 : World) (b cb sz x rc : Nat) (RA : Option Addr) (L LU : List AR) (bx : Nat) (cs : Array Value) (ga n1 : Nat) (x1 : List Value) (gb n2 : Nat) (x2 : List Value) (pa pr : Bool) (W : World) : Prop where
  a : Arr W w0.heap.size b cb sz (if pa = true then LU else L)
  r : RArr W w0.heap.size x sz L.length RA rc (flat (if pr = true then LU else L))
  below : Below w0.heap.size w0 W
  fr : Fr W bx cs ga n1 x1 gb n2 x2
  sep : ∀ g, OfA b cb sz L g → ¬ OfR x (.slice RA (sz * L.length) rc) g
  sub : ∀ g, OfA b cb sz LU g → OfA b cb sz L g
  off : ∀ g, OfA b cb sz L g ∨ OfR x (.slice RA (sz * L.length) rc) g → g ≠ bx ∧ g ≠ ga ∧ g ≠ gb
section
variable {w0 : World} {b cb sz x rc : Nat} {RA : Option Addr} {L LU : List AR} {bx : Nat} {cs : Array Value} {ga n1 : Nat} {x1 : List Value} {gb n2 : Nat} {x2 : List Value} {pa pr : Bool} {W W' : World}
theorem Two.later (h : Two w0 b cb sz x rc RA L LU bx cs ga n1 x1 gb n2 x2 pa pr W) (hb : Below W.heap.size W W') : Two w0 b cb sz x rc RA L LU bx cs ga n1 x1 gb n2 x2 pa pr W' :=
  ⟨h.a.below hb, h.r.below hb, h.below.trans (hb.mono h.below.size), h.fr.below hb, h.sep, h.sub, h.off⟩
theorem Two.one (h : Two w0 b cb sz x rc RA L LU bx cs ga n1 x1 gb n2 x2 false pr W) (ha : Arr W' w0.heap.size b cb sz LU) (hk : Kept (fun g => ¬ OfA b cb sz L g) W W') : Two w0 b cb sz x rc RA L LU bx cs ga n1 x1 gb n2 x2 true pr W' := by
  refine ⟨by rw [if_pos rfl]; exact ha, h.r.kept hk (fun g hg hc => h.sep g hc hg), h.below.trans (hk.to_below (fun g hg hc => ?_) h.below.size), h.fr.kept hk (fun hc => (h.off _ (.inl hc)).1 rfl) (fun hc => (h.off _ (.inl hc)).2.1 rfl) (fun hc => (h.off _ (.inl hc)).2.2 rfl), h.sep, h.sub, h.off⟩
  have ha := h.a
  rw [if_neg Bool.false_ne_true] at ha
  have := ha.low g hc
  omega
theorem Two.two (h : Two w0 b cb sz x rc RA L LU bx cs ga n1 x1 gb n2 x2 pa false W) (ha : RArr W' w0.heap.size x sz L.length RA rc (flat LU)) (hk : Kept (fun g => ¬ OfR x (.slice RA (sz * L.length) rc) g) W W') : Two w0 b cb sz x rc RA L LU bx cs ga n1 x1 gb n2 x2 pa true W' := by
  refine ⟨h.a.kept hk (fun g hg hc => h.sep g ?_ hc), by rw [if_pos rfl]; exact ha, h.below.trans (hk.to_below (fun g hg hc => ?_) h.below.size), h.fr.kept hk (fun hc => (h.off _ (.inr hc)).1 rfl) (fun hc => (h.off _ (.inr hc)).2.1 rfl) (fun hc => (h.off _ (.inr hc)).2.2 rfl), h.sep, h.sub, h.off⟩
  · split at hg
    · exact h.sub g hg
    · exact hg
  · have := h.r.low g hc
    omega
theorem Two.start (h : Both w0 W b cb sz L x rc RA) (hf : Fr W bx cs ga n1 x1 gb n2 x2) (hs : ∀ g, OfA b cb sz LU g → OfA b cb sz L g) (ho : ∀ g, OfA b cb sz L g ∨ OfR x (.slice RA (sz * L.length) rc) g → g ≠ bx ∧ g ≠ ga ∧ g ≠ gb) : Two w0 b cb sz x rc RA L LU bx cs ga n1 x1 gb n2 x2 false false W :=
  ⟨by rw [if_neg Bool.false_ne_true]; exact h.a, by rw [if_neg Bool.false_ne_true]; exact h.r, h.below, hf, h.sep, hs, ho⟩
theorem Two.done (h : Two w0 b cb sz x rc RA L LU bx cs ga n1 x1 gb n2 x2 true true W) (hl : LU.length = L.length) : Both w0 W b cb sz LU x rc RA := by
  have h1 := h.a
  have h2 := h.r
  rw [if_pos rfl] at h1 h2
  refine ⟨h1, ?_, fun g hg => ?_, h.below⟩
  · rw [hl]; exact h2
  · rw [hl]; exact h.sep g (h.sub g hg)
theorem Two.flags {pa' pr' : Bool} (h : Two w0 b cb sz x rc RA L LU bx cs ga n1 x1 gb n2 x2 pa pr W) (h1 : pa' = pa) (h2 : pr' = pr) : Two w0 b cb sz x rc RA L LU bx cs ga n1 x1 gb n2 x2 pa' pr' W := by
  rw [h1, h2]; exact h
theorem Two.lens (h : Two w0 b cb sz x rc RA L LU bx cs ga n1 x1 gb n2 x2 false pr W) : Arr W w0.heap.size b cb sz L := by
  have h1 := h.a
  rw [if_neg Bool.false_ne_true] at h1
  exact h1
theorem Two.rlens (h : Two w0 b cb sz x rc RA L LU bx cs ga n1 x1 gb n2 x2 pa false W) : RArr W w0.heap.size x sz L.length RA rc (flat L) := by
  have h1 := h.r
  rw [if_neg Bool.false_ne_true] at h1
  exact h1
end
theorem flag_same {L : Nat → Bool} {p i : Nat} (h : i ≠ p) : (L p || p == i) = L p := by
  have : (p == i) = false := by simpa using fun e => h e.symm
  rw [this, Bool.or_false]
theorem flag_now {L : Nat → Bool} {i : Nat} : (L i || i == i) = true := by simp
section
variable {w0 : World} {b cb sz x rc : Nat} {RA : Option Addr} {L LU : List AR} {bx : Nat} {cs : Array Value} {ga n1 : Nat} {x1 : List Value} {gb n2 : Nat} {x2 : List Value} {W W' : World} {p q i : Nat} {D : Nat → Bool}
/-- The same, told by the done operations. -/
def GTwo (w0 : World) (b cb sz x rc : Nat) (RA : Option Addr) (L LU : List AR) (bx : Nat) (cs : Array Value) (ga n1 : Nat) (x1 : List Value) (gb n2 : Nat) (x2 : List Value) (p q : Nat) (D : Nat → Bool) (W : World) : Prop := Two w0 b cb sz x rc RA L LU bx cs ga n1 x1 gb n2 x2 (D p) (D q) W
theorem GTwo.both (h : GTwo w0 b cb sz x rc RA L LU bx cs ga n1 x1 gb n2 x2 p q D W) : Two w0 b cb sz x rc RA L LU bx cs ga n1 x1 gb n2 x2 (D p) (D q) W := h
theorem GTwo.same (h : GTwo w0 b cb sz x rc RA L LU bx cs ga n1 x1 gb n2 x2 p q D W) (h0 : i ≠ p) (h1 : i ≠ q) : GTwo w0 b cb sz x rc RA L LU bx cs ga n1 x1 gb n2 x2 p q (fun j => D j || j == i) W := Two.flags h (flag_same h0) (flag_same h1)
theorem GTwo.fst (h : GTwo w0 b cb sz x rc RA L LU bx cs ga n1 x1 gb n2 x2 p q D W) (hD : D p = false) : Arr W w0.heap.size b cb sz L := (Two.flags h hD.symm rfl).lens
theorem GTwo.snd (h : GTwo w0 b cb sz x rc RA L LU bx cs ga n1 x1 gb n2 x2 p q D W) (hD : D q = false) : RArr W w0.heap.size x sz L.length RA rc (flat L) := (Two.flags h rfl hD.symm).rlens
theorem GTwo.one (h : GTwo w0 b cb sz x rc RA L LU bx cs ga n1 x1 gb n2 x2 p q D W) (hD : D p = false) (hpq : p ≠ q) (ha : Arr W' w0.heap.size b cb sz LU) (hk : Kept (fun g => ¬ OfA b cb sz L g) W W') : GTwo w0 b cb sz x rc RA L LU bx cs ga n1 x1 gb n2 x2 p q (fun j => D j || j == p) W' :=
  ((Two.flags h hD.symm rfl).one ha hk).flags flag_now (flag_same hpq)
theorem GTwo.two (h : GTwo w0 b cb sz x rc RA L LU bx cs ga n1 x1 gb n2 x2 p q D W) (hD : D q = false) (hpq : q ≠ p) (ha : RArr W' w0.heap.size x sz L.length RA rc (flat LU)) (hk : Kept (fun g => ¬ OfR x (.slice RA (sz * L.length) rc) g) W W') : GTwo w0 b cb sz x rc RA L LU bx cs ga n1 x1 gb n2 x2 p q (fun j => D j || j == q) W' :=
  ((Two.flags h rfl hD.symm).two ha hk).flags (flag_same hpq) flag_now
end
theorem updL_sub {b cb sz n : Nat} {L : List AR} {l d : List Int} {k : Nat} {fl : Int} {g : Nat} (h : OfA b cb sz (updL L sz n l k fl d) g) : OfA b cb sz L g := by
  unfold updL at h
  split at h
  · exact h.put
  · exact h
theorem setL_sub {b cb sz : Nat} {L : List AR} {d : List Int} {k : Nat} {i off : Int} {g : Nat} (h : OfA b cb sz (setL L sz i off k d) g) : OfA b cb sz L g := by
  unfold setL at h
  split at h
  · exact h.put
  · exact h
def TUpd (b x bx ga gb : Nat) (er : Int) (d : ADo) (j : Nat) (σ : Nat → Value) (W : World) : Prop :=
  match j with
  | 0 => σ 0 = .pointer (some ⟨b, 0, none⟩)
  | 1 => σ 1 = .slice (some ⟨ga, 0, none⟩) d.k.n (d.k.n + 12)
  | 2 => σ 2 = .slice (some ⟨gb, 0, none⟩) d.v.n (d.v.n + 12)
  | 3 => σ 3 = .pointer (some ⟨bx, 3, none⟩)
  | 4 => σ 4 = .int .u64 d.fl
  | 5 => σ 5 = .int .i64 er
  | 6 => σ 6 = .pointer (some ⟨x, 0, none⟩)
  | 7 => σ 7 = .pointer (some ⟨bx, 1, none⟩)
  | 8 => σ 8 = .slice d.k.A d.k.n d.k.c
  | 9 => σ 9 = .pointer (some ⟨bx, 2, none⟩)
  | 10 => σ 10 = .slice d.v.A d.v.n d.v.c
  | 11 => σ 11 = .pointer (some ⟨bx, 3, none⟩)
  | 12 => σ 12 = .int .u64 d.fl
  | 13 => σ 13 = .int .i64 er
  | 14 => σ 14 = .bool true
  | 15 => σ 15 = .bool true
  | _ => True
theorem TUpd.at {b x bx ga gb : Nat} {er : Int} {d : ADo} {j : Nat} {σ : Nat → Value} {W W' : World} (h : TUpd b x bx ga gb er d j σ W) : TUpd b x bx ga gb er d j σ W' := by
  unfold TUpd at h ⊢
  split at h
  all_goals exact h
def TSet (b x bx ga gb : Nat) (er : Int) (d : ADo) (j : Nat) (σ : Nat → Value) (W : World) : Prop :=
  match j with
  | 0 => σ 0 = .pointer (some ⟨b, 0, none⟩)
  | 1 => σ 1 = .pointer (some ⟨bx, 4, none⟩)
  | 2 => σ 2 = .int .i64 d.pl
  | 3 => σ 3 = .pointer (some ⟨bx, 5, none⟩)
  | 4 => σ 4 = .int .i64 d.of
  | 5 => σ 5 = .slice (some ⟨gb, 0, none⟩) d.v.n (d.v.n + 12)
  | 6 => σ 6 = .int .i64 er
  | 7 => σ 7 = .pointer (some ⟨x, 0, none⟩)
  | 8 => σ 8 = .pointer (some ⟨bx, 4, none⟩)
  | 9 => σ 9 = .int .i64 d.pl
  | 10 => σ 10 = .pointer (some ⟨bx, 5, none⟩)
  | 11 => σ 11 = .int .i64 d.of
  | 12 => σ 12 = .pointer (some ⟨bx, 2, none⟩)
  | 13 => σ 13 = .slice d.v.A d.v.n d.v.c
  | 14 => σ 14 = .int .i64 er
  | 15 => σ 15 = .bool true
  | 16 => σ 16 = .bool true
  | _ => True
theorem TSet.at {b x bx ga gb : Nat} {er : Int} {d : ADo} {j : Nat} {σ : Nat → Value} {W W' : World} (h : TSet b x bx ga gb er d j σ W) : TSet b x bx ga gb er d j σ W' := by
  unfold TSet at h ⊢
  split at h
  all_goals exact h
end Go.Proofs.YtihhbpadafgkoaaGreat

/-
  Two rows that were told lie apart; what Value tells, by both.
-/
namespace Go.Proofs.YtihhbpadafgkoaaGreat
open Go.RowKit
set_option linter.unusedVariables false

theorem rd_of_slice {w : World} {e : TypeId} {sz n c : Nat} {A : Option Addr} {xs : List Value} (h : w.ownsRow 0 e sz (.slice A n c) n xs) : Rd w w.heap.size sz A n xs := by
  obtain ⟨A', c', h1, h2⟩ := owns_slice h
  injection h1 with h1
  subst h1
  exact h2
def duo {α : Type} (a b : α) (i : Nat) : α := if i = 0 then a else b
theorem two_apart {B n0 c0 n1 c1 : Nat} {A0 A1 : Option Addr} {l0 l1 : List Int} {w : World} (h0 : OwnB w B (.slice A0 n0 c0) n0 l0) (h1 : OwnB w B (.slice A1 n1 c1) n1 l1) (hs : ∀ g, (Value.slice A0 n0 c0).ownBlock = some g → (Value.slice A1 n1 c1).ownBlock ≠ some g) (hn0 : n0 ≤ 1000000) (hn1 : n1 ≤ 1000000) (hB : B ≤ w.heap.size) :
    Calls Tryz.prog 55 #[.slice (some ⟨w.heap.size, 0, none⟩) 2 2] (w.alloc (.cells #[.slice A0 n0 c0, .slice A1 n1 c1] 34)) fun e w' => e = .returned (.bool true) ∧ Below B w w' := by
  have hx := World.alloc_heap_new w (.cells #[.slice A0 n0 c0, .slice A1 n1 c1] 34)
  have hb := below1 w (.cells #[.slice A0 n0 c0, .slice A1 n1 c1] 34)
  have hl : (w.alloc (.cells #[.slice A0 n0 c0, .slice A1 n1 c1] 34)).ownsRow 0 34 1 (.slice (some ⟨w.heap.size, 0, none⟩) 2 2) 2 (rowsV (duo A0 A1) (duo n0 n1) (duo c0 c1) 2) := by
    refine ⟨rfl, .inr ⟨_, 2, _, rfl, Nat.zero_le _, hx, Nat.le_refl _, by decide, rfl, rfl⟩⟩
  have hv : ∀ i, i < 2 → ∃ xs, (w.alloc (.cells #[.slice A0 n0 c0, .slice A1 n1 c1] 34)).ownsRow 0 5 1 (rowV (duo A0 A1) (duo n0 n1) (duo c0 c1) i) (duo n0 n1 i) xs := fun i hi => by
    have hi2 : i = 0 ∨ i = 1 := by omega
    rcases hi2 with rfl | rfl
    · exact ⟨_, World.ownsRow.alloc h0.1 _⟩
    · exact ⟨_, World.ownsRow.alloc h1.1 _⟩
  have hsp : Sep 2 (rowV (duo A0 A1) (duo n0 n1) (duo c0 c1)) := fun i j hi hj hij b hb => by
    have hi2 : i = 0 ∧ j = 1 ∨ i = 1 ∧ j = 0 := by omega
    rcases hi2 with ⟨rfl, rfl⟩ | ⟨rfl, rfl⟩
    · exact hs b hb
    · exact fun e => hs b e hb
  refine (apartBytes_any _ 2 (duo A0 A1) (duo n0 n1) (duo c0 c1) _ hl hv hsp (fun i => by unfold duo; split <;> omega) (by decide)).mono ?_
  rintro e w' ⟨h2, hk⟩
  refine ⟨h2, (hb.mono hB).trans (hk.to_below (fun g hg i hi e => ?_) (by simp; omega))⟩
  have hi2 : i = 0 ∨ i = 1 := by omega
  rcases hi2 with rfl | rfl
  · have := h0.2 g e; omega
  · have := h1.2 g e; omega
theorem nil_apart {B : Nat} {w : World} (hB : B ≤ w.heap.size) :
    Calls Tryz.prog 55 #[.slice (some ⟨w.heap.size, 0, none⟩) 2 2] (w.alloc (.cells #[.slice none 0 0, .slice none 0 0] 34)) fun e w' => e = .returned (.bool true) ∧ Below B w w' :=
  two_apart (l0 := []) (l1 := []) ⟨owns_nil w _ 1, fun g hg => by cases hg⟩ ⟨owns_nil w _ 1, fun g hg => by cases hg⟩ (fun g hg => by cases hg) (by decide) (by decide) hB
def valE (n : Nat) (i : Int) : Int := if hasB n i = true then 0 else 6
def valM (n sz : Nat) (i : Int) : Nat := if hasB n i = true then sz else 0
def valL (n : Nat) (i : Int) (l : List Int) : List Int := if hasB n i = true then l else []
theorem valM_le (n sz : Nat) (i : Int) : valM n sz i ≤ sz := by unfold valM; split <;> omega
/-- What Value tells, whatever is asked. -/
def ValAny (n sz : Nat) (i : Int) (l : List Int) (w : World) (e : Ending) (w' : World) : Prop := ∃ A m c er, e = .returned (.tuple #[.slice A m c, .int .i64 er]) ∧ er = valE n i ∧ m = valM n sz i ∧ OwnB w' w.heap.size (.slice A m c) m (valL n i l) ∧ Below w.heap.size w w'
theorem hasB_yes {n : Nat} {i : Int} (h : hasB n i = true) : ∃ k : Nat, i = k ∧ k < n := by
  unfold hasB at h
  simp at h
  exact ⟨i.toNat, by omega, by omega⟩
theorem valAny_told {n sz : Nat} {i : Int} {l : List Int} {w : World} {e : Ending} {w' : World} (hi : hasB n i = true) (h : ValTold sz l w e w') : ValAny n sz i l w e w' := by
  obtain ⟨v, h1, h2, h3⟩ := h
  obtain ⟨A, c, rfl, _⟩ := owns_slice h2.1
  unfold ValAny valE valM valL
  exact ⟨A, sz, c, 0, h1, by rw [if_pos hi], by rw [if_pos hi], by rw [if_pos hi]; exact h2, h3⟩
theorem valAny_no {n sz : Nat} {i : Int} {l : List Int} {w : World} {e : Ending} {w' : World} (hi : hasB n i = false) (h1 : e = .returned (.tuple #[.slice none 0 0, .int .i64 6])) (h3 : Below w.heap.size w w') : ValAny n sz i l w e w' := by
  have hn : ¬ hasB n i = true := by simp [hi]
  unfold ValAny valE valM valL
  exact ⟨none, 0, 0, 6, h1, by rw [if_neg hn], by rw [if_neg hn], by rw [if_neg hn]; exact ⟨owns_nil w' _ 1, fun g hg => by cases hg⟩, h3⟩
theorem value_any {B b cb sz : Nat} {L : List AR} {i : Int} {w : World} (h : Arr w B b cb sz L) :
    Calls Tryz.prog 33 #[.pointer (some ⟨b, 0, none⟩), .int .i64 i] w (ValAny L.length sz i ((flat L).drop (i.toNat * sz) |>.take sz) w) := by
  cases hi : hasB L.length i with
  | false => exact (value_no B b cb sz L i w h hi).mono (fun e w' ⟨h1, h2⟩ => valAny_no hi h1 h2)
  | true =>
    obtain ⟨k, rfl, hk⟩ := hasB_yes hi
    have hr := List.getElem?_eq_getElem hk
    have hf := flat_row (fun r hr => by obtain ⟨j, hj⟩ := List.mem_iff_getElem?.1 hr; exact h.len hj) hr
    refine (value_yes B b cb sz k L L[k] w h hr).mono (fun e w' h1 => valAny_told hi ?_)
    simp only [Int.toNat_natCast]
    rw [hf]
    exact h1
theorem rvalue_any {B x sz rc : Nat} {RA : Option Addr} {L : List AR} {i : Int} {w : World} (h : RArr w B x sz L.length RA rc (flat L)) :
    Calls Tryz.prog 34 #[.pointer (some ⟨x, 0, none⟩), .int .i64 i] w (ValAny L.length sz i ((flat L).drop (i.toNat * sz) |>.take sz) w) := by
  cases hi : hasB L.length i with
  | false => exact (rvalue_no B x sz L.length rc RA (flat L) i w h hi).mono (fun e w' ⟨h1, h2⟩ => valAny_no hi h1 h2)
  | true =>
    obtain ⟨k, rfl, hk⟩ := hasB_yes hi
    exact (rvalue_yes B x sz L.length rc k RA (flat L) w h hk).mono (fun e w' h1 => valAny_told hi h1)
end Go.Proofs.YtihhbpadafgkoaaGreat

/-
  One deed, by the program and by the document.
-/
namespace Go.Proofs.YtihhbpadafgkoaaGreat
open Go.RowKit Go.Maps
set_option linter.unusedVariables false

theorem upd_self (σ : Nat → Value) (i : Nat) (v : Value) : upd σ i v i = v := by simp [upd]
theorem upd_other (σ : Nat → Value) {i j : Nat} {v : Value} (h : j ≠ i) : upd σ i v j = σ j := by simp [upd, h]
/-- A lent row of n bytes, made since the heap had S blocks. -/
def LentR (S n : Nat) (l : List Int) (v : Value) (W : World) : Prop := ∃ g, v = .slice (some ⟨g, 0, none⟩) n (n + 12) ∧ S ≤ g ∧ Row W g (n + 12) 5 1 (n + 12) (u8s l ++ marks (mkB 1) 12)
theorem LentR.below {S n : Nat} {l : List Int} {v : Value} {W W' : World} (h : LentR S n l v W) (hb : Below W.heap.size W W') : LentR S n l v W' := by
  obtain ⟨g, h1, h2, h3⟩ := h
  exact ⟨g, h1, h2, owns_kept_below h3 hb⟩
def TLent (bx S : Nat) (d : ADo) (j : Nat) (σ : Nat → Value) (W : World) : Prop :=
  match j with
  | 0 => σ 0 = .pointer (some ⟨bx, 1, none⟩)
  | 1 => σ 1 = .slice d.k.A d.k.n d.k.c
  | 2 => LentR S d.k.n d.k.bs (σ 2) W
  | 3 => σ 3 = .pointer (some ⟨bx, 2, none⟩)
  | 4 => σ 4 = .slice d.v.A d.v.n d.v.c
  | 5 => LentR S d.v.n d.v.bs (σ 5) W
  | 6 => LentR S d.k.n d.k.bs (σ 6) W
  | 7 => LentR S d.v.n d.v.bs (σ 7) W
  | _ => True
theorem TLent.below {bx S : Nat} {d : ADo} {j : Nat} {σ : Nat → Value} {W W' : World} (h : TLent bx S d j σ W) (hb : Below W.heap.size W W') : TLent bx S d j σ W' := by
  unfold TLent at h ⊢
  split at h
  all_goals first
    | exact h
    | exact h.below hb
/-- The two rows lie apart. -/
def GLent (w1 : World) (L : Nat → Bool) (σ : Nat → Value) (W : World) : Prop :=
  Below w1.heap.size w1 W ∧ (L 2 = true → L 5 = true → (σ 2).ownBlock ≠ (σ 5).ownBlock) ∧ (L 6 = true → σ 6 = σ 2) ∧ (L 7 = true → σ 7 = σ 5)
/-- What a step tells. -/
def StepTold (w0 : World) (b cb sz : Nat) (L : List AR) (x rc : Nat) (RA : Option Addr) (e : Ending) (w' : World) : Prop := e = .returned (.bool true) ∧ ∃ L', L'.length = L.length ∧ Both w0 w' b cb sz L' x rc RA
set_option maxRecDepth 100000 in
set_option maxHeartbeats 8000000 in
theorem step_any (w0 w : World) (b cb sz x rc : Nat) (L : List AR) (RA : Option Addr) (d : ADo) (hB : Both w0 w b cb sz L x rc RA) (hd : d.Is w0 w0.heap.size) (hk : d.k.n ≤ 20000) (hv : d.v.n ≤ 20000) :
    Calls Tryz.prog 32 #[.pointer (some ⟨b, 0, none⟩), .pointer (some ⟨x, 0, none⟩), .agg #[.int .i64 d.what, .slice d.k.A d.k.n d.k.c, .slice d.v.A d.v.n d.v.c, .int .u64 d.fl, .int .i64 d.pl, .int .i64 d.of]] w (StepTold w0 b cb sz L x rc RA) := by
  have hx := World.alloc_heap_new w (.cells #[.int .i64 d.what, .slice d.k.A d.k.n d.k.c, .slice d.v.A d.v.n d.v.c, .int .u64 d.fl, .int .i64 d.pl, .int .i64 d.of] 37)
  have hb1 := below1 w (.cells #[.int .i64 d.what, .slice d.k.A d.k.n d.k.c, .slice d.v.A d.v.n d.v.c, .int .u64 d.fl, .int .i64 d.pl, .int .i64 d.of] 37)
  have HBo := hide (hB.later hb1)
  have HX := hide hx
  have HBx := hide hb1
  have HD := hide hd
  have HLt : Hid (∀ g, OfA b cb sz L g ∨ OfR x (.slice RA (sz * L.length) rc) g → g < w.heap.size) := hide (fun g hg => hg.elim (hB.a.lt g) (hB.r.lt g))
  have h0w := hB.below.size
  have hEL : ∀ args (W : World), (callFunc 46 args).run Tryz.prog W = .ok (.enter 46 args) W := by intro args W; kernel_rfl
  clear hx hb1 hB hd
  go_enter Tryz.func32, Tryz.ntmps32
  go_wp2_with fail
  rename_i K hK
  have hz1 : (w.alloc (.cells #[.int .i64 d.what, .slice d.k.A d.k.n d.k.c, .slice d.v.A d.v.n d.v.c, .int .u64 d.fl, .int .i64 d.pl, .int .i64 d.of] 37)).heap.size = w.heap.size + 1 := by simp
  generalize w.alloc (.cells #[.int .i64 d.what, .slice d.k.A d.k.n d.k.c, .slice d.v.A d.v.n d.v.c, .int .u64 d.fl, .int .i64 d.pl, .int .i64 d.of] 37) = W1 at *
  have HB1 := hide HBo.out.below
  refine wp_tells8 (by kernel_rfl) (TLent w.heap.size W1.heap.size d) (GLent W1) (by kernel_rfl) (by kernel_rfl) (by kernel_rfl) (by kernel_rfl) ?_ ?_ ?_ ?_
  · intro q oj σ σ' W hj h hs
    have hi : q < 8 := (Array.getElem?_eq_some_iff.1 hj).1
    have h0 := hs q (.inl rfl)
    have hi' : q = 0 ∨ q = 1 ∨ q = 2 ∨ q = 3 ∨ q = 4 ∨ q = 5 ∨ q = 6 ∨ q = 7 := by omega
    rcases hi' with rfl | rfl | rfl | rfl | rfl | rfl | rfl | rfl
    all_goals (simp only [TLent] at h ⊢; rw [h0]; exact h)
  · exact ⟨(Below.refl _ _).drew, fun h => absurd h Bool.false_ne_true, fun h => absurd h Bool.false_ne_true, fun h => absurd h Bool.false_ne_true⟩
  · intro q o ho L a W hi hG hold hT hcl hh
    have hi2 : q < 8 := (Array.getElem?_eq_some_iff.1 ho).1
    have hi' : q = 0 ∨ q = 1 ∨ q = 2 ∨ q = 3 ∨ q = 4 ∨ q = 5 ∨ q = 6 ∨ q = 7 := by omega
    rcases hi' with rfl | rfl | rfl | rfl | rfl | rfl | rfl | rfl
    · cases ho
      refine step8_told (.pointer (some ⟨w.heap.size, 1, none⟩)) ?_ (by decide) ⟨hG.1, fun ha hb => hG.2.1 (by simpa using ha) (by simpa using hb), fun ha => hG.2.2.1 (by simpa using ha), fun ha => hG.2.2.2 (by simpa using ha)⟩ hT rfl
      have e0 : a.eval (.tmp 5) = .pointer (some ⟨w.heap.size, 0, none⟩) := hold 5 (unyet_of (by kernel_rfl))
      generalize a.eval = ev at e0 ⊢
      simp [execOp, go_sem, e0]
    · cases ho
      have k1 : W.cell? ⟨w.heap.size, 1, none⟩ = some (.slice d.k.A d.k.n d.k.c) := (blk_cell ((hG.1.block _ (at_lt HX.out)).trans HX.out) 1).trans rfl
      refine step8_told (.slice d.k.A d.k.n d.k.c) ?_ (by decide) ⟨hG.1, fun ha hb => hG.2.1 (by simpa using ha) (by simpa using hb), fun ha => hG.2.2.1 (by simpa using ha), fun ha => hG.2.2.2 (by simpa using ha)⟩ hT rfl
      have e0 : a.eval (.tmp 20) = .pointer (some ⟨w.heap.size, 1, none⟩) := hT 0 (hh 0 rfl)
      generalize a.eval = ev at e0 ⊢
      simp [execOp, go_sem, e0, k1]
    · cases ho
      obtain ⟨g1, g2, g3, g4⟩ := hG
      have e0 : a.eval (.tmp 21) = .slice d.k.A d.k.n d.k.c := hT 1 (hh 1 rfl)
      have hcall := lentBytes_any d.k.A d.k.n d.k.c w0.heap.size d.k.bs W (HD.out.k.rd.below (HB1.out.trans (g1.mono HB1.out.size))) HD.out.k.nil (Nat.le_trans HB1.out.size g1.size) (by omega)
      refine step8_called (R := fun u W' => LentR W1.heap.size d.k.n d.k.bs u W' ∧ u.ownBlock = some W.heap.size ∧ Below W.heap.size W W') ?_ (by decide) (hcall.mono ?_) ?_
      · have ef : a.eval (.func 46) = .func (.func 46) #[] #[] := rfl
        generalize a.eval = ev at e0 ef ⊢
        simp [execOp, go_sem, e0, ef, hEL]
      · rintro e W' ⟨h1, h2, h3⟩
        exact ⟨_, h1, ⟨W.heap.size, rfl, g1.size, h2⟩, rfl, h3⟩
      · rintro u W' ⟨h1, h2, h3⟩
        refine ⟨⟨g1.trans (h3.mono g1.size), fun ha hb => ?_, fun ha => ?_, fun ha => ?_⟩, fun j hj => (hT j hj).below h3, h1⟩
        · have hl : L 5 = true := by simpa using hb
          obtain ⟨gg, hg1, hg2, hg3⟩ := (show LentR W1.heap.size d.v.n d.v.bs (sl _ a 5) W from hT 5 hl)
          have hlt : gg < W.heap.size := (World.ownsRow.lt hg3 gg rfl).2
          rw [upd_self, upd_other _ (show 5 ≠ 2 by decide), h2, hg1]
          intro hc
          simp [Value.ownBlock] at hc
          omega
        · have hl : L 6 = true := by simpa using ha
          have := hcl 6 _ hl rfl 2 (by kernel_rfl)
          rw [hi] at this; cases this
        · have hl : L 7 = true := by simpa using ha
          have := hcl 7 _ hl rfl 5 (by kernel_rfl)
          exact g4 hl
    · cases ho
      refine step8_told (.pointer (some ⟨w.heap.size, 2, none⟩)) ?_ (by decide) ⟨hG.1, fun ha hb => hG.2.1 (by simpa using ha) (by simpa using hb), fun ha => hG.2.2.1 (by simpa using ha), fun ha => hG.2.2.2 (by simpa using ha)⟩ hT rfl
      have e0 : a.eval (.tmp 5) = .pointer (some ⟨w.heap.size, 0, none⟩) := hold 5 (unyet_of (by kernel_rfl))
      generalize a.eval = ev at e0 ⊢
      simp [execOp, go_sem, e0]
    · cases ho
      have k2 : W.cell? ⟨w.heap.size, 2, none⟩ = some (.slice d.v.A d.v.n d.v.c) := (blk_cell ((hG.1.block _ (at_lt HX.out)).trans HX.out) 2).trans rfl
      refine step8_told (.slice d.v.A d.v.n d.v.c) ?_ (by decide) ⟨hG.1, fun ha hb => hG.2.1 (by simpa using ha) (by simpa using hb), fun ha => hG.2.2.1 (by simpa using ha), fun ha => hG.2.2.2 (by simpa using ha)⟩ hT rfl
      have e0 : a.eval (.tmp 23) = .pointer (some ⟨w.heap.size, 2, none⟩) := hT 3 (hh 3 rfl)
      generalize a.eval = ev at e0 ⊢
      simp [execOp, go_sem, e0, k2]
    · cases ho
      obtain ⟨g1, g2, g3, g4⟩ := hG
      have e0 : a.eval (.tmp 24) = .slice d.v.A d.v.n d.v.c := hT 4 (hh 4 rfl)
      have hcall := lentBytes_any d.v.A d.v.n d.v.c w0.heap.size d.v.bs W (HD.out.v.rd.below (HB1.out.trans (g1.mono HB1.out.size))) HD.out.v.nil (Nat.le_trans HB1.out.size g1.size) (by omega)
      refine step8_called (R := fun u W' => LentR W1.heap.size d.v.n d.v.bs u W' ∧ u.ownBlock = some W.heap.size ∧ Below W.heap.size W W') ?_ (by decide) (hcall.mono ?_) ?_
      · have ef : a.eval (.func 46) = .func (.func 46) #[] #[] := rfl
        generalize a.eval = ev at e0 ef ⊢
        simp [execOp, go_sem, e0, ef, hEL]
      · rintro e W' ⟨h1, h2, h3⟩
        exact ⟨_, h1, ⟨W.heap.size, rfl, g1.size, h2⟩, rfl, h3⟩
      · rintro u W' ⟨h1, h2, h3⟩
        refine ⟨⟨g1.trans (h3.mono g1.size), fun ha hb => ?_, fun ha => ?_, fun ha => ?_⟩, fun j hj => (hT j hj).below h3, h1⟩
        · have hl : L 2 = true := by simpa using ha
          obtain ⟨gg, hg1, hg2, hg3⟩ := (show LentR W1.heap.size d.k.n d.k.bs (sl _ a 2) W from hT 2 hl)
          have hlt : gg < W.heap.size := (World.ownsRow.lt hg3 gg rfl).2
          rw [upd_self, upd_other _ (show 2 ≠ 5 by decide), h2, hg1]
          intro hc
          simp [Value.ownBlock] at hc
          omega
        · have hl : L 6 = true := by simpa using ha
          have := hcl 6 _ hl rfl 2 (by kernel_rfl)
          exact g3 hl
        · have hl : L 7 = true := by simpa using ha
          have := hcl 7 _ hl rfl 5 (by kernel_rfl)
          rw [hi] at this; cases this
    · cases ho
      have hl : LentR W1.heap.size d.k.n d.k.bs (a.eval (.tmp 22)) W := hT 2 (hh 2 rfl)
      refine step8_told (a.eval (.tmp 22)) ?_ (by decide) ⟨hG.1, fun ha hb => hG.2.1 (by simpa using ha) (by simpa using hb), fun ha => rfl, fun ha => hG.2.2.2 (by simpa using ha)⟩ hT hl
      generalize hv : a.eval (.tmp 22) = vv
      generalize a.eval = ev at hv ⊢
      simp [execOp, go_sem, hv]
    · cases ho
      have hl : LentR W1.heap.size d.v.n d.v.bs (a.eval (.tmp 25)) W := hT 5 (hh 5 rfl)
      refine step8_told (a.eval (.tmp 25)) ?_ (by decide) ⟨hG.1, fun ha hb => hG.2.1 (by simpa using ha) (by simpa using hb), fun ha => hG.2.2.1 (by simpa using ha), fun ha => rfl⟩ hT hl
      generalize hv : a.eval (.tmp 25) = vv
      generalize a.eval = ev at hv ⊢
      simp [execOp, go_sem, hv]
  · intro a W hd hs hold hT hG
    obtain ⟨ga, e7, hga, hra⟩ : LentR W1.heap.size d.k.n d.k.bs (a.tmps.getD 7 undef) W := hT 6 (by decide)
    obtain ⟨gb, e8, hgb, hrb⟩ : LentR W1.heap.size d.v.n d.v.bs (a.tmps.getD 8 undef) W := hT 7 (by decide)
    obtain ⟨hBW, hap, h6, h7⟩ := hG
    have hne : ga ≠ gb := by
      have h1 := hap (by decide) (by decide)
      have e1 : a.tmps.getD 7 undef = sl _ a 2 := h6 (by decide)
      have e2 : a.tmps.getD 8 undef = sl _ a 5 := h7 (by decide)
      rw [← e1, ← e2, e7, e8] at h1
      intro e
      exact h1 (by simp [Value.ownBlock, e])
    obtain ⟨f, hf, ha⟩ := act_puts [20, 21, 22, 23, 24, 25, 7, 8] (fun t ht => by
      by_cases h : t ∈ [20, 21, 22, 23, 24, 25, 7, 8]
      · exact h
      · exfalso
        simp [unwritten] at ht
        simp only [List.mem_cons, not_or] at h
        obtain ⟨h0, h1, h2, h3, h4, h5, h6, h7, _⟩ := h
        exact absurd (ht (fun e => h0 e.symm) (fun e => h1 e.symm) (fun e => h2 e.symm) (fun e => h3 e.symm) (fun e => h4 e.symm) (fun e => h5 e.symm) (fun e => h6 e.symm)) (fun e => h7 e.symm)) (fun t ht => by
      have hsz : t < 148 := by
        simp only [List.mem_cons, List.mem_nil_iff, or_false] at ht
        omega
      exact hsz) hd hs hold
    rw [← hf 7] at e7
    rw [← hf 8] at e8
    have HBW := hide (HBo.out.later hBW)
    have HFr := hide (show Fr W w.heap.size #[.int .i64 d.what, .slice d.k.A d.k.n d.k.c, .slice d.v.A d.v.n d.v.c, .int .u64 d.fl, .int .i64 d.pl, .int .i64 d.of] ga d.k.n (u8s d.k.bs ++ marks (mkB 1) 12) gb d.v.n (u8s d.v.bs ++ marks (mkB 1) 12) from ⟨(hBW.block _ (at_lt HX.out)).trans HX.out, hra, hrb⟩)
    have HNe := hide (show (ga ≠ gb ∧ w.heap.size ≠ ga ∧ w.heap.size ≠ gb) ∧ (w0.heap.size ≤ w.heap.size ∧ w.heap.size < ga ∧ w.heap.size < gb) from ⟨⟨hne, by omega, by omega⟩, by omega, by omega, by omega⟩)
    subst ha
    clear hd hs hold hT hf hra hrb hBW hap h6 h7 hne hga hgb HB1 HBx HBo HX hz1
    show K _ _
    refine hK _ _ ?_
    simp only [List.foldl_cons, List.foldl_nil, e7, e8]
    obtain ⟨u20, hu20⟩ : ∃ u, u = f 20 := ⟨_, rfl⟩
    obtain ⟨u21, hu21⟩ : ∃ u, u = f 21 := ⟨_, rfl⟩
    obtain ⟨u22, hu22⟩ : ∃ u, u = f 22 := ⟨_, rfl⟩
    obtain ⟨u23, hu23⟩ : ∃ u, u = f 23 := ⟨_, rfl⟩
    obtain ⟨u24, hu24⟩ : ∃ u, u = f 24 := ⟨_, rfl⟩
    obtain ⟨u25, hu25⟩ : ∃ u, u = f 25 := ⟨_, rfl⟩
    rw [← hu20, ← hu21, ← hu22, ← hu23, ← hu24, ← hu25]
    clear hu20 hu21 hu22 hu23 hu24 hu25 e7 e8
    go_simp
    have k0 : W.cell? ⟨w.heap.size, 0, none⟩ = some (.int .i64 d.what) := (blk_cell HFr.out.box 0).trans rfl
    go_wp2_with fail
    refine (pick_any d.what 5 W (by decide) (by decide) HD.out.what.1 HD.out.what.2).mono ?_
    rintro e w5 ⟨q, hq5, rfl, rfl⟩
    clear k0
    go_upto_block 0 with fail
    have HLK : Hid (d.k.bs.length = d.k.n) := hide (by have := HD.out.k.rd.1; simpa [u8s] using this)
    have HLV : Hid (d.v.bs.length = d.v.n) := hide (by have := HD.out.v.rd.1; simpa [u8s] using this)
    have HLS : Hid (∀ r ∈ L, r.bs.length = sz) := hide (fun r hr => by obtain ⟨i, hi⟩ := List.mem_iff_getElem?.1 hr; exact HBW.out.a.len hi)
    have HOF : Hid (∀ g, OfA b cb sz L g ∨ OfR x (.slice RA (sz * L.length) rc) g → g ≠ w.heap.size ∧ g ≠ ga ∧ g ≠ gb) := hide (fun g hg => by have h1 := HLt.out g hg; have h2 := HNe.out.2; exact ⟨by omega, by omega, by omega⟩)
    have hEU : ∀ args (W : World), (callFunc 36 args).run Tryz.prog W = .ok (.enter 36 args) W := by intro args W; kernel_rfl
    have hEV : ∀ args (W : World), (callFunc 72 args).run Tryz.prog W = .ok (.enter 72 args) W := by intro args W; kernel_rfl
    have hES : ∀ args (W : World), (callFunc 38 args).run Tryz.prog W = .ok (.enter 38 args) W := by intro args W; kernel_rfl
    have hET : ∀ args (W : World), (callFunc 74 args).run Tryz.prog W = .ok (.enter 74 args) W := by intro args W; kernel_rfl
    go_cut [9, 10, 11, 12, 13] from 29 to 93 (fun s9 s10 s11 s12 s13 wc => s9 = .bool true ∧ ∃ L', L'.length = L.length ∧ (∀ g, OfA b cb sz L' g → OfA b cb sz L g) ∧ Both w0 wc b cb sz L' x rc RA ∧ Fr wc w.heap.size #[.int .i64 d.what, .slice d.k.A d.k.n d.k.c, .slice d.v.A d.v.n d.v.c, .int .u64 d.fl, .int .i64 d.pl, .int .i64 d.of] ga d.k.n (u8s d.k.bs ++ marks (mkB 1) 12) gb d.v.n (u8s d.v.bs ++ marks (mkB 1) 12))
    case first =>
      have k1 : W.cell? ⟨w.heap.size, 1, none⟩ = some (.slice d.k.A d.k.n d.k.c) := (blk_cell HFr.out.box 1).trans rfl
      have hq : q = 0 ∨ q = 1 ∨ q = 2 ∨ q = 3 ∨ q = 4 := by omega
      clear hq5
      rcases hq with rfl | rfl | rfl | rfl | rfl
      · skip
        go_wp2_with fail
        rename_i K hK
        refine wp_tells4 (by kernel_rfl) (TUpd b x w.heap.size ga gb (updE L.length sz d.k.n d.k.bs d.v.n d.fl) d) (GTwo w0 b cb sz x rc RA L (updL L sz d.k.n d.k.bs d.v.n d.fl d.v.bs) w.heap.size #[.int .i64 d.what, .slice d.k.A d.k.n d.k.c, .slice d.v.A d.v.n d.v.c, .int .u64 d.fl, .int .i64 d.pl, .int .i64 d.of] ga d.k.n (u8s d.k.bs ++ marks (mkB 1) 12) gb d.v.n (u8s d.v.bs ++ marks (mkB 1) 12) 5 13) (by kernel_rfl) (by kernel_rfl) (by kernel_rfl) (by kernel_rfl) ?_ ?_ ?_ ?_
        · intro q oj σ σ' W hj h hs
          have hi : q < 16 := (Array.getElem?_eq_some_iff.1 hj).1
          have h0 := hs q (.inl rfl)
          have hi' : q = 0 ∨ q = 1 ∨ q = 2 ∨ q = 3 ∨ q = 4 ∨ q = 5 ∨ q = 6 ∨ q = 7 ∨ q = 8 ∨ q = 9 ∨ q = 10 ∨ q = 11 ∨ q = 12 ∨ q = 13 ∨ q = 14 ∨ q = 15 := by omega
          rcases hi' with rfl | rfl | rfl | rfl | rfl | rfl | rfl | rfl | rfl | rfl | rfl | rfl | rfl | rfl | rfl | rfl
          all_goals (simp only [TUpd] at h ⊢; rw [h0]; exact h)
        · exact Two.start (HBW.out.later (Below.refl _ _).drew) (HFr.out.below (Below.refl _ _).drew) (fun g => updL_sub) HOF.out
        · intro q o ho Dn a W hi hG hold hT hcl hh
          have hi2 : q < 16 := (Array.getElem?_eq_some_iff.1 ho).1
          have hi' : q = 0 ∨ q = 1 ∨ q = 2 ∨ q = 3 ∨ q = 4 ∨ q = 5 ∨ q = 6 ∨ q = 7 ∨ q = 8 ∨ q = 9 ∨ q = 10 ∨ q = 11 ∨ q = 12 ∨ q = 13 ∨ q = 14 ∨ q = 15 := by omega
          rcases hi' with rfl | rfl | rfl | rfl | rfl | rfl | rfl | rfl | rfl | rfl | rfl | rfl | rfl | rfl | rfl | rfl
          · cases ho
            refine step4_told (.pointer (some ⟨b, 0, none⟩)) ?_ (by decide) (hG.same (by decide) (by decide)) hT rfl
            have e0 : a.eval (.tmp 0) = .pointer (some ⟨b, 0, none⟩) := hold 0 (unyet_of (by kernel_rfl))
            generalize a.eval = ev at e0 ⊢
            simp [execOp, go_sem, e0]
          · cases ho
            refine step4_told (.slice (some ⟨ga, 0, none⟩) d.k.n (d.k.n + 12)) ?_ (by decide) (hG.same (by decide) (by decide)) hT rfl
            have e0 : a.eval (.tmp 7) = .slice (some ⟨ga, 0, none⟩) d.k.n (d.k.n + 12) := hold 7 (unyet_of (by kernel_rfl))
            generalize a.eval = ev at e0 ⊢
            simp [execOp, go_sem, e0]
          · cases ho
            refine step4_told (.slice (some ⟨gb, 0, none⟩) d.v.n (d.v.n + 12)) ?_ (by decide) (hG.same (by decide) (by decide)) hT rfl
            have e0 : a.eval (.tmp 8) = .slice (some ⟨gb, 0, none⟩) d.v.n (d.v.n + 12) := hold 8 (unyet_of (by kernel_rfl))
            generalize a.eval = ev at e0 ⊢
            simp [execOp, go_sem, e0]
          · cases ho
            refine step4_told (.pointer (some ⟨w.heap.size, 3, none⟩)) ?_ (by decide) (hG.same (by decide) (by decide)) hT rfl
            have e0 : a.eval (.tmp 5) = .pointer (some ⟨w.heap.size, 0, none⟩) := hold 5 (unyet_of (by kernel_rfl))
            generalize a.eval = ev at e0 ⊢
            simp [execOp, go_sem, e0]
          · cases ho
            have k0 : W.cell? ⟨w.heap.size, 3, none⟩ = some (.int .u64 d.fl) := (blk_cell hG.both.fr.box 3).trans rfl
            refine step4_told (.int .u64 d.fl) ?_ (by decide) (hG.same (by decide) (by decide)) hT rfl
            have e0 : a.eval (.tmp 34) = .pointer (some ⟨w.heap.size, 3, none⟩) := hT 3 (hh 3 rfl)
            generalize a.eval = ev at e0 ⊢
            simp [execOp, go_sem, e0, k0]
          · cases ho
            have e0 : a.eval (.tmp 31) = .pointer (some ⟨b, 0, none⟩) := hT 0 (hh 0 rfl)
            have e1 : a.eval (.tmp 32) = .slice (some ⟨ga, 0, none⟩) d.k.n (d.k.n + 12) := hT 1 (hh 1 rfl)
            have e2 : a.eval (.tmp 33) = .slice (some ⟨gb, 0, none⟩) d.v.n (d.v.n + 12) := hT 2 (hh 2 rfl)
            have e3 : a.eval (.tmp 35) = .int .u64 d.fl := hT 4 (hh 4 rfl)
            refine step4_called (R := fun u W' => u = .int .i64 (updE L.length sz d.k.n d.k.bs d.v.n d.fl) ∧ Arr W' w0.heap.size b cb sz (updL L sz d.k.n d.k.bs d.v.n d.fl d.v.bs) ∧ Kept (fun g => ¬ OfA b cb sz L g) W W') ?_ (by decide) ((upd_both (c := d.k.n + 12) (sc := d.v.n + 12) (fl := d.fl) (hG.fst hi) (row_head hG.both.fr.r1 HLK.out) (row_lt hG.both.fr.r1) HD.out.k.byte (row_head hG.both.fr.r2 HLV.out) (row_lt hG.both.fr.r2)).mono ?_) ?_
            · have ef : a.eval (.func 36) = .func (.func 36) #[] #[] := rfl
              generalize a.eval = ev at e0 e1 e2 e3 ef ⊢
              simp [execOp, go_sem, e0, e1, e2, e3, ef, hEU]
            · rintro e W' ⟨h1, h2⟩
              exact ⟨_, h1, rfl, h2⟩
            · rintro u W' ⟨rfl, ha', hk'⟩
              exact ⟨hG.one hi (by decide) ha' hk', fun j hj => (hT j hj).at, rfl⟩
          · cases ho
            refine step4_told (.pointer (some ⟨x, 0, none⟩)) ?_ (by decide) (hG.same (by decide) (by decide)) hT rfl
            have e0 : a.eval (.tmp 1) = .pointer (some ⟨x, 0, none⟩) := hold 1 (unyet_of (by kernel_rfl))
            generalize a.eval = ev at e0 ⊢
            simp [execOp, go_sem, e0]
          · cases ho
            refine step4_told (.pointer (some ⟨w.heap.size, 1, none⟩)) ?_ (by decide) (hG.same (by decide) (by decide)) hT rfl
            have e0 : a.eval (.tmp 5) = .pointer (some ⟨w.heap.size, 0, none⟩) := hold 5 (unyet_of (by kernel_rfl))
            generalize a.eval = ev at e0 ⊢
            simp [execOp, go_sem, e0]
          · cases ho
            have k0 : W.cell? ⟨w.heap.size, 1, none⟩ = some (.slice d.k.A d.k.n d.k.c) := (blk_cell hG.both.fr.box 1).trans rfl
            refine step4_told (.slice d.k.A d.k.n d.k.c) ?_ (by decide) (hG.same (by decide) (by decide)) hT rfl
            have e0 : a.eval (.tmp 38) = .pointer (some ⟨w.heap.size, 1, none⟩) := hT 7 (hh 7 rfl)
            generalize a.eval = ev at e0 ⊢
            simp [execOp, go_sem, e0, k0]
          · cases ho
            refine step4_told (.pointer (some ⟨w.heap.size, 2, none⟩)) ?_ (by decide) (hG.same (by decide) (by decide)) hT rfl
            have e0 : a.eval (.tmp 5) = .pointer (some ⟨w.heap.size, 0, none⟩) := hold 5 (unyet_of (by kernel_rfl))
            generalize a.eval = ev at e0 ⊢
            simp [execOp, go_sem, e0]
          · cases ho
            have k0 : W.cell? ⟨w.heap.size, 2, none⟩ = some (.slice d.v.A d.v.n d.v.c) := (blk_cell hG.both.fr.box 2).trans rfl
            refine step4_told (.slice d.v.A d.v.n d.v.c) ?_ (by decide) (hG.same (by decide) (by decide)) hT rfl
            have e0 : a.eval (.tmp 40) = .pointer (some ⟨w.heap.size, 2, none⟩) := hT 9 (hh 9 rfl)
            generalize a.eval = ev at e0 ⊢
            simp [execOp, go_sem, e0, k0]
          · cases ho
            refine step4_told (.pointer (some ⟨w.heap.size, 3, none⟩)) ?_ (by decide) (hG.same (by decide) (by decide)) hT rfl
            have e0 : a.eval (.tmp 5) = .pointer (some ⟨w.heap.size, 0, none⟩) := hold 5 (unyet_of (by kernel_rfl))
            generalize a.eval = ev at e0 ⊢
            simp [execOp, go_sem, e0]
          · cases ho
            have k0 : W.cell? ⟨w.heap.size, 3, none⟩ = some (.int .u64 d.fl) := (blk_cell hG.both.fr.box 3).trans rfl
            refine step4_told (.int .u64 d.fl) ?_ (by decide) (hG.same (by decide) (by decide)) hT rfl
            have e0 : a.eval (.tmp 42) = .pointer (some ⟨w.heap.size, 3, none⟩) := hT 11 (hh 11 rfl)
            generalize a.eval = ev at e0 ⊢
            simp [execOp, go_sem, e0, k0]
          · cases ho
            have e0 : a.eval (.tmp 37) = .pointer (some ⟨x, 0, none⟩) := hT 6 (hh 6 rfl)
            have e1 : a.eval (.tmp 39) = .slice d.k.A d.k.n d.k.c := hT 8 (hh 8 rfl)
            have e2 : a.eval (.tmp 41) = .slice d.v.A d.v.n d.v.c := hT 10 (hh 10 rfl)
            have e3 : a.eval (.tmp 43) = .int .u64 d.fl := hT 12 (hh 12 rfl)
            refine step4_called (R := fun u W' => u = .int .i64 (updE L.length sz d.k.n d.k.bs d.v.n d.fl) ∧ RArr W' w0.heap.size x sz L.length RA rc (flat (updL L sz d.k.n d.k.bs d.v.n d.fl d.v.bs)) ∧ Kept (fun g => ¬ OfR x (.slice RA (sz * L.length) rc) g) W W') ?_ (by decide) ((rupd_both (c := d.k.c) (sc := d.v.c) (fl := d.fl) (hG.snd hi) HLS.out (HD.out.k.rd.below hG.both.below) HD.out.k.byte (HD.out.v.rd.below hG.both.below) hG.both.below.size).mono ?_) ?_
            · have ef : a.eval (.func 72) = .func (.func 72) #[] #[] := rfl
              generalize a.eval = ev at e0 e1 e2 e3 ef ⊢
              simp [execOp, go_sem, e0, e1, e2, e3, ef, hEV]
            · rintro e W' ⟨h1, h2⟩
              exact ⟨_, h1, rfl, h2⟩
            · rintro u W' ⟨rfl, ha', hk'⟩
              exact ⟨hG.two hi (by decide) ha' hk', fun j hj => (hT j hj).at, rfl⟩
          · cases ho
            refine step4_told (.bool true) ?_ (by decide) (hG.same (by decide) (by decide)) hT rfl
            have e0 : a.eval (.tmp 36) = .int .i64 (updE L.length sz d.k.n d.k.bs d.v.n d.fl) := hT 5 (hh 5 rfl)
            have e1 : a.eval (.tmp 44) = .int .i64 (updE L.length sz d.k.n d.k.bs d.v.n d.fl) := hT 13 (hh 13 rfl)
            generalize a.eval = ev at e0 e1 ⊢
            simp [execOp, go_sem, e0, e1]
          · cases ho
            refine step4_told (.bool true) ?_ (by decide) (hG.same (by decide) (by decide)) hT rfl
            have e0 : a.eval (.tmp 45) = .bool true := hT 14 (hh 14 rfl)
            generalize a.eval = ev at e0 ⊢
            simp [execOp, go_sem, e0]
        · intro a W hd hs hold hT hG
          have e9 : a.tmps.getD 9 undef = .bool true := hT 15 (by decide)
          obtain ⟨f, hf, ha⟩ := act_puts [31, 32, 33, 34, 35, 36, 37, 38, 39, 40, 41, 42, 43, 44, 45, 9] (fun t ht => by
            by_cases h : t ∈ [31, 32, 33, 34, 35, 36, 37, 38, 39, 40, 41, 42, 43, 44, 45, 9]
            · exact h
            · exfalso
              simp [unwritten] at ht
              simp only [List.mem_cons, not_or] at h
              obtain ⟨h0, h1, h2, h3, h4, h5, h6, h7, h8, h9, h10, h11, h12, h13, h14, h15, _⟩ := h
              exact absurd (ht (fun e => h0 e.symm) (fun e => h1 e.symm) (fun e => h2 e.symm) (fun e => h3 e.symm) (fun e => h4 e.symm) (fun e => h5 e.symm) (fun e => h6 e.symm) (fun e => h7 e.symm) (fun e => h8 e.symm) (fun e => h9 e.symm) (fun e => h10 e.symm) (fun e => h11 e.symm) (fun e => h12 e.symm) (fun e => h13 e.symm) (fun e => h14 e.symm)) (fun e => h15 e.symm)) (fun t ht => by
            have hsz : t < 148 := by
              simp only [List.mem_cons, List.mem_nil_iff, or_false] at ht
              omega
            exact hsz) hd hs hold
          rw [← hf 9] at e9
          have HB2 := hide (Two.done (Two.flags hG (by decide) (by decide)) (updL_len _ _ _ _ _ _ _))
          have HF2 := hide hG.both.fr
          have HLE : Hid ((updL L sz d.k.n d.k.bs d.v.n d.fl d.v.bs).length = L.length) := hide (updL_len _ _ _ _ _ _ _)
          subst ha
          clear hd hs hold hT hf hG
          simp only [List.foldl_cons, List.foldl_nil, e9]
          obtain ⟨u31, hu31⟩ : ∃ u, u = f 31 := ⟨_, rfl⟩
          obtain ⟨u32, hu32⟩ : ∃ u, u = f 32 := ⟨_, rfl⟩
          obtain ⟨u33, hu33⟩ : ∃ u, u = f 33 := ⟨_, rfl⟩
          obtain ⟨u34, hu34⟩ : ∃ u, u = f 34 := ⟨_, rfl⟩
          obtain ⟨u35, hu35⟩ : ∃ u, u = f 35 := ⟨_, rfl⟩
          obtain ⟨u36, hu36⟩ : ∃ u, u = f 36 := ⟨_, rfl⟩
          obtain ⟨u37, hu37⟩ : ∃ u, u = f 37 := ⟨_, rfl⟩
          obtain ⟨u38, hu38⟩ : ∃ u, u = f 38 := ⟨_, rfl⟩
          obtain ⟨u39, hu39⟩ : ∃ u, u = f 39 := ⟨_, rfl⟩
          obtain ⟨u40, hu40⟩ : ∃ u, u = f 40 := ⟨_, rfl⟩
          obtain ⟨u41, hu41⟩ : ∃ u, u = f 41 := ⟨_, rfl⟩
          obtain ⟨u42, hu42⟩ : ∃ u, u = f 42 := ⟨_, rfl⟩
          obtain ⟨u43, hu43⟩ : ∃ u, u = f 43 := ⟨_, rfl⟩
          obtain ⟨u44, hu44⟩ : ∃ u, u = f 44 := ⟨_, rfl⟩
          obtain ⟨u45, hu45⟩ : ∃ u, u = f 45 := ⟨_, rfl⟩
          rw [← hu31, ← hu32, ← hu33, ← hu34, ← hu35, ← hu36, ← hu37, ← hu38, ← hu39, ← hu40, ← hu41, ← hu42, ← hu43, ← hu44, ← hu45]
          clear hu31 hu32 hu33 hu34 hu35 hu36 hu37 hu38 hu39 hu40 hu41 hu42 hu43 hu44 hu45 e9
          go_simp
          refine K _ _ (Met.intro (hK _ _ ?_))
          (repeat apply Exists.intro)
          refine ⟨?rel, rfl⟩
          case rel => exact ⟨rfl, updL L sz d.k.n d.k.bs d.v.n d.fl d.v.bs, HLE.out, fun g => updL_sub, HB2.out, HF2.out⟩
      · skip
        go_wp2_with first
          | (go_at_call 35; refine (lookup_any w0.heap.size b cb sz L (some ⟨ga, 0, none⟩) d.k.n (d.k.n + 12) (ga + 1) d.k.bs W HBW.out.a (row_head HFr.out.r1 HLK.out) (row_lt HFr.out.r1) HD.out.k.byte).mono ?_; rintro e wl ⟨rfl, hb⟩; have HBL := hide (HBW.out.later hb); have HFL := hide (HFr.out.below hb); have k1 : wl.cell? ⟨w.heap.size, 1, none⟩ = some (.slice d.k.A d.k.n d.k.c) := (blk_cell HFL.out.box 1).trans rfl; clear hb)
          | (go_at_call 73; refine (rlookup_any w0.heap.size x sz L.length rc RA (flat L) d.k.A d.k.n d.k.c w0.heap.size d.k.bs wl HBL.out.r (HD.out.k.rd.below HBL.out.below) HD.out.k.byte).mono ?_; rintro e wm ⟨rfl, hb⟩; have HBM := hide (HBL.out.later hb); have HFM := hide (HFL.out.below hb); clear hb)
        go_meet
        case rel => exact ⟨rfl, L, rfl, fun g h => h, HBM.out, HFM.out⟩
      · skip
        go_wp2_with fail
        rename_i K hK
        refine wp_tells4 (by kernel_rfl) (TSet b x w.heap.size ga gb (setE L.length sz d.pl d.of d.v.n) d) (GTwo w0 b cb sz x rc RA L (setL L sz d.pl d.of d.v.n d.v.bs) w.heap.size #[.int .i64 d.what, .slice d.k.A d.k.n d.k.c, .slice d.v.A d.v.n d.v.c, .int .u64 d.fl, .int .i64 d.pl, .int .i64 d.of] ga d.k.n (u8s d.k.bs ++ marks (mkB 1) 12) gb d.v.n (u8s d.v.bs ++ marks (mkB 1) 12) 6 14) (by kernel_rfl) (by kernel_rfl) (by kernel_rfl) (by kernel_rfl) ?_ ?_ ?_ ?_
        · intro q oj σ σ' W hj h hs
          have hi : q < 17 := (Array.getElem?_eq_some_iff.1 hj).1
          have h0 := hs q (.inl rfl)
          have hi' : q = 0 ∨ q = 1 ∨ q = 2 ∨ q = 3 ∨ q = 4 ∨ q = 5 ∨ q = 6 ∨ q = 7 ∨ q = 8 ∨ q = 9 ∨ q = 10 ∨ q = 11 ∨ q = 12 ∨ q = 13 ∨ q = 14 ∨ q = 15 ∨ q = 16 := by omega
          rcases hi' with rfl | rfl | rfl | rfl | rfl | rfl | rfl | rfl | rfl | rfl | rfl | rfl | rfl | rfl | rfl | rfl | rfl
          all_goals (simp only [TSet] at h ⊢; rw [h0]; exact h)
        · exact Two.start (HBW.out.later (Below.refl _ _).drew) (HFr.out.below (Below.refl _ _).drew) (fun g => setL_sub) HOF.out
        · intro q o ho Dn a W hi hG hold hT hcl hh
          have hi2 : q < 17 := (Array.getElem?_eq_some_iff.1 ho).1
          have hi' : q = 0 ∨ q = 1 ∨ q = 2 ∨ q = 3 ∨ q = 4 ∨ q = 5 ∨ q = 6 ∨ q = 7 ∨ q = 8 ∨ q = 9 ∨ q = 10 ∨ q = 11 ∨ q = 12 ∨ q = 13 ∨ q = 14 ∨ q = 15 ∨ q = 16 := by omega
          rcases hi' with rfl | rfl | rfl | rfl | rfl | rfl | rfl | rfl | rfl | rfl | rfl | rfl | rfl | rfl | rfl | rfl | rfl
          · cases ho
            refine step4_told (.pointer (some ⟨b, 0, none⟩)) ?_ (by decide) (hG.same (by decide) (by decide)) hT rfl
            have e0 : a.eval (.tmp 0) = .pointer (some ⟨b, 0, none⟩) := hold 0 (unyet_of (by kernel_rfl))
            generalize a.eval = ev at e0 ⊢
            simp [execOp, go_sem, e0]
          · cases ho
            refine step4_told (.pointer (some ⟨w.heap.size, 4, none⟩)) ?_ (by decide) (hG.same (by decide) (by decide)) hT rfl
            have e0 : a.eval (.tmp 5) = .pointer (some ⟨w.heap.size, 0, none⟩) := hold 5 (unyet_of (by kernel_rfl))
            generalize a.eval = ev at e0 ⊢
            simp [execOp, go_sem, e0]
          · cases ho
            have k0 : W.cell? ⟨w.heap.size, 4, none⟩ = some (.int .i64 d.pl) := (blk_cell hG.both.fr.box 4).trans rfl
            refine step4_told (.int .i64 d.pl) ?_ (by decide) (hG.same (by decide) (by decide)) hT rfl
            have e0 : a.eval (.tmp 72) = .pointer (some ⟨w.heap.size, 4, none⟩) := hT 1 (hh 1 rfl)
            generalize a.eval = ev at e0 ⊢
            simp [execOp, go_sem, e0, k0]
          · cases ho
            refine step4_told (.pointer (some ⟨w.heap.size, 5, none⟩)) ?_ (by decide) (hG.same (by decide) (by decide)) hT rfl
            have e0 : a.eval (.tmp 5) = .pointer (some ⟨w.heap.size, 0, none⟩) := hold 5 (unyet_of (by kernel_rfl))
            generalize a.eval = ev at e0 ⊢
            simp [execOp, go_sem, e0]
          · cases ho
            have k0 : W.cell? ⟨w.heap.size, 5, none⟩ = some (.int .i64 d.of) := (blk_cell hG.both.fr.box 5).trans rfl
            refine step4_told (.int .i64 d.of) ?_ (by decide) (hG.same (by decide) (by decide)) hT rfl
            have e0 : a.eval (.tmp 74) = .pointer (some ⟨w.heap.size, 5, none⟩) := hT 3 (hh 3 rfl)
            generalize a.eval = ev at e0 ⊢
            simp [execOp, go_sem, e0, k0]
          · cases ho
            refine step4_told (.slice (some ⟨gb, 0, none⟩) d.v.n (d.v.n + 12)) ?_ (by decide) (hG.same (by decide) (by decide)) hT rfl
            have e0 : a.eval (.tmp 8) = .slice (some ⟨gb, 0, none⟩) d.v.n (d.v.n + 12) := hold 8 (unyet_of (by kernel_rfl))
            generalize a.eval = ev at e0 ⊢
            simp [execOp, go_sem, e0]
          · cases ho
            have e0 : a.eval (.tmp 71) = .pointer (some ⟨b, 0, none⟩) := hT 0 (hh 0 rfl)
            have e1 : a.eval (.tmp 73) = .int .i64 d.pl := hT 2 (hh 2 rfl)
            have e2 : a.eval (.tmp 75) = .int .i64 d.of := hT 4 (hh 4 rfl)
            have e3 : a.eval (.tmp 76) = .slice (some ⟨gb, 0, none⟩) d.v.n (d.v.n + 12) := hT 5 (hh 5 rfl)
            refine step4_called (R := fun u W' => u = .int .i64 (setE L.length sz d.pl d.of d.v.n) ∧ Arr W' w0.heap.size b cb sz (setL L sz d.pl d.of d.v.n d.v.bs) ∧ Kept (fun g => ¬ OfA b cb sz L g) W W') ?_ (by decide) ((set_both (i := d.pl) (sc := d.v.n + 12) (hG.fst hi) HD.out.of.2 (row_head hG.both.fr.r2 HLV.out) (row_lt hG.both.fr.r2)).mono ?_) ?_
            · have ef : a.eval (.func 38) = .func (.func 38) #[] #[] := rfl
              generalize a.eval = ev at e0 e1 e2 e3 ef ⊢
              simp [execOp, go_sem, e0, e1, e2, e3, ef, hES]
            · rintro e W' ⟨h1, h2⟩
              exact ⟨_, h1, rfl, h2⟩
            · rintro u W' ⟨rfl, ha', hk'⟩
              exact ⟨hG.one hi (by decide) ha' hk', fun j hj => (hT j hj).at, rfl⟩
          · cases ho
            refine step4_told (.pointer (some ⟨x, 0, none⟩)) ?_ (by decide) (hG.same (by decide) (by decide)) hT rfl
            have e0 : a.eval (.tmp 1) = .pointer (some ⟨x, 0, none⟩) := hold 1 (unyet_of (by kernel_rfl))
            generalize a.eval = ev at e0 ⊢
            simp [execOp, go_sem, e0]
          · cases ho
            refine step4_told (.pointer (some ⟨w.heap.size, 4, none⟩)) ?_ (by decide) (hG.same (by decide) (by decide)) hT rfl
            have e0 : a.eval (.tmp 5) = .pointer (some ⟨w.heap.size, 0, none⟩) := hold 5 (unyet_of (by kernel_rfl))
            generalize a.eval = ev at e0 ⊢
            simp [execOp, go_sem, e0]
          · cases ho
            have k0 : W.cell? ⟨w.heap.size, 4, none⟩ = some (.int .i64 d.pl) := (blk_cell hG.both.fr.box 4).trans rfl
            refine step4_told (.int .i64 d.pl) ?_ (by decide) (hG.same (by decide) (by decide)) hT rfl
            have e0 : a.eval (.tmp 79) = .pointer (some ⟨w.heap.size, 4, none⟩) := hT 8 (hh 8 rfl)
            generalize a.eval = ev at e0 ⊢
            simp [execOp, go_sem, e0, k0]
          · cases ho
            refine step4_told (.pointer (some ⟨w.heap.size, 5, none⟩)) ?_ (by decide) (hG.same (by decide) (by decide)) hT rfl
            have e0 : a.eval (.tmp 5) = .pointer (some ⟨w.heap.size, 0, none⟩) := hold 5 (unyet_of (by kernel_rfl))
            generalize a.eval = ev at e0 ⊢
            simp [execOp, go_sem, e0]
          · cases ho
            have k0 : W.cell? ⟨w.heap.size, 5, none⟩ = some (.int .i64 d.of) := (blk_cell hG.both.fr.box 5).trans rfl
            refine step4_told (.int .i64 d.of) ?_ (by decide) (hG.same (by decide) (by decide)) hT rfl
            have e0 : a.eval (.tmp 81) = .pointer (some ⟨w.heap.size, 5, none⟩) := hT 10 (hh 10 rfl)
            generalize a.eval = ev at e0 ⊢
            simp [execOp, go_sem, e0, k0]
          · cases ho
            refine step4_told (.pointer (some ⟨w.heap.size, 2, none⟩)) ?_ (by decide) (hG.same (by decide) (by decide)) hT rfl
            have e0 : a.eval (.tmp 5) = .pointer (some ⟨w.heap.size, 0, none⟩) := hold 5 (unyet_of (by kernel_rfl))
            generalize a.eval = ev at e0 ⊢
            simp [execOp, go_sem, e0]
          · cases ho
            have k0 : W.cell? ⟨w.heap.size, 2, none⟩ = some (.slice d.v.A d.v.n d.v.c) := (blk_cell hG.both.fr.box 2).trans rfl
            refine step4_told (.slice d.v.A d.v.n d.v.c) ?_ (by decide) (hG.same (by decide) (by decide)) hT rfl
            have e0 : a.eval (.tmp 83) = .pointer (some ⟨w.heap.size, 2, none⟩) := hT 12 (hh 12 rfl)
            generalize a.eval = ev at e0 ⊢
            simp [execOp, go_sem, e0, k0]
          · cases ho
            have e0 : a.eval (.tmp 78) = .pointer (some ⟨x, 0, none⟩) := hT 7 (hh 7 rfl)
            have e1 : a.eval (.tmp 80) = .int .i64 d.pl := hT 9 (hh 9 rfl)
            have e2 : a.eval (.tmp 82) = .int .i64 d.of := hT 11 (hh 11 rfl)
            have e3 : a.eval (.tmp 84) = .slice d.v.A d.v.n d.v.c := hT 13 (hh 13 rfl)
            refine step4_called (R := fun u W' => u = .int .i64 (setE L.length sz d.pl d.of d.v.n) ∧ RArr W' w0.heap.size x sz L.length RA rc (flat (setL L sz d.pl d.of d.v.n d.v.bs)) ∧ Kept (fun g => ¬ OfR x (.slice RA (sz * L.length) rc) g) W W') ?_ (by decide) ((rset_both (i := d.pl) (sc := d.v.c) (hG.snd hi) HLS.out HD.out.of.2 (by omega) (HD.out.v.rd.below hG.both.below) hG.both.below.size).mono ?_) ?_
            · have ef : a.eval (.func 74) = .func (.func 74) #[] #[] := rfl
              generalize a.eval = ev at e0 e1 e2 e3 ef ⊢
              simp [execOp, go_sem, e0, e1, e2, e3, ef, hET]
            · rintro e W' ⟨h1, h2⟩
              exact ⟨_, h1, rfl, h2⟩
            · rintro u W' ⟨rfl, ha', hk'⟩
              exact ⟨hG.two hi (by decide) ha' hk', fun j hj => (hT j hj).at, rfl⟩
          · cases ho
            refine step4_told (.bool true) ?_ (by decide) (hG.same (by decide) (by decide)) hT rfl
            have e0 : a.eval (.tmp 77) = .int .i64 (setE L.length sz d.pl d.of d.v.n) := hT 6 (hh 6 rfl)
            have e1 : a.eval (.tmp 85) = .int .i64 (setE L.length sz d.pl d.of d.v.n) := hT 14 (hh 14 rfl)
            generalize a.eval = ev at e0 e1 ⊢
            simp [execOp, go_sem, e0, e1]
          · cases ho
            refine step4_told (.bool true) ?_ (by decide) (hG.same (by decide) (by decide)) hT rfl
            have e0 : a.eval (.tmp 86) = .bool true := hT 15 (hh 15 rfl)
            generalize a.eval = ev at e0 ⊢
            simp [execOp, go_sem, e0]
        · intro a W hd hs hold hT hG
          have e9 : a.tmps.getD 9 undef = .bool true := hT 16 (by decide)
          obtain ⟨f, hf, ha⟩ := act_puts [71, 72, 73, 74, 75, 76, 77, 78, 79, 80, 81, 82, 83, 84, 85, 86, 9] (fun t ht => by
            by_cases h : t ∈ [71, 72, 73, 74, 75, 76, 77, 78, 79, 80, 81, 82, 83, 84, 85, 86, 9]
            · exact h
            · exfalso
              simp [unwritten] at ht
              simp only [List.mem_cons, not_or] at h
              obtain ⟨h0, h1, h2, h3, h4, h5, h6, h7, h8, h9, h10, h11, h12, h13, h14, h15, h16, _⟩ := h
              exact absurd (ht (fun e => h0 e.symm) (fun e => h1 e.symm) (fun e => h2 e.symm) (fun e => h3 e.symm) (fun e => h4 e.symm) (fun e => h5 e.symm) (fun e => h6 e.symm) (fun e => h7 e.symm) (fun e => h8 e.symm) (fun e => h9 e.symm) (fun e => h10 e.symm) (fun e => h11 e.symm) (fun e => h12 e.symm) (fun e => h13 e.symm) (fun e => h14 e.symm) (fun e => h15 e.symm)) (fun e => h16 e.symm)) (fun t ht => by
            have hsz : t < 148 := by
              simp only [List.mem_cons, List.mem_nil_iff, or_false] at ht
              omega
            exact hsz) hd hs hold
          rw [← hf 9] at e9
          have HB2 := hide (Two.done (Two.flags hG (by decide) (by decide)) (setL_len _ _ _ _ _ _))
          have HF2 := hide hG.both.fr
          have HLE : Hid ((setL L sz d.pl d.of d.v.n d.v.bs).length = L.length) := hide (setL_len _ _ _ _ _ _)
          subst ha
          clear hd hs hold hT hf hG
          simp only [List.foldl_cons, List.foldl_nil, e9]
          obtain ⟨u71, hu71⟩ : ∃ u, u = f 71 := ⟨_, rfl⟩
          obtain ⟨u72, hu72⟩ : ∃ u, u = f 72 := ⟨_, rfl⟩
          obtain ⟨u73, hu73⟩ : ∃ u, u = f 73 := ⟨_, rfl⟩
          obtain ⟨u74, hu74⟩ : ∃ u, u = f 74 := ⟨_, rfl⟩
          obtain ⟨u75, hu75⟩ : ∃ u, u = f 75 := ⟨_, rfl⟩
          obtain ⟨u76, hu76⟩ : ∃ u, u = f 76 := ⟨_, rfl⟩
          obtain ⟨u77, hu77⟩ : ∃ u, u = f 77 := ⟨_, rfl⟩
          obtain ⟨u78, hu78⟩ : ∃ u, u = f 78 := ⟨_, rfl⟩
          obtain ⟨u79, hu79⟩ : ∃ u, u = f 79 := ⟨_, rfl⟩
          obtain ⟨u80, hu80⟩ : ∃ u, u = f 80 := ⟨_, rfl⟩
          obtain ⟨u81, hu81⟩ : ∃ u, u = f 81 := ⟨_, rfl⟩
          obtain ⟨u82, hu82⟩ : ∃ u, u = f 82 := ⟨_, rfl⟩
          obtain ⟨u83, hu83⟩ : ∃ u, u = f 83 := ⟨_, rfl⟩
          obtain ⟨u84, hu84⟩ : ∃ u, u = f 84 := ⟨_, rfl⟩
          obtain ⟨u85, hu85⟩ : ∃ u, u = f 85 := ⟨_, rfl⟩
          obtain ⟨u86, hu86⟩ : ∃ u, u = f 86 := ⟨_, rfl⟩
          rw [← hu71, ← hu72, ← hu73, ← hu74, ← hu75, ← hu76, ← hu77, ← hu78, ← hu79, ← hu80, ← hu81, ← hu82, ← hu83, ← hu84, ← hu85, ← hu86]
          clear hu71 hu72 hu73 hu74 hu75 hu76 hu77 hu78 hu79 hu80 hu81 hu82 hu83 hu84 hu85 hu86 e9
          go_simp
          refine K _ _ (Met.intro (hK _ _ ?_))
          (repeat apply Exists.intro)
          refine ⟨?rel, rfl⟩
          case rel => exact ⟨rfl, setL L sz d.pl d.of d.v.n d.v.bs, HLE.out, fun g => setL_sub, HB2.out, HF2.out⟩
      · skip
        go_wp2_with fail
        go_meet
        case rel => exact ⟨rfl, L, rfl, fun g h => h, HBW.out, HFr.out⟩
      · skip
        go_wp2_with (go_at_call 37; refine (delete_of (some ⟨b, 0, none⟩) (some ⟨ga, 0, none⟩) d.k.n (d.k.n + 12) 9 W (fun W' q hb hc => delIn_yes b q W' hc (by rw [blk_cell (HBW.out.a.below hb).blk]; rfl))).mono ?_; rintro e wl ⟨rfl, hb⟩; have HBL := hide (HBW.out.later hb); have HFL := hide (HFr.out.below hb); clear hb)
        go_meet
        case rel => exact ⟨rfl, L, rfl, fun g h => h, HBL.out, HFL.out⟩
    case rest =>
      obtain ⟨rfl, L', hlen, hsub, hboth, hfr⟩ := hcut
      have hbig := hboth.a.big
      have HLEN := hide hlen
      have HC := hide hboth
      have HF := hide hfr
      have HLG : Hid (w0.heap.size ≤ wc.heap.size) := hide hboth.below.size
      have HOF2 : Hid (∀ g, OfA b cb sz L' g ∨ OfR x (.slice RA (sz * L'.length) rc) g → g ≠ w.heap.size ∧ g ≠ ga ∧ g ≠ gb) := hide (fun g hg => HOF.out g (by rw [hlen] at hg; exact hg.imp (hsub g) id))
      clear hlen hsub hboth hfr HBW HFr hEL hEU hEV hES hET HOF HLS
      have k1 : wc.cell? ⟨w.heap.size, 1, none⟩ = some (.slice d.k.A d.k.n d.k.c) := (blk_cell HF.out.box 1).trans rfl
      go_wp2_with fail
      refine (keptBytes_any ga d.k.A d.k.n d.k.c w0.heap.size d.k.bs wc (HD.out.k.rd.below HC.out.below) HLG.out HF.out.r1 (by omega)).mono ?_
      rintro e wd ⟨rfl, hb⟩
      have HCd := hide (HC.out.later hb)
      have HFd := hide (HF.out.below hb)
      have k2 : wd.cell? ⟨w.heap.size, 2, none⟩ = some (.slice d.v.A d.v.n d.v.c) := (blk_cell HFd.out.box 2).trans rfl
      clear hb k1 HC HF
      go_wp2_with fail
      refine (keptBytes_any gb d.v.A d.v.n d.v.c w0.heap.size d.v.bs wd (HD.out.v.rd.below HCd.out.below) HCd.out.below.size HFd.out.r2 (by omega)).mono ?_
      rintro e we ⟨rfl, hb⟩
      have HCe := hide (HCd.out.later hb)
      have HFe := hide (HFd.out.below hb)
      clear hb k2 HCd HFd
      go_wp2_with fail
      refine (over_any ga d.k.n _ we HFe.out.r1 (by omega)).mono ?_
      rintro e wf ⟨rfl, hkf⟩
      have HCf := hide (HCe.out.kept hkf (fun g hg hg1 => by
        rcases hg1 with h | h | h
        · exact (HOF2.out g (.inl h)).2.1
        · exact (HOF2.out g (.inr h)).2.1
        · have h1 := HNe.out.2; omega))
      have HXf := hide ((hkf.block _ (at_lt HFe.out.box) HNe.out.1.2.1).trans HFe.out.box)
      have HRf := hide (owns_kept HFe.out.r2 hkf (fun g hg => by simp [Value.ownBlock] at hg; rw [← hg]; exact fun e => HNe.out.1.1 e.symm))
      clear hkf HCe HFe
      go_wp2_with fail
      refine (over_any gb d.v.n _ wf HRf.out (by omega)).mono ?_
      rintro e wg ⟨rfl, hkg⟩
      have HCg := hide (HCf.out.kept hkg (fun g hg hg1 => by
        rcases hg1 with h | h | h
        · exact (HOF2.out g (.inl h)).2.2
        · exact (HOF2.out g (.inr h)).2.2
        · have h1 := HNe.out.2; omega))
      have HXg := hide ((hkg.block _ (at_lt HXf.out) HNe.out.1.2.2).trans HXf.out)
      have k4 : wg.cell? ⟨w.heap.size, 4, none⟩ = some (.int .i64 d.pl) := (blk_cell HXg.out 4).trans rfl
      clear hkg HCf HXf HRf
      go_wp2_with fail
      refine (value_any (i := d.pl) HCg.out.a).mono ?_
      rintro e wh ⟨A1, m1, c1, er, rfl, he1, hm1, ho1, hb⟩
      have HCh := hide (HCg.out.later hb)
      have HXh := hide ((hb.block _ (at_lt HXg.out)).trans HXg.out)
      have HO1 := hide ho1
      have HE1 := hide he1
      have HM1 := hide hm1
      have HS1 := hide hb.size
      have k4 : wh.cell? ⟨w.heap.size, 4, none⟩ = some (.int .i64 d.pl) := (blk_cell HXh.out 4).trans rfl
      clear hb ho1 HXg he1 hm1
      go_wp2_with fail
      refine (rvalue_any (i := d.pl) HCh.out.r).mono ?_
      rintro e wi ⟨A2, m2, c2, er2, rfl, he2, hm2, ho2, hb⟩
      obtain rfl : er2 = er := he2.trans HE1.out.symm
      obtain rfl : m2 = m1 := hm2.trans HM1.out.symm
      have HCi := hide (HCh.out.later hb)
      have HXi := hide ((hb.block _ (at_lt HXh.out)).trans HXh.out)
      have HO2 := hide ho2
      have HS2 := hide hb.size
      have HO1i : Hid (wi.ownsRow 0 5 1 (.slice A1 m2 c1) m2 _) := hide (owns_kept_below HO1.out.1 hb)
      have HLT1 : Hid (∀ g, (Value.slice A1 m2 c1).ownBlock = some g → wg.heap.size ≤ g ∧ g < wh.heap.size) := hide (fun g hg => ⟨HO1.out.2 g hg, (World.ownsRow.lt HO1.out.1 g hg).2⟩)
      have k4 : wi.cell? ⟨w.heap.size, 4, none⟩ = some (.int .i64 d.pl) := (blk_cell HXi.out 4).trans rfl
      clear hb ho2 HXh he2 hm2
      go_wp2_with fail
      refine (value_any (i := d.pl) HCi.out.a).mono ?_
      rintro e wj ⟨A3, m3, c3, er3, rfl, he3, hm3, ho3, hb⟩
      obtain rfl : m3 = m2 := hm3.trans HM1.out.symm
      have hm20 : m3 ≤ 1000000 := by
        rw [HM1.out]
        exact Nat.le_trans (valM_le _ _ _) (by omega)
      have HCj := hide (HCi.out.later hb)
      have HO3 := hide ho3
      have HR1 := hide (owns_kept_below HO1i.out hb)
      have HR2 := hide (owns_kept_below HO2.out.1 hb)
      have HS3 := hide hb.size
      clear hb ho3 he3 hm3 HO1i HO2 HXi k4
      go_wp2_with fail
      have hr1 := rd_of_slice HR1.out
      have hr2 := rd_of_slice HR2.out
      refine (sameBytes_yes A1 A2 m3 c1 c2 wj.heap.size _ wj hr1 hr2 (Nat.le_refl _) hm20).mono ?_
      rintro e wk ⟨rfl, hb⟩
      have HCk := hide (HCj.out.later hb)
      have HOk1 : Hid (OwnB wk wg.heap.size (.slice A1 m3 c1) m3 _) := hide ⟨owns_kept_below HR1.out hb, fun g hg => (HLT1.out g hg).1⟩
      have HOk3 : Hid (OwnB wk wg.heap.size (.slice A3 m3 c3) m3 _) := hide ⟨owns_kept_below HO3.out.1 hb, fun g hg => Nat.le_trans (Nat.le_trans HS1.out HS2.out) (HO3.out.2 g hg)⟩
      have HSk := hide (Nat.le_trans (Nat.le_trans (Nat.le_trans HS1.out HS2.out) HS3.out) hb.size)
      clear hb hr1 hr2
      go_wp2_with fail
      refine (two_apart HOk1.out HOk3.out (fun g hg hc => by have h1 := (HLT1.out g hg).2; have h2 := HO3.out.2 g hc; have h3 := HS2.out; omega) hm20 hm20 HSk.out).mono ?_
      rintro e wl ⟨rfl, hb⟩
      have HCl := hide (HCk.out.kept (F := fun g => g < wg.heap.size) ⟨hb.os, hb.tape, hb.output, hb.size, fun k _ hF => hb.block k hF⟩ (fun g _ h => h.elim (HCg.out.a.lt g) (fun h => h.elim (HCg.out.r.lt g) (fun h => Nat.lt_of_lt_of_le h HCg.out.below.size))))
      clear hb
      go_wp2_with fail
      go_ret
      exact ⟨rfl, L', HLEN.out, HCl.out⟩
end Go.Proofs.YtihhbpadafgkoaaGreat

/-
  Are a make, and deeds, more than is gone through in time?
-/
namespace Go.Proofs.YtihhbpadafgkoaaGreat
open Go.RowKit
set_option linter.unusedVariables false

/-- Of the first j deeds none has many bytes. -/
def Small (ds : List ADo) (j nn : Nat) : Prop := ∀ (i : Nat) (d : ADo), i < j → ds[i]? = some d → (d.k.n + d.v.n) / 40 ≤ nn
theorem Small.next {ds : List ADo} {j nn : Nat} {d : ADo} (h : Small ds j nn) (hd : ds[j]? = some d) : Small ds (j + 1) (nn + (d.k.n + d.v.n) / 40) := fun i e hi he => by
  by_cases hij : i = j
  · subst hij
    rw [hd] at he
    injection he with he
    subst he
    omega
  · have := h i e (by omega) he
    omega
/-- What 'great' tells. -/
def GreatTold (ds : List ADo) (w : World) (e : Ending) (w' : World) : Prop := ∃ g : Bool, e = .returned (.bool g) ∧ Below w.heap.size w w' ∧ (g = false → ∀ d ∈ ds, d.k.n ≤ 20000 ∧ d.v.n ≤ 20000)
set_option maxRecDepth 100000 in
set_option maxHeartbeats 2000000 in
theorem great_any (k key val ent : Int) (A : Option Addr) (m c B : Nat) (ds : List ADo) (w : World) (h : ADos w B A m ds) (hB : B ≤ w.heap.size) (hm : m ≤ 140737488351232) :
    Calls Tryz.prog 31 #[.agg #[.int .u8 k, .int .i64 key, .int .i64 val, .int .i64 ent], .slice A m c] w (GreatTold ds w) := by
  have HH := hide h
  have hx := World.alloc_heap_new w (.cells #[.int .u8 k, .int .i64 key, .int .i64 val, .int .i64 ent] 25)
  have hb0 := below1 w (.cells #[.int .u8 k, .int .i64 key, .int .i64 val, .int .i64 ent] 25)
  have HX := hide hx
  have HB0 := hide hb0
  have hlx := at_lt hx
  clear h hx hb0
  go_enter Tryz.func31, Tryz.ntmps31
  go_wp2_with fail
  generalize w.alloc (.cells #[.int .u8 k, .int .i64 key, .int .i64 val, .int .i64 ent] 25) = W1 at *
  go_loopw [5, 6] (fun a b wr => ∃ j nn : Nat, j ≤ m ∧ m ≤ nn ∧ nn ≤ 562949953421312 ∧ a = .int .i64 nn ∧ b = .int .i64 j ∧ Below W1.heap.size W1 wr ∧ Small ds j nn) (fun _ b _ => m - (intOf b).toNat)
  case atStart => exact ⟨0, m, Nat.zero_le _, Nat.le_refl _, by omega, rfl, rfl, Below.refl _ _, fun i d hi => by omega⟩
  case round =>
    obtain ⟨j, nn, hj, hmn, hnn, rfl, rfl, hbr, hs⟩ := hrel
    have HS := hide hs
    have HBR := hide hbr
    have hxr := (hbr.block _ hlx).trans HX.out
    have x2 := (blk_cell hxr 2).trans rfl
    have x3 := (blk_cell hxr 3).trans rfl
    simp at x2 x3
    clear hs hbr hxr
    by_cases hgo : j < m ∧ nn ≤ 300
    · obtain ⟨hjm, hn4⟩ := hgo
      have HHr := (HH.out.below ((HB0.out.trans (HBR.out.mono HB0.out.size)).mono hB))
      obtain ⟨ad, d, rfl, hd, _, hc⟩ := HHr.cell hjm
      have c1 := hc 1 _ rfl
      have c2 := hc 2 _ rfl
      rw [add_parts ad _ 1 (by decide)] at c1
      rw [add_parts ad _ 2 (by decide)] at c2
      have hle1 := (HHr.inner d (List.mem_of_getElem? hd)).k.le
      have hcp1 := (HHr.inner d (List.mem_of_getElem? hd)).k.cap
      have hle2 := (HHr.inner d (List.mem_of_getElem? hd)).v.le
      have hcp2 := (HHr.inner d (List.mem_of_getElem? hd)).v.cap
      have HD := hide hd
      have q1 : decide ((j : Int) < (m : Int)) = true := decide_eq_true (by omega)
      have q2 : decide ((nn : Int) ≤ 300) = true := decide_eq_true (by omega)
      have q3 : IntKind.i64.wrap ((d.k.n : Int) + (d.v.n : Int)) = (d.k.n : Int) + (d.v.n : Int) := IntWalk.i64_in _ (by omega)
      have q4 : ((d.k.n : Int) + (d.v.n : Int)).tdiv 40 = (((d.k.n + d.v.n) / 40 : Nat) : Int) := by
        rw [Int.tdiv_eq_ediv_of_nonneg (by omega)]; omega
      have q5 : IntKind.i64.wrap ((nn : Int) + (((d.k.n + d.v.n) / 40 : Nat) : Int)) = ((nn + (d.k.n + d.v.n) / 40 : Nat) : Int) := by rw [IntWalk.i64_in _ (by omega)]; omega
      replace c1 := Later.cell c1
      replace c2 := Later.cell c2
      have j0 : (0 : Int) ≤ (j : Int) := by omega
      have j1 : (j : Int) < (m : Int) := by omega
      clear hd hc HHr x2 x3
      have hqb : (d.k.n + d.v.n) / 40 ≤ 7036874417767 := by omega
      generalize hq : (d.k.n + d.v.n) / 40 = qq at q4 q5 hqb
      have qq0 : (0 : Int) ≤ (qq : Int) := by omega
      have qq1 : (qq : Int) ≤ 7036874417767 := by omega
      have HQ := hide hq
      clear hq
      go_wp2_with fail
      refine wp_region_later (by kernel_rfl) (by kernel_rfl) ?_
      repeat (first | go_big_quiet_step (fail) | (refine wpQuiet_step (fun K hK => ?_); go_simp; refine hK _ ?_; clear hK K))
      refine wpQuiet_nil ?_
      rintro _ ⟨y, rfl⟩
      have HBY := hide (HBR.out.trans (y.below.mono HBR.out.size))
      clear c1 c2 q3 q4 q5 q1 q2
      generalize y.w = wy at *
      go_wp2
      go_roundw
      case rel => exact ⟨j + 1, nn + qq, by omega, by omega, by omega, by go_num, by go_num, HBY.out, by rw [← HQ.out]; exact HS.out.next HD.out⟩
      case measure => simp [intOf]; omega
    · have hsmall : nn ≤ 300 → ∀ d ∈ ds, d.k.n ≤ 20000 ∧ d.v.n ≤ 20000 := fun hn d hd => by
        obtain ⟨i, hi⟩ := List.mem_iff_getElem?.1 hd
        have h1 := (List.getElem?_eq_some_iff.1 hi).1
        have hl := HH.out.len
        have := HS.out i d (by omega) hi
        omega
      have HSm := hide hsmall
      have HBf := hide (HB0.out.trans (HBR.out.mono HB0.out.size))
      clear hsmall
      by_cases hbig : 300 < nn
      · have q2 : decide ((nn : Int) ≤ 300) = false := decide_eq_false (by omega)
        have q3 : decide ((300 : Int) < (nn : Int)) = true := decide_eq_true (by omega)
        by_cases hjm : j < m
        · have q1 : decide ((j : Int) < (m : Int)) = true := decide_eq_true (by omega)
          clear hgo
          go_wp2
          go_ret
          exact ⟨true, rfl, HBf.out, nofun⟩
        · have q1 : decide ((j : Int) < (m : Int)) = false := decide_eq_false (by omega)
          clear hgo
          go_wp2
          go_ret
          exact ⟨true, rfl, HBf.out, nofun⟩
      · have q1 : decide ((j : Int) < (m : Int)) = false := decide_eq_false (by omega)
        have q1' : decide (j < m) = false := decide_eq_false (by omega)
        have q3 : decide ((300 : Int) < (nn : Int)) = false := decide_eq_false (by omega)
        have hsm := hide (HSm.out (by omega))
        clear hgo
        go_wp2
        all_goals
          go_ret
          exact ⟨_, rfl, HBf.out, fun _ => hsm.out⟩
end Go.Proofs.YtihhbpadafgkoaaGreat

/-
  ArrayLives: the deeds, one after another, by both arrays.
-/
namespace Go.Proofs.YtihhbpadafgkoaaGreat
open Go.RowKit Go.Maps
set_option linter.unusedVariables false

theorem zARs_length (s sz n : Nat) : (zARs s sz n).length = n := by simp [zARs]
theorem InB.up {w : World} {B B' : Nat} {r : ARow} (h : InB w B r) (hb : B ≤ B') : InB w B' r := ⟨h.rd.mono hb, h.nil, h.le, h.cap, h.byte⟩
theorem ADos.up {w : World} {B B' : Nat} {A : Option Addr} {m : Nat} {ds : List ADo} (h : ADos w B A m ds) (hb : B ≤ B') : ADos w B' A m ds :=
  ⟨h.outer.mono hb, fun d hd => by have h1 := h.inner d hd; exact ⟨h1.k.up hb, h1.v.up hb, h1.what, h1.fl, h1.pl, h1.of⟩⟩
theorem Arr.down {w : World} {B B' b cb sz : Nat} {L : List AR} (h : Arr w B b cb sz L) (hb : B' ≤ B) : Arr w B' b cb sz L := ⟨h.blk, h.cel, h.row, fun g hg => Nat.le_trans hb (h.low g hg), h.sep, h.big, h.many⟩
theorem RArr.down {w : World} {B B' x sz n rc : Nat} {RA : Option Addr} {bs : List Int} (h : RArr w B x sz n RA rc bs) (hb : B' ≤ B) : RArr w B' x sz n RA rc bs := ⟨h.blk, h.row, fun g hg => Nat.le_trans hb (h.low g hg), h.big, h.many⟩
theorem both_new {w0 w1 w2 : World} {b cb s sz x n rc : Nat} {RA : Option Addr} (h0 : Below w0.heap.size w0 w1) (h1 : Arr w1 w0.heap.size b cb sz (zARs s sz n)) (hb : Below w1.heap.size w1 w2) (h2 : RArr w2 w1.heap.size x sz n RA rc (List.replicate (sz * n) 0)) : Both w0 w2 b cb sz (zARs s sz n) x rc RA := by
  have hl := zARs_length s sz n
  have hs := h0.size
  refine ⟨h1.below hb, ?_, fun g hg => ?_, h0.trans (hb.mono hs)⟩
  · rw [flat_zeros, hl]; exact h2.down hs
  · rw [hl]
    intro hc
    have h3 := h1.lt g hg
    have h4 := h2.low g hc
    omega
set_option maxRecDepth 100000 in
set_option maxHeartbeats 4000000 in
theorem law_arrayLives (k key val ent : Int) (A : Option Addr) (m c : Nat) (ds : List ADo) (w : World) (hk : 0 ≤ k ∧ k < 256) (h : ADos w w.heap.size A m ds) (hm : m ≤ 140737488351232) :
    Calls Tryz.prog 9 #[.agg #[.int .u8 k, .int .i64 key, .int .i64 val, .int .i64 ent], .slice A m c] w fun e w' => e = .returned (.bool true) ∧ Below w.heap.size w w' := by
  have hx := World.alloc_heap_new w (.cells #[.int .u8 k, .int .i64 key, .int .i64 val, .int .i64 ent] 25)
  have hb1 := below1 w (.cells #[.int .u8 k, .int .i64 key, .int .i64 val, .int .i64 ent] 25)
  have hz := hb1.size
  have HX := hide hx
  have HB1 := hide hb1
  have HA := hide ((h.below hb1).up hz)
  clear h hx hb1
  go_enter Tryz.func9, Tryz.ntmps9
  go_wp2_with fail
  generalize w.alloc (.cells #[.int .u8 k, .int .i64 key, .int .i64 val, .int .i64 ent] 25) = W1 at *
  refine (great_any k key val ent A m c W1.heap.size ds W1 HA.out (Nat.le_refl _) (by omega)).mono ?_
  rintro e w1 ⟨g, rfl, hb, hg⟩
  have HB2 := hide hb
  have hx2 := (hb.block _ (at_lt HX.out)).trans HX.out
  have HX2 := hide hx2
  clear hb hx2
  cases g with
  | true =>
    go_wp2_with fail
    refine (awake_any w1).mono ?_
    rintro e w2 ⟨rfl, hb⟩
    have HB := hide (HB1.out.trans ((HB2.out.trans (hb.mono HB2.out.size)).mono hz))
    clear hb
    go_wp2
    go_ret
    exact ⟨rfl, HB.out⟩
  | false =>
    have HN := hide (hg rfl)
    have x0 : w1.cell? ⟨w.heap.size, 0, none⟩ = some (.int .u8 k) := (blk_cell HX2.out 0).trans rfl
    have x1 : w1.cell? ⟨w.heap.size, 1, none⟩ = some (.int .i64 key) := (blk_cell HX2.out 1).trans rfl
    have x2 : w1.cell? ⟨w.heap.size, 2, none⟩ = some (.int .i64 val) := (blk_cell HX2.out 2).trans rfl
    have x3 : w1.cell? ⟨w.heap.size, 3, none⟩ = some (.int .i64 ent) := (blk_cell HX2.out 3).trans rfl
    clear hg
    by_cases he : newE k key val ent = 0
    · obtain ⟨rfl, rfl, hsp, hv1, hv2, hn1, hn2⟩ := newE_yes he
      obtain ⟨sz, rfl⟩ : ∃ s : Nat, val = s := ⟨val.toNat, by omega⟩
      obtain ⟨n, rfl⟩ : ∃ s : Nat, ent = s := ⟨ent.toNat, by omega⟩
      have HSP := hide hsp
      clear he hsp
      go_wp2_with fail
      refine (new_yes n sz w1 HSP.out (by omega) (by omega)).mono ?_
      rintro e w2 ⟨b, cb, s, rfl, ha, hb⟩
      have HAr := hide (ha.down HB2.out.size)
      have HB3 := hide (HB2.out.trans (hb.mono HB2.out.size))
      have hx3 := (hb.block _ (at_lt HX2.out)).trans HX2.out
      have x0 : w2.cell? ⟨w.heap.size, 0, none⟩ = some (.int .u8 1) := (blk_cell hx3 0).trans rfl
      have x1 : w2.cell? ⟨w.heap.size, 1, none⟩ = some (.int .i64 4) := (blk_cell hx3 1).trans rfl
      have x2 : w2.cell? ⟨w.heap.size, 2, none⟩ = some (.int .i64 sz) := (blk_cell hx3 2).trans rfl
      have x3 : w2.cell? ⟨w.heap.size, 3, none⟩ = some (.int .i64 n) := (blk_cell hx3 3).trans rfl
      clear ha hb hx3
      go_wp2_with fail
      refine (rnew_yes n sz w2 HSP.out (by omega) (by omega)).mono ?_
      rintro e w3 ⟨x, RA, rc, rfl, hr, hb⟩
      have HS0 := hide (both_new HB3.out HAr.out hb hr)
      have HZ : Hid ((zARs s sz n).length = n) := hide (zARs_length s sz n)
      clear hr hb x0 x1 x2 x3 HAr HB3
      generalize zARs s sz n = L0 at *
      go_wp2_with fail
      go_loopw [9] (fun u wr => ∃ (j : Nat) (L : List AR), j ≤ m ∧ u = .int .i64 j ∧ L.length = n ∧ Both W1 wr b cb sz L x rc RA) (fun u _ => m - (intOf u).toNat)
      case atStart => exact ⟨0, L0, Nat.zero_le _, rfl, HZ.out, HS0.out⟩
      case round =>
        obtain ⟨j, L, hj, rfl, hl, hB⟩ := hrel
        have HT := hide hB
        have HL := hide hl
        clear hB hl
        by_cases hjm : j < m
        · have hAr := HA.out.below HT.out.below
          obtain ⟨ad, d, rfl, hd, hadb, hc⟩ := hAr.cell hjm
          have HI := hide (HA.out.inner d (List.mem_of_getElem? hd))
          have HN1 := hide (HN.out d (List.mem_of_getElem? hd))
          have c0 : wr.cell? (ad.add (j * 6)) = some (.int .i64 d.what) := hc 0 _ rfl
          have c1 := hc 1 _ rfl
          have c2 := hc 2 _ rfl
          have c3 := hc 3 _ rfl
          have c4 := hc 4 _ rfl
          have c5 := hc 5 _ rfl
          rw [add_parts ad _ 1 (by decide)] at c1
          rw [add_parts ad _ 2 (by decide)] at c2
          rw [add_parts ad _ 3 (by decide)] at c3
          rw [add_parts ad _ 4 (by decide)] at c4
          rw [add_parts ad _ 5 (by decide)] at c5
          clear hc hAr hd
          go_wp2_with fail
          refine (step_any W1 wr b cb sz x rc L RA d HT.out HI.out HN1.out.1 HN1.out.2).mono ?_
          rintro e w5 ⟨rfl, L', hl', hB'⟩
          have HS5 := hide hB'
          have HL5 := hide (hl'.trans HL.out)
          clear hB' hl' c0 c1 c2 c3 c4 c5
          go_wp2_with fail
          go_roundw
          case rel => exact ⟨j + 1, L', by omega, by go_num, HL5.out, HS5.out⟩
          case measure => simp [intOf]; omega
        · have hjq : j = m := by omega
          clear hjm hj
          subst hjq
          go_wp2_with fail
          go_loopw [10, 11, 12, 13, 14] (fun u a1 a2 a3 a4 wq => ∃ j : Nat, j ≤ n ∧ u = .int .i64 j ∧ Both W1 wq b cb sz L x rc RA) (fun u _ _ _ _ _ => n - (intOf u).toNat)
          case atStart => exact ⟨0, Nat.zero_le _, rfl, HT.out⟩
          case round =>
            obtain ⟨j, hj, rfl, hB⟩ := hrel
            have k3 : wr.cell? ⟨w.heap.size, 3, none⟩ = some (.int .i64 n) := (blk_cell ((hB.below.block _ (at_lt HX.out)).trans HX.out) 3).trans rfl
            have HQ := hide hB
            clear hB HT
            by_cases hjn : j < n
            · go_wp2_with fail
              refine (value_any (i := (j : Int)) HQ.out.a).mono ?_
              rintro e wh ⟨A1, m1, c1, er, rfl, he1, hm1, ho1, hb⟩
              have HCh := hide (HQ.out.later hb)
              have HO1 := hide ho1
              have HM1 := hide hm1
              have hbg := HCh.out.a.big
              clear hb ho1 he1 hm1 k3
              go_wp2_with fail
              refine (rvalue_any (i := (j : Int)) HCh.out.r).mono ?_
              rintro e wi ⟨A2, m2, c2, er2, rfl, he2, hm2, ho2, hb⟩
              obtain rfl : m2 = m1 := hm2.trans HM1.out.symm
              have hm20 : m2 ≤ 1000000 := by
                rw [hm2]
                exact Nat.le_trans (valM_le _ _ _) (by omega)
              have HCi := hide (HCh.out.later hb)
              have HR1 := hide (owns_kept_below HO1.out.1 hb)
              have HR2 := hide ho2.1
              clear hb ho2 he2 hm2 HO1 HM1
              go_wp2_with fail
              have hr1 := rd_of_slice HR1.out
              have hr2 := rd_of_slice HR2.out
              refine (sameBytes_yes A1 A2 m2 c1 c2 wi.heap.size _ wi hr1 hr2 (Nat.le_refl _) hm20).mono ?_
              rintro e wk ⟨rfl, hb⟩
              have HCk := hide (HCi.out.later hb)
              clear hb hr1 hr2
              go_wp2_with fail
              go_roundw
              case rel => exact ⟨j + 1, by omega, by go_num, HCk.out⟩
              case measure => simp [intOf]; omega
            · have hjq : j = n := by omega
              clear hjn hj
              subst hjq
              go_wp2_with fail
              refine (awake_any _).mono ?_
              rintro e w4 ⟨rfl, hb⟩
              have HB := hide (HB1.out.trans ((HQ.out.below.trans (hb.mono HQ.out.below.size)).mono hz))
              clear hb
              go_wp2
              go_ret
              exact ⟨rfl, HB.out⟩
    · obtain ⟨r, hr⟩ : ∃ r, r = newE k key val ent := ⟨_, rfl⟩
      have hn := new_no k key val ent w1 hk he
      have hrn := fun W => rnew_no k key val ent W hk he
      rw [← hr] at hn
      simp only [← hr] at hrn he
      have HRN := hide hrn
      have HNN := hide hn
      have HHr := hide hr
      clear hr hrn hn
      go_wp2_with fail
      refine HNN.out.mono ?_
      rintro e w2 ⟨rfl, hb⟩
      have HB3 := hide (HB2.out.trans (hb.mono HB2.out.size))
      have hx3 := (hb.block _ (at_lt HX2.out)).trans HX2.out
      have x0 : w2.cell? ⟨w.heap.size, 0, none⟩ = some (.int .u8 k) := (blk_cell hx3 0).trans rfl
      have x1 : w2.cell? ⟨w.heap.size, 1, none⟩ = some (.int .i64 key) := (blk_cell hx3 1).trans rfl
      have x2 : w2.cell? ⟨w.heap.size, 2, none⟩ = some (.int .i64 val) := (blk_cell hx3 2).trans rfl
      have x3 : w2.cell? ⟨w.heap.size, 3, none⟩ = some (.int .i64 ent) := (blk_cell hx3 3).trans rfl
      clear hb hx3
      go_wp2_with fail
      refine (HRN.out w2).mono ?_
      rintro e w3 ⟨rfl, hb⟩
      have HB4 := hide (HB3.out.trans (hb.mono HB3.out.size))
      clear hb x0 x1 x2 x3
      go_wp2_with fail
      refine (awake_any w3).mono ?_
      rintro e w4 ⟨rfl, hb⟩
      have HB := hide (HB1.out.trans ((HB4.out.trans (hb.mono HB4.out.size)).mono hz))
      clear hb
      go_wp2
      go_ret
      exact ⟨rfl, HB.out⟩
end Go.Proofs.YtihhbpadafgkoaaGreat

/-
  No array, and one that nobody made, have nothing: ArrayNil's walk.
-/
namespace Go.Proofs.YtihhbpadafgkoaaGreat
open Go.RowKit
set_option linter.unusedVariables false

theorem below_in {w0 W w' : World} (h : Below w0.heap.size w0 W) (hb : Below W.heap.size W w') : Below w0.heap.size w0 w' := h.trans (hb.mono h.size)
set_option maxRecDepth 100000 in
set_option maxHeartbeats 1000000 in
theorem law_arrayNil (what fl pl off : Int) (KA VA : Option Addr) (kn kc vn vc : Nat) (w : World) : Calls Tryz.prog 10 #[.agg #[.int .i64 what, .slice KA kn kc, .slice VA vn vc, .int .u64 fl, .int .i64 pl, .int .i64 off]] w fun e w' => e = .returned (.bool true) ∧ Below w.heap.size w w' := by
  have hx := World.alloc_heap_new w (.cells #[.int .i64 what, .slice KA kn kc, .slice VA vn vc, .int .u64 fl, .int .i64 pl, .int .i64 off] 37)
  have hb := below1 w (.cells #[.int .i64 what, .slice KA kn kc, .slice VA vn vc, .int .u64 fl, .int .i64 pl, .int .i64 off] 37)
  generalize hW1 : w.alloc (.cells #[.int .i64 what, .slice KA kn kc, .slice VA vn vc, .int .u64 fl, .int .i64 pl, .int .i64 off] 37) = W1 at hx hb
  have HW1 := hide hW1
  have HX := hide hx
  have HB := hide hb
  have c1 := blk_cell hx 1
  have c2 := blk_cell hx 2
  have c3 := blk_cell hx 3
  have c4 := blk_cell hx 4
  have c5 := blk_cell hx 5
  simp at c1 c2 c3 c4 c5
  have hxl := at_lt hx
  clear hW1 hx hb
  go_enter Tryz.func10, Tryz.ntmps10
  by_cases hg : (1000 : Int) < (kn : Int) ∨ (1000 : Int) < (vn : Int)
  · have HA := hide (awake_any W1)
    by_cases h1 : (1000 : Int) < (kn : Int)
    · have g1 : decide ((1000 : Int) < (kn : Int)) = true := decide_eq_true h1
      go_upto_region 1 with fail
      refine Eq.mp (congrArg (Code.wp Tryz.prog _ _ _) HW1.out.symm) ?_
      go_wp2_with (go_at_call 11; refine HA.out.mono ?_; rintro e w9 ⟨rfl, hb⟩; have HB9 := hide (below_in HB.out hb); clear hb)
      go_ret
      exact ⟨rfl, HB9.out⟩
    · have g1 : decide ((1000 : Int) < (kn : Int)) = false := decide_eq_false h1
      have g2 : decide ((1000 : Int) < (vn : Int)) = true := decide_eq_true (by omega)
      go_upto_region 1 with fail
      refine Eq.mp (congrArg (Code.wp Tryz.prog _ _ _) HW1.out.symm) ?_
      go_wp2_with (go_at_call 11; refine HA.out.mono ?_; rintro e w9 ⟨rfl, hb⟩; have HB9 := hide (below_in HB.out hb); clear hb)
      go_ret
      exact ⟨rfl, HB9.out⟩
  · have g1 : decide ((1000 : Int) < (kn : Int)) = false := decide_eq_false (by omega)
    have g2 : decide ((1000 : Int) < (vn : Int)) = false := decide_eq_false (by omega)
    clear hg
    go_upto_region 1 with fail
    refine Eq.mp (congrArg (Code.wp Tryz.prog _ _ _) HW1.out.symm) ?_
    go_upto_region 4 with fail
    obtain ⟨q0, q1⟩ := two_boxes W1 (.cells #[.pointer none, .int .i64 0, .slice none 0 0] 70) (.cells #[.pointer none, .pointer (some ⟨W1.heap.size, 0, none⟩)] 26)
    have hb2 := below2 W1 (.cells #[.pointer none, .int .i64 0, .slice none 0 0] 70) (.cells #[.pointer none, .pointer (some ⟨W1.heap.size, 0, none⟩)] 26)
    generalize hW2 : (W1.alloc (.cells #[.pointer none, .int .i64 0, .slice none 0 0] 70)).alloc (.cells #[.pointer none, .pointer (some ⟨W1.heap.size, 0, none⟩)] 26) = W2 at q0 q1 hb2
    replace hW2 := hide hW2
    have HB2 := hide (below_in HB.out hb2)
    have HN1 : Hid (NoA none W2) := hide (noA_nil W2)
    have HN2 : Hid (NoA (some ⟨W1.heap.size, 0, none⟩) W2) := hide (noA_zero (by rw [blk_cell q0]; rfl))
    have HZ := hide (Below.refl W2.heap.size W2)
    replace HX := hide ((hb2.block _ (at_lt HX.out)).trans HX.out)
    have HQ := hide q1
    clear q0 q1 hb2 hW2 c1 c2 c3 c4 c5
    have cells_at : ∀ W, Below W2.heap.size W2 W → (W.cell? ⟨w.heap.size, 1, none⟩ = some (.slice KA kn kc) ∧ W.cell? ⟨w.heap.size, 2, none⟩ = some (.slice VA vn vc) ∧ W.cell? ⟨w.heap.size, 3, none⟩ = some (.int .u64 fl) ∧ W.cell? ⟨w.heap.size, 4, none⟩ = some (.int .i64 pl) ∧ W.cell? ⟨w.heap.size, 5, none⟩ = some (.int .i64 off)) ∧
        W.cell? ⟨W1.heap.size + 1, 0, none⟩ = some (.pointer none) ∧ W.cell? ⟨W1.heap.size + 1, 1, none⟩ = some (.pointer (some ⟨W1.heap.size, 0, none⟩)) := fun W hb => by
      have h1 := (hb.block _ (at_lt HX.out)).trans HX.out
      have h2 := (hb.block _ (at_lt HQ.out)).trans HQ.out
      refine ⟨⟨?_, ?_, ?_, ?_, ?_⟩, ?_, ?_⟩ <;> first | (rw [blk_cell h1]; rfl) | (rw [blk_cell h2]; rfl)
    have HC := hide cells_at
    clear cells_at
    obtain ⟨⟨c1, c2, c3, c4, c5⟩, e0, e1⟩ := HC.out W2 HZ.out
    go_wp2_with fail
    refine wp_loop_rounds 3 ?_
    rw [rounds_succ]
    go_wp2_with (first
      | (go_at_call 35; refine (lookup_not _ KA kn kc _ (HN1.out.later HZ.out)).mono ?_; rintro e wx0 ⟨rfl, hb⟩; have Hx0 := hide (below_in HZ.out hb); clear hb; obtain ⟨⟨c1x0, c2x0, c3x0, c4x0, c5x0⟩, e0x0, e1x0⟩ := HC.out _ Hx0.out)
      | (go_at_call 33; refine (value_not _ pl _ (HN1.out.later Hx0.out)).mono ?_; rintro e wx1 ⟨rfl, hb⟩; have Hx1 := hide (below_in Hx0.out hb); clear hb; obtain ⟨⟨c1x1, c2x1, c3x1, c4x1, c5x1⟩, e0x1, e1x1⟩ := HC.out _ Hx1.out)
      | (go_at_call 36; refine (upd_not _ KA VA kn kc vn vc fl _ (HN1.out.later Hx1.out)).mono ?_; rintro e wx2 ⟨rfl, hb⟩; have Hx2 := hide (below_in Hx1.out hb); clear hb; obtain ⟨⟨c1x2, c2x2, c3x2, c4x2, c5x2⟩, e0x2, e1x2⟩ := HC.out _ Hx2.out)
      | (go_at_call 37; refine (delete_of _ KA kn kc 1 _ (fun W q hb hc => delIn_not _ q W hc (HN1.out.later (below_in Hx2.out hb)))).mono ?_; rintro e wx3 ⟨rfl, hb⟩; have Hx3 := hide (below_in Hx2.out hb); clear hb; obtain ⟨⟨c1x3, c2x3, c3x3, c4x3, c5x3⟩, e0x3, e1x3⟩ := HC.out _ Hx3.out)
      | (go_at_call 38; refine (set_not _ pl off VA vn vc _ (HN1.out.later Hx3.out)).mono ?_; rintro e wx4 ⟨rfl, hb⟩; have Hx4 := hide (below_in Hx3.out hb); clear hb; obtain ⟨⟨c1x4, c2x4, c3x4, c4x4, c5x4⟩, e0x4, e1x4⟩ := HC.out _ Hx4.out))
    rw [rounds_succ]
    go_wp2_with (first
      | (go_at_call 35; refine (lookup_not _ KA kn kc _ (HN2.out.later Hx4.out)).mono ?_; rintro e wy0 ⟨rfl, hb⟩; have Hy0 := hide (below_in Hx4.out hb); clear hb; obtain ⟨⟨c1y0, c2y0, c3y0, c4y0, c5y0⟩, e0y0, e1y0⟩ := HC.out _ Hy0.out)
      | (go_at_call 33; refine (value_not _ pl _ (HN2.out.later Hy0.out)).mono ?_; rintro e wy1 ⟨rfl, hb⟩; have Hy1 := hide (below_in Hy0.out hb); clear hb; obtain ⟨⟨c1y1, c2y1, c3y1, c4y1, c5y1⟩, e0y1, e1y1⟩ := HC.out _ Hy1.out)
      | (go_at_call 36; refine (upd_not _ KA VA kn kc vn vc fl _ (HN2.out.later Hy1.out)).mono ?_; rintro e wy2 ⟨rfl, hb⟩; have Hy2 := hide (below_in Hy1.out hb); clear hb; obtain ⟨⟨c1y2, c2y2, c3y2, c4y2, c5y2⟩, e0y2, e1y2⟩ := HC.out _ Hy2.out)
      | (go_at_call 37; refine (delete_of _ KA kn kc 1 _ (fun W q hb hc => delIn_not _ q W hc (HN2.out.later (below_in Hy2.out hb)))).mono ?_; rintro e wy3 ⟨rfl, hb⟩; have Hy3 := hide (below_in Hy2.out hb); clear hb; obtain ⟨⟨c1y3, c2y3, c3y3, c4y3, c5y3⟩, e0y3, e1y3⟩ := HC.out _ Hy3.out)
      | (go_at_call 38; refine (set_not _ pl off VA vn vc _ (HN2.out.later Hy3.out)).mono ?_; rintro e wy4 ⟨rfl, hb⟩; have Hy4 := hide (below_in Hy3.out hb); clear hb; obtain ⟨⟨c1y4, c2y4, c3y4, c4y4, c5y4⟩, e0y4, e1y4⟩ := HC.out _ Hy4.out))
    rw [rounds_succ]
    have HBx := hide (below_in HB2.out Hy4.out)
    go_wp2_with (go_at_call 11; refine (awake_any _).mono ?_; rintro e w9 ⟨rfl, hb⟩; have HB10 := hide (below_in HBx.out hb); clear hb)
    go_ret
    exact ⟨rfl, HB10.out⟩
end Go.Proofs.YtihhbpadafgkoaaGreat
