/-
  The texts OP, OPD, OPS, RT8, PB as one.
-/
import Derived.Test.YtolodcdhpnapmaaGreatAA
import Derived.ProofKit
import Derived.Carry
import Derived.Deep.Slices
import Derived.Deep.Fields
import Derived.Deep.Grids
import Derived.Test.YtolodcdhpnapmaaGreatRT4
import Derived.Test.YtolodcdhpnapmaaGreatKB
import Derived.SizedLaws

/-
  Arguments, opened.
-/
namespace Go.Proofs.YtolodcdhpnapmaaGreat
open Go.ChangeShapes Go.WideShapes Go.ChangeAt Go.RowKit Go.Deep
set_option linter.unusedVariables false

theorem i64_of_wf {n : Int} (h : (Lit.int .i64 n).wf = true) : -9223372036854775808 ≤ n ∧ n ≤ 9223372036854775807 := by
  simp [Lit.wf, IntKind.min, IntKind.max, IntKind.bits, IntKind.signed] at h
  exact ⟨h.1, by omega⟩
section
variable {H : Type} {enc : TypeId × Value → H} {W : World}
theorem wf_u8 {n : Int} (h : (Lit.int .u8 n).wf = true) : (0 ≤ n ∧ n < 256) := by
  simp [Lit.wf, IntKind.min, IntKind.max, IntKind.bits, IntKind.signed] at h
  exact ⟨h.1, by omega⟩
/-- All that a datum holds is within the machine's reach. -/
def Szd (t : TypeId) (d : DataW H) : Prop := ∀ n ∈ d.weights Tryz.prog t, n ≤ reachBytes
theorem Szd.elems {t e : TypeId} (ht : Tryz.prog.underlying t = some (.slice e)) {es sp : List (DataW H)} (h : Szd t (.slice es sp)) : (es.length + sp.length) * Tryz.prog.bytesOf e ≤ reachBytes ∧ ∀ d ∈ es, Szd e d := by
  have hall : ∀ (l : List (DataW H)) d, d ∈ l → ∀ n ∈ d.weights Tryz.prog e, n ∈ DataW.weightsAll Tryz.prog e l := by
    intro l
    induction l with
    | nil => intro d hd; cases hd
    | cons x r ih =>
      intro d hd n hn
      simp only [DataW.weightsAll, List.mem_append]
      rcases List.mem_cons.1 hd with rfl | hd
      · exact .inl hn
      · exact .inr (ih d hd n hn)
  refine ⟨h _ (by simp [DataW.weights, ht]), fun d hd n hn => h n ?_⟩
  simp only [DataW.weights, ht, List.mem_cons, List.mem_append]
  exact .inr (.inl (hall es d hd n hn))
/-- A row of elements, each of which can be opened. -/
theorem view_rows {α : Type} {t e : TypeId} {sz : Nat} (ht : Tryz.prog.underlying t = some (.slice e)) (hce : Tryz.prog.cellsOf e = sz) (hsz : 0 < sz) (cf : α → List Value) (hcf : ∀ a, (cf a).length = sz) (P : α → Prop)
    (view : ∀ {fuel : Nat} {cs : List Value} {x : DataW H × List MemPlace}, Szd e x.1 → DataW.trod enc Tryz.prog W 0 (fun _ => true) true fuel e cs = some x → ∃ a, P a ∧ cs = cf a)
    {fuel : Nat} {cs : List Value} {x : DataW H × List MemPlace} (hx0 : Szd t x.1) (hf : DataW.trod enc Tryz.prog W 0 (fun _ => true) true fuel t cs = some x) :
    ∃ (A : Option Addr) (c : Nat) (l : List α), cs = [.slice A l.length c] ∧ Rd W W.heap.size sz A l.length (l.flatMap cf) ∧ (∀ a ∈ l, P a) ∧ l.length ≤ c ∧ c ≤ maxLen ∧ c * Tryz.prog.bytesOf e ≤ reachBytes := by
  rcases open_slice ht hf with ⟨hcs, hx⟩ | ⟨a, n, c, m, k, D, Pl, hcs, _, hl, hm, hmm, hx, hi⟩
  · exact ⟨none, 0, [], hcs, ⟨by simp, fun h => absurd h (by simp)⟩, by simp, by simp, by simp [maxLen], by simp⟩
  · simp only [if_true] at hmm
    subst hmm
    rw [hce] at hi
    subst hx
    obtain ⟨hw, hwe⟩ := Szd.elems ht hx0
    have hw2 : m * Tryz.prog.bytesOf e ≤ reachBytes := by
      have e1 : ((List.range n).map D).length + ((List.range (m - n)).map fun j => D (n + j)).length = m := by simp; omega
      rwa [e1] at hw
    have hs : ∀ i, i < n → ∃ s : α, P s ∧ ∀ j u, (cf s)[j]? = some u → W.cell? (a.add (i * sz + j)) = some u := by
      intro i hin
      obtain ⟨cs', h1, h2⟩ := hi i (by omega)
      obtain ⟨s, hsf, rfl⟩ := view (x := (D i, Pl i)) (hwe (D i) (List.mem_map.2 ⟨i, List.mem_range.2 hin, rfl⟩)) h2
      obtain ⟨_, hcl, hat⟩ := World.cells?_some h1
      refine ⟨s, hsf, fun j u hj => ?_⟩
      have hlt : j < sz := by have := (List.getElem?_eq_some_iff.1 hj).1; rw [hcf] at this; exact this
      rw [← add_add, hat j hlt, hj]
    clear hw hwe hx0
    have hl2 : ∃ l : List α, l.length = n ∧ ∀ i s, l[i]? = some s → P s ∧ ∀ j u, (cf s)[j]? = some u → W.cell? (a.add (i * sz + j)) = some u := by
      clear hf hi hl hm hcs hw2
      revert hs
      induction n with
      | zero => exact fun _ => ⟨[], rfl, by simp⟩
      | succ n ih =>
        intro hs
        obtain ⟨l, h1, h2⟩ := ih (fun i hi => hs i (by omega))
        obtain ⟨s, h3, h4⟩ := hs n (by omega)
        refine ⟨l ++ [s], by simp [h1], fun i t ht => ?_⟩
        rcases Nat.lt_or_ge i n with hlt | hge
        · rw [List.getElem?_append_left (by omega)] at ht
          exact h2 i t ht
        · have hin : i = n := by
            have := (List.getElem?_eq_some_iff.1 ht).1
            simp [h1] at this
            omega
          subst hin
          rw [List.getElem?_append_right (by omega), h1, Nat.sub_self] at ht
          simp at ht
          subst ht
          exact ⟨h3, h4⟩
    obtain ⟨l, hll, hls⟩ := hl2
    subst hll
    have hc : ∀ j u, (l.flatMap cf)[j]? = some u → W.cell? (a.add j) = some u := by
      intro j u hu
      have e : j = j / sz * sz + j % sz := by have := Nat.div_add_mod j sz; rw [Nat.mul_comm]; omega
      have hmod := Nat.mod_lt j hsz
      rw [e, flat_at cf sz hcf l (j / sz) (j % sz) hmod] at hu
      rw [e]
      rcases hq : l[j / sz]? with _ | s
      · rw [hq] at hu; simp at hu
      · rw [hq] at hu
        exact (hls _ s hq).2 _ u hu
    refine ⟨some a, _, l, hcs, ⟨by rw [flat_length cf sz hcf], fun hn => ⟨a, rfl, ?_, hc⟩⟩, fun s hsm => ?_, hl, hm, hw2⟩
    · obtain ⟨s, _, h4⟩ := hs 0 hn
      have hcl := hcf s
      have h0 : (cf s)[0]? = some ((cf s)[0]'(by omega)) := List.getElem?_eq_getElem _
      have := World.block_lt_of_cell? W _ (h4 0 _ h0)
      rwa [block_add] at this
    · obtain ⟨i, hi'⟩ := List.getElem?_of_mem hsm
      exact (hls i s hi').1
/-- A struct all of whose fields have one cell. -/
theorem view_one {t : TypeId} {fs : Array Field} (ht : Tryz.prog.underlying t = some (.struct fs)) (h1 : oneCellFields Tryz.prog fs = true) (hct : Tryz.prog.cellsOf t = fs.size) {fuel : Nat} {cs : List Value} {x : DataW H × List MemPlace}
    (h : DataW.trod enc Tryz.prog W 0 (fun _ => true) true fuel t cs = some x) :
    cs.length = fs.size ∧ ∃ n, ∀ (j : Nat) (f : Field) (v : Value), fs[j]? = some f → cs[j]? = some v → ∃ y, DataW.trod enc Tryz.prog W 0 (fun _ => true) true n f.type [v] = some y := by
  obtain ⟨ys, n, _, _, hlen, hyl, hf⟩ := DataW.trod_struct ht h
  rw [hct] at hlen
  refine ⟨hlen, n, fun j f v hj hv => ?_⟩
  have hd := hf j f hj
  obtain ⟨h2, h3⟩ := hone_of h1 j _ hj
  rw [h2, h3] at hd
  have hys : ys[j]? = some (ys[j]'(by have := (Array.getElem?_eq_some_iff.1 hj).1; omega)) := List.getElem?_eq_getElem _
  have hcs : (cs.drop j).take 1 = [v] := by
    obtain ⟨hlt, he⟩ := List.getElem?_eq_some_iff.1 hv
    rw [List.drop_eq_getElem_cons hlt, List.take_succ_cons, List.take_zero, he]
  rw [hcs, hys] at hd
  exact ⟨_, hd⟩
/-- The same, by the fields' types. -/
theorem view_by {t : TypeId} {ts : List TypeId} (hst : ∃ fs : Array Field, Tryz.prog.underlying t = some (.struct fs) ∧ oneCellFields Tryz.prog fs = true ∧ Tryz.prog.cellsOf t = fs.size ∧ fs.toList.map (·.type) = ts) {fuel : Nat} {cs : List Value} {x : DataW H × List MemPlace}
    (h : DataW.trod enc Tryz.prog W 0 (fun _ => true) true fuel t cs = some x) : cs.length = ts.length ∧ ∃ n, ∀ (j : Nat) (u : TypeId) (v : Value), ts[j]? = some u → cs[j]? = some v → ∃ y, DataW.trod enc Tryz.prog W 0 (fun _ => true) true n u [v] = some y := by
  obtain ⟨fs, h1, h2, h3, h4⟩ := hst
  obtain ⟨h5, n, h6⟩ := view_one h1 h2 h3 h
  refine ⟨by rw [h5, ← h4]; simp, n, fun j u v hu hv => ?_⟩
  rw [← h4, List.getElem?_map, Array.getElem?_toList] at hu
  cases hf : fs[j]? with
  | none => rw [hf] at hu; cases hu
  | some f =>
    rw [hf] at hu
    simp at hu
    subst hu
    exact h6 j f v hf hv
theorem int_one {k : IntKind} {t : TypeId} (ht : Tryz.prog.underlying t = some (.int k)) {n : Nat} {v : Value} (h : ∃ y, DataW.trod enc Tryz.prog W 0 (fun _ => true) true n t [v] = some y) : ∃ m, v = .int k m ∧ (Lit.int k m).wf = true := by
  obtain ⟨y, h⟩ := h
  obtain ⟨m, hm, _, hw⟩ := DataW.trod_int ht h
  exact ⟨m, by simpa using hm, hw⟩
theorem view_u8 {fuel : Nat} {cs : List Value} {x : DataW H × List MemPlace} (_ : Szd 5 x.1) (h : DataW.trod enc Tryz.prog W 0 (fun _ => true) true fuel 5 cs = some x) : ∃ m : Int, (0 ≤ m ∧ m < 256) ∧ cs = [.int .u8 m] := by
  obtain ⟨m, hm, _, hw⟩ := DataW.trod_int Tryz.underlying5 h
  exact ⟨m, wf_u8 hw, hm⟩
theorem cells5 : Tryz.prog.cellsOf 5 = 1 := by kernel_rfl
theorem cells31 : Tryz.prog.cellsOf 34 = 1 := by kernel_rfl
theorem u8s_flat (l : List Int) : l.flatMap (fun m => [Value.int .u8 m]) = u8s l := by
  unfold u8s
  induction l with
  | nil => rfl
  | cons m l ih => simp [ih]
/-- A row of bytes that came in. -/
def ARow.Is (W : World) (r : ARow) : Prop := Rd W W.heap.size 1 r.A r.n (u8s r.bs) ∧ (r.A = none → r.n = 0) ∧ r.n ≤ r.c ∧ r.c ≤ 140737488351232 ∧ ∀ b ∈ r.bs, IsByte b
theorem bytes5 : Tryz.prog.bytesOf 5 = 1 := by kernel_rfl
theorem bytes31 : Tryz.prog.bytesOf 34 = 24 := by kernel_rfl
theorem view_bytes {fuel : Nat} {cs : List Value} {x : DataW H × List MemPlace} (hx : Szd 34 x.1) (h : DataW.trod enc Tryz.prog W 0 (fun _ => true) true fuel 34 cs = some x) : ∃ r : ARow, r.Is W ∧ cs = [r.sl] := by
  obtain ⟨A, c, l, hcs, hr, hl, h1, h2, h3⟩ := view_rows (P := fun m => 0 ≤ m ∧ m < 256) Tryz.underlying34 cells5 (by decide) (fun m : Int => [Value.int .u8 m]) (fun _ => rfl) view_u8 hx h
  rw [bytes5] at h3
  have h4 : c ≤ 140737488351232 := by simp only [reachBytes] at h3; omega
  rw [u8s_flat] at hr
  refine ⟨⟨A, l.length, c, l⟩, ⟨hr, fun h => ?_, h1, h4, hl⟩, hcs⟩
  rcases Nat.eq_zero_or_pos l.length with h0 | h0
  · exact h0
  · obtain ⟨ad, e, _⟩ := hr.2 h0
    rw [show A = none from h] at e
    cases e
theorem sl_flat (l : List ARow) : l.flatMap (fun r => [r.sl]) = l.map ARow.sl := by
  induction l with
  | nil => rfl
  | cons m l ih => simp [ih]
theorem view_rowsB {fuel : Nat} {cs : List Value} {x : DataW H × List MemPlace} (hx : Szd 63 x.1) (h : DataW.trod enc Tryz.prog W 0 (fun _ => true) true fuel 63 cs = some x) :
    ∃ (A : Option Addr) (m c : Nat) (rs : List ARow), cs = [.slice A m c] ∧ ARows W W.heap.size A m rs ∧ m ≤ c ∧ c ≤ 140737488351232 := by
  obtain ⟨A, c, l, hcs, hr, hl, h1, h2, h3⟩ := view_rows (P := fun r : ARow => r.Is W) Tryz.underlying63 cells31 (by decide) (fun r : ARow => [r.sl]) (fun _ => rfl) view_bytes hx h
  rw [bytes31] at h3
  have h4 : c ≤ 140737488351232 := by simp only [reachBytes] at h3; omega
  rw [sl_flat] at hr
  refine ⟨A, l.length, c, l, hcs, ⟨hr, fun r hrm => ?_⟩, h1, h4⟩
  obtain ⟨g1, g2, g3, g4, _⟩ := hl r hrm
  exact ⟨g1, g2, by omega⟩
end
end Go.Proofs.YtolodcdhpnapmaaGreat

/-
  A deed that came in is opened.
-/
namespace Go.Proofs.YtolodcdhpnapmaaGreat
open Go.ChangeShapes Go.WideShapes Go.ChangeAt Go.RowKit Go.Deep
set_option linter.unusedVariables false
structure ADo where
  what : Int
  k : ARow
  v : ARow
  fl : Int
  pl : Int
  of : Int
def ADo.cells (d : ADo) : List Value := [.int .i64 d.what, .slice d.k.A d.k.n d.k.c, .slice d.v.A d.v.n d.v.c, .int .u64 d.fl, .int .i64 d.pl, .int .i64 d.of]
def I64 (n : Int) : Prop := -9223372036854775808 ≤ n ∧ n ≤ 9223372036854775807
/-- A row of bytes that came in, below block B. -/
structure InB (w : World) (B : Nat) (r : ARow) : Prop where
  rd : Rd w B 1 r.A r.n (u8s r.bs)
  nil : r.A = none → r.n = 0
  le : r.n ≤ r.c
  cap : r.n ≤ 140737488351232
  byte : ∀ b ∈ r.bs, IsByte b
theorem InB.below {w w' : World} {B : Nat} {r : ARow} (h : InB w B r) (hb : Below B w w') : InB w' B r := ⟨h.rd.below hb, h.nil, h.le, h.cap, h.byte⟩
structure ADo.Is (w : World) (B : Nat) (d : ADo) : Prop where
  k : InB w B d.k
  v : InB w B d.v
  what : I64 d.what
  fl : 0 ≤ d.fl ∧ d.fl < 18446744073709551616
  pl : I64 d.pl
  of : I64 d.of
theorem ADo.Is.below {w w' : World} {B : Nat} {d : ADo} (h : d.Is w B) (hb : Below B w w') : d.Is w' B := ⟨h.k.below hb, h.v.below hb, h.what, h.fl, h.pl, h.of⟩
theorem u64_of_wf {n : Int} (h : (Lit.int .u64 n).wf = true) : 0 ≤ n ∧ n < 18446744073709551616 := by
  simp [Lit.wf, IntKind.min, IntKind.max, IntKind.bits, IntKind.signed] at h
  exact ⟨h.1, by omega⟩
section
variable {H : Type} {enc : TypeId × Value → H} {W : World}
theorem each_part (P : Program) : ∀ (ts : List TypeId) (ds : List (DataW H)) (j : Nat) (t : TypeId) (d : DataW H), ts[j]? = some t → ds[j]? = some d → ∀ n ∈ d.weights P t, n ∈ DataW.weightsEach P ts ds := by
  intro ts
  induction ts with
  | nil => intro ds j t d h; simp at h
  | cons t0 ts ih =>
    intro ds j t d ht hd n hn
    cases ds with
    | nil => simp at hd
    | cons d0 ds =>
      simp only [DataW.weightsEach, List.mem_append]
      cases j with
      | zero =>
        simp at ht hd
        subst ht hd
        exact .inl hn
      | succ j => exact .inr (ih ds j t d (by simpa using ht) (by simpa using hd) n hn)
theorem view_sized {t : TypeId} {ts : List TypeId} (hst : ∃ fs : Array Field, Tryz.prog.underlying t = some (.struct fs) ∧ oneCellFields Tryz.prog fs = true ∧ Tryz.prog.cellsOf t = fs.size ∧ fs.toList.map (·.type) = ts) {fuel : Nat} {cs : List Value} {x : DataW H × List MemPlace}
    (hx : Szd t x.1) (h : DataW.trod enc Tryz.prog W 0 (fun _ => true) true fuel t cs = some x) : cs.length = ts.length ∧ ∃ n, ∀ (j : Nat) (u : TypeId) (v : Value), ts[j]? = some u → cs[j]? = some v → ∃ y, Szd u y.1 ∧ DataW.trod enc Tryz.prog W 0 (fun _ => true) true n u [v] = some y := by
  obtain ⟨fs, ht, h1, hct, h4⟩ := hst
  obtain ⟨ys, n, _, hxy, hlen, hyl, hf⟩ := DataW.trod_struct ht h
  subst hxy
  rw [hct] at hlen
  subst h4
  refine ⟨by rw [hlen]; simp, n, fun j u v hu hv => ?_⟩
  rw [List.getElem?_map, Array.getElem?_toList] at hu
  cases hfj : fs[j]? with
  | none => rw [hfj] at hu; cases hu
  | some f =>
    rw [hfj] at hu
    simp at hu
    subst hu
    have hd := hf j f hfj
    obtain ⟨h2, h3⟩ := hone_of h1 j _ hfj
    rw [h2, h3] at hd
    have hys : ys[j]? = some (ys[j]'(by have := (Array.getElem?_eq_some_iff.1 hfj).1; omega)) := List.getElem?_eq_getElem _
    have hcs : (cs.drop j).take 1 = [v] := by
      obtain ⟨hlt, he⟩ := List.getElem?_eq_some_iff.1 hv
      rw [List.drop_eq_getElem_cons hlt, List.take_succ_cons, List.take_zero, he]
    rw [hcs, hys] at hd
    refine ⟨_, fun m hm => hx m ?_, hd⟩
    simp only [DataW.weights, ht]
    exact each_part Tryz.prog _ _ j f.type _ (by rw [List.getElem?_map, Array.getElem?_toList, hfj]; rfl) (by rw [List.getElem?_map, hys]; rfl) m hm
theorem do_struct : ∃ fs : Array Field, Tryz.prog.underlying 37 = some (.struct fs) ∧ oneCellFields Tryz.prog fs = true ∧ Tryz.prog.cellsOf 37 = fs.size ∧ fs.toList.map (·.type) = [3, 34, 34, 35, 3, 3] := ⟨_, Tryz.underlying37, by kernel_rfl, by kernel_rfl, by kernel_rfl⟩
theorem int_of {k : IntKind} {t : TypeId} (ht : Tryz.prog.underlying t = some (.int k)) {n : Nat} {v : Value} (h : ∃ y : DataW H × List MemPlace, Szd t y.1 ∧ DataW.trod enc Tryz.prog W 0 (fun _ => true) true n t [v] = some y) : ∃ m, v = .int k m ∧ (Lit.int k m).wf = true := by
  obtain ⟨y, _, h⟩ := h
  exact int_one ht ⟨y, h⟩
theorem inB_of {r : ARow} (h : r.Is W) : InB W W.heap.size r := ⟨h.1, h.2.1, h.2.2.1, Nat.le_trans h.2.2.1 h.2.2.2.1, fun b hb => h.2.2.2.2 b hb⟩
theorem view_do {fuel : Nat} {cs : List Value} {x : DataW H × List MemPlace} (hx : Szd 37 x.1) (h : DataW.trod enc Tryz.prog W 0 (fun _ => true) true fuel 37 cs = some x) : ∃ d : ADo, d.Is W W.heap.size ∧ cs = d.cells := by
  obtain ⟨hl, n, hf⟩ := view_sized do_struct hx h
  match cs, hl with
  | [v0, v1, v2, v3, v4, v5], _ =>
    obtain ⟨m0, rfl, w0⟩ := int_of Tryz.underlying3 (hf 0 3 v0 rfl rfl)
    obtain ⟨y1, hy1, h1⟩ := hf 1 34 v1 rfl rfl
    obtain ⟨r1, hr1, hc1⟩ := view_bytes hy1 h1
    obtain ⟨y2, hy2, h2⟩ := hf 2 34 v2 rfl rfl
    obtain ⟨r2, hr2, hc2⟩ := view_bytes hy2 h2
    obtain ⟨m3, rfl, w3⟩ := int_of Tryz.underlying35 (hf 3 35 v3 rfl rfl)
    obtain ⟨m4, rfl, w4⟩ := int_of Tryz.underlying3 (hf 4 3 v4 rfl rfl)
    obtain ⟨m5, rfl, w5⟩ := int_of Tryz.underlying3 (hf 5 3 v5 rfl rfl)
    simp at hc1 hc2
    subst hc1 hc2
    exact ⟨⟨m0, r1, r2, m3, m4, m5⟩, ⟨inB_of hr1, inB_of hr2, i64_of_wf w0, u64_of_wf w3, i64_of_wf w4, i64_of_wf w5⟩, rfl⟩
end
end Go.Proofs.YtolodcdhpnapmaaGreat

/-
  Deeds that came in.
-/
namespace Go.Proofs.YtolodcdhpnapmaaGreat
open Go.ChangeShapes Go.WideShapes Go.ChangeAt Go.RowKit Go.Deep
set_option linter.unusedVariables false
/-- Deeds that came in. -/
structure ADos (w : World) (B : Nat) (A : Option Addr) (m : Nat) (ds : List ADo) : Prop where
  outer : Rd w B 6 A m (ds.flatMap ADo.cells)
  inner : ∀ d ∈ ds, d.Is w B
theorem ADos.below {w w' : World} {B : Nat} {A : Option Addr} {m : Nat} {ds : List ADo} (h : ADos w B A m ds) (hb : Below B w w') : ADos w' B A m ds :=
  ⟨h.outer.below hb, fun d hd => (h.inner d hd).below hb⟩
theorem ADos.len {w : World} {B : Nat} {A : Option Addr} {m : Nat} {ds : List ADo} (h : ADos w B A m ds) : ds.length = m := by
  have h1 := h.outer.1
  rw [flat_length ADo.cells 6 (fun _ => rfl)] at h1
  omega
theorem ADos.cell {w : World} {B : Nat} {A : Option Addr} {m j : Nat} {ds : List ADo} (h : ADos w B A m ds) (hj : j < m) : ∃ ad d, A = some ad ∧ ds[j]? = some d ∧ ad.block < B ∧
    ∀ t u, d.cells[t]? = some u → w.cell? (ad.add (j * 6 + t)) = some u := by
  obtain ⟨ad, e, hb, hc⟩ := h.outer.2 (by omega)
  have hl := h.len
  have hr : ds[j]? = some ds[j] := List.getElem?_eq_getElem (by omega)
  refine ⟨ad, ds[j], e, hr, hb, fun t u hu => hc _ u ?_⟩
  have ht : t < 6 := by
    have := (List.getElem?_eq_some_iff.1 hu).1
    simpa [ADo.cells] using this
  rw [flat_at ADo.cells 6 (fun _ => rfl) ds j t ht, hr]
  exact hu
section
variable {H : Type} {enc : TypeId × Value → H} {W : World}
theorem cellsDo : Tryz.prog.cellsOf 37 = 6 := by kernel_rfl
theorem bytesDo : Tryz.prog.bytesOf 37 = 80 := by kernel_rfl
theorem view_dos {fuel : Nat} {cs : List Value} {x : DataW H × List MemPlace} (hx : Szd 38 x.1) (h : DataW.trod enc Tryz.prog W 0 (fun _ => true) true fuel 38 cs = some x) :
    ∃ (A : Option Addr) (m c : Nat) (ds : List ADo), cs = [.slice A m c] ∧ ADos W W.heap.size A m ds ∧ m ≤ c ∧ c ≤ 140737488351232 := by
  obtain ⟨A, c, l, hcs, hr, hl, h1, h2, h3⟩ := view_rows (P := fun d : ADo => d.Is W W.heap.size) Tryz.underlying38 cellsDo (by decide) ADo.cells (fun _ => rfl) view_do hx h
  rw [bytesDo] at h3
  have h4 : c ≤ 140737488351232 := by simp only [reachBytes] at h3; omega
  exact ⟨A, l.length, c, l, hcs, ⟨hr, hl⟩, h1, h4⟩
end
end Go.Proofs.YtolodcdhpnapmaaGreat

/-
  The same, where what holds of the world may speak of all that was told. No program is named here.
-/
namespace Go.Proofs.YtolodcdhpnapmaaGreat
open Go.RowKit Go.Maps
set_option linter.unusedVariables false

section
variable {P : Program} {ops : Array Oper} {Q : Exit → Act → World → Prop}
/-- What one step must show. -/
def StepTells8 (P : Program) (ops : Array Oper) (Q : Exit → Act → World → Prop) (T : Nat → (Nat → Value) → World → Prop) (G : (Nat → Bool) → (Nat → Value) → World → Prop) (a0 : Act) (i : Nat) (o : Oper) : Prop :=
  ∀ (L : Nat → Bool) (a : Act) (W : World), L i = false → G L (sl ops a) W → (∀ t, Unyet ops L t → a.tmps.getD t undef = a0.tmps.getD t undef) → (∀ j, L j = true → T j (sl ops a) W) → (∀ j oj, L j = true → ops[j]? = some oj → ∀ k, hangs oj k = true → L k = true) → (∀ k, hangs o k = true → L k = true) →
    o.wp P a W (fun a' W' => ∃ v, a' = a.put o.dst v ∧ (o.dst = none → v = undef) ∧ G (fun j => L j || j == i) (upd (sl ops a) i v) W' ∧ (∀ j, L j = true → T j (sl ops a) W') ∧ T i (upd (sl ops a) i v) W') Q

theorem wpAny_tells8 {a0 : Act} {w : World} (T : Nat → (Nat → Value) → World → Prop) (G : (Nat → Bool) → (Nat → Value) → World → Prop)
    (hB : backward .any ops = true) (hA : dstApart ops = true) (hG : noGuards ops = true) (hb : dstBelow ops a0.tmps.size = true)
    (hdep : ∀ j oj σ σ' W, ops[j]? = some oj → T j σ W → (∀ k, k = j ∨ hangs oj k = true → σ' k = σ k) → T j σ' W)
    (h0 : G (fun _ => false) (sl ops a0) w) (hstep : ∀ i o, ops[i]? = some o → StepTells8 P ops Q T G a0 i o)
    (h : ∀ (a : Act) W, a.defers = a0.defers → a.tmps.size = a0.tmps.size → (∀ t, unwritten ops t = true → a.tmps.getD t undef = a0.tmps.getD t undef) → (∀ j, j < ops.size → T j (sl ops a) W) → G (fun j => decide (j < ops.size)) (sl ops a) W → Q .normal a W) :
    wpAny P .any ops Q ops.size (Array.replicate ops.size false) a0 w := by
  refine wpAny_keeps (fun listed a W => (a.defers = a0.defers ∧ a.tmps.size = a0.tmps.size ∧ (∀ t, Unyet ops (fun j => listed.getD j false) t → a.tmps.getD t undef = a0.tmps.getD t undef)) ∧ G (fun j => listed.getD j false) (sl ops a) W ∧
    (∀ j, listed.getD j false = true → T j (sl ops a) W ∧ ∀ oj, ops[j]? = some oj → ∀ k, hangs oj k = true → listed.getD k false = true)) hB ?_ ?_ _ _ _ _ (by simp) ?_ ?_
  · intro listed a W i hs ⟨⟨hd, hsz, hold⟩, hGW, hT⟩ hi
    obtain ⟨hlt, hnot, haft⟩ := mem_ready hi
    have ho : ops[i]? = some ops[i] := Array.getElem?_eq_getElem hlt
    generalize ops[i] = o at ho
    have hil : listed.getD i false = false := by
      rw [Array.getD_eq_getD_getElem?, Array.getElem?_eq_getElem (by omega)] at hnot ⊢
      simpa using hnot
    have hdone : ∀ j, hangs o j = true → listed.getD j false = true := fun j hh => by
      obtain ⟨ed, hed, hbd, hon⟩ := hangs_spec hh
      exact hon ▸ haft o ho ed hed hbd
    refine wpOp_step ho (fun K' hK' => ?_)
    rw [if_pos (by simp [Region.wanted, noGuards_spec hG ho])]
    refine Oper.wp_mono ?_ (hstep i o ho (fun j => listed.getD j false) a W hil hGW hold (fun j hj => (hT j hj).1) (fun j oj hj hoj k hk => (hT j hj).2 oj hoj k hk) hdone)
    rintro a' W' ⟨v, rfl, hv, hG', hT', hTi⟩
    have hsl := sl_put (a := a) hA (by rw [hsz]; exact hb) ho v hv
    have hGG : G (fun j => (listed.setIfInBounds i true).getD j false) (sl ops (a.put o.dst v)) W' := by
      have e : (fun j => (listed.setIfInBounds i true).getD j false) = (fun j => listed.getD j false || j == i) := by
        funext j
        by_cases hji : j = i
        · subst hji
          rw [Array.getD_eq_getD_getElem?, Array.getElem?_setIfInBounds_self_of_lt (by omega)]
          simp
        · rw [Array.getD_eq_getD_getElem?, Array.getElem?_setIfInBounds_ne (fun e => hji e.symm), ← Array.getD_eq_getD_getElem?]
          simp [hji]
      rw [e, hsl]
      exact hG'
    refine hK' _ _ ⟨⟨?_, ?_, fun t ht => ?_⟩, hGG, fun j hj => ?_⟩
    · unfold Act.put; split <;> exact hd
    · unfold Act.put; split <;> simp [hsz]
    · rw [← hold t (fun j oj hj hdj => by
        have h1 : (listed.setIfInBounds i true).getD j false = false := ht j oj hj hdj
        cases h2 : listed.getD j false with
        | false => exact h2
        | true => rw [getD_set_keep h2] at h1; cases h1)]
      cases hd' : o.dst with
      | none => rfl
      | some d =>
        have : d ≠ t := fun e => by
          have h1 : (listed.setIfInBounds i true).getD i false = false := ht i o ho (e ▸ hd')
          have h2 : (listed.setIfInBounds i true).getD i false = true := by
            rw [Array.getD_eq_getD_getElem?, Array.getElem?_setIfInBounds_self_of_lt (by omega)]
            rfl
          rw [h2] at h1
          cases h1
        simp [Act.put, Array.getD_eq_getD_getElem?, Array.getElem?_setIfInBounds_ne this]
    · rw [hsl]
      rcases getD_set_true hj with rfl | hj2
      · refine ⟨hTi, fun oj hoj k hk => ?_⟩
        rw [ho] at hoj; cases hoj
        exact getD_set_keep (hdone k hk)
      · refine ⟨?_, fun oj hoj k hk => getD_set_keep ((hT j hj2).2 oj hoj k hk)⟩
        have hjn : ops[j]? = some (ops[j]'(by
          rw [Array.getD_eq_getD_getElem?] at hj2
          by_cases h : j < ops.size
          · exact h
          · rw [Array.getElem?_eq_none (by omega)] at hj2; simp at hj2)) := Array.getElem?_eq_getElem _
        refine hdep j _ _ _ W' hjn (hT' j hj2) (fun k hk => ?_)
        unfold upd
        rw [if_neg]
        rintro rfl
        rcases hk with rfl | hk
        · rw [hil] at hj2; cases hj2
        · have := (hT j hj2).2 _ hjn k hk
          rw [hil] at this; cases this
  · intro listed a W hs hall ⟨⟨hd, hsz, hold⟩, hGW, hT⟩
    have e : (fun j => listed.getD j false) = (fun j => decide (j < ops.size)) := by
      funext j
      by_cases hj : j < ops.size
      · simp only [hj, decide_true]; exact hall j hj
      · rw [Array.getD_eq_getD_getElem?, Array.getElem?_eq_none (by omega)]
        simp [hj]
    rw [e] at hGW
    exact h a W hd hsz (fun t ht => hold t (unyet_of ht)) (fun j hj => (hT j (hall j hj)).1) hGW
  · simp
  · have hz : ∀ j, (Array.replicate ops.size false).getD j false = false := fun j => by
      rw [Array.getD_eq_getD_getElem?, Array.getElem?_replicate]
      split <;> rfl
    exact ⟨⟨rfl, rfl, fun _ _ => rfl⟩, by simp only [hz]; exact h0, fun j hj => by rw [hz] at hj; cases hj⟩

theorem wp_tells8 {id : Nat} {a0 : Act} {w : World} (hmo : P.follows .mixedOrders = true) (T : Nat → (Nat → Value) → World → Prop) (G : (Nat → Bool) → (Nat → Value) → World → Prop)
    (hB : backward .any ops = true) (hA : dstApart ops = true) (hG : noGuards ops = true) (hb : dstBelow ops a0.tmps.size = true)
    (hdep : ∀ j oj σ σ' W, ops[j]? = some oj → T j σ W → (∀ k, k = j ∨ hangs oj k = true → σ' k = σ k) → T j σ' W)
    (h0 : G (fun _ => false) (sl ops a0) w.drew) (hstep : ∀ i o, ops[i]? = some o → StepTells8 P ops Q T G a0 i o)
    (h : ∀ (a : Act) W, a.defers = a0.defers → a.tmps.size = a0.tmps.size → (∀ t, unwritten ops t = true → a.tmps.getD t undef = a0.tmps.getD t undef) → (∀ j, j < ops.size → T j (sl ops a) W) → G (fun j => decide (j < ops.size)) (sl ops a) W → Q .normal a W) :
    (Code.region id ops true).wp P Q a0 w := by
  refine wp_region_any hmo ?_
  exact wpAny_tells8 (w := w.drew) T G hB hA hG hb hdep h0 hstep h
end

/-- What a step's end must be. -/
def Stepped8 (ops : Array Oper) (T : Nat → (Nat → Value) → World → Prop) (G : (Nat → Bool) → (Nat → Value) → World → Prop) (L : Nat → Bool) (a : Act) (i : Nat) (o : Oper) : Act → World → Prop := fun a' W' =>
  ∃ v, a' = a.put o.dst v ∧ (o.dst = none → v = undef) ∧ G (fun j => L j || j == i) (upd (sl ops a) i v) W' ∧ (∀ j, L j = true → T j (sl ops a) W') ∧ T i (upd (sl ops a) i v) W'
section
variable {P : Program} {ops : Array Oper} {Q : Exit → Act → World → Prop} {T : Nat → (Nat → Value) → World → Prop} {G : (Nat → Bool) → (Nat → Value) → World → Prop} {L : Nat → Bool} {a : Act} {W : World} {i : Nat} {o : Oper}
theorem step8_told (v : Value) (hrun : (execOp a.eval o).run P W = .ok (.value v) W) (hd : o.dst ≠ none) (hG : G (fun j => L j || j == i) (upd (sl ops a) i v) W) (hT : ∀ j, L j = true → T j (sl ops a) W) (hTi : T i (upd (sl ops a) i v) W) : o.wp P a W (Stepped8 ops T G L a i o) Q := by
  unfold Oper.wp
  rw [hrun]
  exact ⟨v, rfl, fun h => absurd h hd, hG, hT, hTi⟩
theorem step8_turned (v : Value) (W' : World) (hrun : (execOp a.eval o).run P W = .ok (.value v) W') (hd : o.dst ≠ none) (hG : G (fun j => L j || j == i) (upd (sl ops a) i v) W') (hT : ∀ j, L j = true → T j (sl ops a) W') (hTi : T i (upd (sl ops a) i v) W') : o.wp P a W (Stepped8 ops T G L a i o) Q := by
  unfold Oper.wp
  rw [hrun]
  exact ⟨v, rfl, fun h => absurd h hd, hG, hT, hTi⟩
theorem step8_called {f : FuncId} {args : Array Value} {R : Value → World → Prop} (hrun : (execOp a.eval o).run P W = .ok (.enter f args) W) (hd : o.dst ≠ none) (hc : Calls P f args W fun e w' => ∃ v, e = .returned v ∧ R v w')
    (h : ∀ v W', R v W' → G (fun j => L j || j == i) (upd (sl ops a) i v) W' ∧ (∀ j, L j = true → T j (sl ops a) W') ∧ T i (upd (sl ops a) i v) W') : o.wp P a W (Stepped8 ops T G L a i o) Q := by
  unfold Oper.wp
  rw [hrun, Oper.upon_enter]
  refine hc.mono ?_
  rintro e w' ⟨v, rfl, hR⟩
  obtain ⟨h1, h2, h3⟩ := h v w' hR
  exact ⟨v, rfl, fun h => absurd h hd, h1, h2, h3⟩
end
end Go.Proofs.YtolodcdhpnapmaaGreat

/-
  What is left behind a law's call that makes new memory alone: the last step of each law.
-/
namespace Go.Proofs.YtolodcdhpnapmaaGreat
open Go.ChangeShapes Go.WideShapes Go.ChangeAt Go.RowKit Go.Deep
set_option linter.unusedVariables false

section
variable {H : Type} {enc : TypeId × Value → H} {P : Program}
/-- The arguments read as they did, what was there is as it was. -/
theorem post_new {f : Func} {s : ChangeSpec} {apart fresh handsOn again : Bool} {W W' : World} {args : Array Value} {v : Value} {ds gs : List (DataW H)} {before pa pv : List MemPlace}
    (hW : DataW.Whole enc P f.params.toList s.vars apart W args.toList ds gs before)
    (hres : ∀ (b : Nat) (sp : Nat → Bool) (hd : Bool), DataW.TrodAll enc P W' b sp hd f.resultTypes.toList (v.resultList f.resultTypes.size) (s.fn H (ds ++ gs)).results [])
    (hargs : ∀ sp : Nat → Bool, (∀ p ∈ before, sp p.block = true) → DataW.TrodAll enc P W' 0 sp true f.params.toList args.toList (s.fn H (ds ++ gs)).args pa)
    (hvars : ∀ sp : Nat → Bool, (∀ p ∈ before, sp p.block = true) → DataW.TrodVars enc P W' sp s.vars (s.fn H (ds ++ gs)).vars pv)
    (hps : before = pa ++ pv) (hb : Below W.heap.size W W')
    (hok : ∀ (j : Nat) (t : TypeId) (r : Value), f.resultTypes[j]? = some t → (v.resultList f.resultTypes.size)[j]? = some r → Value.okWide P W' .any 0 t r) :
    s.post enc P f apart fresh handsOn again W args v W' := by
  have old : ∀ p ∈ before, p.block < W.heap.size := fun p hp => hW.lt p hp
  have low : ∀ p ∈ before, decide (p.block < W.heap.size) = true := fun p hp => by simpa using old p hp
  have inv : ∀ p, p ∈ pv → p ∈ before := fun p hp => by rw [hps]; exact List.mem_append_right _ hp
  refine ⟨ds, gs, before, [], pa, pv, hW, hres _ _ _, hargs (fun b => decide (b < W.heap.size)) low, hvars _ low, World.keptBut_mono (fun p hp => ⟨hp, ?_⟩) (hb.frame (· ∈ before)), fun _ => ⟨hok, ?_⟩⟩
  · rw [hps, List.mem_append] at hp
    exact .inr hp
  · obtain ⟨_, _, _, _, _, hfz, hnd⟩ := hW
    refine ⟨_, _, ([] ++ pa) ++ pv, ⟨[] ++ pa, pv, trodAll_append (hargs _ (fun _ _ => rfl)) (hres _ _ _), hvars _ (fun _ _ => rfl), rfl, fun b off hp => ?_, fun ha => ?_⟩, fun p hp _ => ?_⟩
    · have hin : MemPlace.cell b off ∈ before := by rw [hps]; simpa using hp
      rw [hb.frozen (old _ hin)]
      exact hfz b off hin
    · have h := hnd ha
      rw [hps] at h
      simpa using h
    · rw [hps]
      simpa using hp
/-- An argument reads as it did, whatever of its spare room is looked at. -/
theorem Below.reads {t : TypeId} (hl : laidOutB P = true) (hr : P.readableRec t = true) (hrow : t < P.types.size) {W W' : World} {v : Value} {d : DataW H} {ps : List MemPlace}
    (h : DataW.Trod enc P W 0 (fun _ => true) true t v d ps) (hb : Below W.heap.size W W') (hlt : ∀ x ∈ ps, x.block < W.heap.size) (sp : Nat → Bool) (hsp : ∀ x ∈ ps, sp x.block = true) :
    DataW.Trod enc P W' 0 sp true t v d ps :=
  WideElems.Trod_stays hl hr hrow h (fun x hx => hb.same (hlt x hx)) hsp
end
end Go.Proofs.YtolodcdhpnapmaaGreat
