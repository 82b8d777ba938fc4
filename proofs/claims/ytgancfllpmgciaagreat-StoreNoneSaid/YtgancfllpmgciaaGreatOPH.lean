/-
  Arguments, opened.
-/
import Derived.Test.YtgancfllpmgciaaGreatAA
import Derived.ProofKit
import Derived.Carry
import Derived.Deep.Slices
import Derived.Deep.Fields
import Derived.Deep.Grids
namespace Go.Proofs.YtgancfllpmgciaaGreat
open Go.ChangeShapes Go.WideShapes Go.ChangeAt Go.RowKit Go.Deep
set_option linter.unusedVariables false

theorem i64_of_wf {n : Int} (h : (Lit.int .i64 n).wf = true) : -9223372036854775808 ≤ n ∧ n ≤ 9223372036854775807 := by
  simp [Lit.wf, IntKind.min, IntKind.max, IntKind.bits, IntKind.signed] at h
  exact ⟨h.1, by omega⟩
section
variable {H : Type} {enc : TypeId × Value → H} {W : World}
theorem wf_u8 {n : Int} (h : (Lit.int .u8 n).wf = true) : (0 ≤ n ∧ n < 256) := by
  simp [Lit.wf, IntKind.min, IntKind.max, IntKind.bits, IntKind.signed] at h
  exact ⟨h.1, by omega⟩
/-- All that a datum holds is within the machine's reach. -/
def Szd (t : TypeId) (d : DataW H) : Prop := ∀ n ∈ d.weights Tryz.prog t, n ≤ reachBytes
theorem Szd.elems {t e : TypeId} (ht : Tryz.prog.underlying t = some (.slice e)) {es sp : List (DataW H)} (h : Szd t (.slice es sp)) : (es.length + sp.length) * Tryz.prog.bytesOf e ≤ reachBytes ∧ ∀ d ∈ es, Szd e d := by
  have hall : ∀ (l : List (DataW H)) d, d ∈ l → ∀ n ∈ d.weights Tryz.prog e, n ∈ DataW.weightsAll Tryz.prog e l := by
    intro l
    induction l with
    | nil => intro d hd; cases hd
    | cons x r ih =>
      intro d hd n hn
      simp only [DataW.weightsAll, List.mem_append]
      rcases List.mem_cons.1 hd with rfl | hd
      · exact .inl hn
      · exact .inr (ih d hd n hn)
  refine ⟨h _ (by simp [DataW.weights, ht]), fun d hd n hn => h n ?_⟩
  simp only [DataW.weights, ht, List.mem_cons, List.mem_append]
  exact .inr (.inl (hall es d hd n hn))
/-- A row of elements, each of which can be opened. -/
theorem view_rows {α : Type} {t e : TypeId} {sz : Nat} (ht : Tryz.prog.underlying t = some (.slice e)) (hce : Tryz.prog.cellsOf e = sz) (hsz : 0 < sz) (cf : α → List Value) (hcf : ∀ a, (cf a).length = sz) (P : α → Prop)
    (view : ∀ {fuel : Nat} {cs : List Value} {x : DataW H × List MemPlace}, Szd e x.1 → DataW.trod enc Tryz.prog W 0 (fun _ => true) true fuel e cs = some x → ∃ a, P a ∧ cs = cf a)
    {fuel : Nat} {cs : List Value} {x : DataW H × List MemPlace} (hx0 : Szd t x.1) (hf : DataW.trod enc Tryz.prog W 0 (fun _ => true) true fuel t cs = some x) :
    ∃ (A : Option Addr) (c : Nat) (l : List α), cs = [.slice A l.length c] ∧ Rd W W.heap.size sz A l.length (l.flatMap cf) ∧ (∀ a ∈ l, P a) ∧ l.length ≤ c ∧ c ≤ maxLen ∧ c * Tryz.prog.bytesOf e ≤ reachBytes := by
  rcases open_slice ht hf with ⟨hcs, hx⟩ | ⟨a, n, c, m, k, D, Pl, hcs, _, hl, hm, hmm, hx, hi⟩
  · exact ⟨none, 0, [], hcs, ⟨by simp, fun h => absurd h (by simp)⟩, by simp, by simp, by simp [maxLen], by simp⟩
  · simp only [if_true] at hmm
    subst hmm
    rw [hce] at hi
    subst hx
    obtain ⟨hw, hwe⟩ := Szd.elems ht hx0
    have hw2 : m * Tryz.prog.bytesOf e ≤ reachBytes := by
      have e1 : ((List.range n).map D).length + ((List.range (m - n)).map fun j => D (n + j)).length = m := by simp; omega
      rwa [e1] at hw
    have hs : ∀ i, i < n → ∃ s : α, P s ∧ ∀ j u, (cf s)[j]? = some u → W.cell? (a.add (i * sz + j)) = some u := by
      intro i hin
      obtain ⟨cs', h1, h2⟩ := hi i (by omega)
      obtain ⟨s, hsf, rfl⟩ := view (x := (D i, Pl i)) (hwe (D i) (List.mem_map.2 ⟨i, List.mem_range.2 hin, rfl⟩)) h2
      obtain ⟨_, hcl, hat⟩ := World.cells?_some h1
      refine ⟨s, hsf, fun j u hj => ?_⟩
      have hlt : j < sz := by have := (List.getElem?_eq_some_iff.1 hj).1; rw [hcf] at this; exact this
      rw [← add_add, hat j hlt, hj]
    clear hw hwe hx0
    have hl2 : ∃ l : List α, l.length = n ∧ ∀ i s, l[i]? = some s → P s ∧ ∀ j u, (cf s)[j]? = some u → W.cell? (a.add (i * sz + j)) = some u := by
      clear hf hi hl hm hcs hw2
      revert hs
      induction n with
      | zero => exact fun _ => ⟨[], rfl, by simp⟩
      | succ n ih =>
        intro hs
        obtain ⟨l, h1, h2⟩ := ih (fun i hi => hs i (by omega))
        obtain ⟨s, h3, h4⟩ := hs n (by omega)
        refine ⟨l ++ [s], by simp [h1], fun i t ht => ?_⟩
        rcases Nat.lt_or_ge i n with hlt | hge
        · rw [List.getElem?_append_left (by omega)] at ht
          exact h2 i t ht
        · have hin : i = n := by
            have := (List.getElem?_eq_some_iff.1 ht).1
            simp [h1] at this
            omega
          subst hin
          rw [List.getElem?_append_right (by omega), h1, Nat.sub_self] at ht
          simp at ht
          subst ht
          exact ⟨h3, h4⟩
    obtain ⟨l, hll, hls⟩ := hl2
    subst hll
    have hc : ∀ j u, (l.flatMap cf)[j]? = some u → W.cell? (a.add j) = some u := by
      intro j u hu
      have e : j = j / sz * sz + j % sz := by have := Nat.div_add_mod j sz; rw [Nat.mul_comm]; omega
      have hmod := Nat.mod_lt j hsz
      rw [e, flat_at cf sz hcf l (j / sz) (j % sz) hmod] at hu
      rw [e]
      rcases hq : l[j / sz]? with _ | s
      · rw [hq] at hu; simp at hu
      · rw [hq] at hu
        exact (hls _ s hq).2 _ u hu
    refine ⟨some a, _, l, hcs, ⟨by rw [flat_length cf sz hcf], fun hn => ⟨a, rfl, ?_, hc⟩⟩, fun s hsm => ?_, hl, hm, hw2⟩
    · obtain ⟨s, _, h4⟩ := hs 0 hn
      have hcl := hcf s
      have h0 : (cf s)[0]? = some ((cf s)[0]'(by omega)) := List.getElem?_eq_getElem _
      have := World.block_lt_of_cell? W _ (h4 0 _ h0)
      rwa [block_add] at this
    · obtain ⟨i, hi'⟩ := List.getElem?_of_mem hsm
      exact (hls i s hi').1
/-- A struct all of whose fields have one cell. -/
theorem view_one {t : TypeId} {fs : Array Field} (ht : Tryz.prog.underlying t = some (.struct fs)) (h1 : oneCellFields Tryz.prog fs = true) (hct : Tryz.prog.cellsOf t = fs.size) {fuel : Nat} {cs : List Value} {x : DataW H × List MemPlace}
    (h : DataW.trod enc Tryz.prog W 0 (fun _ => true) true fuel t cs = some x) :
    cs.length = fs.size ∧ ∃ n, ∀ (j : Nat) (f : Field) (v : Value), fs[j]? = some f → cs[j]? = some v → ∃ y, DataW.trod enc Tryz.prog W 0 (fun _ => true) true n f.type [v] = some y := by
  obtain ⟨ys, n, _, _, hlen, hyl, hf⟩ := DataW.trod_struct ht h
  rw [hct] at hlen
  refine ⟨hlen, n, fun j f v hj hv => ?_⟩
  have hd := hf j f hj
  obtain ⟨h2, h3⟩ := hone_of h1 j _ hj
  rw [h2, h3] at hd
  have hys : ys[j]? = some (ys[j]'(by have := (Array.getElem?_eq_some_iff.1 hj).1; omega)) := List.getElem?_eq_getElem _
  have hcs : (cs.drop j).take 1 = [v] := by
    obtain ⟨hlt, he⟩ := List.getElem?_eq_some_iff.1 hv
    rw [List.drop_eq_getElem_cons hlt, List.take_succ_cons, List.take_zero, he]
  rw [hcs, hys] at hd
  exact ⟨_, hd⟩
/-- The same, by the fields' types. -/
theorem view_by {t : TypeId} {ts : List TypeId} (hst : ∃ fs : Array Field, Tryz.prog.underlying t = some (.struct fs) ∧ oneCellFields Tryz.prog fs = true ∧ Tryz.prog.cellsOf t = fs.size ∧ fs.toList.map (·.type) = ts) {fuel : Nat} {cs : List Value} {x : DataW H × List MemPlace}
    (h : DataW.trod enc Tryz.prog W 0 (fun _ => true) true fuel t cs = some x) : cs.length = ts.length ∧ ∃ n, ∀ (j : Nat) (u : TypeId) (v : Value), ts[j]? = some u → cs[j]? = some v → ∃ y, DataW.trod enc Tryz.prog W 0 (fun _ => true) true n u [v] = some y := by
  obtain ⟨fs, h1, h2, h3, h4⟩ := hst
  obtain ⟨h5, n, h6⟩ := view_one h1 h2 h3 h
  refine ⟨by rw [h5, ← h4]; simp, n, fun j u v hu hv => ?_⟩
  rw [← h4, List.getElem?_map, Array.getElem?_toList] at hu
  cases hf : fs[j]? with
  | none => rw [hf] at hu; cases hu
  | some f =>
    rw [hf] at hu
    simp at hu
    subst hu
    exact h6 j f v hf hv
theorem int_one {k : IntKind} {t : TypeId} (ht : Tryz.prog.underlying t = some (.int k)) {n : Nat} {v : Value} (h : ∃ y, DataW.trod enc Tryz.prog W 0 (fun _ => true) true n t [v] = some y) : ∃ m, v = .int k m ∧ (Lit.int k m).wf = true := by
  obtain ⟨y, h⟩ := h
  obtain ⟨m, hm, _, hw⟩ := DataW.trod_int ht h
  exact ⟨m, by simpa using hm, hw⟩
theorem view_u8 {fuel : Nat} {cs : List Value} {x : DataW H × List MemPlace} (_ : Szd 5 x.1) (h : DataW.trod enc Tryz.prog W 0 (fun _ => true) true fuel 5 cs = some x) : ∃ m : Int, (0 ≤ m ∧ m < 256) ∧ cs = [.int .u8 m] := by
  obtain ⟨m, hm, _, hw⟩ := DataW.trod_int Tryz.underlying5 h
  exact ⟨m, wf_u8 hw, hm⟩
theorem cells5 : Tryz.prog.cellsOf 5 = 1 := by kernel_rfl
theorem cells31 : Tryz.prog.cellsOf 25 = 1 := by kernel_rfl
theorem u8s_flat (l : List Int) : l.flatMap (fun m => [Value.int .u8 m]) = u8s l := by
  unfold u8s
  induction l with
  | nil => rfl
  | cons m l ih => simp [ih]
/-- A row of bytes that came in. -/
def ARow.Is (W : World) (r : ARow) : Prop := Rd W W.heap.size 1 r.A r.n (u8s r.bs) ∧ (r.A = none → r.n = 0) ∧ r.n ≤ r.c ∧ r.c ≤ 140737488351232 ∧ ∀ b ∈ r.bs, IsByte b
theorem bytes5 : Tryz.prog.bytesOf 5 = 1 := by kernel_rfl
theorem bytes31 : Tryz.prog.bytesOf 25 = 24 := by kernel_rfl
theorem view_bytes {fuel : Nat} {cs : List Value} {x : DataW H × List MemPlace} (hx : Szd 25 x.1) (h : DataW.trod enc Tryz.prog W 0 (fun _ => true) true fuel 25 cs = some x) : ∃ r : ARow, r.Is W ∧ cs = [r.sl] := by
  obtain ⟨A, c, l, hcs, hr, hl, h1, h2, h3⟩ := view_rows (P := fun m => 0 ≤ m ∧ m < 256) Tryz.underlying25 cells5 (by decide) (fun m : Int => [Value.int .u8 m]) (fun _ => rfl) view_u8 hx h
  rw [bytes5] at h3
  have h4 : c ≤ 140737488351232 := by simp only [reachBytes] at h3; omega
  rw [u8s_flat] at hr
  refine ⟨⟨A, l.length, c, l⟩, ⟨hr, fun h => ?_, h1, h4, hl⟩, hcs⟩
  rcases Nat.eq_zero_or_pos l.length with h0 | h0
  · exact h0
  · obtain ⟨ad, e, _⟩ := hr.2 h0
    rw [show A = none from h] at e
    cases e
theorem sl_flat (l : List ARow) : l.flatMap (fun r => [r.sl]) = l.map ARow.sl := by
  induction l with
  | nil => rfl
  | cons m l ih => simp [ih]
end
end Go.Proofs.YtgancfllpmgciaaGreat
