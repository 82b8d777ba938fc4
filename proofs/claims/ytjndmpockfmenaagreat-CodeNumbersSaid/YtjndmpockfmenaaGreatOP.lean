/-
  Arguments that are slices of bytes, and of slots, opened; what is left behind a call that makes new memory alone.
-/
import Derived.Test.YtjndmpockfmenaaGreatP1
import Derived.ProofKit
import Derived.SizedLaws
import Derived.Carry
import Derived.Deep.Slices
import Derived.Deep.Fields
namespace Go.Proofs.YtjndmpockfmenaaGreat
open Go.ChangeShapes Go.WideShapes Go.ChangeAt Go.RowKit Go.Deep
set_option linter.unusedVariables false

theorem cells5 : Tryz.prog.cellsOf 5 = 1 := by kernel_rfl
theorem cells44 : Tryz.prog.cellsOf 27 = 5 := by kernel_rfl
theorem bytes5 : Tryz.prog.bytesOf 5 = 1 := by kernel_rfl
theorem bytes44 : Tryz.prog.bytesOf 27 = 12 := by kernel_rfl

section
variable {H : Type} {enc : TypeId × Value → H} {W : World}
theorem wf_byte {n : Int} (h : (Lit.int .u8 n).wf = true) : IsByte n := by
  simp [Lit.wf, IntKind.min, IntKind.max, IntKind.bits, IntKind.signed] at h
  exact ⟨h.1, by omega⟩
theorem wf_i16 {n : Int} (h : (Lit.int .i16 n).wf = true) : -32768 ≤ n ∧ n < 32768 := by
  simp [Lit.wf, IntKind.min, IntKind.max, IntKind.bits, IntKind.signed] at h
  exact ⟨h.1, by omega⟩
theorem wf_i32 {n : Int} (h : (Lit.int .i32 n).wf = true) : -2147483648 ≤ n ∧ n < 2147483648 := by
  simp [Lit.wf, IntKind.min, IntKind.max, IntKind.bits, IntKind.signed] at h
  exact ⟨h.1, by omega⟩

/-- A slice of bytes. -/
theorem view_bytes {fuel : Nat} {A : Option Addr} {n c : Nat} {d : DataW H} {p : List MemPlace} (hf : DataW.trod enc Tryz.prog W 0 (fun _ => true) true fuel 22 (Value.slice A n c).cells.toList = some (d, p)) :
    ∃ bs : List Int, Rd W W.heap.size 1 A n (u8s bs) ∧ (∀ b ∈ bs, IsByte b) ∧ (A = none → n = 0) ∧ n ≤ c ∧ c ≤ maxLen ∧ (d = .nil ∨ ∃ es sp : List (DataW H), d = .slice es sp ∧ es.length = n) ∧ (d = .nil → n = 0) := by
  rcases open_ints Tryz.underlying22 Tryz.underlying5 cells5 hf with ⟨hcs, hx⟩ | ⟨a, len', cap', zs, hcs, _, hl, hm, hz, hx, hcell, hwz⟩
  · simp [Value.cells] at hcs
    obtain ⟨rfl, rfl, rfl⟩ := hcs
    simp only [Prod.mk.injEq] at hx
    obtain ⟨rfl, rfl⟩ := hx
    exact ⟨[], Rd.nil, by simp, fun _ => rfl, Nat.le_refl _, by simp [maxLen], .inl rfl, fun _ => rfl⟩
  · simp [Value.cells] at hcs
    obtain ⟨rfl, rfl, rfl⟩ := hcs
    simp only [Prod.mk.injEq] at hx
    obtain ⟨rfl, rfl⟩ := hx
    simp only [if_true] at hz
    have hc : ∀ j u, (u8s (zs.take n))[j]? = some u → W.cell? (a.add j) = some u := by
      intro j u hu
      unfold u8s at hu
      rw [List.getElem?_map, List.getElem?_take] at hu
      split at hu
      · rename_i hj
        rw [hcell j (by omega), ← hu, List.getD_eq_getElem?_getD]
        rw [List.getElem?_eq_getElem (by omega)]
        rfl
      · simp at hu
    refine ⟨zs.take n, ⟨by simp [u8s]; omega, fun hn => ⟨a, rfl, ?_, hc⟩⟩, fun b hb => wf_byte (hwz b (List.mem_of_mem_take hb)), (fun h => by cases h), hl, hm, .inr ⟨_, _, rfl, by simp [lits]; omega⟩, fun h => by cases h⟩
    have := World.block_lt_of_cell? W _ (hcell 0 (by omega))
    rwa [block_add] at this

theorem slot_struct : ∃ fs : Array Field, Tryz.prog.underlying 27 = some (.struct fs) ∧ oneCellFields Tryz.prog fs = true ∧ fs.toList.map (·.type) = [5, 5, 5, 23, 21] := ⟨_, Tryz.underlying27, by kernel_rfl, by kernel_rfl⟩

set_option maxRecDepth 100000 in
/-- A slot's five cells. -/
theorem view_slot {fuel : Nat} {cs : List Value} {x : DataW H × List MemPlace} (h : DataW.trod enc Tryz.prog W 0 (fun _ => true) true fuel 27 cs = some x) : ∃ s : Ins, s.Fits ∧ cs = s.cells := by
  obtain ⟨slotFields, under44, slot_one, slot_types⟩ := slot_struct
  obtain ⟨ys, n, _, _, hlen, hyl, hf⟩ := DataW.trod_struct under44 h
  have hsz : slotFields.size = 5 := by have := congrArg List.length slot_types; simpa using this
  have hft : ∀ j, j < 5 → ∃ f, slotFields[j]? = some f ∧ f.offset = j ∧ Tryz.prog.cellsOf f.type = 1 ∧ [5, 5, 5, 23, 21][j]? = some f.type := by
    intro j hj
    have hj' : slotFields[j]? = some (slotFields[j]'(by omega)) := Array.getElem?_eq_getElem _
    refine ⟨_, hj', (hone_of slot_one j _ hj').1, (hone_of slot_one j _ hj').2, ?_⟩
    rw [← slot_types, List.getElem?_map, Array.getElem?_toList, hj']
    rfl
  rw [cells44] at hlen
  match cs, hlen with
  | [v0, v1, v2, v3, v4], _ =>
    have go : ∀ j k (v : Value), j < 5 → [v0, v1, v2, v3, v4][j]? = some v → (∀ t, [5, 5, 5, 23, 21][j]? = some t → Tryz.prog.underlying t = some (.int k)) → ∃ m, v = .int k m ∧ (Lit.int k m).wf = true := by
      intro j k v hj hv hk
      obtain ⟨f, h1, h2, h3, h4⟩ := hft j hj
      have hd := hf j f h1
      rw [h2, h3] at hd
      have hys : ys[j]? = some (ys[j]'(by omega)) := List.getElem?_eq_getElem _
      have hcs : ([v0, v1, v2, v3, v4].drop j).take 1 = [v] := by
        obtain ⟨hlt, he⟩ := List.getElem?_eq_some_iff.1 hv
        rw [List.drop_eq_getElem_cons hlt, List.take_succ_cons, List.take_zero, he]
      rw [hcs, hys] at hd
      obtain ⟨m, hm, _, hw⟩ := DataW.trod_int (hk _ h4) hd
      exact ⟨m, by simpa using hm, hw⟩
    obtain ⟨m0, rfl, w0⟩ := go 0 .u8 v0 (by omega) rfl (fun t ht => by cases ht; exact Tryz.underlying5)
    obtain ⟨m1, rfl, w1⟩ := go 1 .u8 v1 (by omega) rfl (fun t ht => by cases ht; exact Tryz.underlying5)
    obtain ⟨m2, rfl, w2⟩ := go 2 .u8 v2 (by omega) rfl (fun t ht => by cases ht; exact Tryz.underlying5)
    obtain ⟨m3, rfl, w3⟩ := go 3 .i16 v3 (by omega) rfl (fun t ht => by cases ht; exact Tryz.underlying23)
    obtain ⟨m4, rfl, w4⟩ := go 4 .i32 v4 (by omega) rfl (fun t ht => by cases ht; exact Tryz.underlying21)
    exact ⟨⟨m0, m1, m2, m3, m4⟩, ⟨wf_byte w0, wf_byte w1, wf_byte w2, wf_i16 w3, wf_i32 w4⟩, rfl⟩

set_option maxRecDepth 100000 in
/-- A slice of slots. -/
theorem view_slots {fuel : Nat} {A : Option Addr} {n c : Nat} {d : DataW H} {p : List MemPlace} (hf : DataW.trod enc Tryz.prog W 0 (fun _ => true) true fuel 28 (Value.slice A n c).cells.toList = some (d, p)) :
    ∃ l : List Ins, Rd W W.heap.size 5 A n (pcells l) ∧ (∀ s ∈ l, s.Fits) ∧ (A = none → n = 0) ∧ n ≤ c ∧ c ≤ maxLen ∧ (d = .nil ∨ ∃ es sp : List (DataW H), d = .slice es sp ∧ es.length = n) ∧ (d = .nil → n = 0) := by
  rcases open_slice Tryz.underlying28 hf with ⟨hcs, hx⟩ | ⟨a, len', cap', m, k, D, Pl, hcs, _, hl, hm, hmm, hx, hi⟩
  · simp [Value.cells] at hcs
    obtain ⟨rfl, rfl, rfl⟩ := hcs
    simp only [Prod.mk.injEq] at hx
    obtain ⟨rfl, rfl⟩ := hx
    exact ⟨[], Rd.nil, by simp, fun _ => rfl, Nat.le_refl _, by simp [maxLen], .inl rfl, fun _ => rfl⟩
  · simp [Value.cells] at hcs
    obtain ⟨rfl, rfl, rfl⟩ := hcs
    simp only [Prod.mk.injEq] at hx
    obtain ⟨rfl, rfl⟩ := hx
    simp only [if_true] at hmm
    subst hmm
    rw [cells44] at hi
    have hs : ∀ i, i < n → ∃ s : Ins, s.Fits ∧ ∀ j u, s.cells[j]? = some u → W.cell? (a.add (i * 5 + j)) = some u := by
      intro i hin
      obtain ⟨cs, h1, h2⟩ := hi i (by omega)
      obtain ⟨s, hsf, rfl⟩ := view_slot h2
      obtain ⟨_, hcl, hat⟩ := World.cells?_some h1
      refine ⟨s, hsf, fun j u hj => ?_⟩
      have hlt : j < 5 := (List.getElem?_eq_some_iff.1 hj).1
      rw [← add_add, hat j hlt, hj]
    have hl2 : ∃ l : List Ins, l.length = n ∧ ∀ i s, l[i]? = some s → s.Fits ∧ ∀ j u, s.cells[j]? = some u → W.cell? (a.add (i * 5 + j)) = some u := by
      clear hf hi hl hm
      revert hs
      induction n with
      | zero => exact fun _ => ⟨[], rfl, by simp⟩
      | succ n ih =>
        intro hs
        obtain ⟨l, h1, h2⟩ := ih (fun i hi => hs i (by omega))
        obtain ⟨s, h3, h4⟩ := hs n (by omega)
        refine ⟨l ++ [s], by simp [h1], fun i t ht => ?_⟩
        rcases Nat.lt_or_ge i n with hlt | hge
        · rw [List.getElem?_append_left (by omega)] at ht
          exact h2 i t ht
        · have hin : i = n := by
            have := (List.getElem?_eq_some_iff.1 ht).1
            simp [h1] at this
            omega
          subst hin
          rw [List.getElem?_append_right (by omega), h1, Nat.sub_self] at ht
          simp at ht
          subst ht
          exact ⟨h3, h4⟩
    obtain ⟨l, hll, hls⟩ := hl2
    have hc : ∀ j u, (pcells l)[j]? = some u → W.cell? (a.add j) = some u := by
      intro j u hu
      unfold pcells at hu
      have e : j = j / 5 * 5 + j % 5 := by omega
      rw [e, flat_at Ins.cells 5 (fun _ => rfl) l (j / 5) (j % 5) (by omega)] at hu
      rw [e]
      rcases hq : l[j / 5]? with _ | s
      · rw [hq] at hu; simp at hu
      · rw [hq] at hu
        exact (hls _ s hq).2 _ u hu
    refine ⟨l, ⟨by unfold pcells; rw [flat_length Ins.cells 5 (fun _ => rfl), hll], fun hn => ⟨a, rfl, ?_, hc⟩⟩, fun s hsm => ?_, (fun h => by cases h), hl, hm, .inr ⟨_, _, rfl, by simp⟩, fun h => by cases h⟩
    · obtain ⟨s, _, h4⟩ := hs 0 hn
      have := World.block_lt_of_cell? W _ (h4 0 _ rfl)
      rwa [block_add] at this
    · obtain ⟨i, hi', hs'⟩ := List.mem_iff_getElem.1 hsm
      exact (hls i s (by rw [List.getElem?_eq_getElem hi', hs'])).1
end
end Go.Proofs.YtjndmpockfmenaaGreat
