/-
  Places and sizes at their ends: CellEnds' walk.
-/
import Derived.Test.YtkpoilcbdcddcaaLD
import Derived.Test.YtkpoilcbdcddcaaRT4
namespace Go.Proofs.Ytkpoilcbdcddcaa
open Go.RowKit
set_option linter.unusedVariables false
set_option linter.unusedSimpArgs false

def offL : List Int := [-9223372036854775808, -1, 0, 1, 4, 7, 8, 503, 504, 505, 508, 511, 512, 513, 9223372036854775807]
def sizeL : List Int := [-9223372036854775808, -1, 0, 1, 2, 3, 4, 8, 9, 511, 512, 513, 9223372036854775807]
def cellL : List C4 := [⟨0, 0, 0, 0⟩, ⟨1, 18446744073709551615, 0, 0⟩, ⟨1, 0, 0, 1⟩, ⟨2, 0, 1, -5⟩, ⟨2, 1, 0, 0⟩, ⟨3, 0, 2, 0⟩, ⟨3, 0, 0, 1⟩, ⟨4, 0, 0, 0⟩, ⟨0, 1, 0, 0⟩]
theorem offL_in : ∀ x ∈ offL, -9223372036854775808 ≤ x ∧ x ≤ 9223372036854775807 := by decide
theorem sizeL_in : ∀ x ∈ sizeL, -9223372036854775808 ≤ x ∧ x ≤ 9223372036854775807 := by decide
theorem cellL_in : ∀ c ∈ cellL, c.Fits := by
  intro c hc
  simp only [cellL, List.mem_cons, List.not_mem_nil, or_false] at hc
  rcases hc with rfl | rfl | rfl | rfl | rfl | rfl | rfl | rfl | rfl <;> exact ⟨by decide, by decide, by decide, by decide⟩
/-- The three rows of what is asked. -/
structure Asked (w : World) (O : Nat) : Prop where
  o : w.heap[O]? = some (.cells (offL.map (.int .i64 ·)).toArray 2 (0, 0))
  s : w.heap[O + 1]? = some (.cells (sizeL.map (.int .i64 ·)).toArray 3 (0, 0))
  c : w.heap[O + 1 + 1]? = some (.cells (cellL.flatMap C4.cs).toArray 33 (0, 0))
theorem Asked.later {w W : World} {O : Nat} (h : Asked w O) (hb : Below w.heap.size w W) : Asked W O :=
  ⟨(hb.block _ (at_lt h.o)).trans h.o, (hb.block _ (at_lt h.s)).trans h.s, (hb.block _ (at_lt h.c)).trans h.c⟩
theorem Asked.off {w : World} {O i : Nat} (h : Asked w O) (hi : i < 15) : ∃ x, (-9223372036854775808 ≤ x ∧ x ≤ 9223372036854775807) ∧ w.cell? ⟨O, i, none⟩ = some (.int .i64 x) := by
  have hl : i < offL.length := hi
  refine ⟨offL[i], offL_in _ (List.getElem_mem hl), ?_⟩
  rw [PS.cell h.o, List.getElem?_map, List.getElem?_eq_getElem hl]
  rfl
theorem Asked.size {w : World} {O i : Nat} (h : Asked w O) (hi : i < 13) : ∃ x, (-9223372036854775808 ≤ x ∧ x ≤ 9223372036854775807) ∧ w.cell? ⟨O + 1, i, none⟩ = some (.int .i64 x) := by
  have hl : i < sizeL.length := hi
  refine ⟨sizeL[i], sizeL_in _ (List.getElem_mem hl), ?_⟩
  rw [PS.cell h.s, List.getElem?_map, List.getElem?_eq_getElem hl]
  rfl
theorem Asked.cell {w : World} {O i : Nat} (h : Asked w O) (hi : i < 9) : ∃ c : C4, c.Fits ∧ w.cell? ⟨O + 1 + 1, i * 4, none⟩ = some (.int .u8 c.k) ∧ w.cell? ⟨O + 1 + 1, i * 4 + 1, none⟩ = some (.int .u64 c.wd) ∧ w.cell? ⟨O + 1 + 1, i * 4 + 2, none⟩ = some (.int .i64 c.rg) ∧ w.cell? ⟨O + 1 + 1, i * 4 + 3, none⟩ = some (.int .i64 c.of) := by
  have hl : i < cellL.length := hi
  have hat : ∀ t, t < 4 → w.cell? ⟨O + 1 + 1, i * 4 + t, none⟩ = (C4.cs cellL[i])[t]? := fun t ht => by
    rw [PS.cell h.c, flat_at C4.cs 4 (fun _ => rfl) cellL i t ht, List.getElem?_eq_getElem hl]
    rfl
  exact ⟨cellL[i], cellL_in _ (List.getElem_mem hl), hat 0 (by omega), hat 1 (by omega), hat 2 (by omega), hat 3 (by omega)⟩
def d0 (a x y : Int) (c : C4) : ADeed := ⟨a, x, y, c, ⟨none, 0, 0, []⟩⟩
theorem d0_is {w : World} {B : Nat} {a x y : Int} {c : C4} (ha : -9223372036854775808 ≤ a ∧ a ≤ 9223372036854775807) (hx : -9223372036854775808 ≤ x ∧ x ≤ 9223372036854775807) (hy : -9223372036854775808 ≤ y ∧ y ≤ 9223372036854775807) (hc : c.Fits) : (d0 a x y c).Is w B :=
  ⟨Rd.nil, Nat.le_refl _, Nat.zero_le _, (fun x hx => nomatch hx), hc, ha, hx, hy⟩
theorem zfits : (⟨0, 0, 0, 0⟩ : C4).Fits := ⟨by decide, by decide, by decide, by decide⟩
def three (x y : Int) (c : C4) : List ADeed := [d0 0 x y c, d0 4 x y ⟨0, 0, 0, 0⟩, d0 6 x y ⟨0, 0, 0, 0⟩]
theorem three_is {w : World} {B : Nat} {x y : Int} {c : C4} (hx : -9223372036854775808 ≤ x ∧ x ≤ 9223372036854775807) (hy : -9223372036854775808 ≤ y ∧ y ≤ 9223372036854775807) (hc : c.Fits) : ∀ d ∈ three x y c, d.Is w B := by
  intro d hd
  simp only [three, List.mem_cons, List.not_mem_nil, or_false] at hd
  rcases hd with rfl | rfl | rfl
  · exact d0_is (by decide) hx hy hc
  · exact d0_is (by decide) hx hy zfits
  · exact d0_is (by decide) hx hy zfits
theorem zeros (n : Nat) (hn : n ≤ 1000000) : ∃ (Z : Array Value), (∀ W : World, (Instr.makeSlice 37 (.int .i64 (n : Int)) (.int .i64 (n : Int))).run Try.prog W = .ok (.slice (some ⟨W.heap.size, 0, none⟩) n n) (W.alloc (.cells Z 5))) ∧ ∀ W : World, Rd (W.alloc (.cells Z 5)) (W.heap.size + 1) 1 (some ⟨W.heap.size, 0, none⟩) n (u8s (List.replicate n 0)) := by
  have e : madeCells #[Value.int .u8 0] n = (u8s (List.replicate n 0)).toArray := by
    apply Array.ext'
    apply List.ext_getElem
    · simp [size_madeCells, u8s]
    · intro i h1 h2
      simp [madeCells, u8s, Nat.mod_one]
  obtain ⟨i0, hi, hz0, hz1, hz2⟩ := info_parts u8info
  refine ⟨madeCells #[Value.int .u8 0] n, fun W => ?_, fun W => ?_⟩
  · have := run_make (P := Try.prog) W 37 5 i0 _ Try.underlying37 hi hz0 .i64 .i64 (n : Int) (n : Int) (by omega) (by omega) (by rw [hz2]; omega) (by omega)
    rw [hz1] at this
    simpa [Value.cells] using this
  · rw [e]
    exact cells_rd W (u8s (List.replicate n 0)) 5 1 n (by simp [u8s])
def d7 (x : Int) (A : Option Addr) (n : Nat) : ADeed := ⟨7, x, 0, ⟨0, 0, 0, 0⟩, ⟨A, n, n, List.replicate n 0⟩⟩
theorem deedInfo : (Try.prog.info? 39).map (fun i => (i.zero, i.size, i.bytes)) = some (some (.agg #[.int .i64 0, .int .i64 0, .int .i64 0, .int .u8 0, .int .u64 0, .int .i64 0, .int .i64 0, .slice none 0 0]), 8, 80) := by kernel_rfl
/-- A row of N zeros, made since the heap had S blocks. -/
def ZR (S N g : Nat) (W : World) : Prop := S ≤ g ∧ g + 1 ≤ W.heap.size ∧ Rd W (g + 1) 1 (some ⟨g, 0, none⟩) N (u8s (List.replicate N 0))
theorem ZR.below {S N g : Nat} {W W' : World} (h : ZR S N g W) (hb : Below W.heap.size W W') : ZR S N g W' := ⟨h.1, Nat.le_trans h.2.1 hb.size, h.2.2.below (hb.mono h.2.1)⟩
theorem offs_at {O i : Nat} (hi : i < 15) : ∃ x, (-9223372036854775808 ≤ x ∧ x ≤ 9223372036854775807) ∧ ∀ W, Asked W O → W.cell? ⟨O, i, none⟩ = some (.int .i64 x) := by
  have hl : i < offL.length := hi
  refine ⟨offL[i], offL_in _ (List.getElem_mem hl), fun W h => ?_⟩
  rw [PS.cell h.o, List.getElem?_map, List.getElem?_eq_getElem hl]
  rfl
def TE (O g0 i k n r N S : Nat) (z : Int) (X : List Value) (j : Nat) (σ : Nat → Value) (W : World) : Prop :=
  match j with
  | 0 => σ 0 = .slice (some ⟨g0, 0, none⟩) 3 3
  | 1 => σ 1 = .slice (some ⟨O, 0, none⟩) 15 15
  | 2 => σ 2 = .int .i64 i
  | 3 => σ 3 = .pointer (some ⟨O, i, none⟩)
  | 4 => σ 4 = .int .i64 z
  | 5 => σ 5 = .int .i64 k
  | 6 => σ 6 = .int .i64 ((k : Int) * 64)
  | 7 => σ 7 = .int .i64 n
  | 8 => σ 8 = .int .i64 r
  | 9 => σ 9 = .int .i64 N
  | 10 => ∃ g, σ 10 = .slice (some ⟨g, 0, none⟩) N N ∧ ZR S N g W
  | 11 => ∃ g, σ 11 = .agg (d7 z (some ⟨g, 0, none⟩) N).cells.toArray ∧ ZR S N g W
  | 12 => ∃ g h, σ 12 = .slice (some ⟨h, 0, none⟩) 1 1 ∧ ZR S N g W ∧ S ≤ h ∧ h + 1 ≤ W.heap.size ∧ Rd W (h + 1) 8 (some ⟨h, 0, none⟩) 1 (d7 z (some ⟨g, 0, none⟩) N).cells
  | 13 => ∃ g, ZR S N g W ∧ W.ownsRow 0 39 8 (σ 13) 4 (X ++ (d7 z (some ⟨g, 0, none⟩) N).cells)
  | 14 => ∃ g, ZR S N g W ∧ W.ownsRow 0 39 8 (σ 14) 4 (X ++ (d7 z (some ⟨g, 0, none⟩) N).cells)
  | _ => True
theorem TE.below {O g0 i k n r N S : Nat} {z : Int} {X : List Value} {j : Nat} {σ : Nat → Value} {W W' : World} (h : TE O g0 i k n r N S z X j σ W) (hb : Below W.heap.size W W') : TE O g0 i k n r N S z X j σ W' := by
  unfold TE at h ⊢
  split at h
  all_goals first
    | exact h
    | (obtain ⟨g, h1, h2⟩ := h; exact ⟨g, h1, h2.below hb⟩)
    | (obtain ⟨g, y, h1, h2, h0, h3, h4⟩ := h; exact ⟨g, y, h1, h2.below hb, h0, Nat.le_trans h3 hb.size, h4.below (hb.mono h3)⟩)
    | (obtain ⟨g, h1, h2⟩ := h; exact ⟨g, h1.below hb, (Stays.of_below (B := 0) hb).owns h2⟩)
/-- What holds of the world by whether the row was appended to. -/
def GE (w : World) (O g0 S : Nat) (X : List Value) (L : Nat → Bool) (W : World) : Prop :=
  Below w.heap.size w W ∧ Asked W O ∧ S ≤ W.heap.size ∧ (L 13 = false → W.ownsRow 0 39 8 (.slice (some ⟨g0, 0, none⟩) 3 3) 3 X) ∧ (L 14 = true → L 13 = true)
theorem GE.same {w : World} {O g0 S i : Nat} {X : List Value} {L : Nat → Bool} {W : World} (h : GE w O g0 S X L W) (hi : i < 13) : GE w O g0 S X (fun j => L j || j == i) W := by
  obtain ⟨h1, h2, h3, h4, h5⟩ := h
  refine ⟨h1, h2, h3, fun hl => h4 ?_, fun hl => ?_⟩
  · simp at hl
    exact hl.1
  · have e1 : (14 == i) = false := by simp; omega
    have e2 : (13 == i) = false := by simp; omega
    simp only [e1, e2, Bool.or_false] at hl ⊢
    exact h5 hl
theorem GE.last {w : World} {O g0 S : Nat} {X : List Value} {L : Nat → Bool} {W : World} (h : GE w O g0 S X L W) (h13 : L 13 = true) : GE w O g0 S X (fun j => L j || j == 14) W := by
  obtain ⟨h1, h2, h3, h4, h5⟩ := h
  refine ⟨h1, h2, h3, fun hl => h4 ?_, fun _ => ?_⟩
  · simp at hl
    exact hl
  · simp [h13]
theorem GE.below {w : World} {O g0 S : Nat} {X : List Value} {L : Nat → Bool} {W W' : World} (h : GE w O g0 S X L W) (hb : Below W.heap.size W W') : GE w O g0 S X L W' :=
  ⟨h.1.trans (hb.mono h.1.size), h.2.1.later hb, Nat.le_trans h.2.2.1 hb.size, fun hl => (Stays.of_below (B := 0) hb).owns (h.2.2.2.1 hl), h.2.2.2.2⟩
section
variable {P : Program} {ops : Array Oper} {Q : Exit → Act → World → Prop} {T : Nat → (Nat → Value) → World → Prop} {G : (Nat → Bool) → World → Prop} {L : Nat → Bool} {a : Act} {W : World} {i : Nat} {o : Oper}
theorem exec_append {W' : World} {v' : Value} (ev : Operand → Value) (o : Oper) (s x : Operand) (t : TypeId) (ho : o.op = .call { callee := .builtin .append, args := #[s, x], argTypes := #[t, t] }) (v u : Value) (hs : ev s = v) (hx : ev x = u) (hrun : (Builtin.append_ #[t, t] o.type #[v, u]).run P W = .ok v' W') : (execOp ev o).run P W = .ok (.value v') W' := by
  unfold execOp
  simp only [ho, resolve, invoke, builtin, Sem.run_bind, Sem.run_pure, Result.andThen_ok, List.map_toArray, List.map_cons, List.map_nil, hs, hx, hrun]
end
set_option maxRecDepth 100000 in
set_option maxHeartbeats 8000000 in
theorem law_cellEnds (w : World) : Calls Try.prog 5 #[] w fun e w' => e = .returned (.bool true) ∧ Below w.heap.size w w' := by
  go_enter Try.func5, Try.ntmps5
  go_wp2_with fail
  refine (awake_any _).mono ?_
  rintro e w1 ⟨rfl, hb⟩
  have HB1 := hide hb
  clear hb
  go_upto_region 6 with fail
  have ha : Asked (((w1.alloc (.cells (offL.map (.int .i64 ·)).toArray 2)).alloc (.cells (sizeL.map (.int .i64 ·)).toArray 3)).alloc (.cells (cellL.flatMap C4.cs).toArray 33)) w1.heap.size := by
    obtain ⟨h1, h2⟩ := two_boxes w1 (.cells (offL.map (.int .i64 ·)).toArray 2) (.cells (sizeL.map (.int .i64 ·)).toArray 3)
    have h3 := World.alloc_heap_new ((w1.alloc (.cells (offL.map (.int .i64 ·)).toArray 2)).alloc (.cells (sizeL.map (.int .i64 ·)).toArray 3)) (.cells (cellL.flatMap C4.cs).toArray 33)
    refine ⟨(Below.heap_alloc _ _ _ (at_lt h1)).trans h1, (Below.heap_alloc _ _ _ (at_lt h2)).trans h2, ?_⟩
    rw [show w1.heap.size + 1 + 1 = ((w1.alloc (.cells (offL.map (.int .i64 ·)).toArray 2)).alloc (.cells (sizeL.map (.int .i64 ·)).toArray 3)).heap.size by simp]
    exact h3
  have hbw : Below w.heap.size w (((w1.alloc (.cells (offL.map (.int .i64 ·)).toArray 2)).alloc (.cells (sizeL.map (.int .i64 ·)).toArray 3)).alloc (.cells (cellL.flatMap C4.cs).toArray 33)) := ((HB1.out.alloc HB1.out.size _).alloc (by simp; have := HB1.out.size; omega) _).alloc (by simp; have := HB1.out.size; omega) _
  obtain ⟨w2, hw2⟩ : ∃ w2, w2 = (((w1.alloc (.cells (offL.map (.int .i64 ·)).toArray 2)).alloc (.cells (sizeL.map (.int .i64 ·)).toArray 3)).alloc (.cells (cellL.flatMap C4.cs).toArray 33)) := ⟨_, rfl⟩
  rw [← hw2] at ha hbw
  have HA0 := hide ha
  have HB0 := hide hbw
  have hw3 := hide hw2
  clear ha hbw hw2
  refine Eq.mp (congrArg (Code.wp Try.prog _ _ _) hw3.out) ?_
  obtain ⟨O, hO⟩ : ∃ O, O = w1.heap.size := ⟨_, rfl⟩
  rw [← hO] at HA0 ⊢
  clear hw3 hO HB1
  go_wp2_with fail
  go_loopw [4] (fun a wr => ∃ i : Nat, i ≤ 15 ∧ a = .int .i64 i ∧ Asked wr O ∧ Below w.heap.size w wr) (fun a _ => 15 - (intOf a).toNat)
  case atStart => exact ⟨0, by omega, rfl, HA0.out, HB0.out⟩
  case round =>
    obtain ⟨i, hi, rfl, ha, hb⟩ := hrel
    have HA1 := hide ha
    have HB1 := hide hb
    clear ha hb HA0 HB0
    by_cases hi15 : i < 15
    · have t15 : decide ((i : Int) < 15) = true := decide_eq_true (by omega)
      go_wp2_with fail
      go_loopw [5] (fun a wr => ∃ k : Nat, k ≤ 13 ∧ a = .int .i64 k ∧ Asked wr O ∧ Below w.heap.size w wr) (fun a _ => 13 - (intOf a).toNat)
      case atStart => exact ⟨0, by omega, rfl, HA1.out, HB1.out⟩
      case round =>
        obtain ⟨k, hk, rfl, ha, hb⟩ := hrel
        have HA2 := hide ha
        have HB2 := hide hb
        clear ha hb HA1 HB1
        by_cases hk13 : k < 13
        · have t13 : decide ((k : Int) < 13) = true := decide_eq_true (by omega)
          go_wp2_with fail
          go_loopw [6] (fun a wr => ∃ n : Nat, n ≤ 9 ∧ a = .int .i64 n ∧ Asked wr O ∧ Below w.heap.size w wr) (fun a _ => 9 - (intOf a).toNat)
          case atStart => exact ⟨0, by omega, rfl, HA2.out, HB2.out⟩
          case round =>
            obtain ⟨n, hn, rfl, ha, hb⟩ := hrel
            have HA3 := hide ha
            have HB3 := hide hb
            clear ha hb HA2 HB2
            by_cases hn9 : n < 9
            · have t9 : decide ((n : Int) < 9) = true := decide_eq_true (by omega)
              go_upto_region 15 with fail
              obtain ⟨x, hx1, cx⟩ := HA3.out.off hi15
              obtain ⟨y, hy1, cy⟩ := HA3.out.size hk13
              obtain ⟨c, hcf, c0, c1, c2, c3⟩ := HA3.out.cell hn9
              obtain ⟨ck, cw, cr, co⟩ := c
              simp only at c0 c1 c2 c3
              have i0 : 0 ≤ (i : Int) := by omega
              have i1 : (i : Int) < 15 := by omega
              have k0 : 0 ≤ (k : Int) := by omega
              have k1 : (k : Int) < 13 := by omega
              have n0 : 0 ≤ (n : Int) := by omega
              have n1 : (n : Int) < 9 := by omega
              refine wp_region_still_tail 31 (by kernel_rfl) (by kernel_rfl) ?_
              simp only [List.take_succ_cons, List.take_zero, List.drop_succ_cons, List.drop_zero]
              repeat still_step
              refine wpStill_nil ?_
              go_upto_region 16 with fail
              have hrd := cells_rd wr ((three x y ⟨ck, cw, cr, co⟩).flatMap ADeed.cells) 39 8 3 rfl
              have hrow : (wr.alloc (.cells ((three x y ⟨ck, cw, cr, co⟩).flatMap ADeed.cells).toArray 39)).drew.ownsRow 0 39 8 (.slice (some ⟨wr.heap.size, 0, none⟩) 3 3) 3 ((three x y ⟨ck, cw, cr, co⟩).flatMap ADeed.cells) := ⟨rfl, .inr ⟨wr.heap.size, 3, ((three x y ⟨ck, cw, cr, co⟩).flatMap ADeed.cells).toArray, rfl, Nat.zero_le _, World.alloc_heap_new wr _, Nat.le_refl _, by decide, rfl, rfl⟩⟩
              have hb3 : Below wr.heap.size wr (wr.alloc (.cells ((three x y ⟨ck, cw, cr, co⟩).flatMap ADeed.cells).toArray 39)).drew := (below1 wr _).drew
              have hsz3 : wr.heap.size + 1 ≤ (wr.alloc (.cells ((three x y ⟨ck, cw, cr, co⟩).flatMap ADeed.cells).toArray 39)).drew.heap.size := by show _ ≤ (wr.alloc _).heap.size; simp
              obtain ⟨w5, hw5⟩ : ∃ w5, w5 = (wr.alloc (.cells ((three x y ⟨ck, cw, cr, co⟩).flatMap ADeed.cells).toArray 39)).drew := ⟨_, rfl⟩
              have hrd5 : Rd w5 w5.heap.size 8 (some ⟨wr.heap.size, 0, none⟩) 3 ((three x y ⟨ck, cw, cr, co⟩).flatMap ADeed.cells) := by rw [hw5]; exact (hrd.below (Below.refl _ _).drew).mono hsz3
              rw [← hw5] at hrow hb3
              have hw5' := hide hw5
              refine Eq.mp (congrArg (Code.wp Try.prog _ _ _) hw5'.out) ?_
              have HD5 := hide (show ADeeds w5 w5.heap.size (some ⟨wr.heap.size, 0, none⟩) 3 (three x y ⟨ck, cw, cr, co⟩) from ⟨hrd5, three_is hx1 hy1 hcf⟩)
              have HRow := hide hrow
              have HA5 := hide (HA3.out.later hb3)
              have HB5 := hide (HB3.out.trans (hb3.mono HB3.out.size))
              clear hrd hrd5 hrow hb3 hsz3 hw5 hw5' cx cy c0 c1 c2 c3
              by_cases hk9 : k < 9
              · have e9 : decide ((k : Int) < 9) = true := decide_eq_true (by omega)
                go_upto_region 17 with fail
                obtain ⟨z, hz1, hCZ⟩ := offs_at hi15 (O := O)
                have CZ := hide hCZ
                clear hCZ
                obtain ⟨r, p1, hr2⟩ : ∃ r : Nat, (n : Int).tmod 2 = r ∧ r < 2 := ⟨n % 2, by rw [Int.tmod_eq_emod_of_nonneg (by omega)]; omega, by omega⟩
                obtain ⟨N, hN⟩ : ∃ N : Nat, k * 64 + r = N := ⟨_, rfl⟩
                have p2 : IntKind.i64.wrap ((k : Int) * 64) = (k : Int) * 64 := IntWalk.i64_in _ (by omega)
                have p3 : IntKind.i64.wrap ((k : Int) * 64 + (r : Int)) = (N : Int) := by rw [IntWalk.i64_in _ (by omega)]; omega
                obtain ⟨Z, hZ, hZr⟩ := zeros N (by omega)
                have HZR := hide hZr
                have hNb : N ≤ 1000 := by omega
                clear hN
                rename_i K hK
                have hg5 : w.heap.size ≤ wr.heap.size := HB3.out.size
                have hO3 : O + 2 < wr.heap.size := at_lt HA3.out.c
                have hlt5 : wr.heap.size < w5.heap.size := (World.ownsRow.lt HRow.out _ rfl).2
                refine wp_tells4 (by kernel_rfl) (TE O wr.heap.size i k n r N w5.heap.size z ((three x y ⟨ck, cw, cr, co⟩).flatMap ADeed.cells)) (GE w O wr.heap.size w5.heap.size ((three x y ⟨ck, cw, cr, co⟩).flatMap ADeed.cells)) (by kernel_rfl) (by kernel_rfl) (by kernel_rfl) (by kernel_rfl) ?_ ?_ ?_ ?_
                · intro q oj σ σ' W hj h hs
                  have hi : q < 15 := (Array.getElem?_eq_some_iff.1 hj).1
                  have h0 := hs q (.inl rfl)
                  have hi' : q = 0 ∨ q = 1 ∨ q = 2 ∨ q = 3 ∨ q = 4 ∨ q = 5 ∨ q = 6 ∨ q = 7 ∨ q = 8 ∨ q = 9 ∨ q = 10 ∨ q = 11 ∨ q = 12 ∨ q = 13 ∨ q = 14 := by omega
                  rcases hi' with rfl | rfl | rfl | rfl | rfl | rfl | rfl | rfl | rfl | rfl | rfl | rfl | rfl | rfl | rfl
                  all_goals (simp only [TE] at h ⊢; rw [h0]; exact h)
                · exact ⟨HB5.out.trans ((Below.refl _ _).drew.mono HB5.out.size), HA5.out.later (Below.refl _ _).drew, Nat.le_refl _, fun _ => HRow.out, fun h => h⟩
                · intro q o ho L a W hi hG hold hT hcl hh
                  have hi2 : q < 15 := (Array.getElem?_eq_some_iff.1 ho).1
                  have hi' : q = 0 ∨ q = 1 ∨ q = 2 ∨ q = 3 ∨ q = 4 ∨ q = 5 ∨ q = 6 ∨ q = 7 ∨ q = 8 ∨ q = 9 ∨ q = 10 ∨ q = 11 ∨ q = 12 ∨ q = 13 ∨ q = 14 := by omega
                  rcases hi' with rfl | rfl | rfl | rfl | rfl | rfl | rfl | rfl | rfl | rfl | rfl | rfl | rfl | rfl | rfl
                  · cases ho
                    refine step4_told (.slice (some ⟨wr.heap.size, 0, none⟩) 3 3) ?_ (by decide) (hG.same (by decide)) hT rfl
                    have e0 : a.eval (.tmp 7) = .slice (some ⟨wr.heap.size, 0, none⟩) 3 3 := hold 7 (unyet_first hcl hi (by kernel_rfl))
                    generalize a.eval = ev at e0 ⊢
                    simp [execOp, go_sem, e0]
                  · cases ho
                    refine step4_told (.slice (some ⟨O, 0, none⟩) 15 15) ?_ (by decide) (hG.same (by decide)) hT rfl
                    have e0 : a.eval (.tmp 1) = .slice (some ⟨O, 0, none⟩) 15 15 := hold 1 (unyet_of (by kernel_rfl))
                    generalize a.eval = ev at e0 ⊢
                    simp [execOp, go_sem, e0]
                  · cases ho
                    refine step4_told (.int .i64 i) ?_ (by decide) (hG.same (by decide)) hT rfl
                    have e0 : a.eval (.tmp 4) = .int .i64 i := hold 4 (unyet_of (by kernel_rfl))
                    generalize a.eval = ev at e0 ⊢
                    simp [execOp, go_sem, e0]
                  · cases ho
                    refine step4_told (.pointer (some ⟨O, i, none⟩)) ?_ (by decide) (hG.same (by decide)) hT rfl
                    have e0 : a.eval (.tmp 75) = .slice (some ⟨O, 0, none⟩) 15 15 := hT 1 (hh 1 rfl)
                    have e1 : a.eval (.tmp 76) = .int .i64 i := hT 2 (hh 2 rfl)
                    generalize a.eval = ev at e0 e1 ⊢
                    simp [execOp, go_sem, e0, e1, i0, i1]
                  · cases ho
                    refine step4_told (.int .i64 z) ?_ (by decide) (hG.same (by decide)) hT rfl
                    have e0 : a.eval (.tmp 77) = .pointer (some ⟨O, i, none⟩) := hT 3 (hh 3 rfl)
                    obtain ⟨hG1, hG2, hG3, hG4, hG5⟩ := hG
                    have cz := CZ.out W hG2
                    generalize a.eval = ev at e0 ⊢
                    simp [execOp, go_sem, e0, cz]
                  · cases ho
                    refine step4_told (.int .i64 k) ?_ (by decide) (hG.same (by decide)) hT rfl
                    have e0 : a.eval (.tmp 5) = .int .i64 k := hold 5 (unyet_of (by kernel_rfl))
                    generalize a.eval = ev at e0 ⊢
                    simp [execOp, go_sem, e0]
                  · cases ho
                    refine step4_told (.int .i64 ((k : Int) * 64)) ?_ (by decide) (hG.same (by decide)) hT rfl
                    have e0 : a.eval (.tmp 79) = .int .i64 k := hT 5 (hh 5 rfl)
                    have e1 : a.eval (.const (.int .i64 64)) = .int .i64 64 := rfl
                    generalize a.eval = ev at e0 e1 ⊢
                    simp [execOp, go_sem, e0, e1, p2]
                  · cases ho
                    refine step4_told (.int .i64 n) ?_ (by decide) (hG.same (by decide)) hT rfl
                    have e0 : a.eval (.tmp 6) = .int .i64 n := hold 6 (unyet_of (by kernel_rfl))
                    generalize a.eval = ev at e0 ⊢
                    simp [execOp, go_sem, e0]
                  · cases ho
                    refine step4_told (.int .i64 r) ?_ (by decide) (hG.same (by decide)) hT rfl
                    have e0 : a.eval (.tmp 81) = .int .i64 n := hT 7 (hh 7 rfl)
                    have e1 : a.eval (.const (.int .i64 2)) = .int .i64 2 := rfl
                    generalize a.eval = ev at e0 e1 ⊢
                    simp [execOp, go_sem, e0, e1, p1]
                  · cases ho
                    refine step4_told (.int .i64 N) ?_ (by decide) (hG.same (by decide)) hT rfl
                    have e0 : a.eval (.tmp 80) = .int .i64 ((k : Int) * 64) := hT 6 (hh 6 rfl)
                    have e1 : a.eval (.tmp 82) = .int .i64 r := hT 8 (hh 8 rfl)
                    generalize a.eval = ev at e0 e1 ⊢
                    simp [execOp, go_sem, e0, e1, p3]
                  · cases ho
                    have hbz := below1 W (.cells Z 5)
                    refine step4_turned (.slice (some ⟨W.heap.size, 0, none⟩) N N) (W.alloc (.cells Z 5)) ?_ (by decide) ((hG.below hbz).same (by decide)) (fun j hj => (hT j hj).below hbz) ⟨W.heap.size, rfl, hG.2.2.1, by simp, HZR.out W⟩
                    have e0 : a.eval (.tmp 83) = .int .i64 N := hT 9 (hh 9 rfl)
                    have hzw := hZ W
                    generalize a.eval = ev at e0 ⊢
                    simp [execOp, go_sem, e0, hzw]
                  · cases ho
                    obtain ⟨g, e1, hzr⟩ : ∃ g, a.eval (.tmp 84) = .slice (some ⟨g, 0, none⟩) N N ∧ ZR w5.heap.size N g W := hT 10 (hh 10 rfl)
                    refine step4_told (.agg (d7 z (some ⟨g, 0, none⟩) N).cells.toArray) ?_ (by decide) (hG.same (by decide)) hT ⟨g, rfl, hzr⟩
                    have e0 : a.eval (.tmp 78) = .int .i64 z := hT 4 (hh 4 rfl)
                    have ec : a.eval (.const (.int .i64 7)) = .int .i64 7 := rfl
                    generalize a.eval = ev at e0 e1 ec ⊢
                    simp [execOp, go_sem, e0, e1, ec, d7, ADeed.cells]
                  · cases ho
                    obtain ⟨g, e1, hzr⟩ : ∃ g, a.eval (.tmp 85) = .agg (d7 z (some ⟨g, 0, none⟩) N).cells.toArray ∧ ZR w5.heap.size N g W := hT 11 (hh 11 rfl)
                    have hbz := below1 W (.cells (d7 z (some ⟨g, 0, none⟩) N).cells.toArray 39)
                    refine step4_turned (.slice (some ⟨W.heap.size, 0, none⟩) 1 1) (W.alloc (.cells (d7 z (some ⟨g, 0, none⟩) N).cells.toArray 39)) ?_ (by decide) ((hG.below hbz).same (by decide)) (fun j hj => (hT j hj).below hbz) ⟨g, W.heap.size, rfl, hzr.below hbz, hG.2.2.1, by simp, cells_rd W (d7 z (some ⟨g, 0, none⟩) N).cells 39 8 1 rfl⟩
                    generalize a.eval = ev at e1 ⊢
                    simp [execOp, go_sem, e1, d7, ADeed.cells]
                  · cases ho
                    obtain ⟨g, y, e1, hzr, hyS, hys, hyr⟩ : ∃ g y, a.eval (.tmp 86) = .slice (some ⟨y, 0, none⟩) 1 1 ∧ ZR w5.heap.size N g W ∧ w5.heap.size ≤ y ∧ y + 1 ≤ W.heap.size ∧ Rd W (y + 1) 8 (some ⟨y, 0, none⟩) 1 (d7 z (some ⟨g, 0, none⟩) N).cells := hT 12 (hh 12 rfl)
                    have e0 : a.eval (.tmp 74) = .slice (some ⟨wr.heap.size, 0, none⟩) 3 3 := hT 0 (hh 0 rfl)
                    obtain ⟨j0, hj, hj0, hj1, hj2⟩ := info_parts deedInfo
                    obtain ⟨hG1, hG2, hG3, hG4, hG5⟩ := hG
                    obtain ⟨v', w', hrun, hl⟩ := run_append_rd (P := Try.prog) W 22 22 39 j0 _ 8 80 Try.underlying22 hj hj0 hj1 hj2 rfl (by decide) _ 3 _ (hG4 hi) (y + 1) (some ⟨y, 0, none⟩) 1 1 _ hyr nofun (by intro u hu; simp only [d7, ADeed.cells, List.mem_cons, List.not_mem_nil, or_false] at hu; rcases hu with rfl | rfl | rfl | rfl | rfl | rfl | rfl | rfl <;> rfl) (by unfold maxLen; omega) (by omega)
                    have hl2 := hl
                    obtain ⟨ho', hg', hv'⟩ := hl
                    have hkb : ∀ b, b < W.heap.size → b ≠ wr.heap.size → w'.heap[b]? = W.heap[b]? := fun b h1 h2 => hg'.block b h1 (fun e => h2 (by simpa [Value.ownBlock] using e))
                    have hrk : ∀ (q sz m : Nat) (xs : List Value), w5.heap.size ≤ q → q + 1 ≤ W.heap.size → Rd W (q + 1) sz (some ⟨q, 0, none⟩) m xs → Rd w' (q + 1) sz (some ⟨q, 0, none⟩) m xs := fun q sz m xs h1 h2 h3 => ⟨h3.1, fun hn => by
                      obtain ⟨ad, e, hlt, hc⟩ := h3.2 hn
                      cases e
                      refine ⟨_, rfl, hlt, fun j u hu => ?_⟩
                      rw [← hc j u hu]
                      refine World.cell?_of_block ?_
                      rw [block_add]
                      exact hkb q (by omega) (by omega)⟩
                    have hzk : ∀ q, ZR w5.heap.size N q W → ZR w5.heap.size N q w' := fun q h => ⟨h.1, Nat.le_trans h.2.1 hg'.size, hrk _ _ _ _ h.1 h.2.1 h.2.2⟩
                    refine step4_turned v' w' ?_ (by decide) ⟨longer_below hG1 hG1.size (fun g e => by simp [Value.ownBlock] at e; omega) hl2, ⟨(hkb _ (at_lt hG2.o) (by omega)).trans hG2.o, (hkb _ (at_lt hG2.s) (by omega)).trans hG2.s, (hkb _ (at_lt hG2.c) (by omega)).trans hG2.c⟩, Nat.le_trans hG3 hg'.size, fun hx => by simp at hx, fun _ => by simp⟩ (fun j hj => ?_) ⟨g, hzk g hzr, ho'⟩
                    · exact exec_append _ _ (.tmp 74) (.tmp 86) 22 rfl _ _ e0 e1 hrun
                    · have hTj := hT j hj
                      unfold TE at hTj ⊢
                      split at hTj
                      all_goals first
                        | exact hTj
                        | (obtain ⟨q, h1, h2⟩ := hTj; exact ⟨q, h1, hzk q h2⟩)
                        | (obtain ⟨q, y, h1, h2, h0, h3, h4⟩ := hTj; exact ⟨q, y, h1, hzk q h2, h0, Nat.le_trans h3 hg'.size, hrk _ _ _ _ h0 h3 h4⟩)
                        | (rw [hi] at hj; cases hj)
                        | (have := hG5 hj; rw [hi] at this; cases this)
                  · cases ho
                    obtain ⟨g, h1, h2⟩ : ∃ g, ZR w5.heap.size N g W ∧ W.ownsRow 0 39 8 (a.eval (.tmp 87)) 4 ((three x y ⟨ck, cw, cr, co⟩).flatMap ADeed.cells ++ (d7 z (some ⟨g, 0, none⟩) N).cells) := hT 13 (hh 13 rfl)
                    generalize hv : a.eval (.tmp 87) = vv at h2
                    refine step4_told vv ?_ (by decide) (hG.last (hh 13 rfl)) hT ⟨g, h1, h2⟩
                    generalize a.eval = ev at hv ⊢
                    simp [execOp, go_sem, hv]
                · intro a W hd hs hold hT hG
                  obtain ⟨g, hzr, hown⟩ : ∃ g, ZR w5.heap.size N g W ∧ W.ownsRow 0 39 8 (a.tmps.getD 7 undef) 4 ((three x y ⟨ck, cw, cr, co⟩).flatMap ADeed.cells ++ (d7 z (some ⟨g, 0, none⟩) N).cells) := hT 14 (by decide)
                  obtain ⟨f, hf, ha⟩ := act_puts [74, 75, 76, 77, 78, 79, 80, 81, 82, 83, 84, 85, 86, 87, 7] (fun t ht => by
                    by_cases h : t ∈ [74, 75, 76, 77, 78, 79, 80, 81, 82, 83, 84, 85, 86, 87, 7]
                    · exact h
                    · exfalso
                      simp [unwritten] at ht
                      simp only [List.mem_cons, not_or] at h
                      obtain ⟨h0, h1, h2, h3, h4, h5, h6, h7, h8, h9, h10, h11, h12, h13, h14, _⟩ := h
                      exact absurd (ht (fun e => h0 e.symm) (fun e => h1 e.symm) (fun e => h2 e.symm) (fun e => h3 e.symm) (fun e => h4 e.symm) (fun e => h5 e.symm) (fun e => h6 e.symm) (fun e => h7 e.symm) (fun e => h8 e.symm) (fun e => h9 e.symm) (fun e => h10 e.symm) (fun e => h11 e.symm) (fun e => h12 e.symm) (fun e => h13 e.symm)) (fun e => h14 e.symm)) (fun t ht => by
                    have hsz : t < 91 := by
                      simp only [List.mem_cons, List.mem_nil_iff, or_false] at ht
                      omega
                    exact hsz) hd hs hold
                  rw [← hf 7] at hown
                  obtain ⟨A4, c4, e7, hrd4⟩ := owns_slice hown
                  obtain ⟨hG1, hG2, hG3, _, _⟩ := hG
                  have HDD := hide (show ADeeds W W.heap.size A4 4 (three x y ⟨ck, cw, cr, co⟩ ++ [d7 z (some ⟨g, 0, none⟩) N]) from ⟨by rw [List.flatMap_append]; simpa using hrd4, fun d hd => by
                    rcases List.mem_append.1 hd with hd | hd
                    · exact three_is hx1 hy1 hcf d hd
                    · rw [List.mem_singleton] at hd
                      subst hd
                      exact ⟨hzr.2.2.mono hzr.2.1, Nat.le_refl _, by show N ≤ _; omega, fun b hb => by rw [List.eq_of_mem_replicate hb]; omega, zfits, by simp [d7], hz1, by simp [d7]⟩⟩)
                  have HG1 := hide hG1
                  have HG2 := hide hG2
                  subst ha
                  clear hd hs hold hT hf hown hrd4 hzr hG1 hG2 hG3
                  show K _ _
                  refine hK _ _ ?_
                  simp only [List.foldl_cons, List.foldl_nil, e7]
                  obtain ⟨u74, hu74⟩ : ∃ u, u = f 74 := ⟨_, rfl⟩
                  obtain ⟨u75, hu75⟩ : ∃ u, u = f 75 := ⟨_, rfl⟩
                  obtain ⟨u76, hu76⟩ : ∃ u, u = f 76 := ⟨_, rfl⟩
                  obtain ⟨u77, hu77⟩ : ∃ u, u = f 77 := ⟨_, rfl⟩
                  obtain ⟨u78, hu78⟩ : ∃ u, u = f 78 := ⟨_, rfl⟩
                  obtain ⟨u79, hu79⟩ : ∃ u, u = f 79 := ⟨_, rfl⟩
                  obtain ⟨u80, hu80⟩ : ∃ u, u = f 80 := ⟨_, rfl⟩
                  obtain ⟨u81, hu81⟩ : ∃ u, u = f 81 := ⟨_, rfl⟩
                  obtain ⟨u82, hu82⟩ : ∃ u, u = f 82 := ⟨_, rfl⟩
                  obtain ⟨u83, hu83⟩ : ∃ u, u = f 83 := ⟨_, rfl⟩
                  obtain ⟨u84, hu84⟩ : ∃ u, u = f 84 := ⟨_, rfl⟩
                  obtain ⟨u85, hu85⟩ : ∃ u, u = f 85 := ⟨_, rfl⟩
                  obtain ⟨u86, hu86⟩ : ∃ u, u = f 86 := ⟨_, rfl⟩
                  obtain ⟨u87, hu87⟩ : ∃ u, u = f 87 := ⟨_, rfl⟩
                  rw [← hu74, ← hu75, ← hu76, ← hu77, ← hu78, ← hu79, ← hu80, ← hu81, ← hu82, ← hu83, ← hu84, ← hu85, ← hu86, ← hu87]
                  clear hu74 hu75 hu76 hu77 hu78 hu79 hu80 hu81 hu82 hu83 hu84 hu85 hu86 hu87 e7 p1 p2 p3 hZ
                  go_simp
                  go_wp2_with (first | (go_at_call 3; refine (law_cellDoes _ 4 c4 _ _ HDD.out (by decide)).mono ?_; rintro e v1 ⟨rfl, hb⟩; have HA6 := hide (HG2.out.later hb); have HB6 := hide (HG1.out.trans (hb.mono HG1.out.size)); clear hb) | fail)
                  go_roundw
                  case rel => exact ⟨n + 1, by omega, by go_num, HA6.out, HB6.out⟩
                  case measure => simp [intOf]; omega
              · have e9 : decide ((k : Int) < 9) = false := decide_eq_false (by omega)
                go_wp2_with (first | (go_at_call 3; refine (law_cellDoes _ 3 3 _ _ HD5.out (by decide)).mono ?_; rintro e v1 ⟨rfl, hb⟩; have HA6 := hide (HA5.out.later hb); have HB6 := hide (HB5.out.trans (hb.mono HB5.out.size)); clear hb) | fail)
                go_roundw
                case rel => exact ⟨n + 1, by omega, by go_num, HA6.out, HB6.out⟩
                case measure => simp [intOf]; omega
            · have hne : n = 9 := by omega
              subst hne
              go_wp2_with fail
              go_roundw
              case rel => exact ⟨k + 1, by omega, by go_num, HA3.out, HB3.out⟩
              case measure => simp [intOf]; omega
        · have hke : k = 13 := by omega
          subst hke
          go_wp2_with fail
          go_roundw
          case rel => exact ⟨i + 1, by omega, by go_num, HA2.out, HB2.out⟩
          case measure => simp [intOf]; omega
    · have hie : i = 15 := by omega
      subst hie
      go_wp2
      go_ret
      exact ⟨rfl, HB1.out⟩
end Go.Proofs.Ytkpoilcbdcddcaa
