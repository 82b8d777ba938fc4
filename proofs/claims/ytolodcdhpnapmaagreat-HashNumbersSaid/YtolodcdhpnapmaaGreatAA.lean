/-
  Common words: rows of bytes of the call's own, a number picked, rows that came in.
-/
import Derived.Test.YtolodcdhpnapmaaGreatCP
import Derived.Test.YtolodcdhpnapmaaGreatWB
import Derived.Test.YtolodcdhpnapmaaGreatK2
import Derived.LaidEqlPtr
import Derived.Recover
import Derived.StillTailTactics
import Derived.Deep.Cut
namespace Go.Proofs.YtolodcdhpnapmaaGreat
open Go.RowKit
set_option linter.unusedVariables false

def OwnB (w : World) (B : Nat) (v : Value) (n : Nat) (l : List Int) : Prop := w.ownsRow 0 5 1 v n (u8s l) ∧ ∀ g, v.ownBlock = some g → B ≤ g
theorem owns_nil (w : World) (e : TypeId) (sz : Nat) : w.ownsRow 0 e sz (.slice none 0 0) 0 [] := ⟨by simp, .inl ⟨rfl, rfl⟩⟩
theorem longer_new {w w' : World} {e : TypeId} {sz n : Nat} {v' : Value} {xs : List Value} (h : Longer w w' e sz (.slice none 0 0) v' n xs) : w'.ownsRow 0 e sz v' n xs ∧ (∀ g, v'.ownBlock = some g → w.heap.size ≤ g) ∧ Below w.heap.size w w' := by
  obtain ⟨h1, h2, h3⟩ := h
  refine ⟨h1, fun g hg => ?_, ⟨h2.os, h2.tape, h2.output, h2.size, fun k hk => h2.block k hk (by simp [Value.ownBlock])⟩⟩
  rcases h3 with h3 | h3
  · rw [h3] at hg; cases hg
  · rw [h3] at hg
    injection hg with hg
    omega
theorem u8size : (Tryz.prog.info? 5).map (·.size) = some 1 := by kernel_rfl
theorem name_call {P : Program} {f : FuncId} {args : Array Value} {w : World} {R : Ending → World → Prop} (h : ∀ W, W = w → Calls P f args W R) : Calls P f args w R := h w rfl
theorem ret_int {k : IntKind} {a b : Int} (h : a = b) : Ending.returned (.int k a) = .returned (.int k b) := by rw [h]
theorem pick_any (x : Int) (m : Nat) (w : World) (hm : 0 < m) (hm2 : m ≤ 1000) (h1 : -9223372036854775808 ≤ x) (h2 : x ≤ 9223372036854775807) :
    Calls Tryz.prog 35 #[.int .i64 x, .int .i64 m] w fun e w' => ∃ k : Nat, k < m ∧ e = .returned (.int .i64 k) ∧ w = w' := by
  have hb : x.tmod m < m ∧ -(m : Int) < x.tmod m := by
    have h0 := Int.tmod_lt_of_pos x (show (0 : Int) < m by omega)
    have h3 := Int.lt_tmod_of_pos x (show (0 : Int) < m by omega)
    omega
  by_cases hn : x.tmod m < 0
  · go_enter Tryz.func35, Tryz.ntmps35
    go_wp2
    go_ret
    exact ⟨(x.tmod m + m).toNat, by omega, ret_int (by omega), rfl⟩
  · go_enter Tryz.func35, Tryz.ntmps35
    go_wp2
    go_ret
    exact ⟨(x.tmod m).toNat, by omega, ret_int (by omega), rfl⟩
theorem cut_head (S : Option Addr) (q sc h : Nat) (hh : h ≤ sc) (W : World) : (Instr.slice 34 (.slice S q sc) none (some (.int .i64 (h : Int))) none).run Tryz.prog W = .ok (.slice S h sc) W := by
  obtain ⟨i, hi, hsi⟩ : ∃ i, Tryz.prog.info? 5 = some i ∧ i.size = 1 := by
    have := u8size
    cases hq : Tryz.prog.info? 5 with
    | none => rw [hq] at this; cases this
    | some i => rw [hq] at this; exact ⟨i, rfl, by simpa using this⟩
  have hht : Tryz.prog.underlying 34 = some (.slice (Tryz.prog.elem 34)) := by simp [Program.elem, Tryz.underlying34]
  rw [run_slice_h (P := Tryz.prog) W 34 S q sc hht .i64 h (by omega) (by omega)]
  have : Tryz.prog.elem 34 = 5 := by simp [Program.elem, Tryz.underlying34]
  rw [this]
  simp only [sizeOf, typeInfo]
  have ha : S.map (·.add 0) = S := by cases S <;> rfl
  simp [hi, hsi, Result.andThen, sliced, ha]
structure ARow where
  A : Option Addr
  n : Nat
  c : Nat
  bs : List Int
def ARow.sl (r : ARow) : Value := .slice r.A r.n r.c
structure ARows (w : World) (B : Nat) (A0 : Option Addr) (m : Nat) (rs : List ARow) : Prop where
  outer : Rd w B 1 A0 m (rs.map ARow.sl)
  inner : ∀ r ∈ rs, Rd w B 1 r.A r.n (u8s r.bs) ∧ (r.A = none → r.n = 0) ∧ r.n ≤ 140737488351232
theorem ARows.below {w w' : World} {B : Nat} {A0 : Option Addr} {m : Nat} {rs : List ARow} (h : ARows w B A0 m rs) (hb : Below B w w') : ARows w' B A0 m rs := ⟨h.outer.below hb, fun r hr => ⟨(h.inner r hr).1.below hb, (h.inner r hr).2⟩⟩
theorem ARows.cell {w : World} {B : Nat} {A0 : Option Addr} {m j : Nat} {rs : List ARow} (h : ARows w B A0 m rs) (hj : j < m) : ∃ ad r, A0 = some ad ∧ rs[j]? = some r ∧ w.cell? (ad.add j) = some (.slice r.A r.n r.c) := by
  obtain ⟨ad, e, _, hc⟩ := h.outer.2 (by omega)
  have hl : rs.length = m := by have := h.outer.1; simpa using this
  have hr : rs[j]? = some rs[j] := List.getElem?_eq_getElem (by omega)
  exact ⟨ad, rs[j], e, hr, hc j _ (by simp [hr, ARow.sl])⟩
theorem rd_new (w : World) (l : List Int) (n : Nat) (hn : l.length = n) : Rd (w.alloc (.cells (u8s l).toArray 5)) (w.heap.size + 1) 1 (some ⟨w.heap.size, 0, none⟩) n (u8s l) := cells_rd w (u8s l) 5 1 n (by simp [u8s, hn])
theorem rd_mark (w : World) (l : List Int) (n : Nat) (hn : l.length = n) (fr : Nat × Nat) : Rd (w.alloc (.cells (u8s l).toArray 5 fr)) (w.heap.size + 1) 1 (some ⟨w.heap.size, 0, none⟩) n (u8s l) := by
  refine ⟨by simp [u8s, hn], fun _ => ⟨_, rfl, Nat.lt_succ_self _, fun j u hu => ?_⟩⟩
  rw [add_own, Joins.cell_alloc_mark_at w _ 5 fr _ j rfl]
  simpa using hu
theorem four_made (w : World) : (Instr.makeSlice 34 (.int .i64 4) (.int .i64 4)).run Tryz.prog w = .ok (.slice (some ⟨w.heap.size, 0, none⟩) 4 4) (w.alloc (.cells (u8s [0, 0, 0, 0]).toArray 5)) := by
  obtain ⟨i0, hi, hz0, hz1, hz2⟩ := info_parts u8info
  have := run_make (P := Tryz.prog) w 34 5 i0 _ Tryz.underlying34 hi hz0 .i64 .i64 4 4 (by omega) (by omega) (by rw [hz2]; omega) (by omega)
  rw [hz1] at this
  have e : madeCells (Value.int IntKind.u8 0).cells (Int.toNat 4 * 1) = (u8s [0, 0, 0, 0]).toArray := by kernel_rfl
  rw [e] at this
  exact this
theorem u8s_splice (l d : List Int) (off : Nat) : u8s (splice l off d) = splice (u8s l) off (u8s d) := by simp [u8s, splice, List.map_take, List.map_drop]
theorem Kept.of_below {F : Nat → Prop} {w w' : World} (hb : Below w.heap.size w w') : Kept F w w' := ⟨hb.os, hb.tape, hb.output, hb.size, fun k hk _ => hb.block k hk⟩
theorem Kept.mono {F F' : Nat → Prop} {w w' : World} (h : Kept F w w') (hF : ∀ g, F' g → F g) : Kept F' w w' := ⟨h.os, h.tape, h.output, h.size, fun k hk h' => h.block k hk (hF k h')⟩
theorem zeros_cells (n : Nat) : madeCells #[Value.int .u8 0] n = (u8s (List.replicate n 0)).toArray := by
  apply Array.ext'
  apply List.ext_getElem
  · simp [size_madeCells, u8s]
  · intro i h1 h2
    simp [madeCells, u8s, Nat.mod_one]
/-- A row of bytes, all noughts, is made. -/
theorem zeros_made {t : TypeId} (ht : Tryz.prog.underlying t = some (.slice 5)) (n : Nat) (hn : n ≤ 16777216) (W : World) : (Instr.makeSlice t (.int .i64 (n : Int)) (.int .i64 (n : Int))).run Tryz.prog W = .ok (.slice (some ⟨W.heap.size, 0, none⟩) n n) (W.alloc (.cells (u8s (List.replicate n 0)).toArray 5)) := by
  obtain ⟨i0, hi, hz0, hz1, hz2⟩ := info_parts u8info
  have := run_make (P := Tryz.prog) W t 5 i0 _ ht hi hz0 .i64 .i64 (n : Int) (n : Int) (by omega) (by omega) (by rw [hz2]; omega) (by omega)
  rw [hz1] at this
  rw [← zeros_cells]
  simpa [Value.cells] using this
end Go.Proofs.YtolodcdhpnapmaaGreat
