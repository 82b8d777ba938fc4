/-
  A number picked; a row that came in, cut at its head; rows of bytes that came in; copies.
-/
import Derived.Test.YtbllnjkagleenaaGreatAW
namespace Go.Proofs.YtbllnjkagleenaaGreat
open Go.RowKit
set_option linter.unusedVariables false

theorem ret_int {k : IntKind} {a b : Int} (h : a = b) : Ending.returned (.int k a) = .returned (.int k b) := by rw [h]
theorem pick_any (x : Int) (m : Nat) (w : World) (hm : 0 < m) (hm2 : m ≤ 1000) (h1 : -9223372036854775808 ≤ x) (h2 : x ≤ 9223372036854775807) :
    Calls Tryz.prog 12 #[.int .i64 x, .int .i64 m] w fun e w' => ∃ k : Nat, k < m ∧ e = .returned (.int .i64 k) ∧ w = w' := by
  have hb : x.tmod m < m ∧ -(m : Int) < x.tmod m := by
    have h0 := Int.tmod_lt_of_pos x (show (0 : Int) < m by omega)
    have h3 := Int.lt_tmod_of_pos x (show (0 : Int) < m by omega)
    omega
  by_cases hn : x.tmod m < 0
  · go_enter Tryz.func12, Tryz.ntmps12
    go_wp2
    go_ret
    exact ⟨(x.tmod m + m).toNat, by omega, ret_int (by omega), rfl⟩
  · go_enter Tryz.func12, Tryz.ntmps12
    go_wp2
    go_ret
    exact ⟨(x.tmod m).toNat, by omega, ret_int (by omega), rfl⟩
theorem cut_head (S : Option Addr) (q sc h : Nat) (hh : h ≤ sc) (W : World) : (Instr.slice 26 (.slice S q sc) none (some (.int .i64 (h : Int))) none).run Tryz.prog W = .ok (.slice S h sc) W := by
  obtain ⟨i, hi, hsi⟩ : ∃ i, Tryz.prog.info? 5 = some i ∧ i.size = 1 := by
    have := u8size
    cases hq : Tryz.prog.info? 5 with
    | none => rw [hq] at this; cases this
    | some i => rw [hq] at this; exact ⟨i, rfl, by simpa using this⟩
  have hht : Tryz.prog.underlying 26 = some (.slice (Tryz.prog.elem 26)) := by simp [Program.elem, Tryz.underlying26]
  rw [run_slice_h (P := Tryz.prog) W 26 S q sc hht .i64 h (by omega) (by omega)]
  have : Tryz.prog.elem 26 = 5 := by simp [Program.elem, Tryz.underlying26]
  rw [this]
  simp only [sizeOf, typeInfo]
  have ha : S.map (·.add 0) = S := by cases S <;> rfl
  simp [hi, hsi, Result.andThen, sliced, ha]
/-- A row of bytes that came in. -/
structure ARow where
  A : Option Addr
  n : Nat
  c : Nat
  bs : List Int
def ARow.sl (r : ARow) : Value := .slice r.A r.n r.c
/-- Rows that came in. -/
structure ARows (w : World) (B : Nat) (A0 : Option Addr) (m : Nat) (rs : List ARow) : Prop where
  outer : Rd w B 1 A0 m (rs.map ARow.sl)
  inner : ∀ r ∈ rs, Rd w B 1 r.A r.n (u8s r.bs) ∧ (r.A = none → r.n = 0) ∧ r.n ≤ 140737488351232
theorem ARows.below {w w' : World} {B : Nat} {A0 : Option Addr} {m : Nat} {rs : List ARow} (h : ARows w B A0 m rs) (hb : Below B w w') : ARows w' B A0 m rs := ⟨h.outer.below hb, fun r hr => ⟨(h.inner r hr).1.below hb, (h.inner r hr).2⟩⟩
theorem ARows.cell {w : World} {B : Nat} {A0 : Option Addr} {m j : Nat} {rs : List ARow} (h : ARows w B A0 m rs) (hj : j < m) : ∃ ad r, A0 = some ad ∧ rs[j]? = some r ∧ w.cell? (ad.add j) = some (.slice r.A r.n r.c) := by
  obtain ⟨ad, e, _, hc⟩ := h.outer.2 (by omega)
  have hl : rs.length = m := by have := h.outer.1; simpa using this
  have hr : rs[j]? = some rs[j] := List.getElem?_eq_getElem (by omega)
  exact ⟨ad, rs[j], e, hr, hc j _ (by simp [hr, ARow.sl])⟩
end Go.Proofs.YtbllnjkagleenaaGreat
