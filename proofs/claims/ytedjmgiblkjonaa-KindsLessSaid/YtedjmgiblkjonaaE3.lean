/-
  What suits the maps ahead.
-/
import Derived.Test.YtedjmgiblkjonaaE2
namespace Go.Proofs.Ytedjmgiblkjonaa
open Go.RowKit Go.Maps
set_option linter.unusedVariables false

def ptD (k : Int) : Pt := (ptM k).getD ⟨0, 0, 0, 0, 0, 0⟩
def hasKeyM (k : Int) : Bool := decide (0 < (ptD k).kh)
def hasValueM (k : Int) : Bool := decide (0 < (ptD k).vh)
def everyM (f : Int → Bool) (l : List Int) : Bool := l.all f && decide (0 < l.length)
def suitsM (ks : List Int) (k : Int) : Bool :=
  if k = 3 then decide (ks.length = 0) else if k = 4 then everyM hasKeyM ks else if k = 5 then everyM hasValueM ks else if k = 6 then everyM (fun x => hasValueM x && x != 8) ks else true
theorem look_make1 (W : World) (b : Nat) (k : Int) (h : Makes W b) (hk : 0 ≤ k ∧ k < 256) : (Instr.lookup 83 (.map (some b)) (.int .u8 k) false).run Try.prog W = .ok (ptD k).v W := by
  obtain ⟨es, clock, hb, hj⟩ := h
  have hks' : ∀ e ∈ es.toList, ∃ y, keyOf Try.prog 22 e.key = some y := fun e he => makesL_key (e.key, e.val) (hj.1 e he)
  rcases u8Keyed.find W (u8key k hk.1 hk.2) es.toList hks' with ⟨h1, h2⟩ | ⟨j, e0, h1, h2, h3⟩
  · have hn : ptM k = none := by
      by_cases h8 : 1 ≤ k ∧ k ≤ 8
      · exfalso
        have h9 : k = 1 ∨ k = 2 ∨ k = 3 ∨ k = 4 ∨ k = 5 ∨ k = 6 ∨ k = 7 ∨ k = 8 := by omega
        have hv : (Value.int .u8 k, pvM k) ∈ makesL := by
          rcases h9 with rfl | rfl | rfl | rfl | rfl | rfl | rfl | rfl <;> simp [makesL, pvM, ptM, Pt.v]
        obtain ⟨x, hx, hx1, _⟩ := hj.2 _ hv
        exact h2 x hx hx1
      · unfold ptM
        simp [show ¬ k = 1 by omega, show ¬ k = 2 by omega, show ¬ k = 3 by omega, show ¬ k = 4 by omega, show ¬ k = 5 by omega, show ¬ k = 6 by omega, show ¬ k = 7 by omega, show ¬ k = 8 by omega]
    have hz := zero81 W
    have hp : (ptD k).v = pvM 0 := by unfold ptD; rw [hn]; rfl
    rw [hp]
    simp [Instr.lookup, run_underlying Try.underlying83, MapKept.run_getObj_map hb, u8Keyed.check W _ (u8key k hk.1 hk.2), h1, hz, Result.andThen]
  · have hm := hj.1 e0 (List.mem_of_getElem? h2)
    rw [h3] at hm
    have hv : e0.val = (ptD k).v := by
      simp only [makesL, List.mem_cons, Prod.mk.injEq, List.not_mem_nil, or_false, Value.int.injEq, true_and] at hm
      rcases hm with ⟨rfl, h⟩ | ⟨rfl, h⟩ | ⟨rfl, h⟩ | ⟨rfl, h⟩ | ⟨rfl, h⟩ | ⟨rfl, h⟩ | ⟨rfl, h⟩ | ⟨rfl, h⟩ <;> (rw [h]; simp [ptD, ptM, Pt.v])
    simp [Instr.lookup, run_underlying Try.underlying83, MapKept.run_getObj_map hb, u8Keyed.check W _ (u8key k hk.1 hk.2), h1, Result.andThen, hv]
theorem hasKey_any (p : Pt) (w : World) : Calls Try.prog 95 #[p.v] w fun e w' => e = .returned (.bool (decide (0 < p.kh))) ∧ Below w.heap.size w w' := by
  obtain ⟨q0, q1, q2, q3, q4, q5⟩ := p
  simp only [Pt.v]
  go_enter Try.func95, Try.ntmps95
  go_wp2
  go_ret
  exact ⟨rfl, below1 _ _⟩
theorem hasValue_any (p : Pt) (w : World) : Calls Try.prog 97 #[p.v] w fun e w' => e = .returned (.bool (decide (0 < p.vh))) ∧ Below w.heap.size w w' := by
  obtain ⟨q0, q1, q2, q3, q4, q5⟩ := p
  simp only [Pt.v]
  go_enter Try.func97, Try.ntmps97
  go_wp2
  go_ret
  exact ⟨rfl, below1 _ _⟩
section
variable (k : Int) (hk : 0 ≤ k ∧ k < 256) (bo b : Nat) (w : World) (hb : w.cell? ⟨bo, 0, none⟩ = some (.map (some b))) (hm : Makes w b)
include hk hb hm
set_option maxRecDepth 100000 in
theorem suit1_any : Calls Try.prog 94 #[.int .u8 k, .pointer (some ⟨bo, 0, none⟩)] w fun e w' => e = .returned (.bool (hasKeyM k)) ∧ Below w.heap.size w w' := by
  have hl := look_make1 w b k hm hk
  have hK := hide (fun w => hasKey_any (ptD k) w)
  have hlt := World.block_lt_of_cell? w _ hb
  have HM : Hid (hasKeyM k = decide (0 < (ptD k).kh)) := hide rfl
  clear hm hk
  generalize ptD k = p at *
  generalize hasKeyM k = hkm at *
  generalize p.v = pv at *
  go_enter Try.func94, Try.ntmps94
  go_wp2_with (go_at_call 95; ((with_reducible refine (hK.out _).mono ?_)); rintro e w1 ⟨rfl, hb1⟩; have HB1 := hide hb1; clear hb1)
  go_ret
  exact ⟨by rw [HM.out]; rfl, HB1.out⟩
set_option maxRecDepth 100000 in
theorem suit2_any : Calls Try.prog 96 #[.int .u8 k, .pointer (some ⟨bo, 0, none⟩)] w fun e w' => e = .returned (.bool (hasValueM k)) ∧ Below w.heap.size w w' := by
  have hl := look_make1 w b k hm hk
  have hK := hide (fun w => hasValue_any (ptD k) w)
  have hlt := World.block_lt_of_cell? w _ hb
  have HM : Hid (hasValueM k = decide (0 < (ptD k).vh)) := hide rfl
  clear hm hk
  generalize ptD k = p at *
  generalize hasValueM k = hkm at *
  generalize p.v = pv at *
  go_enter Try.func96, Try.ntmps96
  go_wp2_with (go_at_call 97; ((with_reducible refine (hK.out _).mono ?_)); rintro e w1 ⟨rfl, hb1⟩; have HB1 := hide hb1; clear hb1)
  go_ret
  exact ⟨by rw [HM.out]; rfl, HB1.out⟩
set_option maxRecDepth 100000 in
theorem suit3_any : Calls Try.prog 98 #[.int .u8 k, .pointer (some ⟨bo, 0, none⟩)] w fun e w' => e = .returned (.bool (hasValueM k && k != 8)) ∧ Below w.heap.size w w' := by
  have hl := look_make1 w b k hm hk
  have hK := hide (fun w => hasValue_any (ptD k) w)
  have hlt := World.block_lt_of_cell? w _ hb
  have HM : Hid (hasValueM k = decide (0 < (ptD k).vh)) := hide rfl
  clear hm hk
  generalize ptD k = p at *
  generalize hasValueM k = hkm at *
  generalize p.v = pv at *
  generalize decide (0 < p.vh) = d at *
  obtain rfl := HM.out
  cases hkm
  all_goals
    go_enter Try.func98, Try.ntmps98
    go_wp2_with (go_at_call 97; ((with_reducible refine (hK.out _).mono ?_)); rintro e w1 ⟨rfl, hb1⟩; have HB1 := hide hb1; clear hb1)
    go_ret
    exact ⟨by simp, HB1.out⟩
end
end Go.Proofs.Ytedjmgiblkjonaa
