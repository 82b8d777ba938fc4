/-
  As many elements as there is room for are copied onto a row's head.
-/
import Derived.Test.YtflpifelamkagaaV9
namespace Go.Proofs.Ytflpifelamkagaa
open Go.RowKit
set_option linter.unusedVariables false

/-- What is copied of a row of k, where there is room for n. -/
def heads (xs : List Int) (l : List Int) (n : Nat) : List Int := splice xs 0 (l.take n)
section
variable {P : Program} {w : World} {e : TypeId} {n : Nat} {xs : List Value}
theorem wpList_copy_head {ops : Array Oper} {rest : List Oper} {o : Oper} {a : Act} {Q : Exit → Act → World → Prop} (hgd : o.guard = none) (d s : Operand) (dT sT : TypeId)
    (ho : o.op = .call { callee := .builtin .copy, args := #[d, s], argTypes := #[dT, sT] }) (hu : P.underlying dT = some (.slice e)) (hsz : (P.info? e).map (·.size) = some 1)
    (g c : Nat) (h : w.ownsRow 0 e 1 (.slice (some ⟨g, 0, none⟩) n c) n xs) (dCap : Nat) (hd : a.eval d = .slice (some ⟨g, 0, none⟩) n dCap)
    (B : Nat) (sp : Option Addr) (k sCap : Nat) (hs : a.eval s = .slice sp k sCap) (src : List Value) (hr : Rd w B 1 sp k src) (h1 : ∀ u ∈ src, u.oneCell' = true)
    (hK : ∀ w', w'.ownsRow 0 e 1 (.slice (some ⟨g, 0, none⟩) n c) n (splice xs 0 (src.take n)) → w.grownBy w' (some g) → w'.heap.size = w.heap.size → wpList P ops Q rest (a.put o.dst (goInt (src.take n).length)) w') : wpList P ops Q (o :: rest) a w := by
  have hsl : src.length = k := by have := hr.1; omega
  have hnl : (src.take n).length = Nat.min k n := by rw [List.length_take, hsl]; exact Nat.min_comm n k
  rcases Nat.eq_zero_or_pos (Nat.min k n) with h0 | h0
  · have he : src.take n = [] := List.eq_nil_of_length_eq_zero (by omega)
    refine wpList_copy_nothing hgd d s dT sT ho e hu hsz _ sp n dCap k sCap hd hs h0 ?_
    have := hK w (by rw [he]; simpa [splice] using h) ⟨rfl, rfl, rfl, Nat.le_refl _, fun _ _ _ => rfl⟩ rfl
    rw [he] at this
    exact this
  · have hm : Nat.min k n ≤ k ∧ Nat.min k n ≤ n := ⟨Nat.min_le_left k n, Nat.min_le_right k n⟩
    obtain ⟨ad, rfl, _, hc⟩ := hr.2 (by omega)
    rcases h.2 with ⟨h2, _⟩ | ⟨g', cap, cur, h2, hb, hg, hnc, hcm, hcs, htake⟩
    · cases h2
    · cases h2
      have hxl := h.1
      refine wpList_copy_own hgd d s dT sT ho e hu hsz g 0 n dCap ad k sCap hd hs cur e hg (src.take n) hnl (fun j v hv => hc j v (by
        rw [List.getElem?_take] at hv
        split at hv
        · exact hv
        · cases hv)) (by omega) (fun u hu => h1 u (List.mem_of_mem_take hu)) ?_
      refine hK _ ⟨by rw [length_splice xs 0 _ (by rw [hxl, hnl]; omega)]; exact hxl, .inr ⟨g, c, _, rfl, hb, setRow_heap w g _ _ e _ hg, hnc, hcm, ?_, ?_⟩⟩ ⟨rfl, rfl, rfl, by simp [World.setRow], fun j _ hj => setRow_other w g j _ (fun e => hj (by rw [e]))⟩ (by simp [World.setRow])
      · simp only [List.size_toArray, List.length_append, List.length_drop, Array.length_toList, hnl]
        rw [List.length_take, Array.length_toList]
        omega
      · simp only [Nat.mul_one] at htake ⊢
        rw [← htake]
        exact take_splice cur.toList 0 n (src.take n) (by omega) (by rw [Array.length_toList]; omega)
end
/-- What is picked of x hangs on no world. -/
def pickN (x : Int) (m : Nat) : Nat := if x.tmod m < 0 then (x.tmod m + m).toNat else (x.tmod m).toNat
theorem pick_is (x : Int) (m : Nat) (w : World) (hm : 0 < m) (hm2 : m ≤ 1000) (h1 : -9223372036854775808 ≤ x) (h2 : x ≤ 9223372036854775807) :
    Calls Try.prog 10 #[.int .i64 x, .int .i64 m] w fun e w' => e = .returned (.int .i64 (pickN x m : Nat)) ∧ w = w' := by
  have hb : x.tmod m < m ∧ -(m : Int) < x.tmod m := by
    have h0 := Int.tmod_lt_of_pos x (show (0 : Int) < m by omega)
    have h3 := Int.lt_tmod_of_pos x (show (0 : Int) < m by omega)
    omega
  unfold pickN
  by_cases hn : x.tmod m < 0
  · rw [if_pos hn]
    go_enter Try.func10, Try.ntmps10
    go_wp2
    go_ret
    exact ⟨ret_int (by omega), rfl⟩
  · rw [if_neg hn]
    go_enter Try.func10, Try.ntmps10
    go_wp2
    go_ret
    exact ⟨ret_int (by omega), rfl⟩
theorem pickN_lt (x : Int) (m : Nat) (hm : 0 < m) : pickN x m < m := by
  have h0 := Int.tmod_lt_of_pos x (show (0 : Int) < m by omega)
  have h3 := Int.lt_tmod_of_pos x (show (0 : Int) < m by omega)
  unfold pickN
  split <;> omega
end Go.Proofs.Ytflpifelamkagaa
