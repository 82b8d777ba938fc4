/-
  An argument's maps, of whatever argument.
-/
import Derived.Test.YtedjmgiblkjonaaE1
namespace Go.Proofs.Ytedjmgiblkjonaa
open Go.RowKit Go.Maps
set_option linter.unusedVariables false

def ownK (k : Int) : Int := if (ptM k).isSome then 0 else 31
def mapsM (k : Int) (l : List Int) : Bool := if k = 3 then decide (0 < l.length) && (riseM ownK (fun a b => decide (a < b)) 31 l == 0) else decide (l.length = 0)
set_option maxRecDepth 100000 in
theorem ownK_any (k : Int) (hk : 0 ≤ k ∧ k < 256) (bo b : Nat) (w : World) (hb : w.cell? ⟨bo, 0, none⟩ = some (.map (some b))) (hm : Makes w b) : Calls Try.prog 91 #[.int .u8 k, .pointer (some ⟨bo, 0, none⟩)] w fun e w' => e = .returned (.int .i64 (ownK k)) ∧ Below w.heap.size w w' := by
  have hl := look_make w b k hm hk
  have HO : Hid (ownK k = if (ptM k).isSome then 0 else 31) := hide rfl
  have hlt := World.block_lt_of_cell? w _ hb
  clear hm hk
  unfold pvM at hl
  generalize (ptM k).getD ⟨0, 0, 0, 0, 0, 0⟩ = p at *
  generalize (ptM k).isSome = t at *
  obtain ⟨q0, q1, q2, q3, q4, q5⟩ := p
  simp only [Pt.v] at hl
  cases t
  all_goals
    go_enter Try.func91, Try.ntmps91
    go_wp2_with (go_at_call 31; ((with_reducible refine (unless_any _ _ _).mono ?_)); rintro e w1 ⟨rfl, rfl⟩)
    go_ret
    exact ⟨by rw [HO.out]; rfl, below1 _ _⟩
set_option maxRecDepth 100000 in
set_option maxHeartbeats 1000000 in
theorem maps_any (k lo hi : Int) (A : Option Addr) (n c B b : Nat) (l : List Int) (w : World) (h : Rd w B 1 A n (mks l)) (hB : B ≤ w.heap.size) (hn : n ≤ 1000000) (hnc : n ≤ c) (hc : c ≤ maxLen) (hw : ∀ x ∈ l, 0 ≤ x ∧ x < 256) (hm : Makes w b) :
    Calls Try.prog 61 #[.map (some b), .agg #[.int .u8 k, .int .i64 lo, .int .i64 hi, .slice A n c]] w fun e w' => e = .returned (.bool (mapsM k l)) ∧ Below w.heap.size w w' := by
  have hmf : ∀ (fn : Fn) (first cap : Array Value) (w : World), (Instr.makeFunc fn first cap).run Try.prog w = .ok (.func fn first cap) w := fun _ _ _ _ => rfl
  have hl := h.mks_len
  by_cases k3 : k = 3
  · subst k3
    by_cases n0 : n = 0
    · subst n0
      have HM : Hid (mapsM 3 l = false) := hide (by unfold mapsM; rw [if_pos rfl, hl]; rfl)
      clear h hm hw hl
      go_enter Try.func61, Try.ntmps61
      go_wp2
      go_ret
      exact ⟨by rw [HM.out]; rfl, below2 _ _ _⟩
    · have HM : Hid (mapsM 3 l = (riseM ownK (fun a b => decide (a < b)) 31 l == 0)) := hide (by unfold mapsM; rw [if_pos rfl, hl]; simp; omega)
      have hp : 0 < n := by omega
      have hR : Hid (∀ X : World, Below w.heap.size w X → X.cell? ⟨w.heap.size, 0, none⟩ = some (.map (some b)) → w.heap.size < X.heap.size → Calls Try.prog 92 #[.slice A n c, .func (.func 91) #[] #[.pointer (some ⟨w.heap.size, 0, none⟩)], .func (.func 93) #[] #[], .int .i64 31] X fun e w' =>
          e = .returned (.int .i64 (riseM ownK (fun a b => decide (a < b)) 31 l)) ∧ Below X.heap.size X w') := hide (fun X hX hcl hlt =>
        riseMk_any A n c B l ownK w.heap.size 31 X (h.below (hX.mono hB)) (Nat.le_trans hB hX.size) hn hnc hc (by omega) (fun x hx Y hY => ownK_any x (hw x hx) _ b Y ((hY.cell (p := ⟨w.heap.size, 0, none⟩) hlt).trans hcl) ((hm.below hX).below hY)))
      generalize riseM ownK (fun a b => decide (a < b)) 31 l = r at *
      obtain ⟨x1, x2⟩ := two_boxes w (.cells #[.map (some b)] 83) (.cells #[.int .u8 3, .int .i64 lo, .int .i64 hi, .slice A n c] 46)
      have hb := below2 w (.cells #[.map (some b)] 83) (.cells #[.int .u8 3, .int .i64 lo, .int .i64 hi, .slice A n c] 46)
      have hcl := blk_cell x1 0
      simp only [List.getElem?_toArray, List.getElem?_cons_zero] at hcl
      have hR2 := hide (hR.out _ hb hcl (at_lt x1))
      have HB := hide hb
      clear h hm hw hl hR x1 x2 hb hcl n0
      by_cases r0 : r = 0
      · subst r0
        go_enter Try.func61, Try.ntmps61
        go_wp2_with (go_at_call 92; ((with_reducible refine hR2.out.mono ?_)); rintro e w1 ⟨rfl, hb1⟩; have HB1 := hide (HB.out.trans (hb1.mono HB.out.size)); clear hb1)
        go_ret
        exact ⟨by rw [HM.out]; rfl, HB1.out⟩
      · have e0 : (r == 0) = false := by simpa using r0
        go_enter Try.func61, Try.ntmps61
        go_wp2_with (go_at_call 92; ((with_reducible refine hR2.out.mono ?_)); rintro e w1 ⟨rfl, hb1⟩; have HB1 := hide (HB.out.trans (hb1.mono HB.out.size)); clear hb1)
        go_ret
        exact ⟨by rw [HM.out, e0]; rfl, HB1.out⟩
  · have e3 : (k == 3) = false := by simpa using k3
    have e3' : (k != 3) = true := by simpa using k3
    have HM : Hid (mapsM k l = decide (n = 0)) := hide (by unfold mapsM; rw [if_neg k3, hl])
    clear h hm hw hl
    by_cases n0 : n = 0
    · subst n0
      go_enter Try.func61, Try.ntmps61
      go_wp2
      go_ret
      exact ⟨by rw [HM.out]; rfl, below2 _ _ _⟩
    · have en : ((n : Int) == 0) = false := by simp; omega
      go_enter Try.func61, Try.ntmps61
      go_wp2
      go_ret
      exact ⟨by rw [HM.out]; simp [n0], below2 _ _ _⟩
end Go.Proofs.Ytedjmgiblkjonaa
