/-
  Arguments: are they the same?
-/
import Derived.Test.YtedjmgiblkjonaaB1
namespace Go.Proofs.Ytedjmgiblkjonaa
open Go.RowKit Go.Maps
set_option linter.unusedVariables false

/-- An argument. -/
structure ArgM where
  kind : Int
  lo : Int
  hi : Int
  maps : List Int
def ArgM.v (a : ArgM) (A : Option Addr) (c : Nat) : Value := .agg #[.int .u8 a.kind, .int .i64 a.lo, .int .i64 a.hi, .slice A a.maps.length c]
def ArgM.eq (a b : ArgM) : Bool := decide (a.kind = b.kind) && decide (a.lo = b.lo) && decide (a.hi = b.hi) && decide (a.maps = b.maps)
theorem ArgM.eq_iff (a b : ArgM) : a.eq b = true ↔ a = b := by
  cases a; cases b
  simp [ArgM.eq, and_assoc]
theorem ArgM.eq_refl (a : ArgM) : a.eq a = true := (ArgM.eq_iff a a).2 rfl
set_option maxRecDepth 100000 in
set_option maxHeartbeats 1000000 in
theorem sameArgK_any (a b : ArgM) (A A' : Option Addr) (c c' B : Nat) (w : World) (h : Rd w B 1 A a.maps.length (mks a.maps)) (h' : Rd w B 1 A' b.maps.length (mks b.maps)) (hB : B ≤ w.heap.size) (hn : a.maps.length ≤ 1000000) (hn' : b.maps.length ≤ 1000000) :
    Calls Try.prog 58 #[a.v A c, b.v A' c'] w fun e w' => e = .returned (.bool (a.eq b)) ∧ Below w.heap.size w w' := by
  obtain ⟨k, lo, hi, l⟩ := a
  obtain ⟨k', lo', hi', m⟩ := b
  have HE : Hid ((ArgM.mk k lo hi l).eq ⟨k', lo', hi', m⟩ = (decide (k = k') && decide (lo = lo') && decide (hi = hi') && decide (l = m))) := hide rfl
  simp only [ArgM.v] at h h' hn hn' ⊢
  have hC : Hid (∀ X : World, Below w.heap.size w X → Calls Try.prog 85 #[.slice A l.length c, .slice A' m.length c'] X fun e w' => e = .returned (.bool (decide (l = m))) ∧ Below X.heap.size X w') := hide (fun X hX =>
    sameMks_any A A' l.length m.length c c' B l m X (h.below (hX.mono hB)) (h'.below (hX.mono hB)) (Nat.le_trans hB hX.size) hn hn')
  generalize decide (l = m) = d at *
  generalize l.length = n at *
  generalize m.length = n' at *
  clear h h'
  obtain ⟨x1, x2⟩ := two_boxes w (.cells #[.int .u8 k, .int .i64 lo, .int .i64 hi, .slice A n c] 46) (.cells #[.int .u8 k', .int .i64 lo', .int .i64 hi', .slice A' n' c'] 46)
  have hb := below2 w (.cells #[.int .u8 k, .int .i64 lo, .int .i64 hi, .slice A n c] 46) (.cells #[.int .u8 k', .int .i64 lo', .int .i64 hi', .slice A' n' c'] 46)
  have HB := hide hb
  clear x1 x2 hb
  by_cases e1 : k = k'
  · subst e1
    by_cases e2 : lo = lo'
    · subst e2
      by_cases e3 : hi = hi'
      · subst e3
        go_enter Try.func58, Try.ntmps58
        go_wp2_with (go_at_call 85; (with_reducible refine (hC.out _ HB.out).mono ?_); rintro e w1 ⟨rfl, hb1⟩; have HB1 := hide hb1; clear hb1)
        go_ret
        exact ⟨by rw [HE.out]; simp, HB.out.trans (HB1.out.mono HB.out.size)⟩
      · have d1 : (hi == hi') = false := by simpa using e3
        go_enter Try.func58, Try.ntmps58
        go_wp2
        go_ret
        exact ⟨by rw [HE.out]; simp [e3], HB.out⟩
    · have d1 : (lo == lo') = false := by simpa using e2
      go_enter Try.func58, Try.ntmps58
      go_wp2
      go_ret
      exact ⟨by rw [HE.out]; simp [e2], HB.out⟩
  · have d1 : (k == k') = false := by simpa using e1
    go_enter Try.func58, Try.ntmps58
    go_wp2
    go_ret
    exact ⟨by rw [HE.out]; simp [e1], HB.out⟩
set_option maxRecDepth 100000 in
set_option maxHeartbeats 1000000 in
theorem sameArgP_any (a b : ArgM) (A A' : Option Addr) (c c' B : Nat) (w : World) (h : Rd w B 1 A a.maps.length (mks a.maps)) (h' : Rd w B 1 A' b.maps.length (mks b.maps)) (hB : B ≤ w.heap.size) (hn : a.maps.length ≤ 1000000) (hn' : b.maps.length ≤ 1000000) :
    Calls Try.prog 69 #[a.v A c, b.v A' c'] w fun e w' => e = .returned (.bool (a.eq b)) ∧ Below w.heap.size w w' := by
  obtain ⟨k, lo, hi, l⟩ := a
  obtain ⟨k', lo', hi', m⟩ := b
  have HE : Hid ((ArgM.mk k lo hi l).eq ⟨k', lo', hi', m⟩ = (decide (k = k') && decide (lo = lo') && decide (hi = hi') && decide (l = m))) := hide rfl
  simp only [ArgM.v] at h h' hn hn' ⊢
  have hC : Hid (∀ X : World, Below w.heap.size w X → Calls Try.prog 99 #[.slice A l.length c, .slice A' m.length c'] X fun e w' => e = .returned (.bool (decide (l = m))) ∧ Below X.heap.size X w') := hide (fun X hX =>
    equalMks_any A A' l.length m.length c c' B l m X (h.below (hX.mono hB)) (h'.below (hX.mono hB)) (Nat.le_trans hB hX.size) hn hn')
  generalize decide (l = m) = d at *
  generalize l.length = n at *
  generalize m.length = n' at *
  clear h h'
  obtain ⟨x1, x2⟩ := two_boxes w (.cells #[.int .u8 k, .int .i64 lo, .int .i64 hi, .slice A n c] 46) (.cells #[.int .u8 k', .int .i64 lo', .int .i64 hi', .slice A' n' c'] 46)
  have hb := below2 w (.cells #[.int .u8 k, .int .i64 lo, .int .i64 hi, .slice A n c] 46) (.cells #[.int .u8 k', .int .i64 lo', .int .i64 hi', .slice A' n' c'] 46)
  have HB := hide hb
  clear x1 x2 hb
  by_cases e1 : k = k'
  · subst e1
    by_cases e2 : lo = lo'
    · subst e2
      by_cases e3 : hi = hi'
      · subst e3
        go_enter Try.func69, Try.ntmps69
        go_wp2_with (go_at_call 99; (with_reducible refine (hC.out _ HB.out).mono ?_); rintro e w1 ⟨rfl, hb1⟩; have HB1 := hide hb1; clear hb1)
        go_ret
        exact ⟨by rw [HE.out]; simp, HB.out.trans (HB1.out.mono HB.out.size)⟩
      · have d1 : (hi == hi') = false := by simpa using e3
        go_enter Try.func69, Try.ntmps69
        go_wp2
        go_ret
        exact ⟨by rw [HE.out]; simp [e3], HB.out⟩
    · have d1 : (lo == lo') = false := by simpa using e2
      go_enter Try.func69, Try.ntmps69
      go_wp2
      go_ret
      exact ⟨by rw [HE.out]; simp [e2], HB.out⟩
  · have d1 : (k == k') = false := by simpa using e1
    go_enter Try.func69, Try.ntmps69
    go_wp2
    go_ret
    exact ⟨by rw [HE.out]; simp [e1], HB.out⟩
end Go.Proofs.Ytedjmgiblkjonaa
