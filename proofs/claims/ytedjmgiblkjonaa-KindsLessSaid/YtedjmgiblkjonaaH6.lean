/-
  Which type, which helper is above another one.
-/
import Derived.Test.YtedjmgiblkjonaaH5
import Derived.Test.YtedjmgiblkjonaaHH
import Derived.Deep.RegionHeld3
namespace Go.Proofs.Ytedjmgiblkjonaa
open Go.RowKit Go.Maps
set_option linter.unusedVariables false

def typeAbv (q x : TypeX) : Bool := Op.bytesLess q.name.toList x.name.toList
set_option maxRecDepth 100000 in
theorem typeAbv_any (q x : TypeX) (w : World) : Calls Try.prog 45 #[.agg #[.string q.name, .int .i64 q.ctx, .slice q.F q.fl.length q.fc, .slice q.N q.nl.length q.nc, .int .i64 q.lo, .int .i64 q.hi], .agg #[.string x.name, .int .i64 x.ctx, .slice x.F x.fl.length x.fc, .slice x.N x.nl.length x.nc, .int .i64 x.lo, .int .i64 x.hi]] w fun e w' => e = .returned (.bool (typeAbv q x)) ∧ Below w.heap.size w w' := by
  obtain ⟨n1, c1, F1, fc1, fl1, N1, nc1, nl1, lo1, hi1⟩ := q
  obtain ⟨n2, c2, F2, fc2, fl2, N2, nc2, nl2, lo2, hi2⟩ := x
  have HR : Hid (typeAbv ⟨n1, c1, F1, fc1, fl1, N1, nc1, nl1, lo1, hi1⟩ ⟨n2, c2, F2, fc2, fl2, N2, nc2, nl2, lo2, hi2⟩ = Op.bytesLess n1.toList n2.toList) := hide rfl
  simp only at HR ⊢
  generalize typeAbv ⟨n1, c1, F1, fc1, fl1, N1, nc1, nl1, lo1, hi1⟩ ⟨n2, c2, F2, fc2, fl2, N2, nc2, nl2, lo2, hi2⟩ = rb at *
  generalize fl1.length = a1
  generalize fl2.length = a2
  generalize nl1.length = a3
  generalize nl2.length = a4
  go_enter Try.func45, Try.ntmps45
  go_wp2
  go_ret
  exact ⟨by rw [HR.out]; rfl, below2 _ _ _⟩
def cmpM (a b : Int) : Int := if a < b then -1 else if b < a then 1 else 0
set_option maxRecDepth 100000 in
theorem nan_any (a : Int) (w : World) : Calls Try.prog 103 #[.int .i64 a] w fun e w' => e = .returned (.bool false) ∧ w = w' := by
  go_enter Try.func103, Try.ntmps103
  go_wp2
  go_ret
  exact ⟨by simp, rfl⟩
set_option maxRecDepth 100000 in
set_option maxHeartbeats 1000000 in
theorem cmp_any (a b : Int) (w : World) : Calls Try.prog 77 #[.int .i64 a, .int .i64 b] w fun e w' => e = .returned (.int .i64 (cmpM a b)) ∧ w = w' := by
  have HR : Hid (cmpM a b = if a < b then -1 else if b < a then 1 else 0) := hide rfl
  generalize cmpM a b = r at *
  have hn := hide (fun a w => nan_any a w)
  by_cases h1 : a < b
  · have HR2 : Hid (r = -1) := hide (by rw [HR.out, if_pos h1])
    clear HR
    go_enter Try.func77, Try.ntmps77
    go_wp2_with (go_at_call 103; ((with_reducible refine (hn.out _ _).mono ?_)); rintro e w1 ⟨rfl, rfl⟩)
    go_ret
    exact ⟨by rw [HR2.out]; rfl, rfl⟩
  · by_cases h2 : b < a
    · have HR2 : Hid (r = 1) := hide (by rw [HR.out, if_neg h1, if_pos h2])
      clear HR
      go_enter Try.func77, Try.ntmps77
      go_wp2_with (go_at_call 103; ((with_reducible refine (hn.out _ _).mono ?_)); rintro e w1 ⟨rfl, rfl⟩)
      go_ret
      exact ⟨by rw [HR2.out]; rfl, rfl⟩
    · have HR2 : Hid (r = 0) := hide (by rw [HR.out, if_neg h1, if_neg h2])
      clear HR
      go_enter Try.func77, Try.ntmps77
      go_wp2_with (go_at_call 103; ((with_reducible refine (hn.out _ _).mono ?_)); rintro e w1 ⟨rfl, rfl⟩)
      go_ret
      exact ⟨by rw [HR2.out]; rfl, rfl⟩
def orM (l : List Int) : Int := (l.find? (fun x => x != 0)).getD 0
def i64s (l : List Int) : List Value := l.map (.int .i64)
theorem Rd.i64 {w : World} {B n k : Nat} {A : Option Addr} {l : List Int} (h : Rd w B 1 A n (i64s l)) (hk : k < n) : ∃ ad b, A = some ad ∧ l[k]? = some b ∧ w.cell? (ad.add k) = some (.int .i64 b) := by
  obtain ⟨ad, e, hb, hc⟩ := h.2 (by omega)
  have hl : l.length = n := by have := h.1; simp [i64s] at this; omega
  exact ⟨ad, l[k], e, List.getElem?_eq_getElem (by omega), hc k _ (by simp [i64s, List.getElem?_eq_getElem (show k < l.length by omega)])⟩
set_option maxRecDepth 100000 in
set_option maxHeartbeats 1000000 in
theorem or_any (A : Option Addr) (n c B : Nat) (l : List Int) (w : World) (h : Rd w B 1 A n (i64s l)) (hn : n ≤ 1000000) :
    Calls Try.prog 76 #[.slice A n c] w fun e w' => e = .returned (.int .i64 (orM l)) ∧ w = w' := by
  have hl : Hid (l.length = n) := hide (by have := h.1; simp [i64s] at this; omega)
  go_enter Try.func76, Try.ntmps76
  go_wp2
  go_loop [8] (fun p => ∃ k : Nat, k ≤ n ∧ p = .int .i64 k ∧ (l.take k).find? (fun x => x != 0) = none) (fun p => n - (intOf p).toNat)
  case atStart => exact ⟨0, Nat.zero_le _, rfl, by simp⟩
  case round =>
    obtain ⟨k, hk, rfl, htk⟩ := hrel
    have HT := hide htk
    clear htk
    by_cases hlt : k < n
    · obtain ⟨ad, b, rfl, hx, hc⟩ := h.i64 hlt
      have HX := hide hx
      clear h hx
      by_cases hb : b = 0
      · subst hb
        have HM := hide (find_take_none (fun x : Int => x != 0) l k 0 HX.out HT.out rfl)
        go_wp2
        go_round
        case rel => exact ⟨k + 1, by omega, by go_num, HM.out⟩
        case measure => simp [intOf]; omega
      · have hb2 : (b == 0) = false := by simpa using hb
        have hb3 : (b != 0) = true := by simpa using hb
        have HM : Hid (orM l = b) := hide (by unfold orM; rw [find_take_some (fun x : Int => x != 0) l k b HX.out HT.out hb3]; rfl)
        go_wp2
        go_ret
        exact ⟨by rw [HM.out]; rfl, rfl⟩
    · have HM : Hid (orM l = 0) := hide (by
        unfold orM
        have := HT.out
        rw [List.take_of_length_le (by rw [hl.out]; omega)] at this
        rw [this]; rfl)
      clear h
      go_wp2
      go_ret
      exact ⟨by rw [HM.out]; rfl, rfl⟩
end Go.Proofs.Ytedjmgiblkjonaa
