/-
  Rows of arguments, compared by the library.
-/
import Derived.Test.YtedjmgiblkjonaaB3
namespace Go.Proofs.Ytedjmgiblkjonaa
open Go.RowKit Go.Maps
set_option linter.unusedVariables false

set_option maxRecDepth 100000 in
set_option maxHeartbeats 2000000 in
theorem equalFunc_any (A A' : Option Addr) (n n' c c' B : Nat) (l m : List ArgM) (w : World) (h : Args w B A n l) (h' : Args w B A' n' m) (hB : B ≤ w.heap.size) (hn : n ≤ 1000000) (hn' : n' ≤ 1000000) :
    Calls Try.prog 68 #[.slice A n c, .slice A' n' c', .func (.func 69) #[] #[]] w fun e w' => e = .returned (.bool (argsEq l m)) ∧ Below w.heap.size w w' := by
  have hl1 := h.1
  have hl2 := h'.1
  by_cases hnn : n = n'
  · subst hnn
    have HL1 := hide hl1
    have HL2 := hide hl2
    clear hl1 hl2
    go_enter Try.func68, Try.ntmps68
    go_wp2
    go_loopw [17] (fun p wr => ∃ k : Nat, k ≤ n ∧ p = .int .i64 k ∧ Below w.heap.size w wr ∧ l.take k = m.take k) (fun p _ => n - (intOf p).toNat)
    case atStart => exact ⟨0, Nat.zero_le _, rfl, Below.refl _ _, by simp⟩
    case round =>
      obtain ⟨k, hk, rfl, hb, htk⟩ := hrel
      have HT := hide htk
      clear htk
      by_cases hlt : k < n
      · obtain ⟨ad, a, rfl, hab, hl, hc⟩ := (h.below (hb.mono hB)).at_ hlt
        obtain ⟨ad', a', rfl, hab', hl', hc'⟩ := (h'.below (hb.mono hB)).at_ hlt
        have HB := hide hb
        have HL := hide hl
        have HL' := hide hl'
        clear hb h h' hl hl'
        obtain ⟨Am, cm, q0, q1, q2, q3, q4, q5⟩ := hc
        obtain ⟨Am', cm', q0', q1', q2', q3', q4', q5'⟩ := hc'
        have hBr : B ≤ wr.heap.size := Nat.le_trans hB HB.out.size
        have hC : Hid (∀ X : World, Below wr.heap.size wr X → Calls Try.prog 69 #[a.v Am cm, a'.v Am' cm'] X fun e w' => e = .returned (.bool (a.eq a')) ∧ Below X.heap.size X w') := hide (fun X hX =>
          sameArgP_any a a' Am Am' cm cm' B X (q4.below (hX.mono hBr)) (q4'.below (hX.mono hBr)) (Nat.le_trans hBr hX.size) q5.1 q5'.1)
        have hbx := below1 wr (.cells #[.int .u8 a.kind, .int .i64 a.lo, .int .i64 a.hi, .slice Am a.maps.length cm] 46)
        have k0 := (hbx.cell (p := ad'.add (k * 4)) (by rw [block_add]; omega)).trans q0'
        have k1 := (hbx.cell (p := { block := (ad'.add (k * 4)).block, off := (ad'.add (k * 4)).off + 1 }) (by rw [block_add]; omega)).trans q1'
        have k2 := (hbx.cell (p := { block := (ad'.add (k * 4)).block, off := (ad'.add (k * 4)).off + 2 }) (by rw [block_add]; omega)).trans q2'
        have k3 := (hbx.cell (p := { block := (ad'.add (k * 4)).block, off := (ad'.add (k * 4)).off + 3 }) (by rw [block_add]; omega)).trans q3'
        have HBX := hide (below2 wr (.cells #[.int .u8 a.kind, .int .i64 a.lo, .int .i64 a.hi, .slice Am a.maps.length cm] 46) (.cells #[.int .u8 a'.kind, .int .i64 a'.lo, .int .i64 a'.hi, .slice Am' a'.maps.length cm'] 46))
        clear hbx q0' q1' q2' q3'
        simp only [ArgM.v] at hC
        cases hd : a.eq a'
        · rw [hd] at hC
          have HN : Hid (argsEq l m = false) := hide (argsEq_no (by
            rintro rfl
            have := HL.out.symm.trans HL'.out
            injection this with this
            subst this
            rw [a.eq_refl] at hd; cases hd))
          clear hd
          generalize a.maps.length = z1 at *
          generalize a'.maps.length = z2 at *
          go_wp2_with (go_at_call 69; (with_reducible refine (hC.out _ HBX.out).mono ?_); rintro e w1 ⟨rfl, hb1⟩; have HX := hide (HBX.out.trans (hb1.mono HBX.out.size)); clear hb1)
          go_ret
          exact ⟨by rw [HN.out]; rfl, HB.out.trans (HX.out.mono HB.out.size)⟩
        · rw [hd] at hC
          have HA : Hid (l[k]? = some a ∧ m[k]? = some a) := hide ⟨HL.out, by rw [HL'.out, ((ArgM.eq_iff a a').1 hd)]⟩
          clear hd
          generalize a.maps.length = z1 at *
          generalize a'.maps.length = z2 at *
          go_wp2_with (go_at_call 69; (with_reducible refine (hC.out _ HBX.out).mono ?_); rintro e w1 ⟨rfl, hb1⟩; have HX := hide (HBX.out.trans (hb1.mono HBX.out.size)); clear hb1)
          go_roundw
          case rel => exact ⟨k + 1, by omega, by go_num, HB.out.trans (HX.out.mono HB.out.size), take_more HT.out HA.out.1 HA.out.2⟩
          case measure => simp [intOf]; omega
      · have HB := hide hb
        have HN : Hid (argsEq l m = true) := hide (by
          rw [argsEq_iff]
          exact take_all HT.out (by rw [HL1.out]; omega) (by rw [HL2.out]; omega))
        clear hb h h'
        go_wp2
        go_ret
        exact ⟨by rw [HN.out]; rfl, HB.out⟩
  · have HN : Hid (argsEq l m = false) := hide (argsEq_no (by
      rintro rfl
      exact hnn (hl1.symm.trans hl2)))
    have hd : ((n : Int) == (n' : Int)) = false := by simp; omega
    have hd2 : ((n : Int) != (n' : Int)) = true := by simp; omega
    clear h h' hl1 hl2
    go_enter Try.func68, Try.ntmps68
    go_wp2
    go_ret
    exact ⟨by rw [HN.out]; rfl, Below.refl _ _⟩
end Go.Proofs.Ytedjmgiblkjonaa
