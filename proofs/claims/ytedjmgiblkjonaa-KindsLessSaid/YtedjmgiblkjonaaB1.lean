/-
  Rows of kinds of maps: are they the same?
-/
import Derived.Test.YtedjmgiblkjonaaA5
import Derived.BigQuiet
namespace Go.Proofs.Ytedjmgiblkjonaa
open Go.RowKit Go.Maps
set_option linter.unusedVariables false

def mks (l : List Int) : List Value := l.map (.int .u8)
theorem Rd.mk {w : World} {B n k : Nat} {A : Option Addr} {l : List Int} (h : Rd w B 1 A n (mks l)) (hk : k < n) : ∃ ad b, A = some ad ∧ l[k]? = some b ∧ w.cell? (ad.add k) = some (.int .u8 b) := by
  obtain ⟨ad, e, _, hc⟩ := h.2 (by omega)
  have hl : k < l.length := by have := h.1; simp [mks] at this; omega
  exact ⟨ad, l[k], e, List.getElem?_eq_getElem hl, hc k _ (by simp [mks, List.getElem?_eq_getElem hl])⟩
theorem Rd.mks_len {w : World} {B n : Nat} {A : Option Addr} {l : List Int} (h : Rd w B 1 A n (mks l)) : l.length = n := by have := h.1; simp [mks] at this; omega
theorem take_more {α : Type} {l m : List α} {k : Nat} {x : α} (h : l.take k = m.take k) (hl : l[k]? = some x) (hm : m[k]? = some x) : l.take (k + 1) = m.take (k + 1) := by
  obtain ⟨h1, h2⟩ := List.getElem?_eq_some_iff.1 hl
  obtain ⟨h3, h4⟩ := List.getElem?_eq_some_iff.1 hm
  rw [List.take_succ_eq_append_getElem h1, List.take_succ_eq_append_getElem h3, h, h2, h4]
theorem take_all {α : Type} {l m : List α} {k : Nat} (h : l.take k = m.take k) (hl : l.length ≤ k) (hm : m.length ≤ k) : l = m := by rwa [List.take_of_length_le hl, List.take_of_length_le hm] at h
set_option maxRecDepth 100000 in
set_option maxHeartbeats 1000000 in
theorem sameMks_any (A A' : Option Addr) (n n' c c' B : Nat) (l m : List Int) (w : World) (h : Rd w B 1 A n (mks l)) (h' : Rd w B 1 A' n' (mks m)) (hB : B ≤ w.heap.size) (hn : n ≤ 1000000) (hn' : n' ≤ 1000000) :
    Calls Try.prog 85 #[.slice A n c, .slice A' n' c'] w fun e w' => e = .returned (.bool (decide (l = m))) ∧ Below w.heap.size w w' := by
  have hl1 := h.mks_len
  have hl2 := h'.mks_len
  by_cases hnn : n = n'
  · subst hnn
    have HL1 := hide hl1
    have HL2 := hide hl2
    clear hl1 hl2
    go_enter Try.func85, Try.ntmps85
    go_wp2
    go_loopw [5] (fun p wr => ∃ k : Nat, k ≤ n ∧ p = .int .i64 k ∧ Below w.heap.size w wr ∧ l.take k = m.take k) (fun p _ => n - (intOf p).toNat)
    case atStart => exact ⟨0, Nat.zero_le _, rfl, Below.refl _ _, by simp⟩
    case round =>
      obtain ⟨k, hk, rfl, hb, htk⟩ := hrel
      have HT := hide htk
      clear htk
      by_cases hlt : k < n
      · obtain ⟨ad, b, rfl, hl, hc⟩ := (h.below (hb.mono hB)).mk hlt
        obtain ⟨ad', b', rfl, hl', hc'⟩ := (h'.below (hb.mono hB)).mk hlt
        have HB := hide hb
        have HL := hide hl
        have HL' := hide hl'
        clear hb h h' hl hl'
        by_cases hbb : b = b'
        · subst hbb
          go_wp2
          go_region
          go_wp2
          go_roundw
          case rel => exact ⟨k + 1, by omega, by go_num, HB.out.drew, take_more HT.out HL.out HL'.out⟩
          case measure => simp [intOf]; omega
        · have HN : Hid (decide (l = m) = false) := hide (by
            rw [decide_eq_false_iff_not]
            rintro rfl
            have := HL.out.symm.trans HL'.out
            exact hbb (by injection this))
          go_wp2
          go_region
          go_wp2
          go_ret
          exact ⟨by rw [HN.out]; rfl, HB.out.drew⟩
      · have HB := hide hb
        have HN : Hid (decide (l = m) = true) := hide (by
          rw [decide_eq_true_iff]
          exact take_all HT.out (by rw [HL1.out]; omega) (by rw [HL2.out]; omega))
        clear hb h h'
        go_wp2
        go_ret
        exact ⟨by rw [HN.out]; rfl, HB.out⟩
  · have HN : Hid (decide (l = m) = false) := hide (by
      rw [decide_eq_false_iff_not]
      rintro rfl
      exact hnn (hl1.symm.trans hl2))
    have hd : ((n : Int) == (n' : Int)) = false := by simp; omega
    have hd2 : ((n : Int) != (n' : Int)) = true := by simp; omega
    clear h h' hl1 hl2
    go_enter Try.func85, Try.ntmps85
    go_wp2
    go_ret
    exact ⟨by rw [HN.out]; rfl, Below.refl _ _⟩
set_option maxRecDepth 100000 in
set_option maxHeartbeats 1000000 in
theorem equalMks_any (A A' : Option Addr) (n n' c c' B : Nat) (l m : List Int) (w : World) (h : Rd w B 1 A n (mks l)) (h' : Rd w B 1 A' n' (mks m)) (hB : B ≤ w.heap.size) (hn : n ≤ 1000000) (hn' : n' ≤ 1000000) :
    Calls Try.prog 99 #[.slice A n c, .slice A' n' c'] w fun e w' => e = .returned (.bool (decide (l = m))) ∧ Below w.heap.size w w' := by
  have hl1 := h.mks_len
  have hl2 := h'.mks_len
  by_cases hnn : n = n'
  · subst hnn
    have HL1 := hide hl1
    have HL2 := hide hl2
    clear hl1 hl2
    go_enter Try.func99, Try.ntmps99
    go_wp2
    go_loopw [13] (fun p wr => ∃ k : Nat, k ≤ n ∧ p = .int .i64 k ∧ Below w.heap.size w wr ∧ l.take k = m.take k) (fun p _ => n - (intOf p).toNat)
    case atStart => exact ⟨0, Nat.zero_le _, rfl, Below.refl _ _, by simp⟩
    case round =>
      obtain ⟨k, hk, rfl, hb, htk⟩ := hrel
      have HT := hide htk
      clear htk
      by_cases hlt : k < n
      · obtain ⟨ad, b, rfl, hl, hc⟩ := (h.below (hb.mono hB)).mk hlt
        obtain ⟨ad', b', rfl, hl', hc'⟩ := (h'.below (hb.mono hB)).mk hlt
        have HB := hide hb
        have HL := hide hl
        have HL' := hide hl'
        clear hb h h' hl hl'
        by_cases hbb : b = b'
        · subst hbb
          go_wp2
          go_region
          go_wp2
          go_roundw
          case rel => exact ⟨k + 1, by omega, by go_num, HB.out.drew, take_more HT.out HL.out HL'.out⟩
          case measure => simp [intOf]; omega
        · have HN : Hid (decide (l = m) = false) := hide (by
            rw [decide_eq_false_iff_not]
            rintro rfl
            have := HL.out.symm.trans HL'.out
            exact hbb (by injection this))
          go_wp2
          go_region
          go_wp2
          go_ret
          exact ⟨by rw [HN.out]; rfl, HB.out.drew⟩
      · have HB := hide hb
        have HN : Hid (decide (l = m) = true) := hide (by
          rw [decide_eq_true_iff]
          exact take_all HT.out (by rw [HL1.out]; omega) (by rw [HL2.out]; omega))
        clear hb h h'
        go_wp2
        go_ret
        exact ⟨by rw [HN.out]; rfl, HB.out⟩
  · have HN : Hid (decide (l = m) = false) := hide (by
      rw [decide_eq_false_iff_not]
      rintro rfl
      exact hnn (hl1.symm.trans hl2))
    have hd : ((n : Int) == (n' : Int)) = false := by simp; omega
    have hd2 : ((n : Int) != (n' : Int)) = true := by simp; omega
    clear h h' hl1 hl2
    go_enter Try.func99, Try.ntmps99
    go_wp2
    go_ret
    exact ⟨by rw [HN.out]; rfl, Below.refl _ _⟩
end Go.Proofs.Ytedjmgiblkjonaa
