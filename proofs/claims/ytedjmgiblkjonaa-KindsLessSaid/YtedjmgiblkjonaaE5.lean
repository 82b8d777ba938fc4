/-
  The maps among some arguments; memory and its size.
-/
import Derived.Test.YtedjmgiblkjonaaE4
namespace Go.Proofs.Ytedjmgiblkjonaa
open Go.RowKit Go.Maps
set_option linter.unusedVariables false

def mapsV (l : List ArgX) : Value := match l.find? (fun x => x.a.kind == 3) with
  | some x => .slice x.A x.a.maps.length x.c
  | none => .slice none 0 0
theorem find_take_none {α : Type} (f : α → Bool) (l : List α) (k : Nat) (x : α) (h : l[k]? = some x) (hp : (l.take k).find? f = none) (hx : f x = false) : (l.take (k + 1)).find? f = none := by
  obtain ⟨h1, h2⟩ := List.getElem?_eq_some_iff.1 h
  rw [List.take_succ_eq_append_getElem h1, List.find?_append, hp, h2]
  simp [hx]
theorem find_take_some {α : Type} (f : α → Bool) (l : List α) (k : Nat) (x : α) (h : l[k]? = some x) (hp : (l.take k).find? f = none) (hx : f x = true) : l.find? f = some x := by
  obtain ⟨h1, h2⟩ := List.getElem?_eq_some_iff.1 h
  have : l = l.take k ++ (x :: l.drop (k + 1)) := by
    conv => lhs; rw [← List.take_append_drop k l]
    rw [List.drop_eq_getElem_cons h1, h2]
  rw [this, List.find?_append, hp]
  simp [hx]
set_option maxRecDepth 100000 in
set_option maxHeartbeats 1000000 in
theorem mapsOf_any (A : Option Addr) (n c B : Nat) (l : List ArgX) (w : World) (h : Rd w B 4 A n (xcells l)) (hB : B ≤ w.heap.size) (hn : n ≤ 1000000) :
    Calls Try.prog 64 #[.slice A n c] w fun e w' => e = .returned (mapsV l) ∧ Below w.heap.size w w' := by
  have hl := hide h.xcells_len
  go_enter Try.func64, Try.ntmps64
  go_wp2
  go_loopw [7] (fun p wr => ∃ k : Nat, k ≤ n ∧ p = .int .i64 k ∧ Below w.heap.size w wr ∧ (l.take k).find? (fun x => x.a.kind == 3) = none) (fun p _ => n - (intOf p).toNat)
  case atStart => exact ⟨0, Nat.zero_le _, rfl, Below.refl _ _, by simp⟩
  case round =>
    obtain ⟨k, hk, rfl, hb, htk⟩ := hrel
    have HT := hide htk
    clear htk
    by_cases hlt : k < n
    · obtain ⟨ad, ⟨⟨kd, lo, hi, mp⟩, Am, cm⟩, rfl, hab, hx, c0, c1, c2, c3⟩ := (h.below (hb.mono hB)).argx hlt
      have HB := hide hb
      have HX := hide hx
      simp only at c0 c1 c2 c3
      clear hb h hx
      by_cases k3 : kd = 3
      · subst k3
        have HM : Hid (mapsV l = .slice Am mp.length cm) := hide (by unfold mapsV; rw [find_take_some _ l k _ HX.out HT.out rfl])
        go_wp2
        go_ret
        exact ⟨by rw [HM.out]; rfl, HB.out.trans ((below1 _ _).mono HB.out.size)⟩
      · have e3 : (kd == 3) = false := by simpa using k3
        have HM := hide (find_take_none (fun x => x.a.kind == 3) l k _ HX.out HT.out e3)
        go_wp2
        go_roundw
        case rel => exact ⟨k + 1, by omega, by go_num, HB.out.trans ((below1 _ _).mono HB.out.size), HM.out⟩
        case measure => simp [intOf]; omega
    · have HB := hide hb
      have HM : Hid (mapsV l = .slice none 0 0) := hide (by
        unfold mapsV
        have := HT.out
        rw [List.take_of_length_le (by rw [hl.out]; omega)] at this
        rw [this])
      clear hb h
      go_wp2
      go_ret
      exact ⟨by rw [HM.out]; rfl, HB.out⟩
def pairedM (la : List ArgX) (k : Int) (lb : List ArgX) : Bool :=
  if k = 7 ∨ k = 8 then (match lb[0]? with | some x => x.a.kind == 9 | none => false) else if k = 9 then (match la[la.length - 1]? with | some x => inI 7 8 x.a.kind | none => false) else true
set_option maxRecDepth 100000 in
set_option maxHeartbeats 1000000 in
theorem paired_any (k lo hi : Int) (Am Aa Ab : Option Addr) (na ca nb cb nm cm B : Nat) (la lb : List ArgX) (w : World) (ha : Rd w B 4 Aa na (xcells la)) (hbb : Rd w B 4 Ab nb (xcells lb)) (hB : B ≤ w.heap.size) (hna : na ≤ 1000000) (hnb : nb ≤ 1000000) :
    Calls Try.prog 62 #[.slice Aa na ca, .agg #[.int .u8 k, .int .i64 lo, .int .i64 hi, .slice Am nm cm], .slice Ab nb cb] w fun e w' => e = .returned (.bool (pairedM la k lb)) ∧ Below w.heap.size w w' := by
  have hF := hide (fun w => from_ak 7 8 w)
  have hH := hide (fun k w => has_ak 7 8 k w)
  have hla := ha.xcells_len
  have hlb := hbb.xcells_len
  have hz := below1 w (.cells #[.int .u8 k, .int .i64 lo, .int .i64 hi, .slice Am nm cm] 46)
  have HZ := hide hz
  by_cases k78 : k = 7 ∨ k = 8
  · have HM : Hid (pairedM la k lb = (match lb[0]? with | some x => x.a.kind == 9 | none => false)) := hide (by unfold pairedM; rw [if_pos k78])
    rcases Nat.eq_zero_or_pos nb with n0 | n0
    · subst n0
      have HM2 : Hid (pairedM la k lb = false) := hide (by rw [HM.out, List.eq_nil_of_length_eq_zero hlb]; rfl)
      clear ha hbb hla hlb hz HM
      rcases k78 with rfl | rfl
      all_goals
        go_enter Try.func62, Try.ntmps62
        go_wp2
        go_ret
        exact ⟨by rw [HM2.out]; rfl, HZ.out⟩
    · obtain ⟨ad, ⟨⟨kd, lo', hi', mp⟩, Am', cm'⟩, rfl, hab, hx, c0, c1, c2, c3⟩ := (hbb.below (hz.mono hB)).argx n0
      have HM2 : Hid (pairedM la k lb = (kd == 9)) := hide (by rw [HM.out, hx])
      simp only [Nat.zero_mul] at c0
      have ea : ad.add 0 = ad := by unfold Addr.add; simp
      have c0' := c0
      rw [ea] at c0'
      clear ea
      clear ha hbb hla hlb hz HM hx c1 c2 c3
      have hd : decide (0 < (nb : Int)) = true := by simp; omega
      rcases k78 with rfl | rfl
      all_goals
        go_enter Try.func62, Try.ntmps62
        go_wp2
        go_ret
        exact ⟨by rw [HM2.out]; rfl, HZ.out⟩
  · have HM : Hid (pairedM la k lb = if k = 9 then (match la[la.length - 1]? with | some x => inI 7 8 x.a.kind | none => false) else true) := hide (by unfold pairedM; rw [if_neg k78])
    have e7 : (k == 7) = false := by simp; omega
    have e8 : (k == 8) = false := by simp; omega
    by_cases k9 : k = 9
    · subst k9
      clear k78 e7 e8
      rcases Nat.eq_zero_or_pos na with n0 | n0
      · subst n0
        have HM2 : Hid (pairedM la 9 lb = false) := hide (by rw [HM.out, if_pos rfl, List.eq_nil_of_length_eq_zero hla]; rfl)
        clear ha hbb hla hlb hz HM
        go_enter Try.func62, Try.ntmps62
        go_wp2
        refine wp_region_later (by kernel_rfl) (by kernel_rfl) ?_
        repeat (go_big_quiet_step ((first | exact Later.calls _ hF.out)))
        refine wpQuiet_nil ?_
        rintro _ ⟨x, rfl⟩
        have HX := hide (below1c x.below)
        go_wp2
        go_ret
        exact ⟨by rw [HM2.out]; rfl, HX.out⟩
      · obtain ⟨j, rfl⟩ : ∃ j, na = j + 1 := ⟨na - 1, by omega⟩
        obtain ⟨ad, ⟨⟨kd, lo', hi', mp⟩, Am', cm'⟩, rfl, hab, hx, c0, c1, c2, c3⟩ := (ha.below (hz.mono hB)).argx (k := j) (by omega)
        have HM2 : Hid (pairedM la 9 lb = inI 7 8 kd) := hide (by rw [HM.out, if_pos rfl, hla, show j + 1 - 1 = j by omega, hx])
        simp only at c0
        have hq := Later.cell c0
        clear ha hbb hla hlb hz HM hx c0 c1 c2 c3
        go_enter Try.func62, Try.ntmps62
        go_wp2
        refine wp_region_later (by kernel_rfl) (by kernel_rfl) ?_
        repeat (go_big_quiet_step ((first | exact Later.calls _ hF.out | exact Later.calls _ (hH.out kd))))
        refine wpQuiet_nil ?_
        rintro _ ⟨x, rfl⟩
        have HX := hide (below1c x.below)
        clear hq
        go_wp2
        go_ret
        exact ⟨by rw [HM2.out]; rfl, HX.out⟩
    · have e9 : (k == 9) = false := by simpa using k9
      have HM2 : Hid (pairedM la k lb = true) := hide (by rw [HM.out, if_neg k9])
      clear ha hbb hla hlb hz HM
      go_enter Try.func62, Try.ntmps62
      go_wp2
      go_ret
      exact ⟨by rw [HM2.out]; rfl, HZ.out⟩
end Go.Proofs.Ytedjmgiblkjonaa
