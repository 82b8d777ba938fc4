/-
  Does something hold of each kind of some?
-/
import Derived.Test.YtedjmgiblkjonaaE3
namespace Go.Proofs.Ytedjmgiblkjonaa
open Go.RowKit Go.Maps
set_option linter.unusedVariables false

theorem all_take2 (f : Int → Bool) (l : List Int) (k : Nat) (b : Int) (h : l[k]? = some b) (hp : (l.take k).all f = true) (hb : f b = true) : (l.take (k + 1)).all f = true := by
  obtain ⟨h1, h2⟩ := List.getElem?_eq_some_iff.1 h
  rw [List.take_succ_eq_append_getElem h1, List.all_append, hp, h2]
  simp [hb]
set_option maxRecDepth 100000 in
set_option maxHeartbeats 1000000 in
theorem every94_any (f : Int → Bool) (bo : Nat) (A : Option Addr) (n c B : Nat) (l : List Int) (w : World) (h : Rd w B 1 A n (mks l)) (hB : B ≤ w.heap.size) (hn : n ≤ 1000000)
    (hF : ∀ x ∈ l, ∀ X : World, Below w.heap.size w X → Calls Try.prog 94 #[.int .u8 x, .pointer (some ⟨bo, 0, none⟩)] X fun e w' => e = .returned (.bool (f x)) ∧ Below X.heap.size X w') :
    Calls Try.prog 65 #[.slice A n c, .func (.func 94) #[] #[.pointer (some ⟨bo, 0, none⟩)]] w fun e w' => e = .returned (.bool (everyM f l)) ∧ Below w.heap.size w w' := by
  have hl := hide h.mks_len
  have HF := hide hF
  clear hF
  go_enter Try.func65, Try.ntmps65
  go_wp2
  go_loopw [9] (fun p wr => ∃ k : Nat, k ≤ n ∧ p = .int .i64 k ∧ Below w.heap.size w wr ∧ (l.take k).all f = true) (fun p _ => n - (intOf p).toNat)
  case atStart => exact ⟨0, Nat.zero_le _, rfl, Below.refl _ _, by simp⟩
  case round =>
    obtain ⟨k, hk, rfl, hb, htk⟩ := hrel
    have HT := hide htk
    clear htk
    by_cases hlt : k < n
    · obtain ⟨ad, b, rfl, hx, hc⟩ := (h.below (hb.mono hB)).mk hlt
      have hC := hide (HF.out b (List.mem_of_getElem? hx) wr hb)
      have HB := hide hb
      have HX := hide hx
      clear hb h hx
      cases hfb : f b
      · rw [hfb] at hC
        have HM : Hid (everyM f l = false) := hide (by
          unfold everyM
          have : l.all f = false := List.all_eq_false.2 ⟨b, List.mem_of_getElem? HX.out, by rw [hfb]; decide⟩
          rw [this]; rfl)
        clear hfb
        go_wp2_with (go_at_call 94; ((with_reducible refine hC.out.mono ?_)); rintro e w1 ⟨rfl, hb1⟩; have HB1 := hide (HB.out.trans (hb1.mono HB.out.size)); clear hb1)
        go_ret
        exact ⟨by rw [HM.out]; rfl, HB1.out⟩
      · rw [hfb] at hC
        have HM := hide (all_take2 f l k b HX.out HT.out hfb)
        clear hfb
        go_wp2_with (go_at_call 94; ((with_reducible refine hC.out.mono ?_)); rintro e w1 ⟨rfl, hb1⟩; have HB1 := hide (HB.out.trans (hb1.mono HB.out.size)); clear hb1)
        go_roundw
        case rel => exact ⟨k + 1, by omega, by go_num, HB1.out, HM.out⟩
        case measure => simp [intOf]; omega
    · have HB := hide hb
      have HM : Hid (everyM f l = decide (0 < n)) := hide (by
        unfold everyM
        have := HT.out
        rw [List.take_of_length_le (by rw [hl.out]; omega)] at this
        rw [this, hl.out]; rfl)
      clear hb h
      by_cases n0 : n = 0
      · subst n0
        go_wp2
        go_ret
        exact ⟨by rw [HM.out]; rfl, HB.out⟩
      · have hd : decide (0 < (n : Int)) = true := by simp; omega
        have hd' : decide (0 < n) = true := by simp; omega
        rw [hd'] at HM
        go_wp2
        go_ret
        exact ⟨by rw [HM.out]; rfl, HB.out⟩
set_option maxRecDepth 100000 in
set_option maxHeartbeats 1000000 in
theorem every96_any (f : Int → Bool) (bo : Nat) (A : Option Addr) (n c B : Nat) (l : List Int) (w : World) (h : Rd w B 1 A n (mks l)) (hB : B ≤ w.heap.size) (hn : n ≤ 1000000)
    (hF : ∀ x ∈ l, ∀ X : World, Below w.heap.size w X → Calls Try.prog 96 #[.int .u8 x, .pointer (some ⟨bo, 0, none⟩)] X fun e w' => e = .returned (.bool (f x)) ∧ Below X.heap.size X w') :
    Calls Try.prog 65 #[.slice A n c, .func (.func 96) #[] #[.pointer (some ⟨bo, 0, none⟩)]] w fun e w' => e = .returned (.bool (everyM f l)) ∧ Below w.heap.size w w' := by
  have hl := hide h.mks_len
  have HF := hide hF
  clear hF
  go_enter Try.func65, Try.ntmps65
  go_wp2
  go_loopw [9] (fun p wr => ∃ k : Nat, k ≤ n ∧ p = .int .i64 k ∧ Below w.heap.size w wr ∧ (l.take k).all f = true) (fun p _ => n - (intOf p).toNat)
  case atStart => exact ⟨0, Nat.zero_le _, rfl, Below.refl _ _, by simp⟩
  case round =>
    obtain ⟨k, hk, rfl, hb, htk⟩ := hrel
    have HT := hide htk
    clear htk
    by_cases hlt : k < n
    · obtain ⟨ad, b, rfl, hx, hc⟩ := (h.below (hb.mono hB)).mk hlt
      have hC := hide (HF.out b (List.mem_of_getElem? hx) wr hb)
      have HB := hide hb
      have HX := hide hx
      clear hb h hx
      cases hfb : f b
      · rw [hfb] at hC
        have HM : Hid (everyM f l = false) := hide (by
          unfold everyM
          have : l.all f = false := List.all_eq_false.2 ⟨b, List.mem_of_getElem? HX.out, by rw [hfb]; decide⟩
          rw [this]; rfl)
        clear hfb
        go_wp2_with (go_at_call 96; ((with_reducible refine hC.out.mono ?_)); rintro e w1 ⟨rfl, hb1⟩; have HB1 := hide (HB.out.trans (hb1.mono HB.out.size)); clear hb1)
        go_ret
        exact ⟨by rw [HM.out]; rfl, HB1.out⟩
      · rw [hfb] at hC
        have HM := hide (all_take2 f l k b HX.out HT.out hfb)
        clear hfb
        go_wp2_with (go_at_call 96; ((with_reducible refine hC.out.mono ?_)); rintro e w1 ⟨rfl, hb1⟩; have HB1 := hide (HB.out.trans (hb1.mono HB.out.size)); clear hb1)
        go_roundw
        case rel => exact ⟨k + 1, by omega, by go_num, HB1.out, HM.out⟩
        case measure => simp [intOf]; omega
    · have HB := hide hb
      have HM : Hid (everyM f l = decide (0 < n)) := hide (by
        unfold everyM
        have := HT.out
        rw [List.take_of_length_le (by rw [hl.out]; omega)] at this
        rw [this, hl.out]; rfl)
      clear hb h
      by_cases n0 : n = 0
      · subst n0
        go_wp2
        go_ret
        exact ⟨by rw [HM.out]; rfl, HB.out⟩
      · have hd : decide (0 < (n : Int)) = true := by simp; omega
        have hd' : decide (0 < n) = true := by simp; omega
        rw [hd'] at HM
        go_wp2
        go_ret
        exact ⟨by rw [HM.out]; rfl, HB.out⟩
set_option maxRecDepth 100000 in
set_option maxHeartbeats 1000000 in
theorem every98_any (f : Int → Bool) (bo : Nat) (A : Option Addr) (n c B : Nat) (l : List Int) (w : World) (h : Rd w B 1 A n (mks l)) (hB : B ≤ w.heap.size) (hn : n ≤ 1000000)
    (hF : ∀ x ∈ l, ∀ X : World, Below w.heap.size w X → Calls Try.prog 98 #[.int .u8 x, .pointer (some ⟨bo, 0, none⟩)] X fun e w' => e = .returned (.bool (f x)) ∧ Below X.heap.size X w') :
    Calls Try.prog 65 #[.slice A n c, .func (.func 98) #[] #[.pointer (some ⟨bo, 0, none⟩)]] w fun e w' => e = .returned (.bool (everyM f l)) ∧ Below w.heap.size w w' := by
  have hl := hide h.mks_len
  have HF := hide hF
  clear hF
  go_enter Try.func65, Try.ntmps65
  go_wp2
  go_loopw [9] (fun p wr => ∃ k : Nat, k ≤ n ∧ p = .int .i64 k ∧ Below w.heap.size w wr ∧ (l.take k).all f = true) (fun p _ => n - (intOf p).toNat)
  case atStart => exact ⟨0, Nat.zero_le _, rfl, Below.refl _ _, by simp⟩
  case round =>
    obtain ⟨k, hk, rfl, hb, htk⟩ := hrel
    have HT := hide htk
    clear htk
    by_cases hlt : k < n
    · obtain ⟨ad, b, rfl, hx, hc⟩ := (h.below (hb.mono hB)).mk hlt
      have hC := hide (HF.out b (List.mem_of_getElem? hx) wr hb)
      have HB := hide hb
      have HX := hide hx
      clear hb h hx
      cases hfb : f b
      · rw [hfb] at hC
        have HM : Hid (everyM f l = false) := hide (by
          unfold everyM
          have : l.all f = false := List.all_eq_false.2 ⟨b, List.mem_of_getElem? HX.out, by rw [hfb]; decide⟩
          rw [this]; rfl)
        clear hfb
        go_wp2_with (go_at_call 98; ((with_reducible refine hC.out.mono ?_)); rintro e w1 ⟨rfl, hb1⟩; have HB1 := hide (HB.out.trans (hb1.mono HB.out.size)); clear hb1)
        go_ret
        exact ⟨by rw [HM.out]; rfl, HB1.out⟩
      · rw [hfb] at hC
        have HM := hide (all_take2 f l k b HX.out HT.out hfb)
        clear hfb
        go_wp2_with (go_at_call 98; ((with_reducible refine hC.out.mono ?_)); rintro e w1 ⟨rfl, hb1⟩; have HB1 := hide (HB.out.trans (hb1.mono HB.out.size)); clear hb1)
        go_roundw
        case rel => exact ⟨k + 1, by omega, by go_num, HB1.out, HM.out⟩
        case measure => simp [intOf]; omega
    · have HB := hide hb
      have HM : Hid (everyM f l = decide (0 < n)) := hide (by
        unfold everyM
        have := HT.out
        rw [List.take_of_length_le (by rw [hl.out]; omega)] at this
        rw [this, hl.out]; rfl)
      clear hb h
      by_cases n0 : n = 0
      · subst n0
        go_wp2
        go_ret
        exact ⟨by rw [HM.out]; rfl, HB.out⟩
      · have hd : decide (0 < (n : Int)) = true := by simp; omega
        have hd' : decide (0 < n) = true := by simp; omega
        rw [hd'] at HM
        go_wp2
        go_ret
        exact ⟨by rw [HM.out]; rfl, HB.out⟩
set_option maxRecDepth 100000 in
set_option maxHeartbeats 1000000 in
theorem suits_any (k lo hi : Int) (Am A : Option Addr) (n c na ca B b : Nat) (l : List Int) (w : World) (h : Rd w B 1 A n (mks l)) (hB : B ≤ w.heap.size) (hn : n ≤ 1000000) (hw : ∀ x ∈ l, 0 ≤ x ∧ x < 256) (hm : Makes w b) :
    Calls Try.prog 63 #[.map (some b), .slice A n c, .agg #[.int .u8 k, .int .i64 lo, .int .i64 hi, .slice Am na ca]] w fun e w' => e = .returned (.bool (suitsM l k)) ∧ Below w.heap.size w w' := by
  have hmf : ∀ (fn : Fn) (first cap : Array Value) (w : World), (Instr.makeFunc fn first cap).run Try.prog w = .ok (.func fn first cap) w := fun _ _ _ _ => rfl
  have hl := h.mks_len
  obtain ⟨x1, x2⟩ := two_boxes w (.cells #[.map (some b)] 83) (.cells #[.int .u8 k, .int .i64 lo, .int .i64 hi, .slice Am na ca] 46)
  have hb := below2 w (.cells #[.map (some b)] 83) (.cells #[.int .u8 k, .int .i64 lo, .int .i64 hi, .slice Am na ca] 46)
  have hcl := blk_cell x1 0
  simp only [List.getElem?_toArray, List.getElem?_cons_zero] at hcl
  have h94 := hide (every94_any hasKeyM w.heap.size A n c B l _ (h.below (hb.mono hB)) (Nat.le_trans hB hb.size) hn (fun x hx X hX => suit1_any x (hw x hx) w.heap.size b X ((hX.cell (p := ⟨w.heap.size, 0, none⟩) (at_lt x1)).trans hcl) ((hm.below hb).below hX)))
  have h96 := hide (every96_any hasValueM w.heap.size A n c B l _ (h.below (hb.mono hB)) (Nat.le_trans hB hb.size) hn (fun x hx X hX => suit2_any x (hw x hx) w.heap.size b X ((hX.cell (p := ⟨w.heap.size, 0, none⟩) (at_lt x1)).trans hcl) ((hm.below hb).below hX)))
  have h98 := hide (every98_any (fun x => hasValueM x && x != 8) w.heap.size A n c B l _ (h.below (hb.mono hB)) (Nat.le_trans hB hb.size) hn (fun x hx X hX => suit3_any x (hw x hx) w.heap.size b X ((hX.cell (p := ⟨w.heap.size, 0, none⟩) (at_lt x1)).trans hcl) ((hm.below hb).below hX)))
  have HM : Hid (suitsM l k = if k = 3 then decide (n = 0) else if k = 4 then everyM hasKeyM l else if k = 5 then everyM hasValueM l else if k = 6 then everyM (fun x => hasValueM x && x != 8) l else true) := hide (by unfold suitsM; rw [hl])
  have HB := hide hb
  clear h hm hw hl x1 x2 hb hcl
  generalize everyM hasKeyM l = r4 at *
  generalize everyM hasValueM l = r5 at *
  generalize everyM (fun x => hasValueM x && x != 8) l = r6 at *
  by_cases k3 : k = 3
  · subst k3
    by_cases n0 : n = 0
    · subst n0
      go_enter Try.func63, Try.ntmps63
      go_wp2
      go_ret
      exact ⟨by rw [HM.out]; rfl, HB.out⟩
    · have en : ((n : Int) == 0) = false := by simp; omega
      go_enter Try.func63, Try.ntmps63
      go_wp2
      go_ret
      exact ⟨by rw [HM.out]; simp [n0], HB.out⟩
  · have e3 : (k == 3) = false := by simpa using k3
    have HM2 : Hid (suitsM l k = if k = 4 then r4 else if k = 5 then r5 else if k = 6 then r6 else true) := hide (by rw [HM.out, if_neg k3])
    clear HM
    by_cases k4 : k = 4
    · subst k4
      go_enter Try.func63, Try.ntmps63
      go_wp2_with (go_at_call 65; ((with_reducible refine h94.out.mono ?_)); rintro e w1 ⟨rfl, hb1⟩; have HB1 := hide (HB.out.trans (hb1.mono HB.out.size)); clear hb1)
      go_ret
      exact ⟨by rw [HM2.out]; rfl, HB1.out⟩
    · have e4 : (k == 4) = false := by simpa using k4
      by_cases k5 : k = 5
      · subst k5
        go_enter Try.func63, Try.ntmps63
        go_wp2_with (go_at_call 65; ((with_reducible refine h96.out.mono ?_)); rintro e w1 ⟨rfl, hb1⟩; have HB1 := hide (HB.out.trans (hb1.mono HB.out.size)); clear hb1)
        go_ret
        exact ⟨by rw [HM2.out]; rfl, HB1.out⟩
      · have e5 : (k == 5) = false := by simpa using k5
        by_cases k6 : k = 6
        · subst k6
          go_enter Try.func63, Try.ntmps63
          go_wp2_with (go_at_call 65; ((with_reducible refine h98.out.mono ?_)); rintro e w1 ⟨rfl, hb1⟩; have HB1 := hide (HB.out.trans (hb1.mono HB.out.size)); clear hb1)
          go_ret
          exact ⟨by rw [HM2.out]; rfl, HB1.out⟩
        · have e6 : (k == 6) = false := by simpa using k6
          have HM3 : Hid (suitsM l k = true) := hide (by rw [HM2.out, if_neg k4, if_neg k5, if_neg k6])
          go_enter Try.func63, Try.ntmps63
          go_wp2
          go_ret
          exact ⟨by rw [HM3.out]; rfl, HB.out⟩
end Go.Proofs.Ytedjmgiblkjonaa
