/-
  The texts FZ5, AKR as one.
-/
import Derived.Test.YtolodcdhpnapmaaGreatMH
import Derived.Test.YtolodcdhpnapmaaGreatMF
import Derived.Test.YtolodcdhpnapmaaGreatMG

/-
  Lists of rows are put into the bag; a bag of both is looked through.
-/
namespace Go.Proofs.YtolodcdhpnapmaaGreat
open Go.RowKit Go.Maps
set_option linter.unusedVariables false

namespace FZ
def bagCells2 (v u : Value) : Array Value := #[.slice none 0 0, .slice none 0 0, .slice none 0 0, .slice none 0 0, .slice none 0 0, v, .slice none 0 0, u, .slice none 0 0, .slice none 0 0, .slice none 0 0, .slice none 0 0, .slice none 0 0, .slice none 0 0, .slice none 0 0, .slice none 0 0, .slice none 0 0, .slice none 0 0, .slice none 0 0, .slice none 0 0, .slice none 0 0, .slice none 0 0, .slice none 0 0, .slice none 0 0]
/-- The bag, its lists apart from it. -/
structure Bag2 (S : Nat) (w : World) (b : Nat) (v u : Value) (k : Nat) (xs : List Value) (r : Nat) (ys : List Value) : Prop where
  blk : w.heap[b]? = some (.cells (bagCells2 v u) 118 (0, 0))
  rb : w.ownsRow 0 34 1 v k xs
  rr : w.ownsRow 0 63 1 u r ys
  lo : S ≤ b ∧ (∀ g, v.ownBlock = some g → S ≤ g) ∧ (∀ g, u.ownBlock = some g → S ≤ g)
theorem ne_bag {w : World} {b : Nat} {cs : Array Value} {e : TypeId} {v : Value} {k : Nat} {xs : List Value} (hb : w.heap[b]? = some (.cells cs 118 (0, 0))) (h : w.ownsRow 0 e 1 v k xs) (he : e ≠ 118) : v.ownBlock ≠ some b := fun hc => by
  rcases h.2 with ⟨h0, _⟩ | ⟨g, cap, cur, h0, _, hg, _⟩
  · rw [h0] at hc; cases hc
  · rw [h0] at hc
    simp only [Value.ownBlock, Option.some.injEq] at hc
    subst hc
    rw [hb] at hg
    injection hg with hg
    injection hg with _ h1
    exact he h1.symm
theorem new_row (w : World) (u : Value) : ∀ j u', ([u] : List Value)[j]? = some u' → (w.alloc (.cells #[u] 63)).cell? ((⟨w.heap.size, 0, none⟩ : Addr).add j) = some u' := by
  obtain ⟨ad, e, _, h⟩ := (cells_rd w [u] 63 1 1 rfl).2 (by decide)
  cases e
  exact h
theorem other_kept {w w' : World} {e e' : TypeId} {u v : Value} {r k : Nat} {ys xs : List Value} (hu : w.ownsRow 0 e 1 u r ys) (hv : w.ownsRow 0 e' 1 v k xs) (hne : e ≠ e') (hk : Kept (fun g => v.ownBlock ≠ some g) w w') : w'.ownsRow 0 e 1 u r ys :=
  owns_kept hu hk (fun g hg hc => by
    rcases owns_ne hu hv hne with h | h
    · rw [h] at hg; cases hg
    · exact h (hg.trans hc.symm))
set_option maxRecDepth 100000 in
set_option maxHeartbeats 2000000 in
theorem putBytes2 (S b : Nat) (v u : Value) (k : Nat) (xs : List Value) (r : Nat) (ys : List Value) (A : Option Addr) (n c : Nat) (w : World) (h : Bag2 S w b v u k xs r ys) (hk : k ≤ 4000) (hS : S ≤ w.heap.size) :
    Calls Tryz.prog 68 #[.pointer (some ⟨b, 0, none⟩), .slice A n c] w fun e w' => e = .returned (.tuple #[]) ∧ Below S w w' ∧ ∃ v', Bag2 S w' b v' u (k + 1) (xs ++ [.slice A n c]) r ys := by
  obtain ⟨Av, cv, rfl, _⟩ := owns_slice h.rb
  obtain ⟨i5, hi5, hz0, hz1, hz2⟩ := info_parts rowInfo
  have hbl : b < w.heap.size := at_lt h.blk
  have c5 : w.cell? ⟨b, 5, none⟩ = some (.slice Av k cv) := (blk_cell h.blk 5).trans rfl
  have HH := hide h
  clear h
  go_enter Tryz.func68, Tryz.ntmps68
  go_wp2_with (at_builtin; refine stop_here ?_)
  show Hid _
  refine start_here ?_
  refine wpList_append_two _ rfl (.tmp 8) (.tmp 10) 63 rfl 34 i5 _ 1 24 Tryz.underlying63 hi5 hz0 hz1 hz2 rfl (by decide) _ k xs rfl (HH.out.rb.alloc _) ⟨w.heap.size, 0, none⟩ 1 1 [.slice A n c] rfl rfl (new_one w (.slice A n c)) (by intro u hu; simp only [List.mem_singleton] at hu; subst hu; rfl) (by decide) (by simp only [maxLen]; omega) (by omega) ?_
  intro v' w' hgw
  obtain ⟨A', c', rfl, _⟩ := owns_slice hgw.1
  obtain ⟨hk1, hv1⟩ := grown2_kept hgw
  have hne := ne_bag HH.out.blk HH.out.rb (by decide)
  have hO1 : w'.heap[b]? = some (.cells (bagCells2 (.slice Av k cv) u) 118 (0, 0)) := (hk1.block b (by simp; omega) hne).trans ((Below.heap_alloc w _ b hbl).trans HH.out.blk)
  have hrr := other_kept (HH.out.rr.alloc (.cells #[.slice A n c] 34)) (HH.out.rb.alloc (.cells #[.slice A n c] 34)) (by decide) hk1
  have c5' : w'.cell? ⟨b, 5, none⟩ = some (.slice Av k cv) := (blk_cell hO1 5).trans rfl
  have hfz : w'.frozen? ⟨b, 5, none⟩ = false := heap_free hO1
  have HO1 := hide hO1
  have HK := hide hk1
  have HV := hide hv1
  have HG := hide hgw
  have HRR := hide hrr
  clear hO1 hk1 hv1 hgw c5 hrr
  go_wp2_with fail
  go_end0
  have hx := HG.out.1
  have hlo := HH.out.lo
  have hne' : (Value.slice A' (k + 1) c').ownBlock ≠ some b := ne_bag HO1.out hx (by decide)
  have hb1 : Below S w w' := (((Below.refl S w).alloc hS _).trans (HK.out.to_below (fun g hg hc => by have := hlo.2.1 g hc; omega) (by simp; omega)))
  refine ⟨rfl, hb1.setCell (p := ⟨b, 5, none⟩) hlo.1 _, _, heap_set HO1.out _, hx.kept (grown_set w' b 5 _) (.inr hne'), HRR.out.kept (grown_set w' b 5 _) (.inr (ne_bag HO1.out HRR.out (by decide))), hlo.1, fun g hg => ?_, hlo.2.2⟩
  rcases HV.out with h | h
  · exact hlo.2.1 g (h.symm.trans hg)
  · rw [h] at hg
    simp only [World.alloc, Array.size_push, Option.some.injEq] at hg
    omega
set_option maxRecDepth 100000 in
set_option maxHeartbeats 2000000 in
theorem putRows2 (S b : Nat) (v u : Value) (k : Nat) (xs : List Value) (r : Nat) (ys : List Value) (A : Option Addr) (n c : Nat) (zs : List SL) (w : World) (h : Bag2 S w b v u k xs r ys) (hz : Rd w S 1 A n (zs.map SL.v)) (hk : k + n ≤ 4000) (hr : r ≤ 4000) (hS : S ≤ w.heap.size) :
    Calls Tryz.prog 48 #[.pointer (some ⟨b, 0, none⟩), .slice A n c] w fun e w' => e = .returned (.tuple #[]) ∧ Below S w w' ∧ ∃ v' u', Bag2 S w' b v' u' (k + n) (xs ++ zs.map SL.v) (r + 1) (ys ++ [.slice A n c]) := by
  obtain ⟨Av, cv, rfl, _⟩ := owns_slice h.rr
  obtain ⟨i5, hi5, hz0, hz1, hz2⟩ := info_parts rowInfo2
  have hbl : b < w.heap.size := at_lt h.blk
  have c5 : w.cell? ⟨b, 7, none⟩ = some (.slice Av r cv) := (blk_cell h.blk 7).trans rfl
  have hzl : zs.length = n := by have := hz.1; simpa using this
  have HZ := hide hz
  have HH := hide h
  clear h hz
  go_enter Tryz.func48, Tryz.ntmps48
  go_wp2_with (at_builtin; refine stop_here ?_)
  show Hid _
  refine start_here ?_
  refine wpList_append_two _ rfl (.tmp 9) (.tmp 11) 65 rfl 63 i5 _ 1 24 Tryz.underlying65 hi5 hz0 hz1 hz2 rfl (by decide) _ r ys rfl (HH.out.rr.alloc _) ⟨w.heap.size, 0, none⟩ 1 1 [.slice A n c] rfl rfl (new_row w (.slice A n c)) (by intro u hu; simp only [List.mem_singleton] at hu; subst hu; rfl) (by decide) (by simp only [maxLen]; omega) (by omega) ?_
  intro u' w' hgw
  obtain ⟨A', c', rfl, _⟩ := owns_slice hgw.1
  obtain ⟨hk1, hv1⟩ := grown2_kept hgw
  have hne := ne_bag HH.out.blk HH.out.rr (by decide)
  have hO1 : w'.heap[b]? = some (.cells (bagCells2 v (.slice Av r cv)) 118 (0, 0)) := (hk1.block b (by simp; omega) hne).trans ((Below.heap_alloc w _ b hbl).trans HH.out.blk)
  have hrr := other_kept (HH.out.rb.alloc (.cells #[.slice A n c] 63)) (HH.out.rr.alloc (.cells #[.slice A n c] 63)) (by decide) hk1
  have c5' : w'.cell? ⟨b, 7, none⟩ = some (.slice Av r cv) := (blk_cell hO1 7).trans rfl
  have hfz : w'.frozen? ⟨b, 7, none⟩ = false := heap_free hO1
  have hlo := HH.out.lo
  have hx := hgw.1
  have hne' : (Value.slice A' (r + 1) c').ownBlock ≠ some b := ne_bag hO1 hx (by decide)
  have hb1 : Below S w w' := (((Below.refl S w).alloc hS _).trans (hk1.to_below (fun g hg hc => by have := hlo.2.2 g hc; omega) (by simp; omega)))
  have hb2 := hb1.setCell (p := ⟨b, 7, none⟩) hlo.1 (.slice A' (r + 1) c')
  have hbag : Bag2 S (w'.setCell ⟨b, 7, none⟩ (.slice A' (r + 1) c')) b v (.slice A' (r + 1) c') k xs (r + 1) (ys ++ [.slice A n c]) := by
    refine ⟨heap_set hO1 _, hrr.kept (grown_set w' b 7 _) (.inr (ne_bag hO1 hrr (by decide))), hx.kept (grown_set w' b 7 _) (.inr hne'), hlo.1, hlo.2.1, fun g hg => ?_⟩
    rcases hv1 with h | h
    · exact hlo.2.2 g (h.symm.trans hg)
    · rw [h] at hg
      simp only [World.alloc, Array.size_push, Option.some.injEq] at hg
      omega
  have HB2 := hide hb2
  have HBG := hide hbag
  clear hO1 hk1 hv1 hgw c5 hrr hx hb1 hb2 hbag HH hlo hne hne'
  go_wp2_with fail
  go_loopw [4] (fun p wr => ∃ (j : Nat) (v : Value), j ≤ n ∧ p = .int .i64 j ∧ Below S w wr ∧ Bag2 S wr b v (.slice A' (r + 1) c') (k + j) (xs ++ (zs.map SL.v).take j) (r + 1) (ys ++ [.slice A n c])) (fun p _ => n - (intOf p).toNat)
  case atStart => exact ⟨0, v, Nat.zero_le _, rfl, HB2.out, by simpa using HBG.out⟩
  case round =>
    obtain ⟨j, v, hj, rfl, hb, hbg⟩ := hrel
    have HB := hide hb
    have HBg := hide hbg
    clear hb hbg HB2 HBG
    by_cases hjn : j < n
    · obtain ⟨ad, rfl, _, hc⟩ := (HZ.out.below HB.out).2 (by omega)
      have hzj : zs[j]? = some zs[j] := List.getElem?_eq_getElem (by omega)
      have ck := hc j zs[j].v (by rw [List.getElem?_map, hzj]; rfl)
      obtain ⟨zj, hzj2⟩ : ∃ z, z = zs[j] := ⟨_, rfl⟩
      rw [← hzj2] at ck hzj
      unfold SL.v at ck
      clear hc hzj2
      go_wp2_with fail
      refine (putBytes2 S b v _ (k + j) _ (r + 1) _ zj.A zj.n zj.c wr HBg.out (by omega) (Nat.le_trans hS HB.out.size)).mono ?_
      rintro e w3 ⟨rfl, hb3, v', hg3⟩
      have HB3 := hide (HB.out.trans hb3)
      have HG3 : Hid (Bag2 S w3 b v' (.slice A' (r + 1) c') (k + (j + 1)) (xs ++ (zs.map SL.v).take (j + 1)) (r + 1) (ys ++ [.slice (some ad) n c])) := by
        have : (zs.map SL.v).take (j + 1) = (zs.map SL.v).take j ++ [.slice zj.A zj.n zj.c] := by
          rw [List.take_add_one, List.getElem?_map, hzj]
          rfl
        rw [this, ← List.append_assoc]
        exact hg3
      clear hb3 hg3 ck
      go_wp2
      go_roundw
      case rel => exact ⟨j + 1, v', by omega, by go_num, HB3.out, HG3.out⟩
      case measure => simp [intOf]; omega
    · have hjq : j = n := by omega
      clear hjn hj
      subst hjq
      go_wp2
      go_end0
      refine ⟨rfl, HB.out, v, .slice A' (r + 1) c', ?_⟩
      have := HBg.out
      rw [List.take_of_length_le (by simp; omega)] at this
      exact this
set_option maxRecDepth 100000 in
set_option maxHeartbeats 4000000 in
theorem bagApart2 (b : Nat) (v u : Value) (FB FR : Nat → Prop) (w : World) (hO : w.heap[b]? = some (.cells (bagCells2 v u) 118 (0, 0))) (hFB : FB b) (hFR : FR b)
    (hB : ∀ W, Below w.heap.size w W → Calls Tryz.prog 75 #[v] W fun e w' => e = .returned (.bool true) ∧ Kept FB W w')
    (hR : ∀ W, Kept FB w W → Calls Tryz.prog 77 #[u] W fun e w' => e = .returned (.bool true) ∧ Kept FR W w') :
    Calls Tryz.prog 49 #[.pointer (some ⟨b, 0, none⟩)] w fun e w' => e = .returned (.bool true) ∧ ∃ W, Kept FB w W ∧ Kept FR W w' := by
  have HF := hide hFB
  have HFR := hide hFR
  have HO := hide hO
  have HB := hide hB
  have HR := hide hR
  have HB0 := hide (Below.refl w.heap.size w)
  have HK0 := hide (Kept.refl FB w)
  have c0 : w.cell? ⟨b, 0, none⟩ = some (.slice none 0 0) := kept_cell HK0.out HO.out HF.out rfl
  clear hFB hFR hO hB hR
  go_enter Tryz.func49, Tryz.ntmps49
  go_wp2_with (first
    | (go_at_call 70; refine (flat38_nil _).mono ?_; rintro e w1 ⟨rfl, hb1⟩; have HB1 := hide (HB0.out.trans (hb1.mono HB0.out.size)); have HK1 := hide (HK0.out.later hb1); clear hb1 HB0 c0; have c1 : w1.cell? ⟨b, 1, none⟩ = some (Value.slice none 0 0) := kept_cell HK1.out HO.out HF.out rfl)
    | (go_at_call 71; refine (flat39_nil _).mono ?_; rintro e w2 ⟨rfl, hb2⟩; have HB2 := hide (HB1.out.trans (hb2.mono HB1.out.size)); have HK2 := hide (HK1.out.later hb2); clear hb2 HB1 c1; have c2 : w2.cell? ⟨b, 2, none⟩ = some (Value.slice none 0 0) := kept_cell HK2.out HO.out HF.out rfl)
    | (go_at_call 72; refine (flat40_nil _).mono ?_; rintro e w3 ⟨rfl, hb3⟩; have HB3 := hide (HB2.out.trans (hb3.mono HB2.out.size)); have HK3 := hide (HK2.out.later hb3); clear hb3 HB2 c2; have c3 : w3.cell? ⟨b, 3, none⟩ = some (Value.slice none 0 0) := kept_cell HK3.out HO.out HF.out rfl)
    | (go_at_call 73; refine (flat41_nil _).mono ?_; rintro e w4 ⟨rfl, hb4⟩; have HB4 := hide (HB3.out.trans (hb4.mono HB3.out.size)); have HK4 := hide (HK3.out.later hb4); clear hb4 HB3 c3; have c4 : w4.cell? ⟨b, 4, none⟩ = some (Value.slice none 0 0) := kept_cell HK4.out HO.out HF.out rfl)
    | (go_at_call 74; refine (flat42_nil _).mono ?_; rintro e w5 ⟨rfl, hb5⟩; have HB5 := hide (HB4.out.trans (hb5.mono HB4.out.size)); have HK5 := hide (HK4.out.later hb5); clear hb5 HB4 c4; have c5 : w5.cell? ⟨b, 5, none⟩ = some v := kept_cell HK5.out HO.out HF.out rfl)
    | (go_at_call 75; refine (HB.out _ HB5.out).mono ?_; rintro e w6 ⟨rfl, hb6⟩; have HK6 := hide (kept_trans HK5.out hb6); clear hb6 HB5 c5; have c6 : w6.cell? ⟨b, 6, none⟩ = some (Value.slice none 0 0) := kept_cell HK6.out HO.out HF.out rfl)
    | (go_at_call 76; refine (flat44_nil _).mono ?_; rintro e w7 ⟨rfl, hb7⟩; have HK7 := hide (HK6.out.later hb7); clear hb7 c6; have c7 : w7.cell? ⟨b, 7, none⟩ = some u := kept_cell HK7.out HO.out HF.out rfl; have HO7 : Hid (w7.heap[b]? = some (.cells (bagCells2 v u) 118 (0, 0))) := (HK7.out.block b (at_lt HO.out) HF.out).trans HO.out)
    | (go_at_call 77; refine (HR.out _ HK7.out).mono ?_; rintro e w8 ⟨rfl, hb8⟩; have HK8 := hide hb8; clear hb8 c7; have c8 : w8.cell? ⟨b, 8, none⟩ = some (Value.slice none 0 0) := kept_cell HK8.out HO7.out HFR.out rfl)
    | (go_at_call 78; refine (flat46_nil _).mono ?_; rintro e w9 ⟨rfl, hb9⟩; have HK9 := hide (HK8.out.later hb9); clear hb9 c8; have c9 : w9.cell? ⟨b, 9, none⟩ = some (Value.slice none 0 0) := kept_cell HK9.out HO7.out HFR.out rfl)
    | (go_at_call 79; refine (flat47_nil _).mono ?_; rintro e w10 ⟨rfl, hb10⟩; have HK10 := hide (HK9.out.later hb10); clear hb10 c9; have c10 : w10.cell? ⟨b, 10, none⟩ = some (Value.slice none 0 0) := kept_cell HK10.out HO7.out HFR.out rfl)
    | (go_at_call 80; refine (flat48_nil _).mono ?_; rintro e w11 ⟨rfl, hb11⟩; have HK11 := hide (HK10.out.later hb11); clear hb11 c10; have c11 : w11.cell? ⟨b, 11, none⟩ = some (Value.slice none 0 0) := kept_cell HK11.out HO7.out HFR.out rfl)
    | (go_at_call 81; refine (flat49_nil _).mono ?_; rintro e w12 ⟨rfl, hb12⟩; have HK12 := hide (HK11.out.later hb12); clear hb12 c11; have c12 : w12.cell? ⟨b, 12, none⟩ = some (Value.slice none 0 0) := kept_cell HK12.out HO7.out HFR.out rfl)
    | (go_at_call 82; refine (flat50_nil _).mono ?_; rintro e w13 ⟨rfl, hb13⟩; have HK13 := hide (HK12.out.later hb13); clear hb13 c12; have c13 : w13.cell? ⟨b, 13, none⟩ = some (Value.slice none 0 0) := kept_cell HK13.out HO7.out HFR.out rfl)
    | (go_at_call 83; refine (flat51_nil _).mono ?_; rintro e w14 ⟨rfl, hb14⟩; have HK14 := hide (HK13.out.later hb14); clear hb14 c13; have c14 : w14.cell? ⟨b, 14, none⟩ = some (Value.slice none 0 0) := kept_cell HK14.out HO7.out HFR.out rfl)
    | (go_at_call 84; refine (flat52_nil _).mono ?_; rintro e w15 ⟨rfl, hb15⟩; have HK15 := hide (HK14.out.later hb15); clear hb15 c14; have c15 : w15.cell? ⟨b, 15, none⟩ = some (Value.slice none 0 0) := kept_cell HK15.out HO7.out HFR.out rfl)
    | (go_at_call 85; refine (flat53_nil _).mono ?_; rintro e w16 ⟨rfl, hb16⟩; have HK16 := hide (HK15.out.later hb16); clear hb16 c15; have c16 : w16.cell? ⟨b, 16, none⟩ = some (Value.slice none 0 0) := kept_cell HK16.out HO7.out HFR.out rfl)
    | (go_at_call 86; refine (flat54_nil _).mono ?_; rintro e w17 ⟨rfl, hb17⟩; have HK17 := hide (HK16.out.later hb17); clear hb17 c16; have c17 : w17.cell? ⟨b, 17, none⟩ = some (Value.slice none 0 0) := kept_cell HK17.out HO7.out HFR.out rfl)
    | (go_at_call 87; refine (flat55_nil _).mono ?_; rintro e w18 ⟨rfl, hb18⟩; have HK18 := hide (HK17.out.later hb18); clear hb18 c17; have c18 : w18.cell? ⟨b, 18, none⟩ = some (Value.slice none 0 0) := kept_cell HK18.out HO7.out HFR.out rfl)
    | (go_at_call 88; refine (flat56_nil _).mono ?_; rintro e w19 ⟨rfl, hb19⟩; have HK19 := hide (HK18.out.later hb19); clear hb19 c18; have c19 : w19.cell? ⟨b, 19, none⟩ = some (Value.slice none 0 0) := kept_cell HK19.out HO7.out HFR.out rfl)
    | (go_at_call 89; refine (flat57_nil _).mono ?_; rintro e w20 ⟨rfl, hb20⟩; have HK20 := hide (HK19.out.later hb20); clear hb20 c19; have c20 : w20.cell? ⟨b, 20, none⟩ = some (Value.slice none 0 0) := kept_cell HK20.out HO7.out HFR.out rfl)
    | (go_at_call 90; refine (flat58_nil _).mono ?_; rintro e w21 ⟨rfl, hb21⟩; have HK21 := hide (HK20.out.later hb21); clear hb21 c20; have c21 : w21.cell? ⟨b, 21, none⟩ = some (Value.slice none 0 0) := kept_cell HK21.out HO7.out HFR.out rfl)
    | (go_at_call 91; refine (flat59_nil _).mono ?_; rintro e w22 ⟨rfl, hb22⟩; have HK22 := hide (HK21.out.later hb22); clear hb22 c21; have c22 : w22.cell? ⟨b, 22, none⟩ = some (Value.slice none 0 0) := kept_cell HK22.out HO7.out HFR.out rfl)
    | (go_at_call 92; refine (flat60_nil _).mono ?_; rintro e w23 ⟨rfl, hb23⟩; have HK23 := hide (HK22.out.later hb23); clear hb23 c22; have c23 : w23.cell? ⟨b, 23, none⟩ = some (Value.slice none 0 0) := kept_cell HK23.out HO7.out HFR.out rfl)
    | (go_at_call 93; refine (flat61_nil _).mono ?_; rintro e w24 ⟨rfl, hb24⟩; have HK24 := hide (HK23.out.later hb24); clear hb24 c23))
  go_ret
  exact ⟨rfl, w7, HK7.out, HK24.out⟩
end FZ
end Go.Proofs.YtolodcdhpnapmaaGreat

/-
  The keys that are told twice lie apart.
-/
namespace Go.Proofs.YtolodcdhpnapmaaGreat
open Go.RowKit Go.Maps
set_option linter.unusedVariables false

/-- The blocks of a telling lie below S. -/
def KLo (S : Nat) (v : Value) (rs : List KR) : Prop := (∀ g, v.ownBlock = some g → g < S) ∧ ∀ r ∈ rs, r.g < S
theorem KeysTold.lo {w : World} {B : Nat} {v : Value} {rs : List KR} (h : KeysTold w B v rs) : KLo w.heap.size v rs :=
  ⟨fun g hg => (World.ownsRow.lt h.row g hg).2, fun r hr => by obtain ⟨⟨cur, m, h1, _⟩, _⟩ := h.each r hr; exact at_lt h1⟩
theorem KR.At.frow {w : World} {r : KR} (h : r.At w) : FRow w 5 r.sl r.k.length (u8s (ints r.k)) := by
  obtain ⟨cur, m, h1, ⟨h2, h3, h4⟩, h5, h6⟩ := h
  exact ⟨by simp [u8s, ints], .inr ⟨r.g, r.cap, cur, (m, m + 1), rfl, h1, fun j hj hc => by simp only at hc; omega, h3, by omega, h6⟩⟩
def kA (rs : List KR) (i : Nat) : Option Addr := (rs[i]?).map (fun r => ⟨r.g, 0, none⟩)
def kN (rs : List KR) (i : Nat) : Nat := ((rs[i]?).map (·.k.length)).getD 0
def kC (rs : List KR) (i : Nat) : Nat := ((rs[i]?).map (·.cap)).getD 0
theorem kRow {rs : List KR} {i : Nat} {r : KR} (h : rs[i]? = some r) : rowV (kA rs) (kN rs) (kC rs) i = r.sl ∧ kN rs i = r.k.length := by
  simp [rowV, kA, kN, kC, h, KR.sl]
theorem kRows (rs : List KR) : (List.range rs.length).map (rowV (kA rs) (kN rs) (kC rs)) = rs.map KR.sl := by
  apply List.ext_getElem?
  intro i
  rw [List.getElem?_map, List.getElem?_map]
  by_cases hi : i < rs.length
  · rw [List.getElem?_range hi, List.getElem?_eq_getElem hi]
    simp only [Option.map_some]
    rw [(kRow (List.getElem?_eq_getElem hi)).1]
  · rw [List.getElem?_eq_none (by simp; omega), List.getElem?_eq_none (by omega)]
    rfl
set_option maxRecDepth 100000 in
set_option maxHeartbeats 4000000 in
theorem keys_apart {B1 B2 n1 c1 n2 c2 : Nat} {A1 A2 : Option Addr} {rs1 rs2 : List KR} {L : List HS} {w : World} (hL : L.length ≤ 40) (h1 : KeysTold w B1 (.slice A1 n1 c1) rs1) (h2 : KeysTold w B2 (.slice A2 n2 c2) rs2) (hlo : KLo B2 (.slice A1 n1 c1) rs1) (hB : B1 ≤ B2) (e1 : rs1.map KR.k = keysM L) (e2 : rs2.map KR.k = keysM L) (hk : ∀ k ∈ keysM L, k.length ≤ 1000000) (hw : B1 ≤ w.heap.size) :
    Calls Tryz.prog 20 #[.slice (some ⟨w.heap.size, 0, none⟩) 2 2] (w.alloc (.cells #[.slice A1 n1 c1, .slice A2 n2 c2] 63)) fun e w' => e = .returned (.bool true) ∧ Below B1 w w' := by
  have hlen : ∀ rs : List KR, rs.map KR.k = keysM L → rs.length ≤ 40 := fun rs h => by
    have h3 := congrArg List.length h
    rw [List.length_map, keysM_len] at h3
    have := takenK_le L
    omega
  have hl1 := hlen rs1 e1
  have hl2 := hlen rs2 e2
  obtain ⟨hn1, _⟩ := h1.rows
  obtain ⟨hn2, _⟩ := h2.rows
  subst hn1
  subst hn2
  have hlen2 : ∀ r ∈ rs1 ++ rs2, r.k.length ≤ 1000000 := fun r hr => by
    rcases List.mem_append.1 hr with h | h
    · exact hk _ (by rw [← e1]; exact List.mem_map_of_mem h)
    · exact hk _ (by rw [← e2]; exact List.mem_map_of_mem h)
  -- the list of both
  obtain ⟨wl, hwl⟩ : ∃ wl, wl = w.alloc (.cells #[.slice A1 rs1.length c1, .slice A2 rs2.length c2] 63) := ⟨_, rfl⟩
  have hbl : Below w.heap.size w wl := by rw [hwl]; exact below1 w _
  have hxl : wl.heap[w.heap.size]? = some (.cells #[.slice A1 rs1.length c1, .slice A2 rs2.length c2] 63 (0, 0)) := by rw [hwl]; exact World.alloc_heap_new w _
  have hzl : wl.heap.size = w.heap.size + 1 := by rw [hwl]; simp
  -- the bag
  obtain ⟨wb, hwb⟩ : ∃ wb, wb = wl.alloc (.cells (FZ.bagCells2 (.slice none 0 0) (.slice none 0 0)) 118) := ⟨_, rfl⟩
  have hbb : Below wl.heap.size wl wb := by rw [hwb]; exact below1 wl _
  have hbag : FZ.Bag2 wl.heap.size wb wl.heap.size (.slice none 0 0) (.slice none 0 0) 0 [] 0 [] := by
    rw [hwb]
    exact ⟨World.alloc_heap_new wl _, owns_nil _ _ 1, owns_nil _ _ 1, Nat.le_refl _, nofun, nofun⟩
  have hzb : wb.heap.size = wl.heap.size + 1 := by rw [hwb]; simp
  have HT1 := hide ((h1.below hbl).below hbb)
  have HT2 := hide ((h2.below hbl).below hbb)
  have hT1l := h1.below hbl
  have hT2l := h2.below hbl
  have hR1 : Rd wb wl.heap.size 1 A1 rs1.length ((rs1.map KR.s).map SL.v) := by
    have := (hT1l.rows.2.rd).below hbb
    exact this
  have hR2 : Rd wb wl.heap.size 1 A2 rs2.length ((rs2.map KR.s).map SL.v) := by
    have := (hT2l.rows.2.rd).below hbb
    exact this
  have HR1 := hide hR1
  have HR2 := hide hR2
  have HBG := hide hbag
  have HX := hide ((hbb.block _ (at_lt hxl)).trans hxl)
  have HW := hide hwb
  have HWB := hide (hbl.trans (hbb.mono (by omega)))
  have HLO := hide hlo
  have HK1 := hide h1.lo
  have HK2 := hide h2.lo
  have HL2 := hide hlen2
  rw [← hwl]
  clear hT1l hT2l hR1 hR2 hbag hwl hwb h1 h2 hbl hxl hbb hlo hlen2 hk e1 e2
  have HZ := hide (And.intro hzl hzb)
  have HH := hide (And.intro hl1 (And.intro hl2 (And.intro hw hB)))
  have HBG0 : Hid (∃ (v u : Value) (kb : Nat) (xs ys : List Value), Below wl.heap.size wb wb ∧ FZ.Bag2 wl.heap.size wb wl.heap.size v u kb xs 0 ys ∧ kb = 0 ∧ xs = [] ∧ ys = []) := hide ⟨_, _, _, _, _, Below.refl _ _, HBG.out, rfl, rfl, rfl⟩
  have HS := hide (show wl.heap.size ≤ wb.heap.size from by omega)
  clear hzl hzb hl1 hl2 hw hB HBG hL
  go_enter Tryz.func20, Tryz.ntmps20
  go_wp2
  rw [show wl.alloc (.cells #[.slice none 0 0, .slice none 0 0, .slice none 0 0, .slice none 0 0, .slice none 0 0, .slice none 0 0, .slice none 0 0, .slice none 0 0, .slice none 0 0, .slice none 0 0, .slice none 0 0, .slice none 0 0, .slice none 0 0, .slice none 0 0, .slice none 0 0, .slice none 0 0, .slice none 0 0, .slice none 0 0, .slice none 0 0, .slice none 0 0, .slice none 0 0, .slice none 0 0, .slice none 0 0, .slice none 0 0] 118) = wb from HW.out.symm]
  clear HW
  go_loopw [4] (fun p wr => ∃ (j : Nat) (v u : Value) (kb : Nat) (xs ys : List Value), j ≤ 2 ∧ p = .int .i64 j ∧ Below wl.heap.size wb wr ∧ FZ.Bag2 wl.heap.size wr wl.heap.size v u kb xs j ys ∧ (j = 0 → kb = 0 ∧ xs = [] ∧ ys = []) ∧ (j = 1 → kb = rs1.length ∧ xs = (rs1.map KR.s).map SL.v ∧ ys = [.slice A1 rs1.length c1]) ∧
      (j = 2 → kb = rs1.length + rs2.length ∧ xs = (rs1.map KR.s).map SL.v ++ (rs2.map KR.s).map SL.v ∧ ys = [.slice A1 rs1.length c1, .slice A2 rs2.length c2])) (fun p _ => 2 - (intOf p).toNat)
  case atStart =>
    obtain ⟨v, u, kb, xs, ys, h1, h2, h3⟩ := HBG0.out
    exact ⟨0, v, u, kb, xs, ys, by omega, rfl, h1, h2, fun _ => h3, (by omega), (by omega)⟩
  case round =>
    obtain ⟨j, v, u, kb, xs, ys, hj, rfl, hb, hg, h0, h1, h2⟩ := hrel
    have HB2 := hide hb
    have HG2 := hide hg
    have cl := blk_cell ((hb.block _ (by have := HZ.out; omega)).trans HX.out)
    have hj3 : j = 0 ∨ j = 1 ∨ j = 2 := by omega
    clear hb hg HBG0
    rcases hj3 with rfl | rfl | rfl
    · obtain ⟨rfl, rfl, rfl⟩ := h0 rfl
      have c0 : wr.cell? ⟨w.heap.size, 0, none⟩ = some (.slice A1 rs1.length c1) := (cl 0).trans rfl
      have HP := hide (FZ.putRows2 wl.heap.size wl.heap.size v u 0 [] 0 [] A1 rs1.length c1 (rs1.map KR.s) wr HG2.out (HR1.out.below HB2.out) (by have := HH.out; omega) (by omega) (Nat.le_trans HS.out HB2.out.size))
      clear cl h0 h1 h2 HG2
      go_wp2_with fail
      refine HP.out.mono ?_
      rintro e w2 ⟨rfl, hb2, v2, u2, hg2⟩
      have HB3 := hide (HB2.out.trans hb2)
      have HG3 := hide hg2
      clear hb2 hg2 c0 HP
      go_wp2
      go_roundw
      case rel => exact ⟨1, v2, u2, _, _, _, by omega, by go_num, HB3.out, HG3.out, (by omega), fun _ => ⟨by omega, rfl, rfl⟩, (by omega)⟩
      case measure => simp [intOf]
    · obtain ⟨rfl, rfl, rfl⟩ := h1 rfl
      have c0 : wr.cell? ⟨w.heap.size, 1, none⟩ = some (.slice A2 rs2.length c2) := (cl 1).trans rfl
      have HP := hide (FZ.putRows2 wl.heap.size wl.heap.size v u _ _ 1 _ A2 rs2.length c2 (rs2.map KR.s) wr HG2.out (HR2.out.below HB2.out) (by have := HH.out; omega) (by omega) (Nat.le_trans HS.out HB2.out.size))
      clear cl h0 h1 h2 HG2
      go_wp2_with fail
      refine HP.out.mono ?_
      rintro e w2 ⟨rfl, hb2, v2, u2, hg2⟩
      have HB3 := hide (HB2.out.trans hb2)
      have HG3 := hide hg2
      clear hb2 hg2 c0 HP
      go_wp2
      go_roundw
      case rel => exact ⟨2, v2, u2, _, _, _, by omega, by go_num, HB3.out, HG3.out, (by omega), (by omega), fun _ => ⟨rfl, rfl, rfl⟩⟩
      case measure => simp [intOf]
    · obtain ⟨rfl, rfl, rfl⟩ := h2 rfl
      clear cl h0 h1 h2
      have HALL : Hid (Calls Tryz.prog 49 #[.pointer (some ⟨wl.heap.size, 0, none⟩)] wr fun e w' => e = .returned (.bool true) ∧ Below B1 w w') := by
        obtain ⟨hzl, hzb⟩ := HZ.out
        obtain ⟨hl1, hl2, hw, hB⟩ := HH.out
        have hg3 := HG2.out
        have HB3 := HB2
        have hrb := hg3.rb
        have hrr := hg3.rr
        have hblk := hg3.blk
        have hrows : (rs1.map KR.s).map SL.v ++ (rs2.map KR.s).map SL.v = (List.range (rs1 ++ rs2).length).map (rowV (kA (rs1 ++ rs2)) (kN (rs1 ++ rs2)) (kC (rs1 ++ rs2))) := by
          rw [kRows, List.map_append, List.map_map, List.map_map]
          rfl
        rw [hrows, show rs1.length + rs2.length = (rs1 ++ rs2).length by simp] at hrb
        have hkp : ∀ F : Nat → Prop, (∀ g, F g → g < wl.heap.size) → Kept F wb wr := fun F hF => ⟨HB3.out.os, HB3.out.tape, HB3.out.output, HB3.out.size, fun k _ hk => HB3.out.block k (hF k hk)⟩
        have ht1 := HT1.out.kept (hkp (fun g => g < wl.heap.size) (fun _ h => h)) (fun g hg => by have := HK1.out.1 g hg; show g < _; omega) (fun r hr => by have := HK1.out.2 r hr; show r.g < _; omega)
        have ht2 := HT2.out.kept (hkp (fun g => g < wl.heap.size) (fun _ h => h)) (fun g hg => by have := HK2.out.1 g hg; show g < _; omega) (fun r hr => by have := HK2.out.2 r hr; show r.g < _; omega)
        obtain ⟨rs, hrs⟩ : ∃ rs, rs = rs1 ++ rs2 := ⟨_, rfl⟩
        rw [← hrs] at hrb
        have hat : ∀ r ∈ rs, r.At wr ∧ B1 ≤ r.g ∧ r.g < w.heap.size := fun r hr => by
          rw [hrs] at hr
          rcases List.mem_append.1 hr with h | h
          · exact ⟨(ht1.each r h).1, (ht1.each r h).2, HK1.out.2 r h⟩
          · exact ⟨(ht2.each r h).1, Nat.le_trans hB (ht2.each r h).2, HK2.out.2 r h⟩
        have hsep : ∀ (i j : Nat) (r s : KR), rs[i]? = some r → rs[j]? = some s → i ≠ j → r.g ≠ s.g := fun i j r s hr hs hij => by
          rw [hrs, List.getElem?_append] at hr hs
          split at hr <;> split at hs
          · exact ht1.sep i j r s hr hs hij
          · have a1 := HLO.out.2 r (List.mem_of_getElem? hr)
            have a2 := (ht2.each s (List.mem_of_getElem? hs)).2
            omega
          · have a1 := HLO.out.2 s (List.mem_of_getElem? hs)
            have a2 := (ht2.each r (List.mem_of_getElem? hr)).2
            omega
          · exact ht2.sep _ _ r s hr hs (by omega)
        have hrl : rs.length ≤ 80 := by rw [hrs, List.length_append]; omega
        have hrow : ∀ i, i < rs.length → ∃ r, rs[i]? = some r ∧ r ∈ rs := fun i hi => ⟨rs[i], List.getElem?_eq_getElem hi, List.getElem_mem hi⟩
        have hkn : ∀ i, kN rs i ≤ 1000000 := fun i => by
          unfold kN
          cases h : rs[i]? with
          | none => simp
          | some r => have := HL2.out r (by rw [← hrs]; exact List.mem_of_getElem? h); simpa using this
        have hSp : Sep rs.length (rowV (kA rs) (kN rs) (kC rs)) := fun i j hi hj hij g hg hg2 => by
          obtain ⟨r, hr, _⟩ := hrow i hi
          obtain ⟨s, hs, _⟩ := hrow j hj
          rw [(kRow hr).1] at hg
          rw [(kRow hs).1] at hg2
          simp only [KR.sl, Value.ownBlock, Option.some.injEq] at hg hg2
          exact hsep i j r s hr hs hij (hg.trans hg2.symm)
        have hown : ∀ g, (∀ r ∈ rs, r.g ≠ g) → Own rs.length (kA rs) (kN rs) (kC rs) g := fun g hg i hi hc => by
          obtain ⟨r, hr, hm⟩ := hrow i hi
          rw [(kRow hr).1] at hc
          simp only [KR.sl, Value.ownBlock, Option.some.injEq] at hc
          exact hg r hm hc
        have hoff : ∀ {e : TypeId} {v : Value} {n : Nat} {xs : List Value}, wr.ownsRow 0 e 1 v n xs → e ≠ 5 → ∀ g, v.ownBlock = some g → Own rs.length (kA rs) (kN rs) (kC rs) g := fun {e v n xs} h he g hg => hown g (fun r hr hc => by
          subst hc
          exact (hat r hr).1.ne (FZ.of_owns h) he hg)
        have hfb : ∀ W, Below wr.heap.size wr W → Calls Tryz.prog 75 #[v] W fun e w' => e = .returned (.bool true) ∧ Kept (Own rs.length (kA rs) (kN rs) (kC rs)) W w' := fun W hW => by
          have hrbW := owns_kept_below hrb hW
          rcases owns_slice hrbW with ⟨A3, c3, rfl, _⟩
          rcases hrbW.2 with ⟨h0, h00⟩ | ⟨g, cap, cur, hv, _⟩
          · rw [h0]
            exact (flat43_nil W).mono (fun e w' ⟨h1, h2⟩ => ⟨h1, ⟨h2.os, h2.tape, h2.output, h2.size, fun k hk _ => h2.block k hk⟩⟩)
          · injection hv with hv1 hv2 hv
            subst hv1
            refine FZ.flatBytes_frz g c3 rs.length (kA rs) (kN rs) (kC rs) W (FZ.of_owns hrbW) (fun i hi => ?_) hSp hkn (by omega)
            obtain ⟨r, hr, hm⟩ := hrow i hi
            rw [(kRow hr).1, (kRow hr).2]
            exact ⟨_, ((hat r hm).1.below hW).frow⟩
        have hfr : ∀ W, Kept (Own rs.length (kA rs) (kN rs) (kC rs)) wr W → Calls Tryz.prog 77 #[u] W fun e w' => e = .returned (.bool true) ∧ Kept (Own 2 (duo A1 A2) (duo rs1.length rs2.length) (duo c1 c2)) W w' := fun W hW => by
          have hrrW := owns_kept hrr hW (hoff hrr (by decide))
          have hw1 := owns_kept ht1.row hW (hoff ht1.row (by decide))
          have hw2 := owns_kept ht2.row hW (hoff ht2.row (by decide))
          obtain ⟨g, cap, rfl⟩ := owns_some hrrW (by omega)
          refine FZ.flatRows_any g cap 2 (duo A1 A2) (duo rs1.length rs2.length) (duo c1 c2) W (FZ.of_owns hrrW) (fun i hi => ?_) (fun i j hi hj hij q hq => ?_) (fun i => by unfold duo; split <;> omega) (by decide)
          · have hi2 : i = 0 ∨ i = 1 := by omega
            rcases hi2 with rfl | rfl
            · exact ⟨_, FZ.of_owns hw1⟩
            · exact ⟨_, FZ.of_owns hw2⟩
          · have hi2 : i = 0 ∧ j = 1 ∨ i = 1 ∧ j = 0 := by omega
            rcases hi2 with ⟨rfl, rfl⟩ | ⟨rfl, rfl⟩
            · intro hc
              have a1 := HLO.out.1 q hq
              have a2 := ht2.low q hc
              omega
            · intro hc
              have a1 := HLO.out.1 q hc
              have a2 := ht2.low q hq
              omega
        have hfin : ∀ W w4, Kept (Own rs.length (kA rs) (kN rs) (kC rs)) wr W → Kept (Own 2 (duo A1 A2) (duo rs1.length rs2.length) (duo c1 c2)) W w4 → Below B1 w w4 := fun W w4 hA hC => by
          have b1 := (HWB.out.mono hw).trans (HB3.out.mono (by omega))
          have b2 := b1.trans (hA.to_below (fun g hg => hown g (fun r hr hc => by have := (hat r hr).2.1; omega)) (Nat.le_trans hw b1.size))
          refine b2.trans (hC.to_below (fun g hg i hi hc => ?_) (Nat.le_trans hw b2.size))
          have hi2 : i = 0 ∨ i = 1 := by omega
          rcases hi2 with rfl | rfl
          · have := ht1.low g hc; omega
          · have := ht2.low g hc; omega
        have hFB : Own rs.length (kA rs) (kN rs) (kC rs) wl.heap.size := hown _ (fun r hr hc => by have := (hat r hr).2.2; omega)
        have hFR : Own 2 (duo A1 A2) (duo rs1.length rs2.length) (duo c1 c2) wl.heap.size := fun i hi hc => by
          have hi2 : i = 0 ∨ i = 1 := by omega
          rcases hi2 with rfl | rfl
          · have := HK1.out.1 _ hc; omega
          · have := HK2.out.1 _ hc; omega
        refine (FZ.bagApart2 wl.heap.size v u _ _ wr hblk hFB hFR hfb hfr).mono ?_
        rintro e w4 ⟨h1, W, hA, hC⟩
        exact ⟨h1, hfin W w4 hA hC⟩
      clear HG2 HT1 HT2 HR1 HR2 HK1 HK2 HLO HL2
      go_wp2_with fail
      refine HALL.out.mono ?_
      rintro e w4 ⟨rfl, hfin⟩
      go_wp2_with fail
      go_ret
      exact ⟨rfl, hfin⟩
end Go.Proofs.YtolodcdhpnapmaaGreat
