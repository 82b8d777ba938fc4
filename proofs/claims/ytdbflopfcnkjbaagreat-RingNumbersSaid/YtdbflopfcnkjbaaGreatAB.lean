/-
  Lists of bytes that lie apart are found to lie apart, however many they are.
-/
import Derived.Test.YtdbflopfcnkjbaaGreatD1
import Derived.Test.YtdbflopfcnkjbaaGreatOV
namespace Go.Proofs.YtdbflopfcnkjbaaGreat
open Go.RowKit
set_option linter.unusedVariables false

set_option maxRecDepth 100000 in
set_option maxHeartbeats 4000000 in
theorem bagApart_nil (b : Nat) (w : World) (hO : w.heap[b]? = some (.cells (bagCells (.slice none 0 0)) 89 (0, 0))) :
    Calls Tryz.prog 31 #[.pointer (some ⟨b, 0, none⟩)] w fun e w' => e = .returned (.bool true) ∧ Kept (fun _ => True) w w' := by
  have hF : True := trivial
  have HF := hide hF
  have HO := hide hO
  have HB0 := hide (Below.refl w.heap.size w)
  have HK0 := hide (Kept.refl (fun _ => True) w)
  have c0 : w.cell? ⟨b, 0, none⟩ = some (.slice none 0 0) := kept_cell HK0.out HO.out HF.out rfl
  clear hO
  go_enter Tryz.func31, Tryz.ntmps31
  go_wp2_with (first
    | (go_at_call 39; refine (flat38_nil _).mono ?_; rintro e w1 ⟨rfl, hb1⟩; have HB1 := hide (HB0.out.trans (hb1.mono HB0.out.size)); have HK1 := hide (HK0.out.later hb1); clear hb1 HB0 c0; have c1 : w1.cell? ⟨b, 1, none⟩ = some (Value.slice none 0 0) := kept_cell HK1.out HO.out HF.out rfl)
    | (go_at_call 40; refine (flat39_nil _).mono ?_; rintro e w2 ⟨rfl, hb2⟩; have HB2 := hide (HB1.out.trans (hb2.mono HB1.out.size)); have HK2 := hide (HK1.out.later hb2); clear hb2 HB1 c1; have c2 : w2.cell? ⟨b, 2, none⟩ = some (Value.slice none 0 0) := kept_cell HK2.out HO.out HF.out rfl)
    | (go_at_call 41; refine (flat40_nil _).mono ?_; rintro e w3 ⟨rfl, hb3⟩; have HB3 := hide (HB2.out.trans (hb3.mono HB2.out.size)); have HK3 := hide (HK2.out.later hb3); clear hb3 HB2 c2; have c3 : w3.cell? ⟨b, 3, none⟩ = some (Value.slice none 0 0) := kept_cell HK3.out HO.out HF.out rfl)
    | (go_at_call 42; refine (flat41_nil _).mono ?_; rintro e w4 ⟨rfl, hb4⟩; have HB4 := hide (HB3.out.trans (hb4.mono HB3.out.size)); have HK4 := hide (HK3.out.later hb4); clear hb4 HB3 c3; have c4 : w4.cell? ⟨b, 4, none⟩ = some (Value.slice none 0 0) := kept_cell HK4.out HO.out HF.out rfl)
    | (go_at_call 43; refine (flat42_nil _).mono ?_; rintro e w5 ⟨rfl, hb5⟩; have HB5 := hide (HB4.out.trans (hb5.mono HB4.out.size)); have HK5 := hide (HK4.out.later hb5); clear hb5 HB4 c4; have c5 : w5.cell? ⟨b, 5, none⟩ = some (Value.slice none 0 0) := kept_cell HK5.out HO.out HF.out rfl)
    | (go_at_call 44; refine (flat43_nil _).mono ?_; rintro e w6 ⟨rfl, hb6⟩; have HK6 := hide (HK5.out.later hb6); clear hb6 HB5 c5; have c6 : w6.cell? ⟨b, 6, none⟩ = some (Value.slice none 0 0) := kept_cell HK6.out HO.out HF.out rfl)
    | (go_at_call 45; refine (flat44_nil _).mono ?_; rintro e w7 ⟨rfl, hb7⟩; have HK7 := hide (HK6.out.later hb7); clear hb7 c6; have c7 : w7.cell? ⟨b, 7, none⟩ = some (Value.slice none 0 0) := kept_cell HK7.out HO.out HF.out rfl)
    | (go_at_call 46; refine (flat45_nil _).mono ?_; rintro e w8 ⟨rfl, hb8⟩; have HK8 := hide (HK7.out.later hb8); clear hb8 c7; have c8 : w8.cell? ⟨b, 8, none⟩ = some (Value.slice none 0 0) := kept_cell HK8.out HO.out HF.out rfl)
    | (go_at_call 47; refine (flat46_nil _).mono ?_; rintro e w9 ⟨rfl, hb9⟩; have HK9 := hide (HK8.out.later hb9); clear hb9 c8; have c9 : w9.cell? ⟨b, 9, none⟩ = some (Value.slice none 0 0) := kept_cell HK9.out HO.out HF.out rfl)
    | (go_at_call 48; refine (flat47_nil _).mono ?_; rintro e w10 ⟨rfl, hb10⟩; have HK10 := hide (HK9.out.later hb10); clear hb10 c9; have c10 : w10.cell? ⟨b, 10, none⟩ = some (Value.slice none 0 0) := kept_cell HK10.out HO.out HF.out rfl)
    | (go_at_call 49; refine (flat48_nil _).mono ?_; rintro e w11 ⟨rfl, hb11⟩; have HK11 := hide (HK10.out.later hb11); clear hb11 c10; have c11 : w11.cell? ⟨b, 11, none⟩ = some (Value.slice none 0 0) := kept_cell HK11.out HO.out HF.out rfl)
    | (go_at_call 50; refine (flat49_nil _).mono ?_; rintro e w12 ⟨rfl, hb12⟩; have HK12 := hide (HK11.out.later hb12); clear hb12 c11; have c12 : w12.cell? ⟨b, 12, none⟩ = some (Value.slice none 0 0) := kept_cell HK12.out HO.out HF.out rfl)
    | (go_at_call 51; refine (flat50_nil _).mono ?_; rintro e w13 ⟨rfl, hb13⟩; have HK13 := hide (HK12.out.later hb13); clear hb13 c12; have c13 : w13.cell? ⟨b, 13, none⟩ = some (Value.slice none 0 0) := kept_cell HK13.out HO.out HF.out rfl)
    | (go_at_call 52; refine (flat51_nil _).mono ?_; rintro e w14 ⟨rfl, hb14⟩; have HK14 := hide (HK13.out.later hb14); clear hb14 c13; have c14 : w14.cell? ⟨b, 14, none⟩ = some (Value.slice none 0 0) := kept_cell HK14.out HO.out HF.out rfl)
    | (go_at_call 53; refine (flat52_nil _).mono ?_; rintro e w15 ⟨rfl, hb15⟩; have HK15 := hide (HK14.out.later hb15); clear hb15 c14; have c15 : w15.cell? ⟨b, 15, none⟩ = some (Value.slice none 0 0) := kept_cell HK15.out HO.out HF.out rfl)
    | (go_at_call 54; refine (flat53_nil _).mono ?_; rintro e w16 ⟨rfl, hb16⟩; have HK16 := hide (HK15.out.later hb16); clear hb16 c15; have c16 : w16.cell? ⟨b, 16, none⟩ = some (Value.slice none 0 0) := kept_cell HK16.out HO.out HF.out rfl)
    | (go_at_call 55; refine (flat54_nil _).mono ?_; rintro e w17 ⟨rfl, hb17⟩; have HK17 := hide (HK16.out.later hb17); clear hb17 c16; have c17 : w17.cell? ⟨b, 17, none⟩ = some (Value.slice none 0 0) := kept_cell HK17.out HO.out HF.out rfl)
    | (go_at_call 56; refine (flat55_nil _).mono ?_; rintro e w18 ⟨rfl, hb18⟩; have HK18 := hide (HK17.out.later hb18); clear hb18 c17; have c18 : w18.cell? ⟨b, 18, none⟩ = some (Value.slice none 0 0) := kept_cell HK18.out HO.out HF.out rfl)
    | (go_at_call 57; refine (flat56_nil _).mono ?_; rintro e w19 ⟨rfl, hb19⟩; have HK19 := hide (HK18.out.later hb19); clear hb19 c18; have c19 : w19.cell? ⟨b, 19, none⟩ = some (Value.slice none 0 0) := kept_cell HK19.out HO.out HF.out rfl)
    | (go_at_call 58; refine (flat57_nil _).mono ?_; rintro e w20 ⟨rfl, hb20⟩; have HK20 := hide (HK19.out.later hb20); clear hb20 c19; have c20 : w20.cell? ⟨b, 20, none⟩ = some (Value.slice none 0 0) := kept_cell HK20.out HO.out HF.out rfl)
    | (go_at_call 59; refine (flat58_nil _).mono ?_; rintro e w21 ⟨rfl, hb21⟩; have HK21 := hide (HK20.out.later hb21); clear hb21 c20; have c21 : w21.cell? ⟨b, 21, none⟩ = some (Value.slice none 0 0) := kept_cell HK21.out HO.out HF.out rfl)
    | (go_at_call 60; refine (flat59_nil _).mono ?_; rintro e w22 ⟨rfl, hb22⟩; have HK22 := hide (HK21.out.later hb22); clear hb22 c21; have c22 : w22.cell? ⟨b, 22, none⟩ = some (Value.slice none 0 0) := kept_cell HK22.out HO.out HF.out rfl)
    | (go_at_call 61; refine (flat60_nil _).mono ?_; rintro e w23 ⟨rfl, hb23⟩; have HK23 := hide (HK22.out.later hb23); clear hb23 c22; have c23 : w23.cell? ⟨b, 23, none⟩ = some (Value.slice none 0 0) := kept_cell HK23.out HO.out HF.out rfl)
    | (go_at_call 62; refine (flat61_nil _).mono ?_; rintro e w24 ⟨rfl, hb24⟩; have HK24 := hide (HK23.out.later hb24); clear hb24 c23))
  go_ret
  exact ⟨rfl, HK24.out⟩
/-- A list of rows of bytes. -/
def rowsV (A : Nat → Option Addr) (n c : Nat → Nat) (k : Nat) : List Value := (List.range k).map (rowV A n c)
theorem rowsV_next (A : Nat → Option Addr) (n c : Nat → Nat) (k : Nat) : rowsV A n c k ++ [.slice (A k) (n k) (c k)] = rowsV A n c (k + 1) := by
  unfold rowsV
  rw [List.range_succ, List.map_append]
  rfl
set_option maxRecDepth 100000 in
set_option maxHeartbeats 2000000 in
theorem apartBytes_any (tv : Value) (m : Nat) (A : Nat → Option Addr) (n c : Nat → Nat) (w : World) (hL : w.ownsRow 0 27 1 tv m (rowsV A n c m)) (hv : ∀ i, i < m → ∃ xs, w.ownsRow 0 5 1 (rowV A n c i) (n i) xs) (hs : Sep m (rowV A n c)) (hn : ∀ i, n i ≤ 1000000) (hm : m ≤ 400) :
    Calls Tryz.prog 20 #[tv] w fun e w' => e = .returned (.bool true) ∧ Kept (Own m A n c) w w' := by
  obtain ⟨TA, tc, rfl, hrd⟩ := owns_slice hL
  have HL := hide hL
  have HV := hide hv
  have HS := hide hs
  have HN := hide hn
  obtain ⟨w1, hw1⟩ : ∃ w1, w1 = w.alloc (.cells (bagCells (.slice none 0 0)) 89) := ⟨_, rfl⟩
  have ha : Below w.heap.size w w1 := by rw [hw1]; exact (Below.refl _ w).alloc (Nat.le_refl _) _
  have hbag : Bag w1 w.heap.size (.slice none 0 0) 0 [] := by rw [hw1]; exact ⟨World.alloc_heap_new w _, rfl, .inl ⟨rfl, rfl⟩⟩
  have HA := hide ha
  have HG := hide hbag
  have HW := hide hw1
  have HRD := hide hrd
  clear hL hv hs hn ha hbag hw1 hrd
  go_enter Tryz.func20, Tryz.ntmps20
  go_wp2
  rw [show w.alloc (.cells #[.slice none 0 0, .slice none 0 0, .slice none 0 0, .slice none 0 0, .slice none 0 0, .slice none 0 0, .slice none 0 0, .slice none 0 0, .slice none 0 0, .slice none 0 0, .slice none 0 0, .slice none 0 0, .slice none 0 0, .slice none 0 0, .slice none 0 0, .slice none 0 0, .slice none 0 0, .slice none 0 0, .slice none 0 0, .slice none 0 0, .slice none 0 0, .slice none 0 0, .slice none 0 0, .slice none 0 0] 89) = w1 from HW.out.symm]
  clear HW
  go_loopw [4] (fun u wr => ∃ (k : Nat) (v : Value), k ≤ m ∧ u = .int .i64 k ∧ Bag wr w.heap.size v k (rowsV A n c k) ∧ (∀ g, v.ownBlock = some g → w.heap.size ≤ g) ∧ Below w.heap.size w wr ∧ (k = 0 → v = .slice none 0 0)) (fun u _ => m - (intOf u).toNat)
  case atStart => exact ⟨0, _, Nat.zero_le _, rfl, HG.out, nofun, HA.out, fun _ => rfl⟩
  case round =>
    obtain ⟨k, v, hk, rfl, hbg, hvl, hbl, hv0⟩ := hrel
    have HV0 := hide hv0
    clear hv0
    have HBG := hide hbg
    have HVL := hide hvl
    have HBL := hide hbl
    clear hbg hvl hbl HG HA
    by_cases hkm : k < m
    · obtain ⟨ad, rfl, _, hc⟩ := (HRD.out.below HBL.out).2 (by omega)
      have ck := hc k (.slice (A k) (n k) (c k)) (by unfold rowsV; rw [List.getElem?_map, List.getElem?_range hkm]; rfl)
      clear hc
      go_wp2_with fail
      refine (putBytes_any w.heap.size v k (A k) (n k) (c k) _ wr HBG.out (by omega)).mono ?_
      rintro e w3 ⟨rfl, v', hg3, hk3, hv3⟩
      rw [rowsV_next] at hg3
      have hb3 : Below w.heap.size wr w3 := hk3.to_below (fun g hg => ⟨by omega, fun e => by have := HVL.out g e; omega⟩) HBL.out.size
      have HG3 := hide hg3
      have HB3 := hide (HBL.out.trans hb3)
      have HV3 : Hid (∀ g, v'.ownBlock = some g → w.heap.size ≤ g) := fun g hg => (hv3 g hg).elim (fun h => HVL.out g h) (fun h => Nat.le_trans HBL.out.size h)
      clear hg3 hk3 hv3 hb3 ck
      go_wp2
      go_roundw
      case rel => exact ⟨k + 1, v', by omega, by go_num, HG3.out, HV3.out, HB3.out, fun h => by omega⟩
      case measure => simp [intOf]; omega
    · have hkm2 : k = m := by omega
      subst hkm2
      clear hkm hk
      rcases Nat.eq_zero_or_pos k with h0 | h0
      · subst h0
        obtain rfl := HV0.out rfl
        have HAP := hide (bagApart_nil w.heap.size wr HBG.out.1)
        go_wp2_with (go_at_call 31; refine HAP.out.mono ?_; rintro e w4 ⟨rfl, hk4⟩; have HK4 := hide hk4; clear hk4)
        go_ret
        exact ⟨rfl, keptTrans ((Kept.refl _ _).later HBL.out) (HK4.out.mono (fun _ _ => trivial))⟩
      · obtain ⟨L, cL, rfl⟩ := owns_some HBG.out.2 h0
        have HAP := hide (bagApart_any w.heap.size L cL k A n c wr HBG.out.1 HBG.out.2 (fun i hi => (HV.out i hi).imp fun xs h => owns_kept_below h HBL.out) HS.out HN.out hm)
        go_wp2_with (go_at_call 31; refine HAP.out.mono ?_; rintro e w4 ⟨rfl, hk4⟩; have HK4 := hide hk4; clear hk4)
        go_ret
        exact ⟨rfl, keptTrans ((Kept.refl _ _).later HBL.out) HK4.out⟩
end Go.Proofs.YtdbflopfcnkjbaaGreat
