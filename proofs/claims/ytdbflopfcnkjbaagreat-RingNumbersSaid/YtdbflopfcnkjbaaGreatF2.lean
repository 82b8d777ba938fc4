/-
  A bag that holds lists of bytes alone is found apart.
-/
import Derived.Test.YtdbflopfcnkjbaaGreatF1
namespace Go.Proofs.YtdbflopfcnkjbaaGreat
open Go.RowKit
set_option linter.unusedVariables false

def bagCells (v : Value) : Array Value := #[.slice none 0 0, .slice none 0 0, .slice none 0 0, .slice none 0 0, .slice none 0 0, v, .slice none 0 0, .slice none 0 0, .slice none 0 0, .slice none 0 0, .slice none 0 0, .slice none 0 0, .slice none 0 0, .slice none 0 0, .slice none 0 0, .slice none 0 0, .slice none 0 0, .slice none 0 0, .slice none 0 0, .slice none 0 0, .slice none 0 0, .slice none 0 0, .slice none 0 0, .slice none 0 0]
theorem kept_cell {F : Nat → Prop} {w w' : World} {b i : Nat} {cs : Array Value} {t : TypeId} {u : Value} (h : Kept F w w') (hO : w.heap[b]? = some (.cells cs t (0, 0))) (hF : F b) (hu : cs[i]? = some u) : w'.cell? ⟨b, i, none⟩ = some u := by
  have hlt : b < w.heap.size := (Array.getElem?_eq_some_iff.1 hO).1
  rw [World.cell?_of_block (w := w) (h.block b hlt hF), blk_cell hO i]
  exact hu
theorem kept_trans {F : Nat → Prop} {a b c : World} (h : Kept F a b) (k : Kept F b c) : Kept F a c :=
  ⟨k.os.trans h.os, k.tape.trans h.tape, k.output.trans h.output, Nat.le_trans h.size k.size, fun i hi hF => (k.block i (Nat.lt_of_lt_of_le hi h.size) hF).trans (h.block i hi hF)⟩
set_option maxRecDepth 100000 in
set_option maxHeartbeats 4000000 in
theorem bagApart_any (b L cL m : Nat) (A : Nat → Option Addr) (n c : Nat → Nat) (w : World) (hO : w.heap[b]? = some (.cells (bagCells (.slice (some ⟨L, 0, none⟩) m cL)) 89 (0, 0))) (hL : Lst w 27 L cL m A n c) (hv : ∀ i, i < m → ∃ xs, w.ownsRow 0 5 1 (rowV A n c i) (n i) xs) (hs : Sep m (rowV A n c))
    (hn : ∀ i, n i ≤ 1000000) (hm : m ≤ 400) :
    Calls Tryz.prog 31 #[.pointer (some ⟨b, 0, none⟩)] w fun e w' => e = .returned (.bool true) ∧ Kept (Own m A n c) w w' := by
  have hF : Own m A n c b := fun i hi e => by
    obtain ⟨xs, h⟩ := hv i hi
    rcases h.2 with ⟨h0, _⟩ | ⟨g, cap, cur, h0, _, hg, _⟩
    · rw [h0] at e; cases e
    · rw [h0] at e
      simp only [Value.ownBlock, Option.some.injEq] at e
      subst e
      rw [hO] at hg
      injection hg with hg
      injection hg with _ h1
      cases h1
  have HF := hide hF
  have HO := hide hO
  have HL : Hid (Lst w 27 L cL m A n c) := hL
  have HV := hide hv
  have HS := hide hs
  have HN := hide hn
  have HB0 := hide (Below.refl w.heap.size w)
  have HK0 := hide (Kept.refl (Own m A n c) w)
  have c0 : w.cell? ⟨b, 0, none⟩ = some (.slice none 0 0) := kept_cell HK0.out HO.out HF.out rfl
  clear hF hO hL hv hs hn
  go_enter Tryz.func31, Tryz.ntmps31
  go_wp2_with (first
    | (go_at_call 39; refine (flat38_nil _).mono ?_; rintro e w1 ⟨rfl, hb1⟩; have HB1 := hide (HB0.out.trans (hb1.mono HB0.out.size)); have HK1 := hide (HK0.out.later hb1); clear hb1 HB0 c0; have c1 : w1.cell? ⟨b, 1, none⟩ = some (Value.slice none 0 0) := kept_cell HK1.out HO.out HF.out rfl)
    | (go_at_call 40; refine (flat39_nil _).mono ?_; rintro e w2 ⟨rfl, hb2⟩; have HB2 := hide (HB1.out.trans (hb2.mono HB1.out.size)); have HK2 := hide (HK1.out.later hb2); clear hb2 HB1 c1; have c2 : w2.cell? ⟨b, 2, none⟩ = some (Value.slice none 0 0) := kept_cell HK2.out HO.out HF.out rfl)
    | (go_at_call 41; refine (flat40_nil _).mono ?_; rintro e w3 ⟨rfl, hb3⟩; have HB3 := hide (HB2.out.trans (hb3.mono HB2.out.size)); have HK3 := hide (HK2.out.later hb3); clear hb3 HB2 c2; have c3 : w3.cell? ⟨b, 3, none⟩ = some (Value.slice none 0 0) := kept_cell HK3.out HO.out HF.out rfl)
    | (go_at_call 42; refine (flat41_nil _).mono ?_; rintro e w4 ⟨rfl, hb4⟩; have HB4 := hide (HB3.out.trans (hb4.mono HB3.out.size)); have HK4 := hide (HK3.out.later hb4); clear hb4 HB3 c3; have c4 : w4.cell? ⟨b, 4, none⟩ = some (Value.slice none 0 0) := kept_cell HK4.out HO.out HF.out rfl)
    | (go_at_call 43; refine (flat42_nil _).mono ?_; rintro e w5 ⟨rfl, hb5⟩; have HB5 := hide (HB4.out.trans (hb5.mono HB4.out.size)); have HK5 := hide (HK4.out.later hb5); clear hb5 HB4 c4; have c5 : w5.cell? ⟨b, 5, none⟩ = some (Value.slice (some ⟨L, 0, none⟩) m cL) := kept_cell HK5.out HO.out HF.out rfl)
    | (go_at_call 44; refine (flatBytes_any L cL m A n c _ (owns_kept_below HL.out HB5.out) (fun i hi => (HV.out i hi).imp fun xs h => owns_kept_below h HB5.out) HS.out HN.out hm).mono ?_; rintro e w6 ⟨rfl, hb6⟩; have HK6 := hide (kept_trans HK5.out hb6); clear hb6 HB5 c5; have c6 : w6.cell? ⟨b, 6, none⟩ = some (Value.slice none 0 0) := kept_cell HK6.out HO.out HF.out rfl)
    | (go_at_call 45; refine (flat44_nil _).mono ?_; rintro e w7 ⟨rfl, hb7⟩; have HK7 := hide (HK6.out.later hb7); clear hb7 c6; have c7 : w7.cell? ⟨b, 7, none⟩ = some (Value.slice none 0 0) := kept_cell HK7.out HO.out HF.out rfl)
    | (go_at_call 46; refine (flat45_nil _).mono ?_; rintro e w8 ⟨rfl, hb8⟩; have HK8 := hide (HK7.out.later hb8); clear hb8 c7; have c8 : w8.cell? ⟨b, 8, none⟩ = some (Value.slice none 0 0) := kept_cell HK8.out HO.out HF.out rfl)
    | (go_at_call 47; refine (flat46_nil _).mono ?_; rintro e w9 ⟨rfl, hb9⟩; have HK9 := hide (HK8.out.later hb9); clear hb9 c8; have c9 : w9.cell? ⟨b, 9, none⟩ = some (Value.slice none 0 0) := kept_cell HK9.out HO.out HF.out rfl)
    | (go_at_call 48; refine (flat47_nil _).mono ?_; rintro e w10 ⟨rfl, hb10⟩; have HK10 := hide (HK9.out.later hb10); clear hb10 c9; have c10 : w10.cell? ⟨b, 10, none⟩ = some (Value.slice none 0 0) := kept_cell HK10.out HO.out HF.out rfl)
    | (go_at_call 49; refine (flat48_nil _).mono ?_; rintro e w11 ⟨rfl, hb11⟩; have HK11 := hide (HK10.out.later hb11); clear hb11 c10; have c11 : w11.cell? ⟨b, 11, none⟩ = some (Value.slice none 0 0) := kept_cell HK11.out HO.out HF.out rfl)
    | (go_at_call 50; refine (flat49_nil _).mono ?_; rintro e w12 ⟨rfl, hb12⟩; have HK12 := hide (HK11.out.later hb12); clear hb12 c11; have c12 : w12.cell? ⟨b, 12, none⟩ = some (Value.slice none 0 0) := kept_cell HK12.out HO.out HF.out rfl)
    | (go_at_call 51; refine (flat50_nil _).mono ?_; rintro e w13 ⟨rfl, hb13⟩; have HK13 := hide (HK12.out.later hb13); clear hb13 c12; have c13 : w13.cell? ⟨b, 13, none⟩ = some (Value.slice none 0 0) := kept_cell HK13.out HO.out HF.out rfl)
    | (go_at_call 52; refine (flat51_nil _).mono ?_; rintro e w14 ⟨rfl, hb14⟩; have HK14 := hide (HK13.out.later hb14); clear hb14 c13; have c14 : w14.cell? ⟨b, 14, none⟩ = some (Value.slice none 0 0) := kept_cell HK14.out HO.out HF.out rfl)
    | (go_at_call 53; refine (flat52_nil _).mono ?_; rintro e w15 ⟨rfl, hb15⟩; have HK15 := hide (HK14.out.later hb15); clear hb15 c14; have c15 : w15.cell? ⟨b, 15, none⟩ = some (Value.slice none 0 0) := kept_cell HK15.out HO.out HF.out rfl)
    | (go_at_call 54; refine (flat53_nil _).mono ?_; rintro e w16 ⟨rfl, hb16⟩; have HK16 := hide (HK15.out.later hb16); clear hb16 c15; have c16 : w16.cell? ⟨b, 16, none⟩ = some (Value.slice none 0 0) := kept_cell HK16.out HO.out HF.out rfl)
    | (go_at_call 55; refine (flat54_nil _).mono ?_; rintro e w17 ⟨rfl, hb17⟩; have HK17 := hide (HK16.out.later hb17); clear hb17 c16; have c17 : w17.cell? ⟨b, 17, none⟩ = some (Value.slice none 0 0) := kept_cell HK17.out HO.out HF.out rfl)
    | (go_at_call 56; refine (flat55_nil _).mono ?_; rintro e w18 ⟨rfl, hb18⟩; have HK18 := hide (HK17.out.later hb18); clear hb18 c17; have c18 : w18.cell? ⟨b, 18, none⟩ = some (Value.slice none 0 0) := kept_cell HK18.out HO.out HF.out rfl)
    | (go_at_call 57; refine (flat56_nil _).mono ?_; rintro e w19 ⟨rfl, hb19⟩; have HK19 := hide (HK18.out.later hb19); clear hb19 c18; have c19 : w19.cell? ⟨b, 19, none⟩ = some (Value.slice none 0 0) := kept_cell HK19.out HO.out HF.out rfl)
    | (go_at_call 58; refine (flat57_nil _).mono ?_; rintro e w20 ⟨rfl, hb20⟩; have HK20 := hide (HK19.out.later hb20); clear hb20 c19; have c20 : w20.cell? ⟨b, 20, none⟩ = some (Value.slice none 0 0) := kept_cell HK20.out HO.out HF.out rfl)
    | (go_at_call 59; refine (flat58_nil _).mono ?_; rintro e w21 ⟨rfl, hb21⟩; have HK21 := hide (HK20.out.later hb21); clear hb21 c20; have c21 : w21.cell? ⟨b, 21, none⟩ = some (Value.slice none 0 0) := kept_cell HK21.out HO.out HF.out rfl)
    | (go_at_call 60; refine (flat59_nil _).mono ?_; rintro e w22 ⟨rfl, hb22⟩; have HK22 := hide (HK21.out.later hb22); clear hb22 c21; have c22 : w22.cell? ⟨b, 22, none⟩ = some (Value.slice none 0 0) := kept_cell HK22.out HO.out HF.out rfl)
    | (go_at_call 61; refine (flat60_nil _).mono ?_; rintro e w23 ⟨rfl, hb23⟩; have HK23 := hide (HK22.out.later hb23); clear hb23 c22; have c23 : w23.cell? ⟨b, 23, none⟩ = some (Value.slice none 0 0) := kept_cell HK23.out HO.out HF.out rfl)
    | (go_at_call 62; refine (flat61_nil _).mono ?_; rintro e w24 ⟨rfl, hb24⟩; have HK24 := hide (HK23.out.later hb24); clear hb24 c23))
  go_ret
  exact ⟨rfl, HK24.out⟩
end Go.Proofs.YtdbflopfcnkjbaaGreat
