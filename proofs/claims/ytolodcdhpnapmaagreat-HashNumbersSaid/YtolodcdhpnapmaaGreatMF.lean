/-
  The texts F2, D1, N3, N4, OV, AB as one.
-/
import Derived.Test.YtolodcdhpnapmaaGreatF1
import Derived.Test.YtolodcdhpnapmaaGreatAA

/-
  A bag that holds lists of bytes alone is found apart.
-/
namespace Go.Proofs.YtolodcdhpnapmaaGreat
open Go.RowKit
set_option linter.unusedVariables false

def bagCells (v : Value) : Array Value := #[.slice none 0 0, .slice none 0 0, .slice none 0 0, .slice none 0 0, .slice none 0 0, v, .slice none 0 0, .slice none 0 0, .slice none 0 0, .slice none 0 0, .slice none 0 0, .slice none 0 0, .slice none 0 0, .slice none 0 0, .slice none 0 0, .slice none 0 0, .slice none 0 0, .slice none 0 0, .slice none 0 0, .slice none 0 0, .slice none 0 0, .slice none 0 0, .slice none 0 0, .slice none 0 0]
theorem kept_cell {F : Nat → Prop} {w w' : World} {b i : Nat} {cs : Array Value} {t : TypeId} {u : Value} (h : Kept F w w') (hO : w.heap[b]? = some (.cells cs t (0, 0))) (hF : F b) (hu : cs[i]? = some u) : w'.cell? ⟨b, i, none⟩ = some u := by
  have hlt : b < w.heap.size := (Array.getElem?_eq_some_iff.1 hO).1
  rw [World.cell?_of_block (w := w) (h.block b hlt hF), blk_cell hO i]
  exact hu
theorem kept_trans {F : Nat → Prop} {a b c : World} (h : Kept F a b) (k : Kept F b c) : Kept F a c :=
  ⟨k.os.trans h.os, k.tape.trans h.tape, k.output.trans h.output, Nat.le_trans h.size k.size, fun i hi hF => (k.block i (Nat.lt_of_lt_of_le hi h.size) hF).trans (h.block i hi hF)⟩
set_option maxRecDepth 100000 in
set_option maxHeartbeats 4000000 in
theorem bagApart_any (b L cL m : Nat) (A : Nat → Option Addr) (n c : Nat → Nat) (w : World) (hO : w.heap[b]? = some (.cells (bagCells (.slice (some ⟨L, 0, none⟩) m cL)) 118 (0, 0))) (hL : Lst w 34 L cL m A n c) (hv : ∀ i, i < m → ∃ xs, w.ownsRow 0 5 1 (rowV A n c i) (n i) xs) (hs : Sep m (rowV A n c))
    (hn : ∀ i, n i ≤ 1000000) (hm : m ≤ 400) :
    Calls Tryz.prog 49 #[.pointer (some ⟨b, 0, none⟩)] w fun e w' => e = .returned (.bool true) ∧ Kept (Own m A n c) w w' := by
  have hF : Own m A n c b := fun i hi e => by
    obtain ⟨xs, h⟩ := hv i hi
    rcases h.2 with ⟨h0, _⟩ | ⟨g, cap, cur, h0, _, hg, _⟩
    · rw [h0] at e; cases e
    · rw [h0] at e
      simp only [Value.ownBlock, Option.some.injEq] at e
      subst e
      rw [hO] at hg
      injection hg with hg
      injection hg with _ h1
      cases h1
  have HF := hide hF
  have HO := hide hO
  have HL : Hid (Lst w 34 L cL m A n c) := hL
  have HV := hide hv
  have HS := hide hs
  have HN := hide hn
  have HB0 := hide (Below.refl w.heap.size w)
  have HK0 := hide (Kept.refl (Own m A n c) w)
  have c0 : w.cell? ⟨b, 0, none⟩ = some (.slice none 0 0) := kept_cell HK0.out HO.out HF.out rfl
  clear hF hO hL hv hs hn
  go_enter Tryz.func49, Tryz.ntmps49
  go_wp2_with (first
    | (go_at_call 70; refine (flat38_nil _).mono ?_; rintro e w1 ⟨rfl, hb1⟩; have HB1 := hide (HB0.out.trans (hb1.mono HB0.out.size)); have HK1 := hide (HK0.out.later hb1); clear hb1 HB0 c0; have c1 : w1.cell? ⟨b, 1, none⟩ = some (Value.slice none 0 0) := kept_cell HK1.out HO.out HF.out rfl)
    | (go_at_call 71; refine (flat39_nil _).mono ?_; rintro e w2 ⟨rfl, hb2⟩; have HB2 := hide (HB1.out.trans (hb2.mono HB1.out.size)); have HK2 := hide (HK1.out.later hb2); clear hb2 HB1 c1; have c2 : w2.cell? ⟨b, 2, none⟩ = some (Value.slice none 0 0) := kept_cell HK2.out HO.out HF.out rfl)
    | (go_at_call 72; refine (flat40_nil _).mono ?_; rintro e w3 ⟨rfl, hb3⟩; have HB3 := hide (HB2.out.trans (hb3.mono HB2.out.size)); have HK3 := hide (HK2.out.later hb3); clear hb3 HB2 c2; have c3 : w3.cell? ⟨b, 3, none⟩ = some (Value.slice none 0 0) := kept_cell HK3.out HO.out HF.out rfl)
    | (go_at_call 73; refine (flat41_nil _).mono ?_; rintro e w4 ⟨rfl, hb4⟩; have HB4 := hide (HB3.out.trans (hb4.mono HB3.out.size)); have HK4 := hide (HK3.out.later hb4); clear hb4 HB3 c3; have c4 : w4.cell? ⟨b, 4, none⟩ = some (Value.slice none 0 0) := kept_cell HK4.out HO.out HF.out rfl)
    | (go_at_call 74; refine (flat42_nil _).mono ?_; rintro e w5 ⟨rfl, hb5⟩; have HB5 := hide (HB4.out.trans (hb5.mono HB4.out.size)); have HK5 := hide (HK4.out.later hb5); clear hb5 HB4 c4; have c5 : w5.cell? ⟨b, 5, none⟩ = some (Value.slice (some ⟨L, 0, none⟩) m cL) := kept_cell HK5.out HO.out HF.out rfl)
    | (go_at_call 75; refine (flatBytes_any L cL m A n c _ (owns_kept_below HL.out HB5.out) (fun i hi => (HV.out i hi).imp fun xs h => owns_kept_below h HB5.out) HS.out HN.out hm).mono ?_; rintro e w6 ⟨rfl, hb6⟩; have HK6 := hide (kept_trans HK5.out hb6); clear hb6 HB5 c5; have c6 : w6.cell? ⟨b, 6, none⟩ = some (Value.slice none 0 0) := kept_cell HK6.out HO.out HF.out rfl)
    | (go_at_call 76; refine (flat44_nil _).mono ?_; rintro e w7 ⟨rfl, hb7⟩; have HK7 := hide (HK6.out.later hb7); clear hb7 c6; have c7 : w7.cell? ⟨b, 7, none⟩ = some (Value.slice none 0 0) := kept_cell HK7.out HO.out HF.out rfl)
    | (go_at_call 77; refine (flat45_nil _).mono ?_; rintro e w8 ⟨rfl, hb8⟩; have HK8 := hide (HK7.out.later hb8); clear hb8 c7; have c8 : w8.cell? ⟨b, 8, none⟩ = some (Value.slice none 0 0) := kept_cell HK8.out HO.out HF.out rfl)
    | (go_at_call 78; refine (flat46_nil _).mono ?_; rintro e w9 ⟨rfl, hb9⟩; have HK9 := hide (HK8.out.later hb9); clear hb9 c8; have c9 : w9.cell? ⟨b, 9, none⟩ = some (Value.slice none 0 0) := kept_cell HK9.out HO.out HF.out rfl)
    | (go_at_call 79; refine (flat47_nil _).mono ?_; rintro e w10 ⟨rfl, hb10⟩; have HK10 := hide (HK9.out.later hb10); clear hb10 c9; have c10 : w10.cell? ⟨b, 10, none⟩ = some (Value.slice none 0 0) := kept_cell HK10.out HO.out HF.out rfl)
    | (go_at_call 80; refine (flat48_nil _).mono ?_; rintro e w11 ⟨rfl, hb11⟩; have HK11 := hide (HK10.out.later hb11); clear hb11 c10; have c11 : w11.cell? ⟨b, 11, none⟩ = some (Value.slice none 0 0) := kept_cell HK11.out HO.out HF.out rfl)
    | (go_at_call 81; refine (flat49_nil _).mono ?_; rintro e w12 ⟨rfl, hb12⟩; have HK12 := hide (HK11.out.later hb12); clear hb12 c11; have c12 : w12.cell? ⟨b, 12, none⟩ = some (Value.slice none 0 0) := kept_cell HK12.out HO.out HF.out rfl)
    | (go_at_call 82; refine (flat50_nil _).mono ?_; rintro e w13 ⟨rfl, hb13⟩; have HK13 := hide (HK12.out.later hb13); clear hb13 c12; have c13 : w13.cell? ⟨b, 13, none⟩ = some (Value.slice none 0 0) := kept_cell HK13.out HO.out HF.out rfl)
    | (go_at_call 83; refine (flat51_nil _).mono ?_; rintro e w14 ⟨rfl, hb14⟩; have HK14 := hide (HK13.out.later hb14); clear hb14 c13; have c14 : w14.cell? ⟨b, 14, none⟩ = some (Value.slice none 0 0) := kept_cell HK14.out HO.out HF.out rfl)
    | (go_at_call 84; refine (flat52_nil _).mono ?_; rintro e w15 ⟨rfl, hb15⟩; have HK15 := hide (HK14.out.later hb15); clear hb15 c14; have c15 : w15.cell? ⟨b, 15, none⟩ = some (Value.slice none 0 0) := kept_cell HK15.out HO.out HF.out rfl)
    | (go_at_call 85; refine (flat53_nil _).mono ?_; rintro e w16 ⟨rfl, hb16⟩; have HK16 := hide (HK15.out.later hb16); clear hb16 c15; have c16 : w16.cell? ⟨b, 16, none⟩ = some (Value.slice none 0 0) := kept_cell HK16.out HO.out HF.out rfl)
    | (go_at_call 86; refine (flat54_nil _).mono ?_; rintro e w17 ⟨rfl, hb17⟩; have HK17 := hide (HK16.out.later hb17); clear hb17 c16; have c17 : w17.cell? ⟨b, 17, none⟩ = some (Value.slice none 0 0) := kept_cell HK17.out HO.out HF.out rfl)
    | (go_at_call 87; refine (flat55_nil _).mono ?_; rintro e w18 ⟨rfl, hb18⟩; have HK18 := hide (HK17.out.later hb18); clear hb18 c17; have c18 : w18.cell? ⟨b, 18, none⟩ = some (Value.slice none 0 0) := kept_cell HK18.out HO.out HF.out rfl)
    | (go_at_call 88; refine (flat56_nil _).mono ?_; rintro e w19 ⟨rfl, hb19⟩; have HK19 := hide (HK18.out.later hb19); clear hb19 c18; have c19 : w19.cell? ⟨b, 19, none⟩ = some (Value.slice none 0 0) := kept_cell HK19.out HO.out HF.out rfl)
    | (go_at_call 89; refine (flat57_nil _).mono ?_; rintro e w20 ⟨rfl, hb20⟩; have HK20 := hide (HK19.out.later hb20); clear hb20 c19; have c20 : w20.cell? ⟨b, 20, none⟩ = some (Value.slice none 0 0) := kept_cell HK20.out HO.out HF.out rfl)
    | (go_at_call 90; refine (flat58_nil _).mono ?_; rintro e w21 ⟨rfl, hb21⟩; have HK21 := hide (HK20.out.later hb21); clear hb21 c20; have c21 : w21.cell? ⟨b, 21, none⟩ = some (Value.slice none 0 0) := kept_cell HK21.out HO.out HF.out rfl)
    | (go_at_call 91; refine (flat59_nil _).mono ?_; rintro e w22 ⟨rfl, hb22⟩; have HK22 := hide (HK21.out.later hb22); clear hb22 c21; have c22 : w22.cell? ⟨b, 22, none⟩ = some (Value.slice none 0 0) := kept_cell HK22.out HO.out HF.out rfl)
    | (go_at_call 92; refine (flat60_nil _).mono ?_; rintro e w23 ⟨rfl, hb23⟩; have HK23 := hide (HK22.out.later hb23); clear hb23 c22; have c23 : w23.cell? ⟨b, 23, none⟩ = some (Value.slice none 0 0) := kept_cell HK23.out HO.out HF.out rfl)
    | (go_at_call 93; refine (flat61_nil _).mono ?_; rintro e w24 ⟨rfl, hb24⟩; have HK24 := hide (HK23.out.later hb24); clear hb24 c23))
  go_ret
  exact ⟨rfl, HK24.out⟩
end Go.Proofs.YtolodcdhpnapmaaGreat

/-
  A list of bytes is put into the bag.
-/
namespace Go.Proofs.YtolodcdhpnapmaaGreat
open Go.RowKit
set_option linter.unusedVariables false

/-- The bag, its list of bytes' lists apart from it. -/
def Bag (w : World) (b : Nat) (v : Value) (k : Nat) (xs : List Value) : Prop := w.heap[b]? = some (.cells (bagCells v) 118 (0, 0)) ∧ w.ownsRow 0 34 1 v k xs
theorem Bag.ne {w : World} {b k : Nat} {v : Value} {xs : List Value} (h : Bag w b v k xs) : v.ownBlock ≠ some b := fun e => by
  rcases h.2.2 with ⟨h0, _⟩ | ⟨g, cap, cur, h0, _, hg, _⟩
  · rw [h0] at e; cases e
  · rw [h0] at e
    simp only [Value.ownBlock, Option.some.injEq] at e
    subst e
    rw [h.1] at hg
    injection hg with hg
    injection hg with _ h1
    cases h1
theorem heap_set {w : World} {b i : Nat} {cs : Array Value} {t : TypeId} (h : w.heap[b]? = some (.cells cs t (0, 0))) (u : Value) : (w.setCell ⟨b, i, none⟩ u).heap[b]? = some (.cells (cs.setIfInBounds i u) t (0, 0)) := by
  simp [World.setCell, Array.getElem?_modify, h]
theorem heap_free {w : World} {b i : Nat} {cs : Array Value} {t : TypeId} (h : w.heap[b]? = some (.cells cs t (0, 0))) : w.frozen? ⟨b, i, none⟩ = false := by
  simp [World.frozen?, h]
theorem grown2_kept {w w' : World} {e : TypeId} {sz n m : Nat} {v v' : Value} {xs : List Value} (h : Grown2 w w' e sz v v' n m xs) : Kept (fun g => v.ownBlock ≠ some g) w w' ∧ (v'.ownBlock = v.ownBlock ∨ v'.ownBlock = some w.heap.size) := by
  rcases h.2 with ⟨g, cap, rfl, rfl, hg⟩ | ⟨h1, hb⟩
  · exact ⟨⟨hg.os, hg.tape, hg.output, hg.size, fun k hk hF => hg.block k hk (fun e => hF e.symm)⟩, .inl rfl⟩
  · exact ⟨⟨hb.os, hb.tape, hb.output, hb.size, fun k hk _ => hb.block k hk⟩, .inr h1⟩
theorem new_one (w : World) (u : Value) : ∀ j u', ([u] : List Value)[j]? = some u' → (w.alloc (.cells #[u] 34)).cell? ((⟨w.heap.size, 0, none⟩ : Addr).add j) = some u' := by
  obtain ⟨ad, e, _, h⟩ := (cells_rd w [u] 34 1 1 rfl).2 (by decide)
  cases e
  exact h
set_option maxRecDepth 100000 in
set_option maxHeartbeats 2000000 in
theorem putBytes_any (b : Nat) (v : Value) (k : Nat) (A : Option Addr) (n c : Nat) (xs : List Value) (w : World) (h : Bag w b v k xs) (hk : k ≤ 400) :
    Calls Tryz.prog 68 #[.pointer (some ⟨b, 0, none⟩), .slice A n c] w fun e w' => e = .returned (.tuple #[]) ∧ ∃ v', Bag w' b v' (k + 1) (xs ++ [.slice A n c]) ∧ Kept (fun g => g ≠ b ∧ v.ownBlock ≠ some g) w w' ∧
      (∀ g, v'.ownBlock = some g → v.ownBlock = some g ∨ w.heap.size ≤ g) := by
  obtain ⟨Av, cv, rfl, _⟩ := owns_slice h.2
  obtain ⟨i5, hi5, hz0, hz1, hz2⟩ := info_parts rowInfo
  have hbl : b < w.heap.size := (Array.getElem?_eq_some_iff.1 h.1).1
  have c5 : w.cell? ⟨b, 5, none⟩ = some (.slice Av k cv) := (blk_cell h.1 5).trans rfl
  have HH := hide h
  clear h
  go_enter Tryz.func68, Tryz.ntmps68
  go_wp2_with (at_builtin; refine stop_here ?_)
  show Hid _
  refine start_here ?_
  refine wpList_append_two _ rfl (.tmp 8) (.tmp 10) 63 rfl 34 i5 _ 1 24 Tryz.underlying63 hi5 hz0 hz1 hz2 rfl (by decide) _ k xs rfl (HH.out.2.alloc _) ⟨w.heap.size, 0, none⟩ 1 1 [.slice A n c] rfl rfl (new_one w (.slice A n c)) (by intro u hu; simp only [List.mem_singleton] at hu; subst hu; rfl) (by decide) (by simp only [maxLen]; omega) (by omega) ?_
  intro v' w' hgw
  obtain ⟨A', c', rfl, _⟩ := owns_slice hgw.1
  obtain ⟨hk1, hv1⟩ := grown2_kept hgw
  have hne := HH.out.ne
  have hO0 : (w.alloc (.cells #[.slice A n c] 34)).heap[b]? = some (.cells (bagCells (.slice Av k cv)) 118 (0, 0)) := (Below.heap_alloc w _ b hbl).trans HH.out.1
  have hO1 : w'.heap[b]? = some (.cells (bagCells (.slice Av k cv)) 118 (0, 0)) := (hk1.block b (by simp; omega) hne).trans hO0
  have hb1 : Bag w' b (.slice Av k cv) k [] ∨ True := .inr trivial
  have c5' : w'.cell? ⟨b, 5, none⟩ = some (.slice Av k cv) := (blk_cell hO1 5).trans rfl
  have hfz : w'.frozen? ⟨b, 5, none⟩ = false := heap_free hO1
  have HO1 := hide hO1
  have HK := hide hk1
  have HV := hide hv1
  have HG := hide hgw
  clear hO1 hk1 hv1 hgw c5 hb1 hO0
  go_wp2_with fail

  go_end0
  have hx := HG.out.1
  have hne' : (Value.slice A' (k + 1) c').ownBlock ≠ some b := fun e => by
    rcases HV.out with h | h
    · exact hne (h.symm.trans e)
    · rw [h] at e
      simp only [World.alloc, Array.size_push, Option.some.injEq] at e
      omega
  refine ⟨rfl, _, ⟨heap_set HO1.out _, hx.kept (grown_set w' b 5 _) (.inr hne')⟩, ?_, fun g hg => ?_⟩
  · have h0 : Kept (fun g => g ≠ b ∧ (Value.slice Av k cv).ownBlock ≠ some g) w w' := kept_trans ((Kept.refl _ w).later ((Below.refl _ w).alloc (Nat.le_refl _) _)) ⟨HK.out.os, HK.out.tape, HK.out.output, HK.out.size, fun k hk hF => HK.out.block k hk hF.2⟩
    exact h0.setCell (p := ⟨b, 5, none⟩) (fun _ h => h.1 rfl) _
  · rcases HV.out with h | h
    · exact .inl (h.symm.trans hg)
    · rw [h] at hg
      simp only [World.alloc, Array.size_push, Option.some.injEq] at hg
      right; omega
end Go.Proofs.YtolodcdhpnapmaaGreat

/-
  Bytes that are lent: a copy with marks behind its end.
-/
namespace Go.Proofs.YtolodcdhpnapmaaGreat
open Go.RowKit
set_option linter.unusedVariables false

set_option maxRecDepth 100000 in
set_option maxHeartbeats 1000000 in
theorem lentBytes_any (A : Option Addr) (n c B : Nat) (l : List Int) (w : World) (h : Rd w B 1 A n (u8s l)) (hA : A = none → n = 0) (hB : B ≤ w.heap.size) (hn : n ≤ 1000000) :
    Calls Tryz.prog 34 #[.slice A n c] w fun e w' => e = .returned (.slice (some ⟨w.heap.size, 0, none⟩) n (n + 12)) ∧ Row w' w.heap.size (n + 12) 5 1 (n + 12) (u8s l ++ marks (mkB 1) 12) ∧ Below w.heap.size w w' := by
  obtain ⟨C, hCs, hmk⟩ := made_row (n + 12) (by omega)
  have hmk1 : ∀ w : World, (Instr.makeSlice 34 (.int .i64 0) (.int .i64 ((n : Int) + 12))).run Tryz.prog w = .ok (.slice (some ⟨w.heap.size, 0, none⟩) 0 (n + 12)) (w.alloc (.cells C 5)) := fun w => by
    have := (hmk w).1
    rwa [show ((n + 12 : Nat) : Int) = (n : Int) + 12 by omega] at this
  have HM := hide (hmk w).2
  have HA := hide hA
  clear hmk hA
  obtain ⟨i0, hi, hz0, hz1, hz2⟩ := info_parts u8info
  have hr0 : Rd (w.alloc (.cells C 5)) B 1 A n (u8s l) := h.below ((Below.refl _ w).alloc hB _)
  go_enter Tryz.func34, Tryz.ntmps34
  go_wp2_with (at_builtin; refine stop_here ?_)
  show Hid _
  refine start_here ?_
  refine wpList_append_rd_fits _ ?c0 (.tmp 9) (.tmp 10) _ rfl 5 i0 1 Tryz.underlying34 hi hz1 w.heap.size 0 (n + 12) [] rfl HM.out B A n c (u8s l) rfl hr0 HA.out (u8s_one l) (by omega) ?_
  case c0 => rfl
  intro w1 hr1 hg1
  have HB1 := hide (((Below.refl w.heap.size w).alloc (Nat.le_refl _) (.cells C 5)).grown hg1 (by simp) (fun k e => by cases e; exact Nat.le_refl _))
  have HR1 : Hid (Row w1 w.heap.size (n + 12) 5 1 (n + 0) (u8s l ++ marks (mkB 1) 0)) := by
    have e : u8s l ++ marks (mkB 1) 0 = u8s l := by simp [marks]
    rw [e]
    rw [Nat.zero_add] at hr1
    exact hr1
  clear hr1 hg1 HM hmk1 hr0
  go_wp2_with fail
  go_loopw [3, 4] (fun v p wr => ∃ k : Nat, k ≤ 12 ∧ p = .int .i64 k ∧ v = .slice (some ⟨w.heap.size, 0, none⟩) (n + k) (n + 12) ∧ Row wr w.heap.size (n + 12) 5 1 (n + k) (u8s l ++ marks (mkB 1) k) ∧ Below w.heap.size w wr) (fun _ p _ => 12 - (intOf p).toNat)
  case atStart => exact ⟨0, by omega, rfl, by simp, HR1.out, HB1.out⟩
  case round =>
    obtain ⟨k, hk, rfl, rfl, hr, hb⟩ := hrel
    have HR := hide hr
    have HB := hide hb
    clear hr hb HR1 HB1
    by_cases hlt : k < 12
    · go_wp2_with (first
        | (go_at_call 66; refine (markByte_any 1 k (by omega) (by omega) _).mono ?_; rintro e w2 ⟨rfl, rfl⟩)
        | (at_builtin; refine stop_here ?_))
      show Hid _
      refine start_here ?_
      refine wpList_append_rd_fits _ ?c0 (.tmp 16) (.tmp 19) _ rfl 5 i0 1 Tryz.underlying34 hi hz1 w.heap.size (n + k) (n + 12) _ rfl (World.ownsRow.alloc HR.out _) _ (some ⟨wr.heap.size, 0, none⟩) 1 1 (mkB 1 k) rfl (cells_rd wr (mkB 1 k) 5 1 1 rfl) (fun h => nomatch h) (one_mark 1 k) (by omega) ?_
      case c0 => rfl
      intro w2 hr2 hg2
      have HR2 : Hid (Row w2 w.heap.size (n + 12) 5 1 (n + (k + 1)) (u8s l ++ marks (mkB 1) (k + 1))) := by
        rw [marks_snoc, ← List.append_assoc]
        exact hr2
      have HB2 := hide ((HB.out.alloc HB.out.size (.cells #[.int .u8 (markB 1 k)] 5)).grown hg2 (by simp; have := HB.out.size; omega) (fun j e => by cases e; exact Nat.le_refl _))
      clear hr2 hg2 HR HB
      go_wp2
      go_roundw
      case rel => exact ⟨k + 1, by omega, by go_num, by simp [Nat.add_assoc], HR2.out, HB2.out⟩
      case measure => simp [intOf]; omega
    · have hk12 : k = 12 := by omega
      subst hk12
      go_wp2
      go_ret
      exact ⟨rfl, HR.out, HB.out⟩
end Go.Proofs.YtolodcdhpnapmaaGreat

/-
  Bytes that were lent, and their marks, are found as they were.
-/
namespace Go.Proofs.YtolodcdhpnapmaaGreat
open Go.RowKit
set_option linter.unusedVariables false

theorem byte_at_rd {w : World} {B n k : Nat} {A : Option Addr} {l : List Int} (h : Rd w B 1 A n (u8s l)) (hk : k < n) : ∃ ad b, A = some ad ∧ l[k]? = some b ∧ w.cell? (ad.add k) = some (.int .u8 b) := by
  obtain ⟨ad, e, _, hc⟩ := h.2 (by omega)
  have hl : l.length = n := by have := h.1; simpa [u8s] using this
  obtain ⟨b, hb⟩ : ∃ b, l[k]? = some b := ⟨_, List.getElem?_eq_getElem (by omega)⟩
  exact ⟨ad, b, e, hb, hc k _ (by simp [u8s, hb])⟩
set_option maxRecDepth 100000 in
set_option maxHeartbeats 2000000 in
theorem keptBytes_any (g : Nat) (A : Option Addr) (n c B : Nat) (l : List Int) (w : World) (h : Rd w B 1 A n (u8s l)) (hB : B ≤ w.heap.size) (hr : Row w g (n + 12) 5 1 (n + 12) (u8s l ++ marks (mkB 1) 12)) (hn : n ≤ 1000000) :
    Calls Tryz.prog 40 #[.slice (some ⟨g, 0, none⟩) n (n + 12), .slice A n c] w fun e w' => e = .returned (.bool true) ∧ Below w.heap.size w w' := by
  have hll : (u8s l).length = n := by have := h.1; omega
  have hgl : g < w.heap.size := (World.ownsRow.lt hr g rfl).2
  have HR := hide hr
  have HH := hide h
  clear hr h
  go_enter Tryz.func40, Tryz.ntmps40
  go_wp2
  go_loopw [6] (fun p wr => ∃ k : Nat, k ≤ n + 12 ∧ p = .int .i64 k ∧ Below w.heap.size w wr) (fun p _ => n + 12 - (intOf p).toNat)
  case atStart => exact ⟨0, Nat.zero_le _, rfl, Below.refl _ _⟩
  case round =>
    obtain ⟨k, hk, rfl, hb⟩ := hrel
    have HB := hide hb
    clear hb
    by_cases hlt : k < n
    · obtain ⟨ad, b, rfl, hl, c0⟩ := byte_at_rd (HH.out.below (HB.out.mono hB)) hlt
      obtain ⟨u, hu, d0⟩ := owns_at (row_below HR.out HB.out) (show k < (n + 12) * 1 by omega)
      have hu2 : u = .int .u8 b := by
        rw [List.getElem?_append_left (by omega)] at hu
        simp only [u8s, List.getElem?_map, hl, Option.map_some, Option.some.injEq] at hu
        exact hu.symm
      subst hu2
      have hk2 : k < n + 12 := by omega
      have hd : decide ((k : Int) < (n : Int)) = true := by simp; omega
      have hd2 : decide (n ≤ k) = false := by simp; omega
      clear hl hu
      replace c0 := Later.cell c0
      replace d0 := Later.cell d0
      go_wp2
      refine wp_region_later (by kernel_rfl) (by kernel_rfl) ?_
      repeat (go_big_quiet_step (fail))
      refine wpQuiet_nil ?_
      rintro _ ⟨x, rfl⟩
      have HX := hide (HB.out.trans (x.below.mono HB.out.size))
      go_wp2
      go_roundw
      case rel => exact ⟨k + 1, by omega, by go_num, HX.out⟩
      case measure => simp [intOf]; omega
    · by_cases hle : k < n + 12
      · obtain ⟨u, hu, d0⟩ := owns_at (row_below HR.out HB.out) (show k < (n + 12) * 1 by omega)
        have hu2 : u = .int .u8 (markB 1 (k - n)) := by
          rw [List.getElem?_append_right (by omega), hll, marks_byte (by omega)] at hu
          injection hu with hu
          exact hu.symm
        subst hu2
        have hd : decide ((k : Int) < (n : Int)) = false := by simp; omega
        have hd2 : decide (n ≤ k) = true := by simp; omega
        have HS : Hid ((k : Int) - (n : Int) = ((k - n : Nat) : Int)) := by show (k : Int) - (n : Int) = ((k - n : Nat) : Int); omega
        have HM := hide (fun w => later_mark 1 (k - n) (by omega) (by omega) w)
        replace d0 := Later.cell d0
        clear hu
        go_wp2
        refine wp_region_later (by kernel_rfl) (by kernel_rfl) ?_
        repeat (go_big_quiet_step ((rw [HS.out]; exact Later.calls _ HM.out)))
        refine wpQuiet_nil ?_
        rintro _ ⟨x, rfl⟩
        have HX := hide (HB.out.trans (x.below.mono HB.out.size))
        go_wp2
        go_roundw
        case rel => exact ⟨k + 1, by omega, by go_num, HX.out⟩
        case measure => simp [intOf]; omega
      · have hk12 : k = n + 12 := by omega
        subst hk12
        go_wp2
        go_ret
        exact ⟨rfl, HB.out⟩
end Go.Proofs.YtolodcdhpnapmaaGreat

/-
  Lent bytes, written over.
-/
namespace Go.Proofs.YtolodcdhpnapmaaGreat
open Go.RowKit
set_option linter.unusedVariables false

set_option maxRecDepth 100000 in
set_option maxHeartbeats 1000000 in
theorem over_any (g n : Nat) (xs : List Value) (w : World) (h : Row w g (n + 12) 5 1 (n + 12) xs) (hn : n ≤ 1000000) :
    Calls Tryz.prog 41 #[.slice (some ⟨g, 0, none⟩) n (n + 12)] w fun e w' => e = .returned (.tuple #[]) ∧ Kept (fun b => b ≠ g) w w' := by
  have HR := hide h
  clear h
  have hcut : ∀ W, (Instr.slice 34 (.slice (some ⟨g, 0, none⟩) n (n + 12)) none (some (.int .i64 ((n : Int) + 12))) none).run Tryz.prog W = .ok (.slice (some ⟨g, 0, none⟩) (n + 12) (n + 12)) W := fun W => cut_head (some ⟨g, 0, none⟩) n (n + 12) (n + 12) (by omega) W
  have hmin : min ((n : Int) + 12) ((n : Int) + 12) = (n : Int) + 12 := by omega
  have hcw := hcut w
  clear hcut
  go_enter Tryz.func41, Tryz.ntmps41
  go_wp2
  go_loopw [3] (fun u wr => ∃ k : Nat, k ≤ n + 12 ∧ u = .int .i64 k ∧ (∃ ys, Row wr g (n + 12) 5 1 (n + 12) ys) ∧ Kept (fun b => b ≠ g) w wr) (fun u _ => n + 12 - (intOf u).toNat)
  case atStart => exact ⟨0, Nat.zero_le _, rfl, ⟨_, HR.out⟩, Kept.refl _ _⟩
  case round =>
    obtain ⟨k, hk, rfl, ⟨ys, hy⟩, hkk⟩ := hrel
    have HY := hide hy
    have HK := hide hkk
    clear hy hkk HR hcw hmin
    by_cases hlt : k < n + 12
    · obtain ⟨u, _, cu⟩ := owns_at HY.out (show k < (n + 12) * 1 by omega)
      have hf : wr.frozen? ⟨g, k, none⟩ = false := owns_free HY.out k
      go_wp2_with (go_at_call 66; refine (markByte_any 2 k (by omega) (by omega) _).mono ?_; rintro e w2 ⟨rfl, rfl⟩)
      go_roundw
      case rel => exact ⟨k + 1, by omega, by go_num, ⟨_, owns_set HY.out (by omega) _⟩, HK.out.setCell (fun _ hn => hn rfl) _⟩
      case measure => simp [intOf]; omega
    · have hk2 : k = n + 12 := by omega
      subst hk2
      go_wp2
      exact bodyPost_end (results_none rfl _ _ _) rfl ⟨rfl, HK.out⟩
end Go.Proofs.YtolodcdhpnapmaaGreat

/-
  Lists of bytes that lie apart are found to lie apart, however many they are.
-/
namespace Go.Proofs.YtolodcdhpnapmaaGreat
open Go.RowKit
set_option linter.unusedVariables false

set_option maxRecDepth 100000 in
set_option maxHeartbeats 4000000 in
theorem bagApart_nil (b : Nat) (w : World) (hO : w.heap[b]? = some (.cells (bagCells (.slice none 0 0)) 118 (0, 0))) :
    Calls Tryz.prog 49 #[.pointer (some ⟨b, 0, none⟩)] w fun e w' => e = .returned (.bool true) ∧ Kept (fun _ => True) w w' := by
  have hF : True := trivial
  have HF := hide hF
  have HO := hide hO
  have HB0 := hide (Below.refl w.heap.size w)
  have HK0 := hide (Kept.refl (fun _ => True) w)
  have c0 : w.cell? ⟨b, 0, none⟩ = some (.slice none 0 0) := kept_cell HK0.out HO.out HF.out rfl
  clear hO
  go_enter Tryz.func49, Tryz.ntmps49
  go_wp2_with (first
    | (go_at_call 70; refine (flat38_nil _).mono ?_; rintro e w1 ⟨rfl, hb1⟩; have HB1 := hide (HB0.out.trans (hb1.mono HB0.out.size)); have HK1 := hide (HK0.out.later hb1); clear hb1 HB0 c0; have c1 : w1.cell? ⟨b, 1, none⟩ = some (Value.slice none 0 0) := kept_cell HK1.out HO.out HF.out rfl)
    | (go_at_call 71; refine (flat39_nil _).mono ?_; rintro e w2 ⟨rfl, hb2⟩; have HB2 := hide (HB1.out.trans (hb2.mono HB1.out.size)); have HK2 := hide (HK1.out.later hb2); clear hb2 HB1 c1; have c2 : w2.cell? ⟨b, 2, none⟩ = some (Value.slice none 0 0) := kept_cell HK2.out HO.out HF.out rfl)
    | (go_at_call 72; refine (flat40_nil _).mono ?_; rintro e w3 ⟨rfl, hb3⟩; have HB3 := hide (HB2.out.trans (hb3.mono HB2.out.size)); have HK3 := hide (HK2.out.later hb3); clear hb3 HB2 c2; have c3 : w3.cell? ⟨b, 3, none⟩ = some (Value.slice none 0 0) := kept_cell HK3.out HO.out HF.out rfl)
    | (go_at_call 73; refine (flat41_nil _).mono ?_; rintro e w4 ⟨rfl, hb4⟩; have HB4 := hide (HB3.out.trans (hb4.mono HB3.out.size)); have HK4 := hide (HK3.out.later hb4); clear hb4 HB3 c3; have c4 : w4.cell? ⟨b, 4, none⟩ = some (Value.slice none 0 0) := kept_cell HK4.out HO.out HF.out rfl)
    | (go_at_call 74; refine (flat42_nil _).mono ?_; rintro e w5 ⟨rfl, hb5⟩; have HB5 := hide (HB4.out.trans (hb5.mono HB4.out.size)); have HK5 := hide (HK4.out.later hb5); clear hb5 HB4 c4; have c5 : w5.cell? ⟨b, 5, none⟩ = some (Value.slice none 0 0) := kept_cell HK5.out HO.out HF.out rfl)
    | (go_at_call 75; refine (flat43_nil _).mono ?_; rintro e w6 ⟨rfl, hb6⟩; have HK6 := hide (HK5.out.later hb6); clear hb6 HB5 c5; have c6 : w6.cell? ⟨b, 6, none⟩ = some (Value.slice none 0 0) := kept_cell HK6.out HO.out HF.out rfl)
    | (go_at_call 76; refine (flat44_nil _).mono ?_; rintro e w7 ⟨rfl, hb7⟩; have HK7 := hide (HK6.out.later hb7); clear hb7 c6; have c7 : w7.cell? ⟨b, 7, none⟩ = some (Value.slice none 0 0) := kept_cell HK7.out HO.out HF.out rfl)
    | (go_at_call 77; refine (flat45_nil _).mono ?_; rintro e w8 ⟨rfl, hb8⟩; have HK8 := hide (HK7.out.later hb8); clear hb8 c7; have c8 : w8.cell? ⟨b, 8, none⟩ = some (Value.slice none 0 0) := kept_cell HK8.out HO.out HF.out rfl)
    | (go_at_call 78; refine (flat46_nil _).mono ?_; rintro e w9 ⟨rfl, hb9⟩; have HK9 := hide (HK8.out.later hb9); clear hb9 c8; have c9 : w9.cell? ⟨b, 9, none⟩ = some (Value.slice none 0 0) := kept_cell HK9.out HO.out HF.out rfl)
    | (go_at_call 79; refine (flat47_nil _).mono ?_; rintro e w10 ⟨rfl, hb10⟩; have HK10 := hide (HK9.out.later hb10); clear hb10 c9; have c10 : w10.cell? ⟨b, 10, none⟩ = some (Value.slice none 0 0) := kept_cell HK10.out HO.out HF.out rfl)
    | (go_at_call 80; refine (flat48_nil _).mono ?_; rintro e w11 ⟨rfl, hb11⟩; have HK11 := hide (HK10.out.later hb11); clear hb11 c10; have c11 : w11.cell? ⟨b, 11, none⟩ = some (Value.slice none 0 0) := kept_cell HK11.out HO.out HF.out rfl)
    | (go_at_call 81; refine (flat49_nil _).mono ?_; rintro e w12 ⟨rfl, hb12⟩; have HK12 := hide (HK11.out.later hb12); clear hb12 c11; have c12 : w12.cell? ⟨b, 12, none⟩ = some (Value.slice none 0 0) := kept_cell HK12.out HO.out HF.out rfl)
    | (go_at_call 82; refine (flat50_nil _).mono ?_; rintro e w13 ⟨rfl, hb13⟩; have HK13 := hide (HK12.out.later hb13); clear hb13 c12; have c13 : w13.cell? ⟨b, 13, none⟩ = some (Value.slice none 0 0) := kept_cell HK13.out HO.out HF.out rfl)
    | (go_at_call 83; refine (flat51_nil _).mono ?_; rintro e w14 ⟨rfl, hb14⟩; have HK14 := hide (HK13.out.later hb14); clear hb14 c13; have c14 : w14.cell? ⟨b, 14, none⟩ = some (Value.slice none 0 0) := kept_cell HK14.out HO.out HF.out rfl)
    | (go_at_call 84; refine (flat52_nil _).mono ?_; rintro e w15 ⟨rfl, hb15⟩; have HK15 := hide (HK14.out.later hb15); clear hb15 c14; have c15 : w15.cell? ⟨b, 15, none⟩ = some (Value.slice none 0 0) := kept_cell HK15.out HO.out HF.out rfl)
    | (go_at_call 85; refine (flat53_nil _).mono ?_; rintro e w16 ⟨rfl, hb16⟩; have HK16 := hide (HK15.out.later hb16); clear hb16 c15; have c16 : w16.cell? ⟨b, 16, none⟩ = some (Value.slice none 0 0) := kept_cell HK16.out HO.out HF.out rfl)
    | (go_at_call 86; refine (flat54_nil _).mono ?_; rintro e w17 ⟨rfl, hb17⟩; have HK17 := hide (HK16.out.later hb17); clear hb17 c16; have c17 : w17.cell? ⟨b, 17, none⟩ = some (Value.slice none 0 0) := kept_cell HK17.out HO.out HF.out rfl)
    | (go_at_call 87; refine (flat55_nil _).mono ?_; rintro e w18 ⟨rfl, hb18⟩; have HK18 := hide (HK17.out.later hb18); clear hb18 c17; have c18 : w18.cell? ⟨b, 18, none⟩ = some (Value.slice none 0 0) := kept_cell HK18.out HO.out HF.out rfl)
    | (go_at_call 88; refine (flat56_nil _).mono ?_; rintro e w19 ⟨rfl, hb19⟩; have HK19 := hide (HK18.out.later hb19); clear hb19 c18; have c19 : w19.cell? ⟨b, 19, none⟩ = some (Value.slice none 0 0) := kept_cell HK19.out HO.out HF.out rfl)
    | (go_at_call 89; refine (flat57_nil _).mono ?_; rintro e w20 ⟨rfl, hb20⟩; have HK20 := hide (HK19.out.later hb20); clear hb20 c19; have c20 : w20.cell? ⟨b, 20, none⟩ = some (Value.slice none 0 0) := kept_cell HK20.out HO.out HF.out rfl)
    | (go_at_call 90; refine (flat58_nil _).mono ?_; rintro e w21 ⟨rfl, hb21⟩; have HK21 := hide (HK20.out.later hb21); clear hb21 c20; have c21 : w21.cell? ⟨b, 21, none⟩ = some (Value.slice none 0 0) := kept_cell HK21.out HO.out HF.out rfl)
    | (go_at_call 91; refine (flat59_nil _).mono ?_; rintro e w22 ⟨rfl, hb22⟩; have HK22 := hide (HK21.out.later hb22); clear hb22 c21; have c22 : w22.cell? ⟨b, 22, none⟩ = some (Value.slice none 0 0) := kept_cell HK22.out HO.out HF.out rfl)
    | (go_at_call 92; refine (flat60_nil _).mono ?_; rintro e w23 ⟨rfl, hb23⟩; have HK23 := hide (HK22.out.later hb23); clear hb23 c22; have c23 : w23.cell? ⟨b, 23, none⟩ = some (Value.slice none 0 0) := kept_cell HK23.out HO.out HF.out rfl)
    | (go_at_call 93; refine (flat61_nil _).mono ?_; rintro e w24 ⟨rfl, hb24⟩; have HK24 := hide (HK23.out.later hb24); clear hb24 c23))
  go_ret
  exact ⟨rfl, HK24.out⟩
/-- A list of rows of bytes. -/
def rowsV (A : Nat → Option Addr) (n c : Nat → Nat) (k : Nat) : List Value := (List.range k).map (rowV A n c)
theorem rowsV_next (A : Nat → Option Addr) (n c : Nat → Nat) (k : Nat) : rowsV A n c k ++ [.slice (A k) (n k) (c k)] = rowsV A n c (k + 1) := by
  unfold rowsV
  rw [List.range_succ, List.map_append]
  rfl
set_option maxRecDepth 100000 in
set_option maxHeartbeats 2000000 in
theorem apartBytes_any (tv : Value) (m : Nat) (A : Nat → Option Addr) (n c : Nat → Nat) (w : World) (hL : w.ownsRow 0 34 1 tv m (rowsV A n c m)) (hv : ∀ i, i < m → ∃ xs, w.ownsRow 0 5 1 (rowV A n c i) (n i) xs) (hs : Sep m (rowV A n c)) (hn : ∀ i, n i ≤ 1000000) (hm : m ≤ 400) :
    Calls Tryz.prog 42 #[tv] w fun e w' => e = .returned (.bool true) ∧ Kept (Own m A n c) w w' := by
  obtain ⟨TA, tc, rfl, hrd⟩ := owns_slice hL
  have HL := hide hL
  have HV := hide hv
  have HS := hide hs
  have HN := hide hn
  obtain ⟨w1, hw1⟩ : ∃ w1, w1 = w.alloc (.cells (bagCells (.slice none 0 0)) 118) := ⟨_, rfl⟩
  have ha : Below w.heap.size w w1 := by rw [hw1]; exact (Below.refl _ w).alloc (Nat.le_refl _) _
  have hbag : Bag w1 w.heap.size (.slice none 0 0) 0 [] := by rw [hw1]; exact ⟨World.alloc_heap_new w _, rfl, .inl ⟨rfl, rfl⟩⟩
  have HA := hide ha
  have HG := hide hbag
  have HW := hide hw1
  have HRD := hide hrd
  clear hL hv hs hn ha hbag hw1 hrd
  go_enter Tryz.func42, Tryz.ntmps42
  go_wp2
  rw [show w.alloc (.cells #[.slice none 0 0, .slice none 0 0, .slice none 0 0, .slice none 0 0, .slice none 0 0, .slice none 0 0, .slice none 0 0, .slice none 0 0, .slice none 0 0, .slice none 0 0, .slice none 0 0, .slice none 0 0, .slice none 0 0, .slice none 0 0, .slice none 0 0, .slice none 0 0, .slice none 0 0, .slice none 0 0, .slice none 0 0, .slice none 0 0, .slice none 0 0, .slice none 0 0, .slice none 0 0, .slice none 0 0] 118) = w1 from HW.out.symm]
  clear HW
  go_loopw [4] (fun u wr => ∃ (k : Nat) (v : Value), k ≤ m ∧ u = .int .i64 k ∧ Bag wr w.heap.size v k (rowsV A n c k) ∧ (∀ g, v.ownBlock = some g → w.heap.size ≤ g) ∧ Below w.heap.size w wr ∧ (k = 0 → v = .slice none 0 0)) (fun u _ => m - (intOf u).toNat)
  case atStart => exact ⟨0, _, Nat.zero_le _, rfl, HG.out, nofun, HA.out, fun _ => rfl⟩
  case round =>
    obtain ⟨k, v, hk, rfl, hbg, hvl, hbl, hv0⟩ := hrel
    have HV0 := hide hv0
    clear hv0
    have HBG := hide hbg
    have HVL := hide hvl
    have HBL := hide hbl
    clear hbg hvl hbl HG HA
    by_cases hkm : k < m
    · obtain ⟨ad, rfl, _, hc⟩ := (HRD.out.below HBL.out).2 (by omega)
      have ck := hc k (.slice (A k) (n k) (c k)) (by unfold rowsV; rw [List.getElem?_map, List.getElem?_range hkm]; rfl)
      clear hc
      go_wp2_with fail
      refine (putBytes_any w.heap.size v k (A k) (n k) (c k) _ wr HBG.out (by omega)).mono ?_
      rintro e w3 ⟨rfl, v', hg3, hk3, hv3⟩
      rw [rowsV_next] at hg3
      have hb3 : Below w.heap.size wr w3 := hk3.to_below (fun g hg => ⟨by omega, fun e => by have := HVL.out g e; omega⟩) HBL.out.size
      have HG3 := hide hg3
      have HB3 := hide (HBL.out.trans hb3)
      have HV3 : Hid (∀ g, v'.ownBlock = some g → w.heap.size ≤ g) := fun g hg => (hv3 g hg).elim (fun h => HVL.out g h) (fun h => Nat.le_trans HBL.out.size h)
      clear hg3 hk3 hv3 hb3 ck
      go_wp2
      go_roundw
      case rel => exact ⟨k + 1, v', by omega, by go_num, HG3.out, HV3.out, HB3.out, fun h => by omega⟩
      case measure => simp [intOf]; omega
    · have hkm2 : k = m := by omega
      subst hkm2
      clear hkm hk
      rcases Nat.eq_zero_or_pos k with h0 | h0
      · subst h0
        obtain rfl := HV0.out rfl
        have HAP := hide (bagApart_nil w.heap.size wr HBG.out.1)
        go_wp2_with (go_at_call 49; refine HAP.out.mono ?_; rintro e w4 ⟨rfl, hk4⟩; have HK4 := hide hk4; clear hk4)
        go_ret
        exact ⟨rfl, keptTrans ((Kept.refl _ _).later HBL.out) (HK4.out.mono (fun _ _ => trivial))⟩
      · obtain ⟨L, cL, rfl⟩ := owns_some HBG.out.2 h0
        have HAP := hide (bagApart_any w.heap.size L cL k A n c wr HBG.out.1 HBG.out.2 (fun i hi => (HV.out i hi).imp fun xs h => owns_kept_below h HBL.out) HS.out HN.out hm)
        go_wp2_with (go_at_call 49; refine HAP.out.mono ?_; rintro e w4 ⟨rfl, hk4⟩; have HK4 := hide hk4; clear hk4)
        go_ret
        exact ⟨rfl, keptTrans ((Kept.refl _ _).later HBL.out) HK4.out⟩
end Go.Proofs.YtolodcdhpnapmaaGreat
