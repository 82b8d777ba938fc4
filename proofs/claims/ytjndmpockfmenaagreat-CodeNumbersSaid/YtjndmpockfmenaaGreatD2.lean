/-
  Two lists of bytes that lie apart are found to lie apart.
-/
import Derived.Test.YtjndmpockfmenaaGreatD1
namespace Go.Proofs.YtjndmpockfmenaaGreat
open Go.RowKit
set_option linter.unusedVariables false

def two {α : Type} (a b : α) (i : Nat) : α := if i = 0 then a else b
theorem Kept.low {F : Nat → Prop} {a w w' : World} (h : Kept F w w') (hs : a.heap.size ≤ w.heap.size) (hF : ∀ g, g < a.heap.size → F g) : Below a.heap.size w w' := h.to_below hF hs
set_option maxRecDepth 100000 in
set_option maxHeartbeats 2000000 in
theorem apartBytes_two (X B : Nat) (A0 A1 : Option Addr) (n0 n1 c0 c1 : Nat) (xs0 xs1 : List Value) (w : World) (hX : X < w.heap.size) (x0 : w.cell? ⟨X, 0, none⟩ = some (.slice A0 n0 c0)) (x1 : w.cell? ⟨X, 1, none⟩ = some (.slice A1 n1 c1))
    (h0 : w.ownsRow 0 5 1 (.slice A0 n0 c0) n0 xs0) (h1 : w.ownsRow 0 5 1 (.slice A1 n1 c1) n1 xs1) (hap : ∀ b, (Value.slice A0 n0 c0).ownBlock = some b → (Value.slice A1 n1 c1).ownBlock ≠ some b)
    (hb0 : ∀ g, (Value.slice A0 n0 c0).ownBlock = some g → B ≤ g) (hb1 : ∀ g, (Value.slice A1 n1 c1).ownBlock = some g → B ≤ g) (hB : B ≤ w.heap.size) (hn0 : n0 ≤ 1000000) (hn1 : n1 ≤ 1000000) :
    Calls Tryz.prog 15 #[.slice (some ⟨X, 0, none⟩) 2 2] w fun e w' => e = .returned (.bool true) ∧ Below B w w' := by
  have HX0 := hide x0
  have HX1 := hide x1
  have H0 := hide h0
  have H1 := hide h1
  have HAP := hide hap
  have HB0 := hide hb0
  have HB1 := hide hb1
  obtain ⟨w1, hw1⟩ : ∃ w1, w1 = w.alloc (.cells (bagCells (.slice none 0 0)) 84) := ⟨_, rfl⟩
  have ha : Below w.heap.size w w1 := by rw [hw1]; exact (Below.refl _ w).alloc (Nat.le_refl _) _
  have hbag : Bag w1 w.heap.size (.slice none 0 0) 0 [] := by rw [hw1]; exact ⟨World.alloc_heap_new w _, rfl, .inl ⟨rfl, rfl⟩⟩
  have y0 : w1.cell? ⟨X, 0, none⟩ = some (.slice A0 n0 c0) := (ha.cell (p := ⟨X, 0, none⟩) hX).trans x0
  have HA := hide ha
  have HG := hide hbag
  have HW := hide hw1
  clear x0 x1 h0 h1 hap hb0 hb1 ha hbag hw1
  go_enter Tryz.func15, Tryz.ntmps15
  go_wp2
  rw [show w.alloc (.cells #[.slice none 0 0, .slice none 0 0, .slice none 0 0, .slice none 0 0, .slice none 0 0, .slice none 0 0, .slice none 0 0, .slice none 0 0, .slice none 0 0, .slice none 0 0, .slice none 0 0, .slice none 0 0, .slice none 0 0, .slice none 0 0, .slice none 0 0, .slice none 0 0, .slice none 0 0, .slice none 0 0, .slice none 0 0, .slice none 0 0, .slice none 0 0, .slice none 0 0, .slice none 0 0, .slice none 0 0] 84) = w1 from HW.out.symm]
  clear HW
  refine wp_loop_rounds 3 ?_
  rw [rounds_succ]
  go_wp2_with (go_at_call 28; refine stop_here ?_)
  show Hid _
  refine start_here ?_
  refine (putBytes_any w.heap.size _ 0 A0 n0 c0 [] w1 HG.out (by omega)).mono ?_
  rintro e w2 ⟨rfl, v2, hg2, hk2, hv2⟩
  have hb2 : Below w.heap.size w1 w2 := hk2.low (a := w) HA.out.size (fun g hg => ⟨by omega, nofun⟩)
  have HA2 := hide (HA.out.trans hb2)
  have HG2 := hide hg2
  have HV2 : Hid (∀ g, v2.ownBlock = some g → w.heap.size ≤ g) := fun g hg => (hv2 g hg).elim nofun (fun h => Nat.le_trans HA.out.size h)
  have y1 : w2.cell? ⟨X, 1, none⟩ = some (.slice A1 n1 c1) := (HA2.out.cell (p := ⟨X, 1, none⟩) hX).trans HX1.out
  clear hg2 hk2 hv2 hb2 y0 HG HA
  go_wp2_with fail
  rw [rounds_succ]
  go_wp2_with (go_at_call 28; refine stop_here ?_)
  show Hid _
  refine start_here ?_
  refine (putBytes_any w.heap.size _ 1 A1 n1 c1 _ w2 HG2.out (by omega)).mono ?_
  rintro e w3 ⟨rfl, v3, hg3, hk3, hv3⟩
  have hb3 : Below w.heap.size w2 w3 := hk3.low (a := w) HA2.out.size (fun g hg => ⟨by omega, fun e => by have := HV2.out g e; omega⟩)
  have HA3 := hide (HA2.out.trans hb3)
  have HG3 := hide hg3
  clear hg3 hk3 hv3 hb3 y1 HG2 HA2 HV2
  go_wp2_with fail
  rw [rounds_succ]
  go_wp2_with (go_at_call 29; refine stop_here ?_)
  show Hid _
  refine start_here ?_
  have hg := HG3.out
  obtain ⟨L, cL, rfl⟩ := owns_some hg.2 (by omega)
  have hv : ∀ i, i < 2 → ∃ xs, w3.ownsRow 0 5 1 (rowV (two A0 A1) (two n0 n1) (two c0 c1) i) (two n0 n1 i) xs := fun i hi => by
    have hi2 : i = 0 ∨ i = 1 := by omega
    rcases hi2 with rfl | rfl
    · exact ⟨_, owns_kept_below H0.out HA3.out⟩
    · exact ⟨_, owns_kept_below H1.out HA3.out⟩
  have hs : Sep 2 (rowV (two A0 A1) (two n0 n1) (two c0 c1)) := fun i j hi hj hij b hb => by
    have hi2 : i = 0 ∧ j = 1 ∨ i = 1 ∧ j = 0 := by omega
    rcases hi2 with ⟨rfl, rfl⟩ | ⟨rfl, rfl⟩
    · exact HAP.out b hb
    · exact fun e => HAP.out b e hb
  refine (bagApart_any w.heap.size L cL 2 (two A0 A1) (two n0 n1) (two c0 c1) w3 hg.1 hg.2 hv hs (fun i => by unfold two; split <;> omega) (by omega)).mono ?_
  rintro e w4 ⟨rfl, hk4⟩
  have hb4 : Below B w3 w4 := hk4.to_below (fun g hg i hi e => by
    have hi2 : i = 0 ∨ i = 1 := by omega
    rcases hi2 with rfl | rfl
    · have := HB0.out g e; omega
    · have := HB1.out g e; omega) (Nat.le_trans hB HA3.out.size)
  have HB4 := hide ((HA3.out.mono hB).trans hb4)
  clear hk4 hb4 hv hs hg HG3 HA3
  go_wp2
  go_ret
  exact ⟨rfl, HB4.out⟩
end Go.Proofs.YtjndmpockfmenaaGreat
