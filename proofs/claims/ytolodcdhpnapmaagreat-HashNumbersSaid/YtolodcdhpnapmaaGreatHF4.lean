/-
  The document's Delete.
-/
import Derived.Test.YtolodcdhpnapmaaGreatHF4a
namespace Go.Proofs.YtolodcdhpnapmaaGreat
open Go.RowKit Go.Maps Go.Sort
set_option linter.unusedVariables false

theorem below_then {F : Nat → Prop} {w w1 w2 : World} (hb : Below w.heap.size w w1) (hk : Kept F w1 w2) : Kept F w w2 :=
  ⟨hk.os.trans hb.os, hk.tape.trans hb.tape, hk.output.trans hb.output, Nat.le_trans hb.size hk.size, fun k hk' hF => (hk.block k (Nat.lt_of_lt_of_le hk' hb.size) hF).trans (hb.block k hk')⟩
theorem RHsh.xy {w : World} {B x y lc ks sz : Nat} {M : List HS} (h : RHsh w B x y lc ks sz M) : x ≠ y := fun e => by
  obtain ⟨cur2, hc2⟩ := owns_cells (g := y) h.row rfl
  rw [← e, h.blk] at hc2
  injection hc2 with hc2
  injection hc2 with _ hc2
  exact absurd hc2 (by decide)
set_option maxRecDepth 100000 in
set_option maxHeartbeats 1000000 in
theorem rdel_no (B x y lc ks sz : Nat) (M : List HS) (A : Option Addr) (n c C : Nat) (l : List Int) (w : World) (h : RHsh w B x y lc ks sz M) (hr : KRow w C A n l) (hC : C ≤ w.heap.size) (he : delE ks n M (kb l) ≠ 0) :
    Calls Tryz.prog 38 #[.pointer (some ⟨x, 0, none⟩), .slice A n c] w fun e w' => e = .returned (.int .i64 (delE ks n M (kb l))) ∧ Below w.heap.size w w' := by
  have HL := hide (rlookup_any B x y lc ks sz M A n c C l w h hr hC)
  obtain ⟨q, hq1, hq2⟩ : ∃ q : Int, lookE ks n M (kb l) = (0, q) ∧ delE ks n M (kb l) = q ∧ q ≠ 0 := by
    unfold lookE
    unfold delE at he ⊢
    by_cases hn : n = ks
    · rw [if_pos hn] at he ⊢
      rw [if_pos hn]
      cases hf : findK M (kb l) with
      | some i => rw [hf] at he; exact absurd rfl he
      | none => exact ⟨6, rfl, rfl, by decide⟩
    · rw [if_neg hn] at he ⊢
      rw [if_neg hn]
      exact ⟨2, rfl, rfl, by decide⟩
  obtain ⟨hq2, hq0⟩ := hq2
  rw [hq1] at HL
  rw [hq2]
  have d1 : (q != 0) = true := by simpa using hq0
  clear h hr he hq1 hq2
  go_enter Tryz.func38, Tryz.ntmps38
  go_wp2_with fail
  refine HL.out.mono ?_
  rintro e w' ⟨rfl, hb⟩
  have HB := hide hb
  clear hb HL
  go_wp2_with fail
  go_ret
  exact ⟨rfl, HB.out⟩
set_option maxRecDepth 100000 in
set_option maxHeartbeats 1000000 in
theorem rdel_yes (B x y lc ks sz i : Nat) (M : List HS) (A : Option Addr) (c C : Nat) (l : List Int) (r : HS) (w : World) (h : RHsh w B x y lc ks sz M) (hr : KRow w C A ks l) (hC : C ≤ w.heap.size) (hf : findK M (kb l) = some i) (hi : M[i]? = some r) :
    Calls Tryz.prog 38 #[.pointer (some ⟨x, 0, none⟩), .slice A ks c] w fun e w' => e = .returned (.int .i64 0) ∧ RHsh w' B x y lc ks sz (dropK M i) ∧ Kept (fun g => ¬ OfR x y sz M g) w w' := by
  have HL := hide (rlookup_any B x y lc ks sz M A ks c C l w h hr hC)
  rw [show lookE ks ks M (kb l) = ((i : Int), 0) by unfold lookE; rw [if_pos rfl, hf]] at HL
  have hlt := (List.getElem?_eq_some_iff.1 hi).1
  have j0 : (0 : Int) ≤ (i : Int) := by omega
  have j1 : (i : Int) < (M.length : Int) := by omega
  have HR := hide h
  have HI := hide hi
  clear h hr
  go_enter Tryz.func38, Tryz.ntmps38
  go_wp2_with fail
  refine HL.out.mono ?_
  rintro e w1 ⟨rfl, hb⟩
  have h1 := HR.out.below hb
  have x4 := h1.c4
  have y2 := h1.val hi
  obtain ⟨s0, s1, s2, s3, s4, s5⟩ := store3_ok h1 hi (.bool false) (.string { data := #[] })
  unfold HS.v0 at s0
  unfold HS.v1 at s2
  unfold HS.sl at s4
  have HB := hide hb
  have H1 := hide h1
  clear hb HL h1 hi
  go_wp2_with fail
  go_region
  have HST : Hid (RHsh (stored3 w1 y i sz { r with key := none }).drew B x y lc ks sz (M.set i { r with key := none }) ∧ Kept (fun g => g ≠ y) w1 (stored3 w1 y i sz { r with key := none }).drew) := hide (by
    have hs := H1.out.store (t := { r with key := none }) HI.out H1.out.xy (H1.out.each i r HI.out) (H1.out.off HI.out).2 (fun j s hs hne g hg => H1.out.sep i j r s HI.out hs (fun e => hne e.symm) g hg) (fun g hg => H1.out.low g (.inr (.inr ⟨r, List.mem_of_getElem? HI.out, hg⟩))) (fun k hk => by cases hk)
    exact ⟨hs.1.below (Below.refl _ _).drew, hs.2.later (Below.refl _ _).drew⟩)
  unfold stored3 HS.v0 HS.v1 HS.sl at HST
  clear s0 s1 s2 s3 s4 s5 x4 y2
  change Hid (RHsh (((w1.setCell ⟨y, i * 3, none⟩ (.bool false)).setCell ⟨y, i * 3 + 1, none⟩ (.string { data := #[] })).setCell ⟨y, i * 3 + 2, none⟩ (.slice r.A sz r.c)).drew B x y lc ks sz (M.set i { r with key := none }) ∧ Kept (fun g => g ≠ y) w1 (((w1.setCell ⟨y, i * 3, none⟩ (.bool false)).setCell ⟨y, i * 3 + 1, none⟩ (.string { data := #[] })).setCell ⟨y, i * 3 + 2, none⟩ (.slice r.A sz r.c)).drew) at HST
  generalize (((w1.setCell ⟨y, i * 3, none⟩ (.bool false)).setCell ⟨y, i * 3 + 1, none⟩ (.string { data := #[] })).setCell ⟨y, i * 3 + 2, none⟩ (.slice r.A sz r.c)).drew = w2 at *
  go_wp2_with fail
  go_ret
  refine ⟨rfl, ?_, below_then HB.out (HST.out.2.mono (fun g hg e => hg (.inr (.inl e))))⟩
  unfold dropK
  rw [HI.out]
  exact HST.out.1
end Go.Proofs.YtolodcdhpnapmaaGreat
