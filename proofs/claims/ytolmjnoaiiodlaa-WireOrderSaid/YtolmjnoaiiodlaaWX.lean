/-
  A row of two leaves, copied; a list of it.
-/
import Derived.Test.YtolmjnoaiiodlaaWV
namespace Go.Proofs.Ytolmjnoaiiodlaa
open Go.RowKit Go.Maps Forest
set_option linter.unusedVariables false

theorem rowsSize : (Try.prog.info? 24).map (·.size) = some 1 := by kernel_rfl
theorem cut_rows (S : Option Addr) (q sc h : Nat) (hh : h ≤ sc) (W : World) : (Instr.slice 79 (.slice S q sc) none (some (.int .i64 (h : Int))) none).run Try.prog W = .ok (.slice S h sc) W := by
  obtain ⟨i, hi, hsi⟩ := Option.map_eq_some_iff.1 rowsSize
  have hht : Try.prog.underlying 79 = some (.slice (Try.prog.elem 79)) := by simp [Program.elem, Try.underlying79]
  rw [run_slice_h (P := Try.prog) W 79 S q sc hht .i64 h (by omega) (by omega)]
  have : Try.prog.elem 79 = 24 := by simp [Program.elem, Try.underlying79]
  rw [this]
  simp only [sizeOf, typeInfo]
  have ha : S.map (·.add 0) = S := by cases S <;> rfl
  simp [hi, hsi, Result.andThen, sliced, ha]
set_option maxRecDepth 100000 in
set_option maxHeartbeats 4000000 in
theorem copied_two (k1 n1 k2 n2 : Int) (b1 b2 : List Int) (A1 A2 : Option Addr) (c1 c2 : Nat) (g B : Nat) (w : World) (hg : w.heap[g]? = some (.cells #[.int .u8 k1, .int .i64 n1, .slice A1 b1.length c1, .slice none 0 0, .int .u8 k2, .int .i64 n2, .slice A2 b2.length c2, .slice none 0 0] 26 (0, 0)))
    (h1 : Rd w B 1 A1 b1.length (u8s b1)) (h2 : Rd w B 1 A2 b2.length (u8s b2)) (hA1 : A1 = none → b1.length = 0) (hA2 : A2 = none → b2.length = 0) (hB : B ≤ w.heap.size) (hl1 : b1.length ≤ 1000000) (hl2 : b2.length ≤ 1000000) :
    Calls Try.prog 29 #[.slice (some ⟨g, 0, none⟩) 2 2] w fun e w' => ∃ a c, e = .returned (.slice (some a) 2 c) ∧ FAt w' w'.heap.size (.cons k1 n1 b1 .nil (.cons k2 n2 b2 .nil .nil)) a ∧ 2 ≤ c ∧ Below w.heap.size w w' ∧ (∀ x W', x < w.heap.size → w'.grownBy W' (some x) → FAt W' W'.heap.size (.cons k1 n1 b1 .nil (.cons k2 n2 b2 .nil .nil)) a) := by
  have hlt := at_lt hg
  have HRD : Rd w w.heap.size 4 (some ⟨g, 0, none⟩) 2 [.int .u8 k1, .int .i64 n1, .slice A1 b1.length c1, .slice none 0 0, .int .u8 k2, .int .i64 n2, .slice A2 b2.length c2, .slice none 0 0] := ⟨rfl, fun _ => ⟨_, rfl, hlt, fun j u hu => by rw [add_own, blk_cell hg]; simpa using hu⟩⟩
  have HNT := hide (newTrees_any (some ⟨g, 0, none⟩) 2 2 w.heap.size _ w HRD nofun (by intro u hu; simp at hu; rcases hu with rfl | rfl | rfl | rfl | rfl | rfl | rfl | rfl <;> rfl) (Nat.le_refl _) (by decide))
  have H1 := hide h1
  have H2 := hide h2
  have HA1 := hide hA1
  have HA2 := hide hA2
  clear HRD h1 h2 hA1 hA2 hg
  go_enter Try.func29, Try.ntmps29
  go_wp2_with fail
  refine HNT.out.mono ?_
  rintro e w1 ⟨v, rfl, ho, hv, hb⟩
  obtain ⟨g1, cp, rfl⟩ : ∃ g1 cp, v = .slice (some ⟨g1, 0, none⟩) 2 cp := by
    rcases ho.2 with ⟨_, h0⟩ | ⟨g1, cap, cur, hv, _⟩
    · cases h0
    · exact ⟨g1, cap, hv⟩
  have HO := hide ho
  have HV := hide (hv g1 rfl)
  have HB := hide hb
  clear ho hv hb
  go_wp2_with fail
  obtain ⟨W2, hW2⟩ : ∃ W2, W2 = w1.alloc (.cells #[.slice (some ⟨g1, 0, none⟩) 2 cp] 24) := ⟨_, rfl⟩
  have hb2 : Below w1.heap.size w1 W2 := by rw [hW2]; exact below1 _ _
  have hx2 : W2.heap[w1.heap.size]? = some (.cells #[.slice (some ⟨g1, 0, none⟩) 2 cp] 24 (0, 0)) := by rw [hW2]; exact World.alloc_heap_new _ _
  rw [← hW2]
  have HX2 := hide hx2
  have HB2 := hide (HB.out.trans (hb2.mono HB.out.size))
  have HO2 := hide (owns_kept_below HO.out hb2)
  have y0 := (blk_cell hx2 0).trans rfl
  have hcut := cut_rows (some ⟨w1.heap.size, 0, none⟩) 1 1 0 (by decide)
  clear hb2 hx2 hW2
  refine wp_loop_rounds 3 ?_
  rw [rounds_succ]
  go_wp2_with fail
  refine wp_loop_rounds 4 ?_
  rw [rounds_succ]
  have a2 : W2.cell? ⟨g1, 2, none⟩ = some (.slice A1 b1.length c1) := (HO2.out.cells (g := g1) rfl) 2 _ rfl
  go_wp2_with fail
  refine (newBytes_any A1 b1.length c1 B b1 W2 (H1.out.below (HB2.out.mono hB)) HA1.out (Nat.le_trans hB HB2.out.size) (by omega)).mono ?_
  rintro e Wa0 ⟨va0, rfl, hva, hvl, hb⟩
  obtain ⟨Ba0, ca0, rfl, _⟩ := owns_slice hva
  have HVa0 := hide hva
  have HBa0 := hide (HB2.out.trans (hb.mono HB2.out.size))
  have HOa0 := hide (owns_kept_below HO2.out hb)
  have HNa0 : Hid ((Value.slice Ba0 b1.length ca0).ownBlock ≠ some g1) := by
    show (Value.slice Ba0 b1.length ca0).ownBlock ≠ some g1
    intro e
    rcases owns_ne HVa0.out HOa0.out (by decide) with h | h
    · rw [h] at e; cases e
    · exact h e
  have HL0 : Hid (∀ g, (Value.slice Ba0 b1.length ca0).ownBlock = some g → w.heap.size ≤ g) := fun g hg => Nat.le_trans HB2.out.size (hvl g hg)
  clear hva hvl hb a2
  have a2 : Wa0.cell? ⟨g1, 2, none⟩ = some (.slice A1 b1.length c1) := (HOa0.out.cells (g := g1) rfl) 2 _ rfl
  have a3 : Wa0.cell? ⟨g1, 3, none⟩ = some (.slice none 0 0) := (HOa0.out.cells (g := g1) rfl) 3 _ rfl
  have f2 := owns_free HOa0.out 2
  have f3 := owns_free HOa0.out 3
  go_wp2_with fail
  obtain ⟨Wb0, hWb⟩ : ∃ W, W = Wa0.setCell ⟨g1, 2, none⟩ (.slice Ba0 b1.length ca0) := ⟨_, rfl⟩
  have HOb0 : Hid (Wb0.ownsRow 0 26 4 (.slice (some ⟨g1, 0, none⟩) 2 cp) 2 [.int .u8 k1, .int .i64 n1, .slice Ba0 b1.length ca0, .slice none 0 0, .int .u8 k2, .int .i64 n2, .slice A2 b2.length c2, .slice none 0 0]) := by
    rw [hWb]; exact owns_set HOa0.out (j := 2) (by decide) (.slice Ba0 b1.length ca0)
  have HBb0 : Hid (Below w.heap.size w Wb0) := by
    rw [hWb]; exact HBa0.out.setCell (p := ⟨g1, 2, none⟩) HV.out _
  have hgb : Wa0.grownBy Wb0 (some g1) := by rw [hWb]; exact grown_set Wa0 g1 2 _
  have HVb0 := hide (HVa0.out.kept hgb (.inr HNa0.out))
  rw [← hWb]
  clear hWb hgb a2 a3 f2 f3
  refine (newTrees_any none 0 0 0 [] Wb0 ⟨rfl, fun h => absurd h (by decide)⟩ (fun _ => rfl) (by simp) (Nat.zero_le _) (by decide)).mono ?_
  rintro e Wc0 ⟨vc0, rfl, hvc, hvl, hb⟩
  obtain ⟨Bc0, cc0, rfl, _⟩ := owns_slice hvc
  have HBc0 := hide (HBb0.out.trans (hb.mono HBb0.out.size))
  have HOc0 := hide (owns_kept_below HOb0.out hb)
  have HVc0 := hide (owns_kept_below HVb0.out hb)
  clear hvc hvl hb
  have a3 : Wc0.cell? ⟨g1, 3, none⟩ = some (.slice none 0 0) := (HOc0.out.cells (g := g1) rfl) 3 _ rfl
  have f3 := owns_free HOc0.out 3
  go_wp2_with fail
  obtain ⟨Wd0, hWd⟩ : ∃ W, W = Wc0.setCell ⟨g1, 3, none⟩ (.slice Bc0 0 cc0) := ⟨_, rfl⟩
  have HOd0 : Hid (Wd0.ownsRow 0 26 4 (.slice (some ⟨g1, 0, none⟩) 2 cp) 2 [.int .u8 k1, .int .i64 n1, .slice Ba0 b1.length ca0, .slice Bc0 0 cc0, .int .u8 k2, .int .i64 n2, .slice A2 b2.length c2, .slice none 0 0]) := by
    rw [hWd]; exact owns_set HOc0.out (j := 3) (by decide) (.slice Bc0 0 cc0)
  have HBd0 : Hid (Below w.heap.size w Wd0) := by
    rw [hWd]; exact HBc0.out.setCell (p := ⟨g1, 3, none⟩) HV.out _
  have hgd : Wc0.grownBy Wd0 (some g1) := by rw [hWd]; exact grown_set Wc0 g1 3 _
  have HVd0 := hide (HVc0.out.kept hgd (.inr HNa0.out))
  rw [← hWd]
  clear hWd hgd a3 f3
  rw [rounds_succ]
  have a6 : Wd0.cell? ⟨g1, 6, none⟩ = some (.slice A2 b2.length c2) := (HOd0.out.cells (g := g1) rfl) 6 _ rfl
  go_wp2_with fail
  refine (newBytes_any A2 b2.length c2 B b2 Wd0 (H2.out.below (HBd0.out.mono hB)) HA2.out (Nat.le_trans hB HBd0.out.size) (by omega)).mono ?_
  rintro e Wa1 ⟨va1, rfl, hva, hvl, hb⟩
  obtain ⟨Ba1, ca1, rfl, _⟩ := owns_slice hva
  have HVa1 := hide hva
  have HBa1 := hide (HBd0.out.trans (hb.mono HBd0.out.size))
  have HOa1 := hide (owns_kept_below HOd0.out hb)
  have HVd0a1 := hide (owns_kept_below HVd0.out hb)
  have HNa1 : Hid ((Value.slice Ba1 b2.length ca1).ownBlock ≠ some g1) := by
    show (Value.slice Ba1 b2.length ca1).ownBlock ≠ some g1
    intro e
    rcases owns_ne HVa1.out HOa1.out (by decide) with h | h
    · rw [h] at e; cases e
    · exact h e
  have HL1 : Hid (∀ g, (Value.slice Ba1 b2.length ca1).ownBlock = some g → w.heap.size ≤ g) := fun g hg => Nat.le_trans HBd0.out.size (hvl g hg)
  clear hva hvl hb a6
  have a6 : Wa1.cell? ⟨g1, 6, none⟩ = some (.slice A2 b2.length c2) := (HOa1.out.cells (g := g1) rfl) 6 _ rfl
  have a7 : Wa1.cell? ⟨g1, 7, none⟩ = some (.slice none 0 0) := (HOa1.out.cells (g := g1) rfl) 7 _ rfl
  have f6 := owns_free HOa1.out 6
  have f7 := owns_free HOa1.out 7
  go_wp2_with fail
  obtain ⟨Wb1, hWb⟩ : ∃ W, W = Wa1.setCell ⟨g1, 6, none⟩ (.slice Ba1 b2.length ca1) := ⟨_, rfl⟩
  have HOb1 : Hid (Wb1.ownsRow 0 26 4 (.slice (some ⟨g1, 0, none⟩) 2 cp) 2 [.int .u8 k1, .int .i64 n1, .slice Ba0 b1.length ca0, .slice Bc0 0 cc0, .int .u8 k2, .int .i64 n2, .slice Ba1 b2.length ca1, .slice none 0 0]) := by
    rw [hWb]; exact owns_set HOa1.out (j := 6) (by decide) (.slice Ba1 b2.length ca1)
  have HBb1 : Hid (Below w.heap.size w Wb1) := by
    rw [hWb]; exact HBa1.out.setCell (p := ⟨g1, 6, none⟩) HV.out _
  have hgb : Wa1.grownBy Wb1 (some g1) := by rw [hWb]; exact grown_set Wa1 g1 6 _
  have HVb1 := hide (HVa1.out.kept hgb (.inr HNa1.out))
  have HVd0a1b := hide (HVd0a1.out.kept hgb (.inr HNa0.out))
  rw [← hWb]
  clear hWb hgb a6 a7 f6 f7
  refine (newTrees_any none 0 0 0 [] Wb1 ⟨rfl, fun h => absurd h (by decide)⟩ (fun _ => rfl) (by simp) (Nat.zero_le _) (by decide)).mono ?_
  rintro e Wc1 ⟨vc1, rfl, hvc, hvl, hb⟩
  obtain ⟨Bc1, cc1, rfl, _⟩ := owns_slice hvc
  have HBc1 := hide (HBb1.out.trans (hb.mono HBb1.out.size))
  have HOc1 := hide (owns_kept_below HOb1.out hb)
  have HVc1 := hide (owns_kept_below HVb1.out hb)
  have HVd0a1bc := hide (owns_kept_below HVd0a1b.out hb)
  clear hvc hvl hb
  have a7 : Wc1.cell? ⟨g1, 7, none⟩ = some (.slice none 0 0) := (HOc1.out.cells (g := g1) rfl) 7 _ rfl
  have f7 := owns_free HOc1.out 7
  go_wp2_with fail
  obtain ⟨Wd1, hWd⟩ : ∃ W, W = Wc1.setCell ⟨g1, 7, none⟩ (.slice Bc1 0 cc1) := ⟨_, rfl⟩
  have HOd1 : Hid (Wd1.ownsRow 0 26 4 (.slice (some ⟨g1, 0, none⟩) 2 cp) 2 [.int .u8 k1, .int .i64 n1, .slice Ba0 b1.length ca0, .slice Bc0 0 cc0, .int .u8 k2, .int .i64 n2, .slice Ba1 b2.length ca1, .slice Bc1 0 cc1]) := by
    rw [hWd]; exact owns_set HOc1.out (j := 7) (by decide) (.slice Bc1 0 cc1)
  have HBd1 : Hid (Below w.heap.size w Wd1) := by
    rw [hWd]; exact HBc1.out.setCell (p := ⟨g1, 7, none⟩) HV.out _
  have hgd : Wc1.grownBy Wd1 (some g1) := by rw [hWd]; exact grown_set Wc1 g1 7 _
  have HVd1 := hide (HVc1.out.kept hgd (.inr HNa1.out))
  have HVd0a1bcd := hide (HVd0a1bc.out.kept hgd (.inr HNa0.out))
  rw [← hWd]
  clear hWd hgd a7 f7
  rw [rounds_succ]
  go_wp2_with fail
  rw [rounds_succ]
  go_wp2_with fail
  go_ret
  have hcap : 2 ≤ cp := by
    rcases HOd1.out.2 with ⟨h, _⟩ | ⟨g', cap, cur, hv', _, _, hn, _⟩
    · cases h
    · cases hv'; exact hn
  have hfin : ∀ W : World, W.ownsRow 0 26 4 (.slice (some ⟨g1, 0, none⟩) 2 cp) 2 [.int .u8 k1, .int .i64 n1, .slice Ba0 b1.length ca0, .slice Bc0 0 cc0, .int .u8 k2, .int .i64 n2, .slice Ba1 b2.length ca1, .slice Bc1 0 cc1] → W.ownsRow 0 5 1 (.slice Ba0 b1.length ca0) b1.length (u8s b1) → W.ownsRow 0 5 1 (.slice Ba1 b2.length ca1) b2.length (u8s b2) → FAt W W.heap.size (.cons k1 n1 b1 .nil (.cons k2 n2 b2 .nil .nil)) ⟨g1, 0, none⟩ := by
    intro W ho o1 o2
    have hblk : ∃ c t, W.heap[g1]? = some (.cells c t (0, 0)) := by
      rcases ho.2 with ⟨h, _⟩ | ⟨g', cap, cur, hv', _, hh, _⟩
      · cases h
      · cases hv'; exact ⟨cur, _, hh⟩
    have hcl := ho.cells (g := g1) rfl
    have hgl := (ho.lt g1 rfl).2
    have hr1 := owns_slice o1
    have hr2 := owns_slice o2
    obtain ⟨_, _, e1, hr1⟩ := hr1
    obtain ⟨_, _, e2, hr2⟩ := hr2
    cases e1
    cases e2
    have hz : ∀ (A : Option Addr) (n : Nat) (xs : List Value), Rd W W.heap.size 1 A n xs → A = none → n = 0 := fun A n xs h e => by
      rcases Nat.eq_zero_or_pos n with h0 | h0
      · exact h0
      · obtain ⟨ad, e2, _⟩ := h.2 h0
        rw [e] at e2; cases e2
    have ha4 : (⟨g1, 0, none⟩ : Addr).add 4 = ⟨g1, 4, none⟩ := rfl
    refine ⟨⟨hgl, hblk⟩, ⟨_, _, _, _, hcl 0 _ rfl, hcl 1 _ rfl, hcl 2 _ rfl, hcl 3 _ rfl, hr1, hz _ _ _ hr1, .inl rfl, Nat.zero_le _⟩, ?_⟩
    rw [ha4]
    exact ⟨⟨hgl, hblk⟩, ⟨_, _, _, _, hcl 4 _ rfl, hcl 5 _ rfl, hcl 6 _ rfl, hcl 7 _ rfl, hr2, hz _ _ _ hr2, .inl rfl, Nat.zero_le _⟩, trivial⟩
  refine ⟨⟨g1, 0, none⟩, cp, rfl, hfin _ HOd1.out HVd0a1bcd.out HVd1.out, hcap, HBd1.out, fun x W' hx hgx => ?_⟩
  refine hfin W' (HOd1.out.kept hgx (.inr fun e => ?_)) (HVd0a1bcd.out.kept hgx (.inr fun e => ?_)) (HVd1.out.kept hgx (.inr fun e => ?_))
  · have := HV.out
    have e' : g1 = x := by injection e
    omega
  · have := HL0.out x e; omega
  · have := HL1.out x e; omega
end Go.Proofs.Ytolmjnoaiiodlaa
