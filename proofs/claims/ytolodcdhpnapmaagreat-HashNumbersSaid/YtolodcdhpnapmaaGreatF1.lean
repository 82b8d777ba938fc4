/-
  Rows of bytes that lie apart are found to lie apart.
-/
import Derived.Test.YtolodcdhpnapmaaGreatAP3
import Derived.Test.YtolodcdhpnapmaaGreatWM
import Derived.Test.YtolodcdhpnapmaaGreatF0
import Derived.StillTailTactics
namespace Go.Proofs.YtolodcdhpnapmaaGreat
open Go.RowKit
set_option linter.unusedVariables false

def mkB (k t : Nat) : List Value := [.int .u8 (markB k t)]
def rowV (A : Nat → Option Addr) (n c : Nat → Nat) (i : Nat) : Value := .slice (A i) (n i) (c i)
/-- The list of the rows. -/
def Lst (w : World) (e L cL m : Nat) (A : Nat → Option Addr) (n c : Nat → Nat) : Prop := w.ownsRow 0 e 1 (.slice (some ⟨L, 0, none⟩) m cL) m ((List.range m).map (rowV A n c))
theorem Lst.cell {w : World} {e L cL m k : Nat} {A : Nat → Option Addr} {n c : Nat → Nat} (h : Lst w e L cL m A n c) (hk : k < m) : w.cell? ⟨L, k, none⟩ = some (.slice (A k) (n k) (c k)) := by
  obtain ⟨u, h1, h2⟩ := owns_at h (show k < m * 1 by omega)
  rw [List.getElem?_map, List.getElem?_range hk] at h1
  rw [h2, ← h1]
  rfl
theorem row_some {w : World} {e : TypeId} {sz : Nat} {A : Nat → Option Addr} {n c : Nat → Nat} {i : Nat} {xs : List Value} (h : w.ownsRow 0 e sz (rowV A n c i) (n i) xs) (hn : 0 < n i) : ∃ g, A i = some ⟨g, 0, none⟩ := by
  rcases h.2 with ⟨_, h0⟩ | ⟨g, cap, cur, hv, _⟩
  · omega
  · unfold rowV at hv
    injection hv with h1
    exact ⟨g, h1⟩

theorem new_mark (w : World) (k t : Nat) : ∀ j u, (mkB k t)[j]? = some u → (w.alloc (.cells (mkB k t).toArray 5)).cell? ((⟨w.heap.size, 0, none⟩ : Addr).add j) = some u := by
  obtain ⟨ad, e, _, h⟩ := (cells_rd w (mkB k t) 5 1 1 rfl).2 (by decide)
  cases e
  exact h
theorem one_mark (k t : Nat) : ∀ u ∈ mkB k t, u.oneCell' = true := by
  intro u hu
  simp only [mkB, List.mem_singleton] at hu
  subst hu
  rfl
theorem set_said {zs : List Value} {H : Nat → Value} {k : Nat} (h : ∀ i, i < k → zs[i]? = some (H i)) (hk : k < zs.length) (u : Value) : ∀ i, i < k + 1 → (zs.set k u)[i]? = some (if i = k then u else H i) := by
  intro i hi
  by_cases hik : i = k
  · subst hik
    rw [List.getElem?_set_self hk, if_pos rfl]
  · rw [List.getElem?_set_ne (by omega), if_neg hik]
    exact h i (by omega)
theorem owns_some {w : World} {e : TypeId} {sz n : Nat} {v : Value} {xs : List Value} (h : w.ownsRow 0 e sz v n xs) (hn : 0 < n) : ∃ g cap, v = .slice (some ⟨g, 0, none⟩) n cap := by
  rcases h.2 with ⟨_, h0⟩ | ⟨g, cap, cur, hv, _⟩
  · omega
  · exact ⟨g, cap, hv⟩
theorem gs_cell {w : World} {e : TypeId} {G N cap i : Nat} {zs : List Value} {u : Value} (h : w.ownsRow 0 e 1 (.slice (some ⟨G, 0, none⟩) N cap) N zs) (hu : zs[i]? = some u) (hi : i < N) : w.cell? ⟨G, i, none⟩ = some u := by
  obtain ⟨u', h1, h2⟩ := owns_at h (show i < N * 1 by omega)
  rw [h1] at hu
  rw [h2, hu]
theorem mark_cell {w : World} {e : TypeId} {g N cap j : Nat} {xs : List Value} {u : Value} (h : w.ownsRow 0 e 1 (.slice (some ⟨g, 0, none⟩) N cap) N xs) (hj : j < N) (hu : xs[j]? = some u) : w.cell? ⟨g, j, none⟩ = some u := gs_cell h hu hj
theorem marks_byte {k N j : Nat} (hj : j < N) : (marks (mkB k) N)[j]? = some (.int .u8 (markB k j)) := by
  have := marks_at (mkB k) 1 (fun _ => rfl) N j 0 hj (by decide)
  rw [Nat.mul_one, Nat.add_zero] at this
  rw [this]
  rfl
theorem later_mark (k j : Nat) (hk : k ≤ 1000) (hj : j ≤ 1000000000) (w : World) : Calls Tryz.prog 66 #[.int .i64 k, .int .i64 j] w fun e w' => e = .returned (.int .u8 (markB k j)) ∧ Below w.heap.size w w' :=
  (markByte_any k j hk hj w).mono fun e w' h => ⟨h.1, by rw [h.2]; exact Below.refl _ _⟩
theorem mark_sum (i k j : Nat) (hk : i + k ≤ 1000) (hj : j ≤ 1000000000) (w : World) : Calls Tryz.prog 66 #[.int .i64 ((i : Int) + (k : Int)), .int .i64 j] w fun e w' => e = .returned (.int .u8 (markB (i + k) j)) ∧ w = w' := by
  have h := markByte_any (i + k) j hk hj w
  rw [Int.natCast_add] at h
  exact h
theorem take_set_mark {k j : Nat} {ys : List Value} (h : ys.take j = marks (mkB k) j) (hj : j < ys.length) : (ys.set j (.int .u8 (markB k j))).take (j + 1) = marks (mkB k) (j + 1) := by
  rw [List.take_add_one, List.take_set_of_le (Nat.le_refl j), h, marks_snoc, List.getElem?_set_self hj]
  rfl
theorem marks_one (k N : Nat) : ∀ u ∈ marks (mkB k) N, u.oneCell' = true := by
  intro u hu
  simp only [marks, List.mem_flatMap, mkB, List.mem_singleton] at hu
  obtain ⟨t, _, rfl⟩ := hu
  rfl
/-- Blocks that no row owns. -/
def Own (m : Nat) (A : Nat → Option Addr) (n c : Nat → Nat) (g : Nat) : Prop := ∀ i, i < m → (rowV A n c i).ownBlock ≠ some g
theorem rowInfo : (Tryz.prog.info? 34).map (fun i => (i.zero, i.size, i.bytes)) = some (some (.slice none 0 0), 1, 24) := by kernel_rfl
set_option maxRecDepth 100000 in
set_option maxHeartbeats 4000000 in
theorem flatBytes_any (L cL m : Nat) (A : Nat → Option Addr) (n c : Nat → Nat) (w : World) (hL : Lst w 34 L cL m A n c) (hv : ∀ i, i < m → ∃ xs, w.ownsRow 0 5 1 (rowV A n c i) (n i) xs) (hs : Sep m (rowV A n c))
    (hn : ∀ i, n i ≤ 1000000) (hm : m ≤ 400) :
    Calls Tryz.prog 75 #[.slice (some ⟨L, 0, none⟩) m cL] w fun e w' => e = .returned (.bool true) ∧ Kept (Own m A n c) w w' := by
  have HL := hide hL
  have HV : Hid (Marked w 5 1 m (rowV A n c) n mkB 0 0) := fun i hi => by
    obtain ⟨xs, h⟩ := hv i hi
    exact ⟨xs, h, fun h => by omega, fun _ => by simp [marks]⟩
  have HS := hide hs
  have HN := hide hn
  clear hL hv hs hn
  obtain ⟨i1, hi1, hy0, hy1, hy2⟩ := info_parts u8info
  obtain ⟨i5, hi5, hz0, hz1, hz2⟩ := info_parts rowInfo
  go_enter Tryz.func75, Tryz.ntmps75
  go_wp2
  go_loopw [3] (fun p wr => ∃ k : Nat, k ≤ m ∧ p = .int .i64 k ∧ Lst wr 34 L cL m A n c ∧ Marked wr 5 1 m (rowV A n c) n mkB k 0 ∧ Kept (Own m A n c) w wr) (fun p _ => m - (intOf p).toNat)
  case atStart => exact ⟨0, Nat.zero_le _, rfl, HL.out, HV.out, Kept.refl _ _⟩
  case round =>
    obtain ⟨k, hk, rfl, hl1, hm1, hb1⟩ := hrel
    have HL1 := hide hl1
    have HM1 := hide hm1
    have HB1 := hide hb1
    clear hl1 hm1 hb1 HL HV
    obtain ⟨wo, rfl⟩ : ∃ wo : World, wo = wr := ⟨_, rfl⟩
    by_cases hlt : k < m
    · have hnk : n k ≤ 1000000 := HN.out k
      go_wp2
      go_loopw [4] (fun p wr => ∃ j : Nat, j ≤ n k ∧ p = .int .i64 j ∧ Lst wr 34 L cL m A n c ∧ Marked wr 5 1 m (rowV A n c) n mkB k j ∧ Kept (Own m A n c) w wr) (fun p _ => n k - (intOf p).toNat)
      case atStart => exact ⟨0, Nat.zero_le _, rfl, HL1.out, HM1.out, HB1.out⟩
      case round =>
        obtain ⟨j, hj, rfl, hl2, hm2, hb2⟩ := hrel
        have cK := hl2.cell hlt
        have HL2 := hide hl2
        have HM2 := hide hm2
        have HB2 := hide hb2
        clear hl2 hm2 hb2 HL1 HM1 HB1
        by_cases hjn : j < n k
        · obtain ⟨xs, hx, _⟩ := HM2.out k hlt
          obtain ⟨g, hg⟩ := row_some hx (by omega)
          rw [hg] at cK
          go_wp2
          refine wp_region_still_tail 9 (by kernel_rfl) (by kernel_rfl) ?_
          simp only [List.take_succ_cons, List.take_zero, List.drop_succ_cons, List.drop_zero]
          generalize hW : ({ wr with drawn := _ } : World) = W2
          have hB2 : Kept (Own m A n c) w W2 := by rw [← hW]; exact HB2.out.drew
          have hL2 : Lst W2 34 L cL m A n c := by subst hW; exact HL2.out
          have hM2 : Marked W2 5 1 m (rowV A n c) n mkB k j := by subst hW; exact HM2.out
          have cK2 : W2.cell? ⟨L, k, none⟩ = some (.slice (some ⟨g, 0, none⟩) (n k) (c k)) := by subst hW; exact cK
          clear hW cK
          obtain ⟨xs, hx, _⟩ := hM2 k hlt
          have hx2 : W2.ownsRow 0 5 1 (.slice (some ⟨g, 0, none⟩) (n k) (c k)) (n k) xs := by rw [← hg]; exact hx
          have cF : W2.frozen? ⟨g, j, none⟩ = false := owns_free hx2 j
          obtain ⟨u, _, cU⟩ := owns_at hx2 (show j < n k * 1 by omega)
          have HC := hide (flip_same (markByte_any k j (by omega) (by omega) W2))
          have HX := hide hx2
          have HB3 := hide hB2
          have HL3 := hide hL2
          have HM3 := hide hM2
          clear hB2 hL2 hM2 hx hx2
          repeat still_step
          still_call HC.out
          repeat still_step
          refine wpStill_nil ?_
          go_wp2
          have e0 : rowV A n c k = .slice (some ⟨g, 0, none⟩) (n k) (c k) := by unfold rowV; rw [hg]
          have H1 := HM3.out.set1 (u := .int .u8 (markB k j)) HS.out hlt e0 hjn rfl
          have H2 := HL3.out.kept (grown_set W2 g j (.int .u8 (markB k j))) (by
            rcases owns_ne HL3.out HX.out (by decide) with h | h
            · exact .inl h
            · exact .inr (fun e => h (by rw [e]; rfl)))
          have H3 := HB3.out.setCell (p := ⟨g, j, none⟩) (fun _ hF => hF k hlt (by unfold rowV; rw [hg]; rfl)) (.int .u8 (markB k j))
          go_roundw
          case rel => exact ⟨j + 1, by omega, by go_num, H2, H1, H3⟩
          case measure => simp [intOf]; omega
        · have hjk : j = n k := by omega
          subst hjk
          go_wp2
          go_roundw
          case rel => exact ⟨k + 1, by omega, by go_num, HL2.out, Marked.next HM2.out, HB2.out⟩
          case measure => simp [intOf]; omega
    · have hkm : m = k := by omega
      subst hkm
      have HF := hide (Fam.start (H := fun _ => .slice none 0 0) (C := fun i => marks (mkB i) (n i + 64)) (t := 64) HM1.out HS.out)
      clear HM1 HS
      go_wp2_with (at_make; refine stop_here ?_)
      show Hid _
      refine start_here ?_
      refine wpList_make_full _ rfl (.tmp 41) (.tmp 41) 63 rfl 0 34 i5 _ 1 Tryz.underlying63 hi5 hz0 hz1 .i64 .i64 m m m rfl rfl rfl rfl (by rw [hz2]; omega) (by simp only [maxLen]; omega) (Nat.zero_le _) ?_
      intro w1 ho1 hg1
      have HB0 : Hid (Kept (Own m A n c) w w1) := HB1.out.grown hg1 (fun _ e => nomatch e)
      have HF1 : Hid (Fam w1 5 1 m (rowV A n c) n mkB 0 64 (fun _ => .slice none 0 0) (fun i => marks (mkB i) (n i + 64))) := HF.out.below ((Below.refl wo.heap.size wo).grown hg1 (Nat.le_refl _) (fun _ e => nomatch e))
      have HL0 : Hid (Lst w1 34 L cL m A n c) := HL1.out.kept hg1 (.inr (by simp [Value.ownBlock]))
      have hGB : w.heap.size ≤ wo.heap.size := HB1.out.size
      have hLG : L < wo.heap.size := (HL1.out.lt L rfl).2
      generalize wo.heap.size = G at *
      have HO := hide ho1
      clear ho1 hg1 HF HB1 HL1
      go_wp2_with fail
      go_loopw [6, 7, 8] (fun p _ _ wr => ∃ (k : Nat) (H : Nat → Value) (zs : List Value), k ≤ m ∧ p = .int .i64 k ∧ Lst wr 34 L cL m A n c ∧ Kept (Own m A n c) w wr ∧ Fam wr 5 1 m (rowV A n c) n mkB k 64 H (fun i => marks (mkB i) (n i + 64)) ∧
          wr.ownsRow 0 34 1 (.slice (some ⟨G, 0, none⟩) m m) m zs ∧ (∀ i, i < k → zs[i]? = some (H i))) (fun p _ _ _ => m - (intOf p).toNat)
      case atStart => exact ⟨0, _, _, Nat.zero_le _, rfl, HL0.out, HB0.out, HF1.out, HO.out, fun i hi => absurd hi (by omega)⟩
      case round =>
        obtain ⟨k, H, zs, hk, rfl, hl1, hb1, hf1, ho1, hz1⟩ := hrel
        by_cases hlt : k < m
        · have hnk : n k ≤ 1000000 := HN.out k
          have cK := hl1.cell hlt
          have HL1 := hide hl1
          have HB1 := hide hb1
          have HF2 := hide hf1
          have HO1 := hide ho1
          have HZ1 := hide hz1
          clear hl1 hb1 hf1 ho1 hz1 HL0 HB0 HF1 HO
          obtain ⟨wq, rfl⟩ : ∃ wq : World, wq = wr := ⟨_, rfl⟩
          go_wp2
          go_loopw [7, 8] (fun v p wr => ∃ j : Nat, j ≤ 64 ∧ p = .int .i64 j ∧ Grow wq wr 5 1 (rowV A n c k) v (n k) (n k + j) (marks (mkB k) (n k)) (marks (mkB k) (n k + j))) (fun _ p _ => 64 - (intOf p).toNat)
          case atStart => exact ⟨0, Nat.zero_le _, rfl, Grow.start (HF2.out.rows k hlt)⟩
          case round =>
            obtain ⟨j, hj, rfl, hgr⟩ := hrel
            have HG := hide hgr
            have HL2 : Hid (Lst wr 34 L cL m A n c) := HL1.out.kept hgr.frame (by
              rcases owns_ne HL1.out (HF2.out.rows k hlt) (by decide) with h | h
              · exact .inl h
              · exact .inr h)
            have cK2 := HL2.out.cell hlt
            clear hgr
            by_cases hjn : j < 64
            · go_wp2_with (first
                | (go_at_call 66; refine (markByte_any k (n k + j) (by omega) (by omega) _).mono ?_; rintro e w2 ⟨rfl, rfl⟩)
                | (at_builtin; refine stop_here ?_))
              show Hid _
              refine start_here ?_
              refine wpList_append_two _ rfl (.tmp 57) (.tmp 67) 34 rfl 5 i1 _ 1 1 Tryz.underlying34 hi1 hy0 hy1 hy2 rfl (by decide) _ (n k + j) _ rfl (HG.out.alloc _).top ⟨wr.heap.size, 0, none⟩ 1 1 (mkB k (n k + j)) rfl rfl (new_mark wr k (n k + j)) (one_mark k (n k + j)) (by decide) (by simp only [maxLen]; omega) (by omega) ?_
              intro v' w' hgw
              have HG2 : Hid (Grow wq w' 5 1 (rowV A n c k) v' (n k) (n k + (j + 1)) (marks (mkB k) (n k)) (marks (mkB k) (n k + (j + 1)))) := by
                have := (HG.out.alloc (.cells (mkB k (n k + j)).toArray 5)).step hgw
                rw [← marks_snoc] at this
                exact this
              clear hgw HG HL2
              go_wp2
              go_roundw
              case rel => exact ⟨j + 1, by omega, by go_num, HG2.out⟩
              case measure => simp [intOf]; omega
            · have hj64 : j = 64 := by omega
              subst hj64
              obtain ⟨A', c', rfl, _⟩ := owns_slice HG.out.top
              have HF3 := hide (HF2.out.step hlt HG.out)
              have HO3 := hide (HO1.out.kept HG.out.frame (by
                rcases owns_ne HO1.out (HF2.out.rows k hlt) (by decide) with h | h
                · exact .inl h
                · exact .inr h))
              have HB3 : Hid (Kept (Own m A n c) w wr) := HB1.out.grown HG.out.frame (fun g e _ hF => hF k hlt e)
              obtain ⟨z0, hz0', cG⟩ := owns_at HO3.out (show k < m * 1 by omega)
              have cF : wr.frozen? ⟨G, k, none⟩ = false := owns_free HO3.out k
              clear HG
              go_wp2
              go_roundw
              case rel => exact ⟨k + 1, _, _, by omega, by go_num, HL2.out.kept (grown_set wr G k _) (.inr (by simp only [Value.ownBlock, ne_eq, Option.some.injEq]; omega)), HB3.out.setCell (p := ⟨G, k, none⟩) (fun h _ => absurd h (Nat.not_lt.2 hGB)) _, HF3.out.set HO3.out (by decide) _, owns_set HO3.out (by omega) _, set_said HZ1.out (by rw [HO3.out.1]; omega) _⟩
              case measure => simp [intOf]; omega
        · have hkm : k = m := by omega
          subst hkm
          have HL1 := hide hl1
          have HB1 := hide hb1
          have HF2 := hide hf1
          have HO1 := hide ho1
          have HZ1 := hide hz1
          clear hl1 hb1 hf1 ho1 hz1 HL0 HB0 HF1 HO
          go_wp2
          go_loopw [9, 10] (fun p _ wr => ∃ (i : Nat), i ≤ k ∧ p = .int .i64 i ∧ Lst wr 34 L cL k A n c ∧ Kept (Own k A n c) w wr ∧ Fam wr 5 1 k (rowV A n c) n mkB k 64 H (fun i => marks (mkB i) (n i + 64)) ∧
              wr.ownsRow 0 34 1 (.slice (some ⟨G, 0, none⟩) k k) k zs) (fun p _ _ => k - (intOf p).toNat)
          case atStart => exact ⟨0, Nat.zero_le _, rfl, HL1.out, HB1.out, HF2.out, HO1.out⟩
          case round =>
            obtain ⟨i, hi, rfl, hl1, hb1, hf1, ho1⟩ := hrel
            have HL3 := hide hl1
            have HB3 := hide hb1
            have HF3 := hide hf1
            have HO3 := hide ho1
            clear hl1 hb1 hf1 ho1 HL1 HB1 HF2 HO1
            by_cases hlt : i < k
            · have hni : n i ≤ 1000000 := HN.out i
              have hH := HF3.out.gone i hlt
              obtain ⟨h, cH, eH⟩ := owns_some hH (by omega)
              have HEH := hide eH
              clear hH
              go_wp2
              go_loopw [10] (fun p wr => ∃ (j : Nat), j ≤ n i + 64 ∧ p = .int .i64 j ∧ Lst wr 34 L cL k A n c ∧ Kept (Own k A n c) w wr ∧ Fam wr 5 1 k (rowV A n c) n mkB k 64 H (fun i => marks (mkB i) (n i + 64)) ∧
                wr.ownsRow 0 34 1 (.slice (some ⟨G, 0, none⟩) k k) k zs) (fun p _ => n i + 64 - (intOf p).toNat)
              case atStart => exact ⟨0, Nat.zero_le _, rfl, HL3.out, HB3.out, HF3.out, HO3.out⟩
              case round =>
                obtain ⟨j, hj, rfl, hl1, hb1, hf1, ho1⟩ := hrel
                have HL4 := hide hl1
                have HB4 := hide hb1
                have HF4 := hide hf1
                have HO4 := hide ho1
                clear hl1 hb1 hf1 ho1 HL3 HB3 HF3 HO3
                have cA := HL4.out.cell hlt
                have cG := gs_cell HO4.out (HZ1.out i hlt) hlt
                rw [HEH.out] at cG
                have hH := HF4.out.gone i hlt
                rw [HEH.out] at hH
                by_cases hjn : j < n i + 64
                · have cH1 := mark_cell hH hjn (marks_byte hjn)
                  clear hH
                  by_cases hjk : j < n i
                  · obtain ⟨g, hg⟩ := row_some (HF4.out.rows i hlt) (by omega)
                    rw [hg] at cA
                    have hV := HF4.out.rows i hlt
                    unfold rowV at hV
                    rw [hg] at hV
                    have cV := mark_cell hV hjk (marks_byte hjk)
                    clear hV
                    have hd : decide ((j : Int) < (n i : Int)) = true := by simp; omega
                    have hd2 : decide (n i ≤ j) = false := by simp; omega
                    have HM := hide (fun w => later_mark i j (by omega) (by omega) w)
                    go_wp2
                    replace cA := Later.cell cA
                    replace cG := Later.cell cG
                    replace cH1 := Later.cell cH1
                    replace cV := Later.cell cV
                    refine wp_region_later (by kernel_rfl) (by kernel_rfl) ?_
                    repeat (go_big_quiet_step ((exact Later.calls _ HM.out)))
                    refine wpQuiet_nil ?_
                    rintro _ ⟨x, rfl⟩
                    have hxb := x.below
                    have HL5 := hide (owns_kept_below HL4.out hxb)
                    have HB5 := hide (HB4.out.later hxb)
                    have HF5 := hide (HF4.out.below hxb)
                    have HO5 := hide (owns_kept_below HO4.out hxb)
                    clear hxb HL4 HB4 HF4 HO4
                    go_wp2
                    go_roundw
                    case rel => exact ⟨j + 1, by omega, by go_num, HL5.out, HB5.out, HF5.out, HO5.out⟩
                    case measure => simp [intOf]; omega
                  · have hd : decide ((j : Int) < (n i : Int)) = false := by simp; omega
                    have hd2 : decide (n i ≤ j) = true := by simp; omega
                    have HM := hide (fun w => later_mark i j (by omega) (by omega) w)
                    go_wp2
                    replace cA := Later.cell cA
                    replace cG := Later.cell cG
                    replace cH1 := Later.cell cH1
                    refine wp_region_later (by kernel_rfl) (by kernel_rfl) ?_
                    repeat (go_big_quiet_step ((exact Later.calls _ HM.out)))
                    refine wpQuiet_nil ?_
                    rintro _ ⟨x, rfl⟩
                    have hxb := x.below
                    have HL5 := hide (owns_kept_below HL4.out hxb)
                    have HB5 := hide (HB4.out.later hxb)
                    have HF5 := hide (HF4.out.below hxb)
                    have HO5 := hide (owns_kept_below HO4.out hxb)
                    clear hxb HL4 HB4 HF4 HO4
                    go_wp2
                    go_roundw
                    case rel => exact ⟨j + 1, by omega, by go_num, HL5.out, HB5.out, HF5.out, HO5.out⟩
                    case measure => simp [intOf]; omega
                · have hj64 : j = n i + 64 := by omega
                  subst hj64
                  go_wp2
                  go_roundw
                  case rel => exact ⟨i + 1, by omega, by go_num, HL4.out, HB4.out, HF4.out, HO4.out⟩
                  case measure => simp [intOf]; omega
            · have hik : k = i := by omega
              subst hik
              have HF4 := hide (HF3.out.again (t' := 64) (H' := fun _ => .slice none 0 0) (C' := fun i => marks (mkB i) (n i) ++ marks (mkB (i + k)) 64))
              clear HF3 HZ1
              go_wp2
              go_loopw [11, 12, 13] (fun p _ _ wr => ∃ (i : Nat) (H : Nat → Value) (zs : List Value), i ≤ k ∧ p = .int .i64 i ∧ Lst wr 34 L cL k A n c ∧ Kept (Own k A n c) w wr ∧ Fam wr 5 1 k (rowV A n c) n mkB i 64 H (fun i => marks (mkB i) (n i) ++ marks (mkB (i + k)) 64) ∧
                  wr.ownsRow 0 34 1 (.slice (some ⟨G, 0, none⟩) k k) k zs ∧ (∀ j, j < i → zs[j]? = some (H j))) (fun p _ _ _ => k - (intOf p).toNat)
              case atStart => exact ⟨0, _, _, Nat.zero_le _, rfl, HL3.out, HB3.out, HF4.out, HO3.out, fun i hi => absurd hi (by omega)⟩
              case round =>
                obtain ⟨i, H, zs, hi, rfl, hl1, hb1, hf1, ho1, hz1⟩ := hrel
                have HL1 := hide hl1
                have HB1 := hide hb1
                have HF2 := hide hf1
                have HO1 := hide ho1
                have HZ1 := hide hz1
                clear hl1 hb1 hf1 ho1 hz1 HL3 HB3 HF4 HO3
                by_cases hlt : i < k
                · have hni : n i ≤ 1000000 := HN.out i
                  obtain ⟨wq, rfl⟩ : ∃ wq : World, wq = wr := ⟨_, rfl⟩
                  go_wp2_with (at_make; refine stop_here ?_)
                  show Hid _
                  refine start_here ?_
                  refine wpList_make_full _ rfl (.const (.int .i64 64)) (.const (.int .i64 64)) 34 rfl 0 5 i1 _ 1 Tryz.underlying34 hi1 hy0 hy1 .i64 .i64 64 64 64 rfl rfl rfl rfl (by rw [hy2]; omega) (by simp only [maxLen]; omega) (Nat.zero_le _) ?_
                  intro w2 ho2 hg2
                  have HB2 : Hid (Below wq.heap.size wq w2) := (Below.refl _ wq).grown hg2 (Nat.le_refl _) (fun _ e => nomatch e)
                  have HT : Hid (∃ ys, w2.ownsRow 0 5 1 (.slice (some ⟨wq.heap.size, 0, none⟩) 64 64) 64 ys ∧ ys.take 0 = marks (mkB (i + k)) 0) := ⟨_, ho2, rfl⟩
                  clear ho2 hg2
                  have HTS := hide (rfl : wq.heap.size = wq.heap.size)
                  obtain ⟨T, hT⟩ : ∃ T, T = wq.heap.size := ⟨_, rfl⟩
                  rw [← hT] at HT
                  rw [← hT] at HB2
                  rw [← hT]
                  have HT2 := hide hT
                  clear hT HTS
                  go_wp2_with fail
                  go_loopw [13] (fun p wr => ∃ j : Nat, j ≤ 64 ∧ p = .int .i64 j ∧ Below T wq wr ∧ ∃ ys, wr.ownsRow 0 5 1 (.slice (some ⟨T, 0, none⟩) 64 64) 64 ys ∧ ys.take j = marks (mkB (i + k)) j) (fun p _ => 64 - (intOf p).toNat)
                  case atStart => exact ⟨0, Nat.zero_le _, rfl, HB2.out, HT.out⟩
                  case round =>
                    obtain ⟨j, hj, rfl, hb, ys, ho, hy⟩ := hrel
                    have HB3 := hide hb
                    have HO3 := hide ho
                    have HY := hide hy
                    clear hb ho hy HB2 HT
                    by_cases hjn : j < 64
                    · have HC := hide (flip_same (mark_sum i k j (by omega) (by omega) wr))
                      have cF : wr.frozen? ⟨T, j, none⟩ = false := owns_free HO3.out j
                      obtain ⟨u, _, cU⟩ := owns_at HO3.out (show j < 64 * 1 by omega)
                      go_wp2_with (go_at_call 66; refine (mark_sum i k j (by omega) (by omega) _).mono ?_; rintro e w2 ⟨rfl, rfl⟩)
                      have HO4 : Hid (∃ ys, (wr.setCell ⟨T, j, none⟩ (.int .u8 (markB (i + k) j))).ownsRow 0 5 1 (.slice (some ⟨T, 0, none⟩) 64 64) 64 ys ∧ ys.take (j + 1) = marks (mkB (i + k)) (j + 1)) :=
                        ⟨_, owns_set HO3.out (by omega) _, take_set_mark HY.out (by rw [HO3.out.1]; omega)⟩
                      have HB4 := hide (HB3.out.setCell (p := ⟨T, j, none⟩) (Nat.le_refl T) (.int .u8 (markB (i + k) j)))
                      clear HC cF cU HO3 HY HB3
                      go_roundw
                      case rel => exact ⟨j + 1, by omega, by go_num, HB4.out, HO4.out⟩
                      case measure => simp [intOf]; omega
                    · have hj64 : j = 64 := by omega
                      subst hj64
                      have hbq := HB3.out
                      rw [HT2.out] at hbq
                      have hyy : ys = marks (mkB (i + k)) 64 := by
                        have h := HY.out
                        rw [show (64 : Nat) = ys.length by rw [HO3.out.1], List.take_length] at h
                        rw [h, HO3.out.1]
                      subst hyy
                      have HL5 : Hid (Lst wr 34 L cL k A n c) := owns_kept_below HL1.out hbq
                      have HB5 := hide (HB1.out.later hbq)
                      have HF5 := hide (HF2.out.below hbq)
                      have HO5 := hide (owns_kept_below HO1.out hbq)
                      have cK := HL5.out.cell hlt
                      clear hbq HL1 HB1 HF2 HO1 HY HB3
                      go_wp2_with (at_builtin; refine stop_here ?_)
                      show Hid _
                      refine start_here ?_
                      refine wpList_append_two _ rfl (.tmp 148) (.tmp 149) 34 rfl 5 i1 _ 1 1 Tryz.underlying34 hi1 hy0 hy1 hy2 rfl (by decide) (rowV A n c i) (n i) _ rfl (HF5.out.rows i hlt) ⟨T, 0, none⟩ 64 64 (marks (mkB (i + k)) 64) rfl HO3.out.1 (HO3.out.cells (g := T) rfl) (marks_one (i + k) 64) (by decide) (by simp only [maxLen]; omega) (by omega) ?_
                      intro v' w' hgw
                      obtain ⟨A', c', rfl, _⟩ := owns_slice hgw.1
                      have HG2 := hide ((Grow.start (HF5.out.rows i hlt)).step hgw)
                      have HF6 := hide (HF5.out.step hlt HG2.out)
                      have HO6 := hide (HO5.out.kept HG2.out.frame (by
                        rcases owns_ne HO5.out (HF5.out.rows i hlt) (by decide) with h | h
                        · exact .inl h
                        · exact .inr h))
                      have HL6 : Hid (Lst w' 34 L cL k A n c) := HL5.out.kept HG2.out.frame (by
                        rcases owns_ne HL5.out (HF5.out.rows i hlt) (by decide) with h | h
                        · exact .inl h
                        · exact .inr h)
                      have HB6 : Hid (Kept (Own k A n c) w w') := HB5.out.grown HG2.out.frame (fun g e _ hF => hF i hlt e)
                      obtain ⟨z0, hz0', cG⟩ := owns_at HO6.out (show i < k * 1 by omega)
                      have cF : w'.frozen? ⟨G, i, none⟩ = false := owns_free HO6.out i
                      clear HG2 hgw HF5 HO5 HL5 HB5 HO3 cK
                      go_wp2_with fail
                      go_roundw
                      case rel => exact ⟨i + 1, _, _, by omega, by go_num, HL6.out.kept (grown_set w' G i _) (.inr (by simp only [Value.ownBlock, ne_eq, Option.some.injEq]; omega)), HB6.out.setCell (p := ⟨G, i, none⟩) (fun h _ => absurd h (Nat.not_lt.2 hGB)) _, HF6.out.set HO6.out (by decide) _, owns_set HO6.out (by omega) _, set_said HZ1.out (by rw [HO6.out.1]; omega) _⟩
                      case measure => simp [intOf]; omega
                · have hik : k = i := by omega
                  subst hik
                  go_wp2
                  go_loopw [14, 15] (fun p _ wr => ∃ (i : Nat), i ≤ k ∧ p = .int .i64 i ∧ Lst wr 34 L cL k A n c ∧ Kept (Own k A n c) w wr ∧ Fam wr 5 1 k (rowV A n c) n mkB k 64 H (fun i => marks (mkB i) (n i) ++ marks (mkB (i + k)) 64) ∧
                      wr.ownsRow 0 34 1 (.slice (some ⟨G, 0, none⟩) k k) k zs) (fun p _ _ => k - (intOf p).toNat)
                  case atStart => exact ⟨0, Nat.zero_le _, rfl, HL1.out, HB1.out, HF2.out, HO1.out⟩
                  case round =>
                    obtain ⟨i, hi, rfl, hl1, hb1, hf1, ho1⟩ := hrel
                    have HL3 : Hid (Lst wr 34 L cL k A n c) := hl1
                    have HB3 := hide hb1
                    have HF3 := hide hf1
                    have HO3 := hide ho1
                    clear hl1 hb1 hf1 ho1 HL1 HB1 HF2 HO1
                    by_cases hlt : i < k
                    · have hni : n i ≤ 1000000 := HN.out i
                      have hH := HF3.out.gone i hlt
                      obtain ⟨h, cH, eH⟩ := owns_some hH (by omega)
                      have HEH := hide eH
                      clear hH
                      go_wp2
                      go_loopw [15] (fun p wr => ∃ (j : Nat), j ≤ n i ∧ p = .int .i64 j ∧ Lst wr 34 L cL k A n c ∧ Kept (Own k A n c) w wr ∧ Fam wr 5 1 k (rowV A n c) n mkB k 64 H (fun i => marks (mkB i) (n i) ++ marks (mkB (i + k)) 64) ∧
                        wr.ownsRow 0 34 1 (.slice (some ⟨G, 0, none⟩) k k) k zs) (fun p _ => n i - (intOf p).toNat)
                      case atStart => exact ⟨0, Nat.zero_le _, rfl, HL3.out, HB3.out, HF3.out, HO3.out⟩
                      case round =>
                        obtain ⟨j, hj, rfl, hl1, hb1, hf1, ho1⟩ := hrel
                        have HL4 : Hid (Lst wr 34 L cL k A n c) := hl1
                        have HB4 := hide hb1
                        have HF4 := hide hf1
                        have HO4 := hide ho1
                        clear hl1 hb1 hf1 ho1 HL3 HB3 HF3 HO3
                        have cA := HL4.out.cell hlt
                        by_cases hjk : j < n i
                        · have cG := gs_cell HO4.out (HZ1.out i hlt) hlt
                          rw [HEH.out] at cG
                          have hH := HF4.out.gone i hlt
                          rw [HEH.out] at hH
                          have cH1 := mark_cell hH (show j < n i + 64 by omega) ((List.getElem?_append_left (by rw [marks_length _ 1 (fun _ => rfl)]; omega)).trans (marks_byte hjk))
                          clear hH
                          obtain ⟨g, hg⟩ := row_some (HF4.out.rows i hlt) (by omega)
                          rw [hg] at cA
                          have hV := HF4.out.rows i hlt
                          unfold rowV at hV
                          rw [hg] at hV
                          have cV := mark_cell hV hjk (marks_byte hjk)
                          clear hV
                          have HM := hide (fun w => later_mark i j (by omega) (by omega) w)
                          go_wp2
                          replace cA := Later.cell cA
                          replace cG := Later.cell cG
                          replace cH1 := Later.cell cH1
                          replace cV := Later.cell cV
                          refine wp_region_later (by kernel_rfl) (by kernel_rfl) ?_
                          repeat (go_big_quiet_step ((exact Later.calls _ HM.out)))
                          refine wpQuiet_nil ?_
                          rintro _ ⟨x, rfl⟩
                          have hxb := x.below
                          have HL5 : Hid (Lst x.w 34 L cL k A n c) := owns_kept_below HL4.out hxb
                          have HB5 := hide (HB4.out.later hxb)
                          have HF5 := hide (HF4.out.below hxb)
                          have HO5 := hide (owns_kept_below HO4.out hxb)
                          clear hxb HL4 HB4 HF4 HO4
                          go_wp2
                          go_roundw
                          case rel => exact ⟨j + 1, by omega, by go_num, HL5.out, HB5.out, HF5.out, HO5.out⟩
                          case measure => simp [intOf]; omega
                        · have hjn : n i = j := by omega
                          have hd : decide ((j : Int) < (n i : Int)) = false := by simp; omega
                          go_wp2
                          go_roundw
                          case rel => exact ⟨i + 1, by omega, by go_num, HL4.out, HB4.out, HF4.out, HO4.out⟩
                          case measure => simp [intOf]; omega
                    · have hik : k = i := by omega
                      subst hik
                      go_wp2
                      go_ret
                      exact ⟨rfl, HB3.out⟩
end Go.Proofs.YtolodcdhpnapmaaGreat
