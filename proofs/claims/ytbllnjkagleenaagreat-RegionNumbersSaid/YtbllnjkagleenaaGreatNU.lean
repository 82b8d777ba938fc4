/-
  Kinds, places and sizes at their ends: RegionNumbers' walk.
-/
import Derived.Test.YtbllnjkagleenaaGreatNU0
import Derived.Deep.CutBlock
import Derived.Deep.CutRange
namespace Go.Proofs.YtbllnjkagleenaaGreat
open Go.RowKit
set_option linter.unusedVariables false

/-- What stands in the literals. -/
def offsL : List Int := [-9223372036854775808, -1, 0, 1, 3, 4, 5, 4294967296, 9223372036854775807]
def sizesL : List Int := [-9223372036854775808, -1, 0, 1, 3, 4, 5, 9223372036854775807]
def intsV (l : List Int) : List Value := l.map (.int .i64 ·)
theorem ints_at {W : World} {g : Nat} {t : TypeId} {l : List Int} (h : W.heap[g]? = some (.cells (intsV l).toArray t (0, 0))) {i : Nat} {z : Int} (hi : l[i]? = some z) : W.cell? ⟨g, i, none⟩ = some (.int .i64 z) := by
  rw [blk_cell h]
  simp [intsV, hi]
theorem offs_wf : ∀ z ∈ offsL, wfI z := by unfold wfI offsL; decide
theorem sizes_wf : ∀ z ∈ sizesL, wfI z := by unfold wfI sizesL; decide
/-- The four deeds of a round. -/
def fourD (z1 z2 : Int) (k g m : Nat) : List ADo := [⟨3, 1, 0, z1, z2, noB⟩, ⟨1, 2, 0, z1, 0, ⟨some ⟨g, 0, none⟩, m, 5, [120, 121, 122, 117, 118].take m⟩⟩, ⟨3, 2, 0, 0, 4, noB⟩, ⟨3, k, 0, z1, 0, noB⟩]
/-- What stands in a slot of the region that makes four deeds. -/
def TNu (v : Value) (ds : List ADo) (X g1 i k g m : Nat) (z1 z2 : Int) (j : Nat) (σ : Nat → Value) (W : World) : Prop :=
  match j with
  | 0 => σ 0 = v
  | 1 => σ 1 = .slice (some ⟨g1, 0, none⟩) 9 9
  | 2 => σ 2 = .int .i64 i
  | 3 => σ 3 = .pointer (some ⟨g1, i, none⟩)
  | 4 => σ 4 = .int .i64 z1
  | 5 => σ 5 = .slice (some ⟨g1 + 1, 0, none⟩) 8 8
  | 6 => σ 6 = .int .i64 k
  | 7 => σ 7 = .pointer (some ⟨g1 + 1, k, none⟩)
  | 8 => σ 8 = .int .i64 z2
  | 9 => σ 9 = .agg #[.int .i64 3, .int .i64 1, .int .u8 0, .int .i64 z1, .int .i64 z2, .slice none 0 0]
  | 10 => σ 10 = .slice (some ⟨g1, 0, none⟩) 9 9
  | 11 => σ 11 = .int .i64 i
  | 12 => σ 12 = .pointer (some ⟨g1, i, none⟩)
  | 13 => σ 13 = .int .i64 z1
  | 14 => σ 14 = .slice (some ⟨g, 0, none⟩) 5 5
  | 15 => σ 15 = .slice (some ⟨g, 0, none⟩) 5 5
  | 16 => σ 16 = .slice (some ⟨g1 + 1, 0, none⟩) 8 8
  | 17 => σ 17 = .int .i64 k
  | 18 => σ 18 = .pointer (some ⟨g1 + 1, k, none⟩)
  | 19 => σ 19 = .int .i64 z2
  | 20 => σ 20 = .int .i64 (max z2 0)
  | 21 => σ 21 = .int .i64 (m : Int)
  | 22 => σ 22 = .slice (some ⟨g, 0, none⟩) m 5
  | 23 => σ 23 = .agg #[.int .i64 1, .int .i64 2, .int .u8 0, .int .i64 z1, .int .i64 0, .slice (some ⟨g, 0, none⟩) m 5]
  | 24 => σ 24 = .agg #[.int .i64 3, .int .i64 2, .int .u8 0, .int .i64 0, .int .i64 4, .slice none 0 0]
  | 25 => σ 25 = .int .i64 k
  | 26 => σ 26 = .slice (some ⟨g1, 0, none⟩) 9 9
  | 27 => σ 27 = .int .i64 i
  | 28 => σ 28 = .pointer (some ⟨g1, i, none⟩)
  | 29 => σ 29 = .int .i64 z1
  | 30 => σ 30 = .agg #[.int .i64 3, .int .i64 k, .int .u8 0, .int .i64 z1, .int .i64 0, .slice none 0 0]
  | 31 => σ 31 = .slice (some ⟨g + 1, 0, none⟩) 4 4
  | 32 => DoLst W X (σ 32) (ds ++ fourD z1 z2 k g m)
  | 33 => DoLst W X (σ 33) (ds ++ fourD z1 z2 k g m)
  | _ => True
theorem TNu.other {v : Value} {ds : List ADo} {X g1 i k g m : Nat} {z1 z2 : Int} {j : Nat} {σ : Nat → Value} {W W' : World} (h : TNu v ds X g1 i k g m z1 z2 j σ W) (h1 : j ≠ 32) (h2 : j ≠ 33) : TNu v ds X g1 i k g m z1 z2 j σ W' := by
  unfold TNu at h ⊢
  split at h <;> first
    | exact h
    | exact absurd rfl h1
    | exact absurd rfl h2
def xyzL : List Int := [120, 121, 122, 117, 118]
theorem four_lit {W : World} {g m k : Nat} {z1 z2 : Int} (hg : W.heap[g]? = some (.cells (u8s xyzL).toArray 5 (5, 6))) (h1 : wfI z1) (h2 : wfI z2) (hk : k ≤ 8) (hm : m ≤ 5) : ∀ d ∈ fourD z1 z2 k g m, DoLit W d :=
  four_of (lit_plain _ 3 1 0 z1 z2 wi3 wi1 h1 h2) (lit_bytes (l := xyzL) hg 1 2 0 z1 0 m 5 (by show m ≤ 5; exact hm) (by decide) wi1 wi2 h1 wi0) (lit_plain _ 3 2 0 0 4 wi3 wi2 wi0 wi4) (lit_plain _ 3 k 0 z1 0 wi3 (wf_small (by omega)) h1 wi0)
def xyzB : Array Value := #[.int .u8 120, .int .u8 121, .int .u8 122, .int .u8 117, .int .u8 118]
/-- What the world is, by what is done. -/
def GNu (wd : World) (X g m k : Nat) (z1 z2 : Int) (done : Nat → Bool) (W : World) : Prop :=
  if done 32 = true then Below X wd W else if done 31 = true then W = (wd.alloc (.cells xyzB 5 (5, 6))).alloc (.cells ((fourD z1 z2 k g m).flatMap ADo.cells).toArray 28) else if done 15 = true then W = wd.alloc (.cells xyzB 5 (5, 6)) else if done 14 = true then W = wd.alloc (.cells xyzB 5) else W = wd
section
variable {wd W : World} {X g m k : Nat} {z1 z2 : Int} {M : Nat → Bool}
theorem GNu.below (h : GNu wd X g m k z1 z2 M W) (hX : X ≤ wd.heap.size) : Below X wd W := by
  unfold GNu at h
  have h0 := Below.refl X wd
  split at h
  · exact h
  · split at h
    · rw [h]; exact (h0.alloc hX _).alloc (Nat.le_trans hX (h0.alloc hX (Obj.cells xyzB 5 (5, 6))).size) _
    · split at h
      · rw [h]; exact h0.alloc hX _
      · split at h
        · rw [h]; exact h0.alloc hX _
        · rw [h]; exact h0
theorem GNu.same {j : Nat} (h : GNu wd X g m k z1 z2 M W) (h1 : j ≠ 14) (h2 : j ≠ 15) (h3 : j ≠ 31) (h4 : j ≠ 32) : GNu wd X g m k z1 z2 (fun t => M t || t == j) W := by
  unfold GNu at h ⊢
  have e1 : (14 == j) = false := by simpa using fun e => h1 e.symm
  have e2 : (15 == j) = false := by simpa using fun e => h2 e.symm
  have e3 : (31 == j) = false := by simpa using fun e => h3 e.symm
  have e4 : (32 == j) = false := by simpa using fun e => h4 e.symm
  simp only [e1, e2, e3, e4, Bool.or_false]
  exact h
theorem not_yet {ops : Array Oper} {L : Nat → Bool} (hcl : ∀ j oj, L j = true → ops[j]? = some oj → ∀ k, hangs oj k = true → L k = true) {i j : Nat} {oj : Oper} (hi : L i = false) (hj : ops[j]? = some oj) (hh : hangs oj i = true) : L j = false := by
  cases h : L j with
  | false => rfl
  | true => rw [hcl j oj h hj i hh] at hi; cases hi
end
set_option maxRecDepth 100000 in
set_option maxHeartbeats 3000000 in
theorem law_regionNumbers (w : World) : Calls Tryz.prog 3 #[] w fun e w' => e = .returned (.bool true) ∧ Below w.heap.size w w' := by
  go_enter Tryz.func3, Tryz.ntmps3
  go_wp2_with fail
  obtain ⟨W2, hW2⟩ : ∃ W2, W2 = (w.alloc (.cells (intsV offsL).toArray 2)).alloc (.cells (intsV sizesL).toArray 3) := ⟨_, rfl⟩
  have hx : W2.heap[w.heap.size]? = some (.cells (intsV offsL).toArray 2 (0, 0)) ∧ W2.heap[w.heap.size + 1]? = some (.cells (intsV sizesL).toArray 3 (0, 0)) := by
    rw [hW2]; exact two_boxes w _ _
  have hb0 : Below w.heap.size w W2 := by rw [hW2]; exact below2 w _ _
  rw [show (w.alloc (.cells #[.int .i64 (-9223372036854775808), .int .i64 (-1), .int .i64 (0), .int .i64 (1), .int .i64 (3), .int .i64 (4), .int .i64 (5), .int .i64 (4294967296), .int .i64 (9223372036854775807)] 2)).alloc (.cells #[.int .i64 (-9223372036854775808), .int .i64 (-1), .int .i64 (0), .int .i64 (1), .int .i64 (3), .int .i64 (4), .int .i64 (5), .int .i64 (9223372036854775807)] 3) = W2 from hW2.symm]
  clear hW2
  have hX0 : w.heap.size + 2 ≤ W2.heap.size := at_lt hx.2
  have HO := hide hx.1
  have HS := hide hx.2
  have HB0 := hide hb0
  have HX0 := hide hX0
  obtain ⟨g1, hg1⟩ : ∃ g1, g1 = w.heap.size := ⟨_, rfl⟩
  rw [← hg1] at HO HS ⊢
  have HG1 := hide hg1
  clear hx hb0 hX0 hg1
  go_loopw [3] (fun u wr => ∃ k : Nat, k ≤ 256 ∧ u = .int .i64 k ∧ Below W2.heap.size W2 wr) (fun u _ => 256 - (intOf u).toNat)
  case atStart => exact ⟨0, Nat.zero_le _, rfl, Below.refl _ _⟩
  case round =>
    obtain ⟨k, hk, rfl, hb⟩ := hrel
    have HB := hide hb
    clear hb
    by_cases hlt : k < 256
    · have hcv := Joins.run_convert_bytes_const_at (P := Tryz.prog) wr 26 5 #[.int .u8 97, .int .u8 98, .int .u8 99, .int .u8 100] 4 4 wr.heap.size rfl Tryz.underlying26 Tryz.underlying5
      go_wp2_with fail
      clear hcv
      have hl0 : DoLit (wr.alloc (.cells #[.int .u8 97, .int .u8 98, .int .u8 99, .int .u8 100] 5 (4, 5))) ⟨0, 0, k, 0, 0, ⟨some ⟨wr.heap.size, 0, none⟩, 4, 4, [97, 98, 99, 100]⟩⟩ := lit_bytes (l := [97, 98, 99, 100]) (new_at wr _) 0 0 k 0 0 4 4 (by decide) (by decide) wi0 wi0 wi0 wi0
      have hl := lst_new_at (wr.alloc (.cells #[.int .u8 97, .int .u8 98, .int .u8 99, .int .u8 100] 5 (4, 5))) 0 (wr.heap.size + 1) (by simp) [⟨0, 0, k, 0, 0, ⟨some ⟨wr.heap.size, 0, none⟩, 4, 4, [97, 98, 99, 100]⟩⟩, ⟨3, 1, 0, 0, 4, noB⟩] (two_of hl0 (lit_plain _ 3 1 0 0 4 wi3 wi1 wi0 wi4)) (Nat.zero_le _) (by simp)
      have hbn : Below W2.heap.size W2 ((wr.alloc (.cells #[.int .u8 97, .int .u8 98, .int .u8 99, .int .u8 100] 5 (4, 5))).alloc (.cells #[.int .i64 0, .int .i64 0, .int .u8 k, .int .i64 0, .int .i64 0, .slice (some ⟨wr.heap.size, 0, none⟩) 4 4, .int .i64 3, .int .i64 1, .int .u8 0, .int .i64 0, .int .i64 4, .slice none 0 0] 28)) := (HB.out.alloc HB.out.size _).alloc ((HB.out.alloc HB.out.size _).size) _
      have hlaw := law_regionLives _ 2 2 _ _ (hl.ados rfl) (by decide)
      have HL := hide hlaw
      have HBN := hide hbn
      clear hl0 hl hlaw hbn
      refine HL.out.mono ?_
      rintro e w3 ⟨rfl, hb3⟩
      have HB3 := hide (HBN.out.trans (hb3.mono HBN.out.size))
      clear hb3 HL HBN
      go_wp2_with fail
      go_roundw
      case rel => exact ⟨k + 1, by omega, by go_num, HB3.out⟩
      case measure => simp [intOf]; omega
    · have hk2 : k = 256 := by omega
      subst hk2
      clear hlt hk
      go_wp2_with fail
      go_loopw [4] (fun u wr => ∃ i : Nat, i ≤ 9 ∧ u = .int .i64 i ∧ Below W2.heap.size W2 wr) (fun u _ => 9 - (intOf u).toNat)
      case atStart => exact ⟨0, Nat.zero_le _, rfl, HB.out⟩
      case round =>
        rename_i wo
        obtain ⟨i, hi, rfl, hb⟩ := hrel
        obtain ⟨wo, hwo⟩ : ∃ wo, wo = wr := ⟨_, rfl⟩
        subst hwo
        have HB := hide hb
        clear hb
        by_cases hlt : i < 9
        · have hcv := Joins.run_convert_bytes_const_at (P := Tryz.prog) wo 26 5 #[.int .u8 97, .int .u8 98, .int .u8 99, .int .u8 100] 4 4 wo.heap.size rfl Tryz.underlying26 Tryz.underlying5
          have hcv2 := Joins.run_convert_bytes_const_at (P := Tryz.prog) (wo.alloc (.cells #[.int .u8 97, .int .u8 98, .int .u8 99, .int .u8 100] 5 (4, 5))) 26 5 #[.int .u8 101, .int .u8 102, .int .u8 103, .int .u8 104] 4 4 (wo.heap.size + 1) (by simp) Tryz.underlying26 Tryz.underlying5
          go_wp2_with fail
          clear hcv hcv2
          have hl0 := lit_bytes (W := ((wo.alloc (.cells #[.int .u8 97, .int .u8 98, .int .u8 99, .int .u8 100] 5 (4, 5))).alloc (.cells #[.int .u8 101, .int .u8 102, .int .u8 103, .int .u8 104] 5 (4, 5)))) (l := [97, 98, 99, 100]) (g := wo.heap.size) (fr := (4, 5)) (((below1 (wo.alloc (.cells #[.int .u8 97, .int .u8 98, .int .u8 99, .int .u8 100] 5 (4, 5))) _).block wo.heap.size (by simp)).trans (new_at wo _)) 0 0 1 0 0 4 4 (by decide) (by decide) wi0 wi0 wi0 wi0
          have hl1 := lit_bytes (W := ((wo.alloc (.cells #[.int .u8 97, .int .u8 98, .int .u8 99, .int .u8 100] 5 (4, 5))).alloc (.cells #[.int .u8 101, .int .u8 102, .int .u8 103, .int .u8 104] 5 (4, 5)))) (l := [101, 102, 103, 104]) (g := wo.heap.size + 1) (fr := (4, 5)) (new_at_of (wo.alloc (.cells #[.int .u8 97, .int .u8 98, .int .u8 99, .int .u8 100] 5 (4, 5))) _ _ (by simp)) 0 0 5 0 0 4 4 (by decide) (by decide) wi0 wi0 wi0 wi0
          have hl := lst_new_at ((wo.alloc (.cells #[.int .u8 97, .int .u8 98, .int .u8 99, .int .u8 100] 5 (4, 5))).alloc (.cells #[.int .u8 101, .int .u8 102, .int .u8 103, .int .u8 104] 5 (4, 5))) W2.heap.size (wo.heap.size + 1 + 1) (by simp) [⟨0, 0, 1, 0, 0, ⟨some ⟨wo.heap.size, 0, none⟩, 4, 4, [97, 98, 99, 100]⟩⟩, ⟨0, 0, 5, 0, 0, ⟨some ⟨wo.heap.size + 1, 0, none⟩, 4, 4, [101, 102, 103, 104]⟩⟩] (two_of hl0 hl1) (by have := HB.out.size; simp; omega) (by simp)
          have hbn : Below W2.heap.size W2 (((wo.alloc (.cells #[.int .u8 97, .int .u8 98, .int .u8 99, .int .u8 100] 5 (4, 5))).alloc (.cells #[.int .u8 101, .int .u8 102, .int .u8 103, .int .u8 104] 5 (4, 5))).alloc (.cells #[.int .i64 0, .int .i64 0, .int .u8 1, .int .i64 0, .int .i64 0, .slice (some ⟨wo.heap.size, 0, none⟩) 4 4, .int .i64 0, .int .i64 0, .int .u8 5, .int .i64 0, .int .i64 0, .slice (some ⟨wo.heap.size + 1, 0, none⟩) 4 4] 28)) := ((HB.out.alloc HB.out.size _).alloc (HB.out.alloc HB.out.size _).size _).alloc ((HB.out.alloc HB.out.size _).alloc (HB.out.alloc HB.out.size _).size _).size _
          obtain ⟨w3, hw3⟩ : ∃ w3, w3 = ((wo.alloc (.cells #[.int .u8 97, .int .u8 98, .int .u8 99, .int .u8 100] 5 (4, 5))).alloc (.cells #[.int .u8 101, .int .u8 102, .int .u8 103, .int .u8 104] 5 (4, 5))).alloc (.cells #[.int .i64 0, .int .i64 0, .int .u8 1, .int .i64 0, .int .i64 0, .slice (some ⟨wo.heap.size, 0, none⟩) 4 4, .int .i64 0, .int .i64 0, .int .u8 5, .int .i64 0, .int .i64 0, .slice (some ⟨wo.heap.size + 1, 0, none⟩) 4 4] 28) := ⟨_, rfl⟩
          have hl' : DoLst w3 W2.heap.size (.slice (some ⟨wo.heap.size + 1 + 1, 0, none⟩) 2 2) [⟨0, 0, 1, 0, 0, ⟨some ⟨wo.heap.size, 0, none⟩, 4, 4, [97, 98, 99, 100]⟩⟩, ⟨0, 0, 5, 0, 0, ⟨some ⟨wo.heap.size + 1, 0, none⟩, 4, 4, [101, 102, 103, 104]⟩⟩] := by rw [hw3]; exact hl
          rw [← hw3] at hbn ⊢
          have HL0 := hide hl'
          have HB3 := hide hbn
          clear hw3 hl0 hl1 hl hl' hbn
          obtain ⟨z1, hz1⟩ : ∃ z, offsL[i]? = some z := ⟨_, List.getElem?_eq_getElem (by show i < 9; exact hlt)⟩
          have HZ1 := hide (offs_wf z1 (List.mem_of_getElem? hz1))
          have HOC : Hid (∀ W, Below W2.heap.size W2 W → W.cell? ⟨g1, i, none⟩ = some (.int .i64 z1)) := fun W hb => (hb.cell (p := ⟨g1, i, none⟩) (at_lt HO.out)).trans (ints_at HO.out hz1)
          clear hz1
          go_loopw [5, 6] (fun v u wq => ∃ (k : Nat) (ds : List ADo), k ≤ 8 ∧ u = .int .i64 k ∧ DoLst wq W2.heap.size v ds ∧ ds.length = 2 + 4 * k ∧ Below W2.heap.size W2 wq) (fun _ u _ => 8 - (intOf u).toNat)
          case atStart => exact ⟨0, _, Nat.zero_le _, rfl, HL0.out, rfl, HB3.out⟩
          case round =>
            obtain ⟨k, ds, hk, rfl, hls, hdl, hbq⟩ := hrel
            have HLQ := hide hls
            have HBQ := hide hbq
            clear hls hbq
            have HLEN : Hid (ds.length ≤ 34) := by show ds.length ≤ 34; omega
            have HDL := hide hdl
            clear hdl
            by_cases hltk : k < 8
            · obtain ⟨z2, hz2⟩ : ∃ z, sizesL[k]? = some z := ⟨_, List.getElem?_eq_getElem (by show k < 8; exact hltk)⟩
              have HZ2 := hide (sizes_wf z2 (List.mem_of_getElem? hz2))
              have HZS := hide hz2
              clear hz2
              go_wp2_with fail
              rename_i K hK
              have HLD : Hid (DoLst wr.drew W2.heap.size u5 ds) := HLQ.out.later (Below.refl _ _).drew
              have HBD : Hid (Below W2.heap.size W2 wr.drew) := HBQ.out.drew
              obtain ⟨wd, hwd⟩ : ∃ wd, wd = wr.drew := ⟨_, rfl⟩
              rw [← hwd] at HLD HBD
              have HXW : Hid (W2.heap.size ≤ wd.heap.size) := HBD.out.size
              obtain ⟨v, hv⟩ : ∃ v, v = u5 := ⟨_, rfl⟩
              have HLS := HLD
              rw [← hv] at HLS
              rw [← hv]
              obtain ⟨m, hm⟩ : ∃ m : Nat, m = (min (max z2 0) 5).toNat := ⟨_, rfl⟩
              have HM5 : Hid (m ≤ 5) := by show m ≤ 5; omega
              have hm2 : (m : Int) = min (max z2 0) 5 := by omega
              have HM := hide hm2
              obtain ⟨i28, hi28, hz0, hz1, hz2⟩ := info_parts doInfo
              have HI28 := hide hi28
              have HZ28 := hide (And.intro hz0 (And.intro hz1 hz2))
              have HOC2 : Hid (∀ W, Below W2.heap.size wd W → W.cell? ⟨g1, i, none⟩ = some (.int .i64 z1)) := fun W hb => HOC.out W (HBD.out.trans hb)
              have HSC : Hid (∀ W, Below W2.heap.size wd W → W.cell? ⟨g1 + 1, k, none⟩ = some (.int .i64 z2)) := fun W hb => ((HBD.out.trans hb).cell (p := ⟨g1 + 1, k, none⟩) (at_lt HS.out)).trans (ints_at HS.out HZS.out)
              have HWD := hide hwd
              clear hv hm hm2 hi28 hz0 hz1 hz2 hwd
              refine wp_tells4 (by kernel_rfl) (TNu v ds W2.heap.size g1 i k wd.heap.size m z1 z2) (GNu wd W2.heap.size wd.heap.size m k z1 z2) (by kernel_rfl) (by kernel_rfl) (by kernel_rfl) (by kernel_rfl) ?_ ?_ ?_ ?_
              · intro j oj σ σ' W hj h hs
                have h0 := hs j (.inl rfl)
                have hi' : j < 34 := (Array.getElem?_eq_some_iff.1 hj).1
                have hi'' : j = 0 ∨ j = 1 ∨ j = 2 ∨ j = 3 ∨ j = 4 ∨ j = 5 ∨ j = 6 ∨ j = 7 ∨ j = 8 ∨ j = 9 ∨ j = 10 ∨ j = 11 ∨ j = 12 ∨ j = 13 ∨ j = 14 ∨ j = 15 ∨ j = 16 ∨ j = 17 ∨ j = 18 ∨ j = 19 ∨ j = 20 ∨ j = 21 ∨ j = 22 ∨ j = 23 ∨ j = 24 ∨ j = 25 ∨ j = 26 ∨ j = 27 ∨ j = 28 ∨ j = 29 ∨ j = 30 ∨ j = 31 ∨ j = 32 ∨ j = 33 := by omega
                rcases hi'' with rfl | rfl | rfl | rfl | rfl | rfl | rfl | rfl | rfl | rfl | rfl | rfl | rfl | rfl | rfl | rfl | rfl | rfl | rfl | rfl | rfl | rfl | rfl | rfl | rfl | rfl | rfl | rfl | rfl | rfl | rfl | rfl | rfl | rfl
                all_goals (simp only [TNu] at h ⊢; rw [h0]; exact h)
              · unfold GNu
                simp only [Bool.false_eq_true, if_false]
                exact HWD.out.symm
              · intro j o ho M a W hL hG hold hT hcl hh
                have hi' : j < 34 := (Array.getElem?_eq_some_iff.1 ho).1
                have hi'' : j = 0 ∨ j = 1 ∨ j = 2 ∨ j = 3 ∨ j = 4 ∨ j = 5 ∨ j = 6 ∨ j = 7 ∨ j = 8 ∨ j = 9 ∨ j = 10 ∨ j = 11 ∨ j = 12 ∨ j = 13 ∨ j = 14 ∨ j = 15 ∨ j = 16 ∨ j = 17 ∨ j = 18 ∨ j = 19 ∨ j = 20 ∨ j = 21 ∨ j = 22 ∨ j = 23 ∨ j = 24 ∨ j = 25 ∨ j = 26 ∨ j = 27 ∨ j = 28 ∨ j = 29 ∨ j = 30 ∨ j = 31 ∨ j = 32 ∨ j = 33 := by omega
                rcases hi'' with rfl | rfl | rfl | rfl | rfl | rfl | rfl | rfl | rfl | rfl | rfl | rfl | rfl | rfl | rfl | rfl | rfl | rfl | rfl | rfl | rfl | rfl | rfl | rfl | rfl | rfl | rfl | rfl | rfl | rfl | rfl | rfl | rfl | rfl
                · cases ho
                  refine step4_told (v) ?_ (by decide) (hG.same (by decide) (by decide) (by decide) (by decide)) hT rfl
                  have e0 : a.eval (.tmp 5) = v := hold 5 (unyet_first hcl hL (by kernel_rfl))
                  generalize a.eval = ev at e0 ⊢
                  simp [execOp, go_sem, e0]
                · cases ho
                  refine step4_told (.slice (some ⟨g1, 0, none⟩) 9 9) ?_ (by decide) (hG.same (by decide) (by decide) (by decide) (by decide)) hT rfl
                  have e0 : a.eval (.tmp 1) = .slice (some ⟨g1, 0, none⟩) 9 9 := hold 1 (unyet_of (by kernel_rfl))
                  generalize a.eval = ev at e0 ⊢
                  simp [execOp, go_sem, e0]
                · cases ho
                  refine step4_told (.int .i64 i) ?_ (by decide) (hG.same (by decide) (by decide) (by decide) (by decide)) hT rfl
                  have e0 : a.eval (.tmp 4) = .int .i64 i := hold 4 (unyet_of (by kernel_rfl))
                  generalize a.eval = ev at e0 ⊢
                  simp [execOp, go_sem, e0]
                · cases ho
                  refine step4_told (.pointer (some ⟨g1, i, none⟩)) ?_ (by decide) (hG.same (by decide) (by decide) (by decide) (by decide)) hT rfl
                  have e0 : a.eval (.tmp 49) = .slice (some ⟨g1, 0, none⟩) 9 9 := hT 1 (hh 1 rfl)
                  have e1 : a.eval (.tmp 50) = .int .i64 i := hT 2 (hh 2 rfl)
                  generalize a.eval = ev at e0 e1 ⊢
                  simp [execOp, go_sem, e0, e1]
                  intro h9; exact absurd h9 (by omega)
                · cases ho
                  refine step4_told (.int .i64 z1) ?_ (by decide) (hG.same (by decide) (by decide) (by decide) (by decide)) hT rfl
                  have e0 : a.eval (.tmp 51) = .pointer (some ⟨g1, i, none⟩) := hT 3 (hh 3 rfl)
                  have dx : W.cell? ⟨g1, i, none⟩ = some (.int .i64 z1) := HOC2.out _ (hG.below HXW.out)
                  generalize a.eval = ev at e0 ⊢
                  simp [execOp, go_sem, e0, dx]
                · cases ho
                  refine step4_told (.slice (some ⟨g1 + 1, 0, none⟩) 8 8) ?_ (by decide) (hG.same (by decide) (by decide) (by decide) (by decide)) hT rfl
                  have e0 : a.eval (.tmp 2) = .slice (some ⟨g1 + 1, 0, none⟩) 8 8 := hold 2 (unyet_of (by kernel_rfl))
                  generalize a.eval = ev at e0 ⊢
                  simp [execOp, go_sem, e0]
                · cases ho
                  refine step4_told (.int .i64 k) ?_ (by decide) (hG.same (by decide) (by decide) (by decide) (by decide)) hT rfl
                  have e0 : a.eval (.tmp 6) = .int .i64 k := hold 6 (unyet_of (by kernel_rfl))
                  generalize a.eval = ev at e0 ⊢
                  simp [execOp, go_sem, e0]
                · cases ho
                  refine step4_told (.pointer (some ⟨g1 + 1, k, none⟩)) ?_ (by decide) (hG.same (by decide) (by decide) (by decide) (by decide)) hT rfl
                  have e0 : a.eval (.tmp 53) = .slice (some ⟨g1 + 1, 0, none⟩) 8 8 := hT 5 (hh 5 rfl)
                  have e1 : a.eval (.tmp 54) = .int .i64 k := hT 6 (hh 6 rfl)
                  generalize a.eval = ev at e0 e1 ⊢
                  simp [execOp, go_sem, e0, e1]
                  intro h9; exact absurd h9 (by omega)
                · cases ho
                  refine step4_told (.int .i64 z2) ?_ (by decide) (hG.same (by decide) (by decide) (by decide) (by decide)) hT rfl
                  have e0 : a.eval (.tmp 55) = .pointer (some ⟨g1 + 1, k, none⟩) := hT 7 (hh 7 rfl)
                  have dx : W.cell? ⟨g1 + 1, k, none⟩ = some (.int .i64 z2) := HSC.out _ (hG.below HXW.out)
                  generalize a.eval = ev at e0 ⊢
                  simp [execOp, go_sem, e0, dx]
                · cases ho
                  refine step4_told (.agg #[.int .i64 3, .int .i64 1, .int .u8 0, .int .i64 z1, .int .i64 z2, .slice none 0 0]) ?_ (by decide) (hG.same (by decide) (by decide) (by decide) (by decide)) hT rfl
                  have e0 : a.eval (.tmp 52) = .int .i64 z1 := hT 4 (hh 4 rfl)
                  have e1 : a.eval (.tmp 56) = .int .i64 z2 := hT 8 (hh 8 rfl)
                  have c3 : a.eval (.const (.int .i64 3)) = .int .i64 3 := rfl
                  have c1 : a.eval (.const (.int .i64 1)) = .int .i64 1 := rfl
                  generalize a.eval = ev at e0 e1 c3 c1 ⊢
                  simp [execOp, go_sem, e0, e1, c3, c1]
                · cases ho
                  refine step4_told (.slice (some ⟨g1, 0, none⟩) 9 9) ?_ (by decide) (hG.same (by decide) (by decide) (by decide) (by decide)) hT rfl
                  have e0 : a.eval (.tmp 1) = .slice (some ⟨g1, 0, none⟩) 9 9 := hold 1 (unyet_of (by kernel_rfl))
                  generalize a.eval = ev at e0 ⊢
                  simp [execOp, go_sem, e0]
                · cases ho
                  refine step4_told (.int .i64 i) ?_ (by decide) (hG.same (by decide) (by decide) (by decide) (by decide)) hT rfl
                  have e0 : a.eval (.tmp 4) = .int .i64 i := hold 4 (unyet_of (by kernel_rfl))
                  generalize a.eval = ev at e0 ⊢
                  simp [execOp, go_sem, e0]
                · cases ho
                  refine step4_told (.pointer (some ⟨g1, i, none⟩)) ?_ (by decide) (hG.same (by decide) (by decide) (by decide) (by decide)) hT rfl
                  have e0 : a.eval (.tmp 58) = .slice (some ⟨g1, 0, none⟩) 9 9 := hT 10 (hh 10 rfl)
                  have e1 : a.eval (.tmp 59) = .int .i64 i := hT 11 (hh 11 rfl)
                  generalize a.eval = ev at e0 e1 ⊢
                  simp [execOp, go_sem, e0, e1]
                  intro h9; exact absurd h9 (by omega)
                · cases ho
                  refine step4_told (.int .i64 z1) ?_ (by decide) (hG.same (by decide) (by decide) (by decide) (by decide)) hT rfl
                  have e0 : a.eval (.tmp 60) = .pointer (some ⟨g1, i, none⟩) := hT 12 (hh 12 rfl)
                  have dx : W.cell? ⟨g1, i, none⟩ = some (.int .i64 z1) := HOC2.out _ (hG.below HXW.out)
                  generalize a.eval = ev at e0 ⊢
                  simp [execOp, go_sem, e0, dx]
                · cases ho
                  have n15 := not_yet hcl hL (j := 15) rfl rfl
                  have n22 := not_yet hcl n15 (j := 22) rfl rfl
                  have n23 := not_yet hcl n22 (j := 23) rfl rfl
                  have n31 := not_yet hcl n23 (j := 31) rfl rfl
                  have n32 := not_yet hcl n31 (j := 32) rfl rfl
                  have n33 := not_yet hcl n32 (j := 33) rfl rfl
                  have hw : W = wd := by
                    unfold GNu at hG
                    simpa [hL, n15, n31, n32] using hG
                  subst hw
                  refine step4_turned (.slice (some ⟨W.heap.size, 0, none⟩) 5 5) (W.alloc (.cells xyzB 5)) ?_ (by decide) (by unfold GNu; simp [n15, n31, n32]) (fun j hj => (hT j hj).other (fun e => by rw [e, n32] at hj; cases hj) (fun e => by rw [e, n33] at hj; cases hj)) rfl
                  have c1 : a.eval (.const (.int .u8 120)) = .int .u8 120 := rfl
                  have c2 : a.eval (.const (.int .u8 121)) = .int .u8 121 := rfl
                  have c3 : a.eval (.const (.int .u8 122)) = .int .u8 122 := rfl
                  have c4 : a.eval (.const (.int .u8 117)) = .int .u8 117 := rfl
                  have c5 : a.eval (.const (.int .u8 118)) = .int .u8 118 := rfl
                  generalize a.eval = ev at c1 c2 c3 c4 c5 ⊢
                  simp [execOp, go_sem, c1, c2, c3, c4, c5, xyzB]
                · cases ho
                  have n22 := not_yet hcl hL (j := 22) rfl rfl
                  have n23 := not_yet hcl n22 (j := 23) rfl rfl
                  have n31 := not_yet hcl n23 (j := 31) rfl rfl
                  have n32 := not_yet hcl n31 (j := 32) rfl rfl
                  have n33 := not_yet hcl n32 (j := 33) rfl rfl
                  have hw : W = wd.alloc (.cells xyzB 5) := by
                    unfold GNu at hG
                    simpa [hL, n31, n32, hh 14 rfl] using hG
                  subst hw
                  refine step4_turned (.slice (some ⟨wd.heap.size, 0, none⟩) 5 5) (wd.alloc (.cells xyzB 5 (5, 6))) ?_ (by decide) (by unfold GNu; simp [n31, n32]) (fun j hj => (hT j hj).other (fun e => by rw [e, n32] at hj; cases hj) (fun e => by rw [e, n33] at hj; cases hj)) rfl
                  have e1 : a.eval (.tmp 62) = .slice (some ⟨wd.heap.size, 0, none⟩) 5 5 := hT 14 (hh 14 rfl)
                  have hcv := Joins.run_convert_bytes_const_at (P := Tryz.prog) wd 26 5 xyzB 5 5 wd.heap.size rfl Tryz.underlying26 Tryz.underlying5
                  have hcv2 : (convert 26 26 (.slice (some ⟨wd.heap.size, 0, none⟩) 5 5)).run Tryz.prog (wd.alloc (.cells xyzB 5)) = .ok (.slice (some ⟨wd.heap.size, 0, none⟩) 5 5) (wd.alloc (.cells xyzB 5 (5, 6))) := hcv
                  generalize a.eval = ev at e1 ⊢
                  simp [execOp, go_sem, e1, hcv2, Result.andThen]
                · cases ho
                  refine step4_told (.slice (some ⟨g1 + 1, 0, none⟩) 8 8) ?_ (by decide) (hG.same (by decide) (by decide) (by decide) (by decide)) hT rfl
                  have e0 : a.eval (.tmp 2) = .slice (some ⟨g1 + 1, 0, none⟩) 8 8 := hold 2 (unyet_of (by kernel_rfl))
                  generalize a.eval = ev at e0 ⊢
                  simp [execOp, go_sem, e0]
                · cases ho
                  refine step4_told (.int .i64 k) ?_ (by decide) (hG.same (by decide) (by decide) (by decide) (by decide)) hT rfl
                  have e0 : a.eval (.tmp 6) = .int .i64 k := hold 6 (unyet_of (by kernel_rfl))
                  generalize a.eval = ev at e0 ⊢
                  simp [execOp, go_sem, e0]
                · cases ho
                  refine step4_told (.pointer (some ⟨g1 + 1, k, none⟩)) ?_ (by decide) (hG.same (by decide) (by decide) (by decide) (by decide)) hT rfl
                  have e0 : a.eval (.tmp 64) = .slice (some ⟨g1 + 1, 0, none⟩) 8 8 := hT 16 (hh 16 rfl)
                  have e1 : a.eval (.tmp 65) = .int .i64 k := hT 17 (hh 17 rfl)
                  generalize a.eval = ev at e0 e1 ⊢
                  simp [execOp, go_sem, e0, e1]
                  intro h9; exact absurd h9 (by omega)
                · cases ho
                  refine step4_told (.int .i64 z2) ?_ (by decide) (hG.same (by decide) (by decide) (by decide) (by decide)) hT rfl
                  have e0 : a.eval (.tmp 66) = .pointer (some ⟨g1 + 1, k, none⟩) := hT 18 (hh 18 rfl)
                  have dx : W.cell? ⟨g1 + 1, k, none⟩ = some (.int .i64 z2) := HSC.out _ (hG.below HXW.out)
                  generalize a.eval = ev at e0 ⊢
                  simp [execOp, go_sem, e0, dx]
                · cases ho
                  refine step4_told (.int .i64 (max z2 0)) ?_ (by decide) (hG.same (by decide) (by decide) (by decide) (by decide)) hT rfl
                  have e0 : a.eval (.tmp 67) = .int .i64 z2 := hT 19 (hh 19 rfl)
                  have c0 : a.eval (.const (.int .i64 0)) = .int .i64 0 := rfl
                  generalize a.eval = ev at e0 c0 ⊢
                  have hmx : (if z2 < 0 then (0 : Int) else z2) = max z2 0 := by split <;> omega
                  simp [execOp, go_sem, e0, c0, hmx]
                · cases ho
                  refine step4_told (.int .i64 (m : Int)) ?_ (by decide) (hG.same (by decide) (by decide) (by decide) (by decide)) hT rfl
                  have e0 : a.eval (.tmp 68) = .int .i64 (max z2 0) := hT 20 (hh 20 rfl)
                  have c5 : a.eval (.const (.int .i64 5)) = .int .i64 5 := rfl
                  generalize a.eval = ev at e0 c5 ⊢
                  have hmn : (if 5 < max z2 0 then (5 : Int) else max z2 0) = m := by have := HM.out; split <;> omega
                  simp [execOp, go_sem, e0, c5, hmn]
                · cases ho
                  refine step4_told (.slice (some ⟨wd.heap.size, 0, none⟩) m 5) ?_ (by decide) (hG.same (by decide) (by decide) (by decide) (by decide)) hT rfl
                  have e0 : a.eval (.tmp 63) = .slice (some ⟨wd.heap.size, 0, none⟩) 5 5 := hT 15 (hh 15 rfl)
                  have e1 : a.eval (.tmp 69) = .int .i64 (m : Int) := hT 21 (hh 21 rfl)
                  have hcut := cut_head (some ⟨wd.heap.size, 0, none⟩) 5 5 m HM5.out W
                  generalize a.eval = ev at e0 e1 ⊢
                  simp [execOp, go_sem, e0, e1, hcut, Result.andThen]
                · cases ho
                  refine step4_told (.agg #[.int .i64 1, .int .i64 2, .int .u8 0, .int .i64 z1, .int .i64 0, .slice (some ⟨wd.heap.size, 0, none⟩) m 5]) ?_ (by decide) (hG.same (by decide) (by decide) (by decide) (by decide)) hT rfl
                  have e0 : a.eval (.tmp 61) = .int .i64 z1 := hT 13 (hh 13 rfl)
                  have e1 : a.eval (.tmp 70) = .slice (some ⟨wd.heap.size, 0, none⟩) m 5 := hT 22 (hh 22 rfl)
                  have c1 : a.eval (.const (.int .i64 1)) = .int .i64 1 := rfl
                  have c2 : a.eval (.const (.int .i64 2)) = .int .i64 2 := rfl
                  generalize a.eval = ev at e0 e1 c1 c2 ⊢
                  simp [execOp, go_sem, e0, e1, c1, c2]
                · cases ho
                  refine step4_told (.agg #[.int .i64 3, .int .i64 2, .int .u8 0, .int .i64 0, .int .i64 4, .slice none 0 0]) ?_ (by decide) (hG.same (by decide) (by decide) (by decide) (by decide)) hT rfl
                  have c3 : a.eval (.const (.int .i64 3)) = .int .i64 3 := rfl
                  have c2 : a.eval (.const (.int .i64 2)) = .int .i64 2 := rfl
                  have c4 : a.eval (.const (.int .i64 4)) = .int .i64 4 := rfl
                  generalize a.eval = ev at c3 c2 c4 ⊢
                  simp [execOp, go_sem, c3, c2, c4]
                · cases ho
                  refine step4_told (.int .i64 k) ?_ (by decide) (hG.same (by decide) (by decide) (by decide) (by decide)) hT rfl
                  have e0 : a.eval (.tmp 6) = .int .i64 k := hold 6 (unyet_of (by kernel_rfl))
                  generalize a.eval = ev at e0 ⊢
                  simp [execOp, go_sem, e0]
                · cases ho
                  refine step4_told (.slice (some ⟨g1, 0, none⟩) 9 9) ?_ (by decide) (hG.same (by decide) (by decide) (by decide) (by decide)) hT rfl
                  have e0 : a.eval (.tmp 1) = .slice (some ⟨g1, 0, none⟩) 9 9 := hold 1 (unyet_of (by kernel_rfl))
                  generalize a.eval = ev at e0 ⊢
                  simp [execOp, go_sem, e0]
                · cases ho
                  refine step4_told (.int .i64 i) ?_ (by decide) (hG.same (by decide) (by decide) (by decide) (by decide)) hT rfl
                  have e0 : a.eval (.tmp 4) = .int .i64 i := hold 4 (unyet_of (by kernel_rfl))
                  generalize a.eval = ev at e0 ⊢
                  simp [execOp, go_sem, e0]
                · cases ho
                  refine step4_told (.pointer (some ⟨g1, i, none⟩)) ?_ (by decide) (hG.same (by decide) (by decide) (by decide) (by decide)) hT rfl
                  have e0 : a.eval (.tmp 74) = .slice (some ⟨g1, 0, none⟩) 9 9 := hT 26 (hh 26 rfl)
                  have e1 : a.eval (.tmp 75) = .int .i64 i := hT 27 (hh 27 rfl)
                  generalize a.eval = ev at e0 e1 ⊢
                  simp [execOp, go_sem, e0, e1]
                  intro h9; exact absurd h9 (by omega)
                · cases ho
                  refine step4_told (.int .i64 z1) ?_ (by decide) (hG.same (by decide) (by decide) (by decide) (by decide)) hT rfl
                  have e0 : a.eval (.tmp 76) = .pointer (some ⟨g1, i, none⟩) := hT 28 (hh 28 rfl)
                  have dx : W.cell? ⟨g1, i, none⟩ = some (.int .i64 z1) := HOC2.out _ (hG.below HXW.out)
                  generalize a.eval = ev at e0 ⊢
                  simp [execOp, go_sem, e0, dx]
                · cases ho
                  refine step4_told (.agg #[.int .i64 3, .int .i64 k, .int .u8 0, .int .i64 z1, .int .i64 0, .slice none 0 0]) ?_ (by decide) (hG.same (by decide) (by decide) (by decide) (by decide)) hT rfl
                  have e0 : a.eval (.tmp 73) = .int .i64 k := hT 25 (hh 25 rfl)
                  have e1 : a.eval (.tmp 77) = .int .i64 z1 := hT 29 (hh 29 rfl)
                  have c3 : a.eval (.const (.int .i64 3)) = .int .i64 3 := rfl
                  generalize a.eval = ev at e0 e1 c3 ⊢
                  simp [execOp, go_sem, e0, e1, c3]
                · cases ho
                  have n32 := not_yet hcl hL (j := 32) rfl rfl
                  have n33 := not_yet hcl n32 (j := 33) rfl rfl
                  have y23 := hh 23 rfl
                  have y22 := hcl 23 _ y23 rfl 22 rfl
                  have y15 := hcl 22 _ y22 rfl 15 rfl
                  have hw : W = wd.alloc (.cells xyzB 5 (5, 6)) := by
                    unfold GNu at hG
                    simpa [hL, n32, y15] using hG
                  subst hw
                  refine step4_turned (.slice (some ⟨wd.heap.size + 1, 0, none⟩) 4 4) ((wd.alloc (.cells xyzB 5 (5, 6))).alloc (.cells ((fourD z1 z2 k wd.heap.size m).flatMap ADo.cells).toArray 28)) ?_ (by decide) (by unfold GNu; simp [n32]) (fun j hj => (hT j hj).other (fun e => by rw [e, n32] at hj; cases hj) (fun e => by rw [e, n33] at hj; cases hj)) rfl
                  have e0 : a.eval (.tmp 57) = .agg #[.int .i64 3, .int .i64 1, .int .u8 0, .int .i64 z1, .int .i64 z2, .slice none 0 0] := hT 9 (hh 9 rfl)
                  have e1 : a.eval (.tmp 71) = .agg #[.int .i64 1, .int .i64 2, .int .u8 0, .int .i64 z1, .int .i64 0, .slice (some ⟨wd.heap.size, 0, none⟩) m 5] := hT 23 y23
                  have e2 : a.eval (.tmp 72) = .agg #[.int .i64 3, .int .i64 2, .int .u8 0, .int .i64 0, .int .i64 4, .slice none 0 0] := hT 24 (hh 24 rfl)
                  have e3 : a.eval (.tmp 78) = .agg #[.int .i64 3, .int .i64 k, .int .u8 0, .int .i64 z1, .int .i64 0, .slice none 0 0] := hT 30 (hh 30 rfl)
                  generalize a.eval = ev at e0 e1 e2 e3 ⊢
                  simp [execOp, go_sem, e0, e1, e2, e3, fourD, ADo.cells, noB]
                · cases ho
                  have n33 := not_yet hcl hL (j := 33) rfl rfl
                  have y31 := hh 31 rfl
                  have hw : W = (wd.alloc (.cells xyzB 5 (5, 6))).alloc (.cells ((fourD z1 z2 k wd.heap.size m).flatMap ADo.cells).toArray 28) := by
                    unfold GNu at hG
                    simpa [hL, y31] using hG
                  have e0 : a.eval (.tmp 48) = v := hT 0 (hh 0 rfl)
                  have e1 : a.eval (.tmp 79) = .slice (some ⟨wd.heap.size + 1, 0, none⟩) 4 4 := hT 31 y31
                  have hbW := hG.below HXW.out
                  have hlW : DoLst W W2.heap.size v ds := by rw [hw]; exact (HLS.out.later (below1 _ _)).later (below1 _ _)
                  have hgW : W.heap[wd.heap.size + 1]? = some (.cells ((fourD z1 z2 k wd.heap.size m).flatMap ADo.cells).toArray 28 (0, 0)) := by
                    rw [hw]
                    exact new_at_of _ _ _ (by simp)
                  have hxW : W.heap[wd.heap.size]? = some (.cells xyzB 5 (5, 6)) := by
                    rw [hw]
                    exact ((below1 (wd.alloc (.cells xyzB 5 (5, 6))) _).block wd.heap.size (by simp)).trans (new_at wd _)
                  have hXW : W2.heap.size ≤ W.heap.size := Nat.le_trans HXW.out hbW.size
                  obtain ⟨v', W', hrun, hgr⟩ := run_append_two (P := Tryz.prog) W 29 29 28 i28 _ 6 64 Tryz.underlying29 HI28.out HZ28.out.1 HZ28.out.2.1 HZ28.out.2.2 rfl (by decide) v ds.length (ds.flatMap ADo.cells) hlW.own ⟨wd.heap.size + 1, 0, none⟩ 4 4 ((fourD z1 z2 k wd.heap.size m).flatMap ADo.cells) rfl (lst_at hgW) (one_cells _) (by decide) (by have := HLEN.out; simp only [maxLen]; omega) (by have := HLEN.out; omega)
                  obtain ⟨hnew, hbb⟩ := hlW.grown hgr rfl (four_lit hxW HZ1.out HZ2.out (by omega) HM5.out) hXW
                  refine step4_turned v' W' ?_ (by decide) (by unfold GNu; simp; exact hbW.trans hbb) (fun j hj => (hT j hj).other (fun e => by rw [e, hL] at hj; cases hj) (fun e => by rw [e, n33] at hj; cases hj)) hnew
                  generalize a.eval = ev at e0 e1 ⊢
                  simp [execOp, resolve, invoke, builtin, e0, e1, hrun, Result.andThen]
                · cases ho
                  have h32 : DoLst W W2.heap.size (a.tmps.getD 80 undef) (ds ++ fourD z1 z2 k wd.heap.size m) := hT 32 (hh 32 rfl)
                  refine step4_told (a.tmps.getD 80 undef) ?_ (by decide) (hG.same (by decide) (by decide) (by decide) (by decide)) hT h32
                  have e0 : a.eval (.tmp 80) = a.tmps.getD 80 undef := rfl
                  generalize a.tmps.getD 80 undef = q at e0 ⊢
                  generalize a.eval = ev at e0 ⊢
                  simp [execOp, go_sem, e0]
              · intro a W hd hs hold hT hG
                have e33 : DoLst W W2.heap.size (a.tmps.getD 5 undef) (ds ++ fourD z1 z2 k wd.heap.size m) := hT 33 (by decide)
                have hbW := hG.below HXW.out
                obtain ⟨f, hf, ha⟩ := act_puts [5, 48, 49, 50, 51, 52, 53, 54, 55, 56, 57, 58, 59, 60, 61, 62, 63, 64, 65, 66, 67, 68, 69, 70, 71, 72, 73, 74, 75, 76, 77, 78, 79, 80] (fun t ht => written_in ht [5, 48, 49, 50, 51, 52, 53, 54, 55, 56, 57, 58, 59, 60, 61, 62, 63, 64, 65, 66, 67, 68, 69, 70, 71, 72, 73, 74, 75, 76, 77, 78, 79, 80] (by kernel_rfl)) (fun t ht => by
                  have hsz : t < 144 := by
                    simp only [List.mem_cons, List.mem_nil_iff, or_false] at ht
                    omega
                  exact hsz) hd hs hold
                have e5 : f 5 = a.tmps.getD 5 undef := hf 5
                rw [← e5] at e33
                have HB6 := hide (HBD.out.trans hbW)
                have HL6 := hide e33
                subst ha
                clear hd hs hold hT hf hG hbW e33 e5
                show K _ _
                refine hK _ _ ?_
                simp only [List.foldl_cons, List.foldl_nil]
                obtain ⟨v5, hv5⟩ : ∃ u, u = f 5 := ⟨_, rfl⟩
                rw [← hv5] at HL6 ⊢
                obtain ⟨u48, hu48⟩ : ∃ u, u = f 48 := ⟨_, rfl⟩
                obtain ⟨u49, hu49⟩ : ∃ u, u = f 49 := ⟨_, rfl⟩
                obtain ⟨u50, hu50⟩ : ∃ u, u = f 50 := ⟨_, rfl⟩
                obtain ⟨u51, hu51⟩ : ∃ u, u = f 51 := ⟨_, rfl⟩
                obtain ⟨u52, hu52⟩ : ∃ u, u = f 52 := ⟨_, rfl⟩
                obtain ⟨u53, hu53⟩ : ∃ u, u = f 53 := ⟨_, rfl⟩
                obtain ⟨u54, hu54⟩ : ∃ u, u = f 54 := ⟨_, rfl⟩
                obtain ⟨u55, hu55⟩ : ∃ u, u = f 55 := ⟨_, rfl⟩
                obtain ⟨u56, hu56⟩ : ∃ u, u = f 56 := ⟨_, rfl⟩
                obtain ⟨u57, hu57⟩ : ∃ u, u = f 57 := ⟨_, rfl⟩
                obtain ⟨u58, hu58⟩ : ∃ u, u = f 58 := ⟨_, rfl⟩
                obtain ⟨u59, hu59⟩ : ∃ u, u = f 59 := ⟨_, rfl⟩
                obtain ⟨u60, hu60⟩ : ∃ u, u = f 60 := ⟨_, rfl⟩
                obtain ⟨u61, hu61⟩ : ∃ u, u = f 61 := ⟨_, rfl⟩
                obtain ⟨u62, hu62⟩ : ∃ u, u = f 62 := ⟨_, rfl⟩
                obtain ⟨u63, hu63⟩ : ∃ u, u = f 63 := ⟨_, rfl⟩
                obtain ⟨u64, hu64⟩ : ∃ u, u = f 64 := ⟨_, rfl⟩
                obtain ⟨u65, hu65⟩ : ∃ u, u = f 65 := ⟨_, rfl⟩
                obtain ⟨u66, hu66⟩ : ∃ u, u = f 66 := ⟨_, rfl⟩
                obtain ⟨u67, hu67⟩ : ∃ u, u = f 67 := ⟨_, rfl⟩
                obtain ⟨u68, hu68⟩ : ∃ u, u = f 68 := ⟨_, rfl⟩
                obtain ⟨u69, hu69⟩ : ∃ u, u = f 69 := ⟨_, rfl⟩
                obtain ⟨u70, hu70⟩ : ∃ u, u = f 70 := ⟨_, rfl⟩
                obtain ⟨u71, hu71⟩ : ∃ u, u = f 71 := ⟨_, rfl⟩
                obtain ⟨u72, hu72⟩ : ∃ u, u = f 72 := ⟨_, rfl⟩
                obtain ⟨u73, hu73⟩ : ∃ u, u = f 73 := ⟨_, rfl⟩
                obtain ⟨u74, hu74⟩ : ∃ u, u = f 74 := ⟨_, rfl⟩
                obtain ⟨u75, hu75⟩ : ∃ u, u = f 75 := ⟨_, rfl⟩
                obtain ⟨u76, hu76⟩ : ∃ u, u = f 76 := ⟨_, rfl⟩
                obtain ⟨u77, hu77⟩ : ∃ u, u = f 77 := ⟨_, rfl⟩
                obtain ⟨u78, hu78⟩ : ∃ u, u = f 78 := ⟨_, rfl⟩
                obtain ⟨u79, hu79⟩ : ∃ u, u = f 79 := ⟨_, rfl⟩
                obtain ⟨u80, hu80⟩ : ∃ u, u = f 80 := ⟨_, rfl⟩
                rw [← hu48, ← hu49, ← hu50, ← hu51, ← hu52, ← hu53, ← hu54, ← hu55, ← hu56, ← hu57, ← hu58, ← hu59, ← hu60, ← hu61, ← hu62, ← hu63, ← hu64, ← hu65, ← hu66, ← hu67, ← hu68, ← hu69, ← hu70, ← hu71, ← hu72, ← hu73, ← hu74, ← hu75, ← hu76, ← hu77, ← hu78, ← hu79, ← hu80]
                clear hv5 hu48 hu49 hu50 hu51 hu52 hu53 hu54 hu55 hu56 hu57 hu58 hu59 hu60 hu61 hu62 hu63 hu64 hu65 hu66 hu67 hu68 hu69 hu70 hu71 hu72 hu73 hu74 hu75 hu76 hu77 hu78 hu79 hu80
                simp only [Act.put, List.setIfInBounds_toArray, List.set_cons_succ, List.set_cons_zero]
                go_wp2_with fail
                go_roundw
                case rel => exact ⟨k + 1, _, by omega, by go_num, HL6.out, by have := HDL.out; simp [fourD]; omega, HB6.out⟩
                case measure => simp [intOf]; omega
            · have hk2 : k = 8 := by omega
              subst hk2
              clear hltk hk
              obtain ⟨i28, hi28, hz0, hz1, hz2⟩ := info_parts doInfo
              have HI28 := hide hi28
              have HZ28 := hide (And.intro hz0 (And.intro hz1 hz2))
              clear hi28 hz0 hz1 hz2
              go_wp2_with (at_builtin; refine stop_here ?_)
              show Hid _
              refine start_here ?_
              refine wpList_append_two _ rfl (.tmp 81) (.tmp 88) 29 rfl 28 i28 _ 6 64 Tryz.underlying29 HI28.out HZ28.out.1 HZ28.out.2.1 HZ28.out.2.2 rfl (by decide) _ ds.length (ds.flatMap ADo.cells) rfl (HLQ.out.own.alloc _) ⟨wr.heap.size, 0, none⟩ 6 6 (sixD.flatMap ADo.cells) rfl rfl (lst_at (es := sixD) (new_at wr _)) (one_cells _) (by decide) (by have := HLEN.out; simp only [maxLen]; omega) (by have := HLEN.out; omega) ?_
              intro v' w4 hgw
              have hbq := HBQ.out.alloc HBQ.out.size (.cells (sixD.flatMap ADo.cells).toArray 28)
              obtain ⟨hnew, hbb⟩ := (HLQ.out.later (below1 wr (.cells (sixD.flatMap ADo.cells).toArray 28))).grown hgw rfl (six_lit _) hbq.size
              obtain ⟨A4, c4, e4, _⟩ := owns_slice hgw.1
              subst e4
              have HB4 := hide (hbq.trans hbb)
              have HLAW := hide (law_regionLives A4 (ds.length + 6) c4 _ w4 (hnew.ados (by simp [sixD])) (by have := HLEN.out; omega))
              clear hgw hbq hnew hbb
              go_wp2_with fail
              refine HLAW.out.mono ?_
              rintro e w5 ⟨rfl, hb5⟩
              have HB5 := hide (HB4.out.trans (hb5.mono HB4.out.size))
              clear hb5 HLAW
              go_wp2_with fail
              go_roundw
              case rel => (repeat apply Exists.intro); exact ⟨⟨i + 1, by omega, by go_num, HB5.out⟩, rfl⟩
              case measure => simp [intOf]; omega
        · have hi2 : i = 9 := by omega
          subst hi2
          clear hlt hi
          go_wp2_with fail
          have HBW := hide (HB0.out.trans (HB.out.mono (Nat.le_trans (Nat.le_add_right _ 2) HX0.out)))
          go_wp2_with fail
          refine (new_M wo).mono ?_
          rintro e w2 ⟨b, mm, rfl, hmem, hb⟩
          have HM2 := hide hmem
          have HB2 := hide (HBW.out.trans (hb.mono HBW.out.size))
          have HBo := hide hb.size
          clear hmem hb
          obtain ⟨Z1, l1, hz1, hr1⟩ := zeros 4096 (by decide)
          obtain ⟨Z2, l2, hz2, hr2⟩ := zeros 4097 (by decide)
          have HR1 := hide hr1
          have HR2 := hide hr2
          clear hr1 hr2
          have hy1 : ∀ W : World, (Instr.makeSlice 26 (.int .i64 4096) (.int .i64 4096)).run Tryz.prog W = .ok (.slice (some ⟨W.heap.size, 0, none⟩) 4096 4096) (W.alloc (.cells Z1 5)) := hz1
          have hy2 : ∀ W : World, (Instr.makeSlice 26 (.int .i64 4097) (.int .i64 4097)).run Tryz.prog W = .ok (.slice (some ⟨W.heap.size, 0, none⟩) 4097 4097) (W.alloc (.cells Z2 5)) := hz2
          clear hz1 hz2
          go_wp2_with fail
          refine (make_both (HM2.out.below (below1 w2 (.cells Z1 5))) (by decide) 3 (some ⟨w2.heap.size, 0, none⟩) 4096 4096 (w2.heap.size + 1) l1 (by decide) (HR1.out w2) nofun (by simp) (Nat.le_trans HBo.out (below1 w2 (.cells Z1 5)).size)).mono ?_
          rintro e w3 ⟨L1, rfl, hml, hm3, hk3⟩
          rw [show mkA ([] : List (Option PRow)).length 3 4096 = 1 from by decide, show mkE 3 4096 = 0 from by decide]
          have hb3 := HB2.out.alloc HB2.out.size (.cells Z1 5)
          have HB3 := hide (hb3.trans (((HM2.out.below (below1 w2 (.cells Z1 5))).low_ hk3 (Nat.le_trans HBo.out (below1 w2 (.cells Z1 5)).size)).mono HBW.out.size))
          have HS3 : Hid (wo.heap.size ≤ w3.heap.size) := Nat.le_trans HBo.out (Nat.le_trans (below1 w2 (.cells Z1 5)).size hk3.size)
          have hn1 : nOf L1 1 = 4096 ∧ L1.length = 1 := by
            rcases hml with ⟨h, _⟩ | ⟨_, p, rfl, _, h, _⟩
            · exact absurd (by decide) h
            · exact ⟨h, rfl⟩
          have HM3 := hide hm3
          have HN1 := hide hn1
          clear hml hm3 hk3 hb3 hn1
          go_wp2_with fail
          refine (make_both (HM3.out.below (below1 w3 (.cells Z2 5))) (by have := HN1.out.2; omega) 3 (some ⟨w3.heap.size, 0, none⟩) 4097 4097 (w3.heap.size + 1) l2 (by decide) (HR2.out w3) nofun (by simp) (Nat.le_trans HS3.out (below1 w3 (.cells Z2 5)).size)).mono ?_
          rintro e w4 ⟨L2, rfl, hml, hm4, hk4⟩
          have hll : L2 = L1 := by
            rcases hml with ⟨_, h⟩ | ⟨h, _⟩
            · exact h
            · exact absurd h (by decide)
          subst hll
          rw [show mkA L2.length 3 4097 = 0 from rfl, show mkE 3 4097 = 3 from by decide]
          have hb4 := HB3.out.alloc HB3.out.size (.cells Z2 5)
          have HB4 := hide (hb4.trans (((HM3.out.below (below1 w3 (.cells Z2 5))).low_ hk4 (Nat.le_trans HS3.out (below1 w3 (.cells Z2 5)).size)).mono HBW.out.size))
          have HS4 : Hid (wo.heap.size ≤ w4.heap.size) := Nat.le_trans HS3.out (Nat.le_trans (below1 w3 (.cells Z2 5)).size hk4.size)
          have HM4 := hide hm4
          clear hml hm4 hk4 hb4
          go_wp2_with fail
          refine (make_both (HM4.out.below (below1 w4 (.cells Z2 5))) (by have := HN1.out.2; omega) 6 (some ⟨w4.heap.size, 0, none⟩) 4097 4097 (w4.heap.size + 1) l2 (by decide) (HR2.out w4) nofun (by simp) (Nat.le_trans HS4.out (below1 w4 (.cells Z2 5)).size)).mono ?_
          rintro e w5 ⟨L3, rfl, hml, hm5, hk5⟩
          have hll : L3 = L2 := by
            rcases hml with ⟨_, h⟩ | ⟨h, _⟩
            · exact h
            · exact absurd h (by decide)
          subst hll
          rw [show mkA L3.length 6 4097 = 0 from rfl, show mkE 6 4097 = 2 from by decide]
          have hb5 := HB4.out.alloc HB4.out.size (.cells Z2 5)
          have HB5 := hide (hb5.trans (((HM4.out.below (below1 w4 (.cells Z2 5))).low_ hk5 (Nat.le_trans HS4.out (below1 w4 (.cells Z2 5)).size)).mono HBW.out.size))
          have HM5 := hide hm5
          clear hml hm5 hk5 hb5 hy1 hy2
          go_wp2_with fail
          refine (size_all HM5.out wi1).mono ?_
          rintro e w6 ⟨rfl, hb⟩
          have HB6 := hide (HB5.out.trans (hb.mono HB5.out.size))
          clear hb
          rw [HN1.out.1]
          go_wp2_with fail
          refine (law_regionLives none 0 0 [] w6 ⟨⟨rfl, fun h => absurd h (by decide)⟩, by simp⟩ (by decide)).mono ?_
          rintro e w7 ⟨rfl, hb⟩
          have HB7 := hide (HB6.out.trans (hb.mono HB6.out.size))
          clear hb
          go_wp2_with fail
          refine (law_regionNil 1 0 0 w7).mono ?_
          rintro e w8 ⟨rfl, hb⟩
          have HB8 := hide (HB7.out.trans (hb.mono HB7.out.size))
          clear hb
          go_wp2_with fail
          refine (awake_any w8).mono ?_
          rintro e w9 ⟨rfl, hb⟩
          have HB9 := hide (HB8.out.trans (hb.mono HB8.out.size))
          clear hb
          go_wp2_with fail
          go_ret
          exact ⟨rfl, HB9.out⟩
end Go.Proofs.YtbllnjkagleenaaGreat
