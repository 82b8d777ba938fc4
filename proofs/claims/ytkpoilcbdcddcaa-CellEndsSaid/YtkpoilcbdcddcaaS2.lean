/-
  Bytes are told.
-/
import Derived.Test.YtkpoilcbdcddcaaS1
import Derived.Test.YtkpoilcbdcddcaaRT5
namespace Go.Proofs.Ytkpoilcbdcddcaa
open Go.RowKit
set_option linter.unusedVariables false
set_option linter.unusedSimpArgs false
attribute [local go_sem] Oper.semAt_some

/-- A row of bytes of the call's own that was made since the heap had B blocks. -/
def OwnB (w : World) (B : Nat) (v : Value) (n : Nat) (l : List Int) : Prop := w.ownsRow 0 5 1 v n (u8s l) ∧ ∀ g, v.ownBlock = some g → B ≤ g
theorem owns_nil (w : World) (e : TypeId) (sz : Nat) : w.ownsRow 0 e sz (.slice none 0 0) 0 [] := ⟨by simp, .inl ⟨rfl, rfl⟩⟩
/-- The bytes of a part of a group, as they lie. -/
theorem PSL.bytes {cs : List Value} {b : Nat} {A : AS} (h : PSL cs b A) {g x y : Nat} {news : List Int} (hg : g < 64) (hx : x < y) (hy : y ≤ 8) (hn : A.got (8 * g + x) (y - x) = some news) :
    ∀ j u, (u8s news)[j]? = some u → cs[1 + 13 * g + 5 + x + j]? = some u := by
  intro j u hu
  obtain ⟨h1, h2⟩ := (A.got_iff _ _ _).1 hn
  have hj : j < news.length := by have := (List.getElem?_eq_some_iff.1 hu).1; simpa [u8s] using this
  have hj2 := h2 j (by omega)
  rw [List.getElem?_eq_getElem hj] at hj2
  obtain ⟨z, hz1, hz2⟩ := (h.grp g hg).byte (x + j) (by omega)
  have := hz2 _ (by rw [← hj2]; congr 1; omega)
  rw [show 1 + 13 * g + 5 + x + j = 1 + 13 * g + 5 + (x + j) by omega, hz1, this, ← hu]
  simp [u8s, List.getElem?_eq_getElem hj]
/-- What stands when the parts pre have been told. -/
def ToldI (w : World) (off q X Y : Nat) (A : AS) (pre : List PartM) (W : World) : Prop :=
  ∃ k S c l, k ≤ q ∧ pre ++ parts (off + k) (q - k) = parts off q ∧ A.got off k = some l ∧ OwnB W Y (.slice S k c) k l ∧ Boxed W X 37 (.slice none 0 0) ∧ Boxed W (X + 1) 41 (.int .i64 0) ∧ Boxed W (X + 2) 37 (.slice S k c) ∧ Below X w W
def ToldX (w : World) (off q X : Nat) (A : AS) (pre : List PartM) (W : World) : Prop := A.got off q = none ∧ Boxed W X 37 (.slice none 0 0) ∧ Boxed W (X + 1) 41 (.int .i64 30) ∧ Below X w W
theorem ToldI.stays {w : World} {off q X Y : Nat} {A : AS} {pre : List PartM} {B : Nat} {U V : World} (h : ToldI w off q X Y A pre U) (hst : Stays B U V) (hB : X ≤ B) (hw : X ≤ w.heap.size)   : ToldI w off q X Y A pre V := by
  obtain ⟨k, S, c, l, h1, h2, h3, h4, h5, h6, h7, h8⟩ := h
  exact ⟨k, S, c, l, h1, h2, h3, ⟨hst.owns h4.1, h4.2⟩, hst.boxed h5, hst.boxed h6, hst.boxed h7, hst.below hB hw h8⟩
theorem ToldX.stays {w : World} {off q X : Nat} {A : AS} {pre : List PartM} {B : Nat} {U V : World} (h : ToldX w off q X A pre U) (hst : Stays B U V) (hB : X ≤ B) (hw : X ≤ w.heap.size) : ToldX w off q X A pre V := by
  obtain ⟨h1, h5, h6, h8⟩ := h
  exact ⟨h1, hst.boxed h5, hst.boxed h6, hst.below hB hw h8⟩
theorem got_prefix {A : AS} {off k m q : Nat} (h : A.got (off + k) m = none) (hq : k + m ≤ q) : A.got off q = none := by
  obtain ⟨r, rfl⟩ : ∃ r, q = k + m + r := ⟨q - (k + m), by omega⟩
  rw [AS.got_add, AS.got_add]
  cases A.got off k with
  | none => rfl
  | some l => simp [h]
/-- A row of bytes lies in no box of another sort. -/
theorem owns_ne {w : World} {n B : Nat} {t : TypeId} {v u : Value} {xs : List Value} (h : w.ownsRow 0 5 1 v n xs) (hb : Boxed w B t u) (ht : t ≠ 5) : v.ownBlock ≠ some B := by
  intro e
  rcases h.2 with ⟨rfl, _⟩ | ⟨g, cap, cur, rfl, _, hg, _⟩
  · cases e
  · simp only [Value.ownBlock, Option.some.injEq] at e
    subst e
    have h2 : w.heap[g]? = some (.cells #[u] t (0, 0)) := hb
    rw [hg] at h2
    simp only [Option.some.injEq, Obj.cells.injEq] at h2
    exact ht h2.2.1.symm
/-- What lasts of the statement that appends the bytes of a part. -/
def TTold (S2 : Option Addr) (k c2 b gx X2 x y m : Nat) (S5 : Option Addr) (c5 : Nat) (j : Nat) (σ : Nat → Value) : Prop :=
  match j with
  | 0 => σ 0 = .slice S2 k c2
  | 1 => σ 1 = .pointer (some ⟨b, gx, none⟩)
  | 2 => σ 2 = .pointer (some ⟨b, gx, none⟩)
  | 3 => σ 3 = .pointer (some ⟨b, gx + 5, none⟩)
  | 4 => σ 4 = .pointer (some ⟨X2, 0, none⟩)
  | 5 => σ 5 = .int .i64 x
  | 6 => σ 6 = .pointer (some ⟨X2, 1, none⟩)
  | 7 => σ 7 = .int .i64 y
  | 8 => σ 8 = .slice (some ⟨b, gx + 5 + x, none⟩) m (8 - x)
  | 9 => σ 9 = .slice S5 (k + m) c5
  | _ => True
set_option maxRecDepth 100000 in
set_option maxHeartbeats 4000000 in
theorem told_any (b off q : Nat) (A : AS) (w : World) (h : PS w b A) (hq : off + q ≤ 512) :
    Calls Try.prog 31 #[.pointer (some ⟨b, 0, none⟩), .int .i64 off, .int .i64 q] w fun e w' => ∃ v E, e = .returned (.tuple #[v, .int .i64 E]) ∧ ((∃ l, A.got off q = some l ∧ E = 0 ∧ OwnB w' w.heap.size v q l) ∨ (A.got off q = none ∧ E = 30 ∧ v = .slice none 0 0)) ∧ Below w.heap.size w w' := by
  have hblt := h.lt
  have H := hide h
  have hmo : Try.prog.follows .mixedOrders = true := by kernel_rfl
  have hbw : Below w.heap.size w (((w.alloc (.cells #[.slice none 0 0] 37)).alloc (.cells #[.int .i64 0] 41)).alloc (.cells #[.slice none 0 0] 37)) := (((Below.refl _ w).alloc (Nat.le_refl _) _).alloc (by simp) _).alloc (by simp; omega) _
  have hb0 : Boxed (((w.alloc (.cells #[.slice none 0 0] 37)).alloc (.cells #[.int .i64 0] 41)).alloc (.cells #[.slice none 0 0] 37)) w.heap.size 37 (.slice none 0 0) := (Below.heap_alloc _ _ _ (by simp; omega)).trans (two_boxes w _ _).1
  have hb1 : Boxed (((w.alloc (.cells #[.slice none 0 0] 37)).alloc (.cells #[.int .i64 0] 41)).alloc (.cells #[.slice none 0 0] 37)) (w.heap.size + 1) 41 (.int .i64 0) := (Below.heap_alloc _ _ _ (by simp)).trans (two_boxes w _ _).2
  have hb2 : Boxed (((w.alloc (.cells #[.slice none 0 0] 37)).alloc (.cells #[.int .i64 0] 41)).alloc (.cells #[.slice none 0 0] 37)) (w.heap.size + 2) 37 (.slice none 0 0) := boxed_at (by simp)
  have h1 := h.below hbw
  refine (callsIn_wide (n := 3)).1 ?_
  refine callsIn_of_wp_marks Try.func31 rfl trivial ?_ rfl
  simp only [Try.ntmps31, List.size_toArray, List.length_cons, List.length_nil, Nat.reduceAdd, Nat.reduceSub, Array.replicate_succ, Array.replicate_zero, List.push_toArray, List.append_toArray, List.nil_append, List.cons_append]
  gi_wp2_with fail
  generalize ((w.alloc (.cells #[.slice none 0 0] 37)).alloc (.cells #[.int .i64 0] 41)).alloc (.cells #[.slice none 0 0] 37) = w1 at hbw hb0 hb1 hb2 h1 ⊢
  have HBW := hide hbw
  have HP := hide h1
  have HB0 := hide hb0
  have HB1 := hide hb1
  have HB2 := hide hb2
  have hlt := at_lt hb2
  clear h hbw h1 hb0 hb1 hb2
  refine ⟨trivial, (callsIn_wide.2 (touched_any b off q _)).mono ?_⟩
  rintro e W ⟨rfl, hbT, hbx⟩
  have HBX := hide hbx
  have HG := hide hbT
  have hltB := hbx.lt
  have hBB : w.heap.size + 2 < w1.heap.size := hlt
  have hWs := hbT.size
  clear hbx hbT
  gi_wp2_with fail
  refine range_ends (α := PartM) (F := Fence.wide) (n := 3) rfl (by omega) (gf := 48) (lb := #[.pointer (some ⟨w1.heap.size + 1, 0, none⟩), .pointer (some ⟨w1.heap.size + 2, 0, none⟩), .pointer (some ⟨w1.heap.size, 0, none⟩)]) rfl trivial (enters_of Try.func48 (by kernel_rfl) rfl)
    (touched_iter (3 - 1) (by omega) w1.heap.size b off q hq W HBX.out) (Below.refl _ _) KeepT.trans ?_ (fun _ => rfl) (ToldI w off q w.heap.size W.heap.size A) (ToldX w off q w.heap.size A) ?_ ?_ ?_ ?round ?done ?stop
  · intro X l o o' hl hl2 h ho
    exact KeepT.put X o' (by omega) hl2
  · intro s X Y h hst
    exact h.stays hst (by omega) (Nat.le_refl _)
  · intro s X Y h hst
    exact h.stays hst (by omega) (Nat.le_refl _)
  · exact ⟨0, none, 0, [], Nat.zero_le _, rfl, rfl, ⟨owns_nil _ _ _, fun g hg => by cases hg⟩, (HG.out.block _ (at_lt HB0.out)).trans HB0.out, (HG.out.block _ (at_lt HB1.out)).trans HB1.out, (HG.out.block _ (at_lt HB2.out)).trans HB2.out, HBW.out.trans (HG.out.mono HBW.out.size)⟩
  case round =>
    rintro lp pre ⟨g, x, y⟩ W2 hle hloop hws ⟨k, S2, c2, l, h1, h2, h3, h4, h5, h6, h7, h8⟩ hpre
    obtain ⟨hkq, hpe, hpn⟩ := parts_step h2 h1 hpre
    simp only [PartM.mk.injEq] at hpe
    obtain ⟨m, hm⟩ : ∃ m, m = y - x := ⟨_, rfl⟩
    have hpm : g < 64 ∧ x < y ∧ y ≤ 8 ∧ 8 * g + x = off + k ∧ m ≤ q - k ∧ y - x = m := by omega
    obtain ⟨hg, hx, hy, hgx, hmq, hyx⟩ := hpm
    simp only [hyx] at hpn
    have HPN := hide hpn
    have H2 := hide h2
    have H3 := hide h3
    have H4 := hide h4
    have H5 := hide h5
    have H6 := hide h6
    have H7 := hide h7
    have H8 := hide h8
    clear hpe h2 h3 h4 h5 h6 h7 h8 hpre hpn hm
    simp only [PartM.encs]
    gi_wp2
    have hbA := below1 W2 (.cells #[.int .i64 x, .int .i64 y] 86)
    have hI2 : ToldI w off q w.heap.size W.heap.size A pre (W2.alloc (.cells #[.int .i64 x, .int .i64 y] 86)) := ToldI.stays ⟨k, S2, c2, l, h1, H2.out, H3.out, H4.out, H5.out, H6.out, H7.out, H8.out⟩ (.of_below (B := W.heap.size) hbA) (by omega) (Nat.le_refl _)
    refine ⟨(KeepsOthers.alloc _ _).from _, .of_below (by omega) hbA, hI2, fun W3 hst => ?_⟩
    have hp3 := hst.block (World.alloc_heap_new W2 (.cells #[.int .i64 x, .int .i64 y] 86))
    have hst2 := (Stays.of_below (B := W.heap.size) hbA).trans hst
    have G4 := hide (show OwnB W3 W.heap.size (.slice S2 k c2) k l from ⟨hst2.owns H4.out.1, H4.out.2⟩)
    have G5 := hide (hst2.boxed H5.out)
    have G6 := hide (hst2.boxed H6.out)
    have G7 := hide (hst2.boxed H7.out)
    have G8 := hide (hst2.below (n0 := w.heap.size) (by omega) (Nat.le_refl _) H8.out)
    have G3 := hide (H.out.same (G8.out.block b hblt))
    have GP := hide hp3
    have hs3 : W.heap.size + 2 < W3.heap.size := Nat.lt_of_le_of_lt hws (at_lt hp3)
    have hPW : W.heap.size + 2 ≤ W2.heap.size := hws
    obtain ⟨X2, hX2⟩ : ∃ X2, X2 = W2.heap.size := ⟨_, rfl⟩
    rw [← hX2] at GP hp3 hPW ⊢
    have e0 := blk_cell hp3 0
    have e1 := blk_cell hp3 1
    simp at e0 e1
    clear hX2 hst hst2 hbA hI2 H2 H4 H5 H6 H7 H8 hp3 hle hloop hws
    gi_wp2_with fail
    have hhas := has_any b g x y A W3 G3.out hg hx hy
    rw [hyx, hgx] at hhas
    cases hgot : A.got (off + k) m with
    | none =>
      have HN := hide (got_prefix (off := off) (k := k) (m := m) (q := q) hgot (by omega))
      rw [hgot] at hhas
      clear hgot
      refine ⟨trivial, (CallsIn.inRound lp (callsIn_wide.2 hhas)).mono ?_⟩
      rintro e w4 ⟨rfl, hb4⟩
      have b0 := (hb4.block _ (at_lt G5.out)).trans G5.out
      have b1 := (hb4.block _ (at_lt G6.out)).trans G6.out
      have d0 := blk_cell b0 0
      have d1 := blk_cell b1 0
      have f0 := blk_free b0 0
      have f1 := blk_free b1 0
      simp at d0 d1
      have HB4 := hide hb4
      have B0 : Hid (Boxed w4 w.heap.size 37 (.slice none 0 0)) := b0
      have B1 : Hid (Boxed w4 (w.heap.size + 1) 41 (.int .i64 0)) := b1
      have hlt4 := at_lt b0
      have hlt5 := at_lt b1
      clear hhas b0 b1 hb4
      gi_wp2_with fail
      refine ⟨?_, HN.out, (B0.out.set _).other (by omega) _, (B1.out.other (by omega) _).set _, ?_⟩
      · exact KeepsFrom.trans ⟨HB4.out.size, fun j o hj ho _ => (HB4.out.block j (at_lt ho)).trans ho⟩ (((KeepsOthers.setCell _ _ _).from _).trans ((KeepsOthers.setCell _ _ _).from _))
      · exact ((G8.out.trans (HB4.out.mono (by omega))).setCell (p := ⟨w.heap.size, 0, none⟩) (Nat.le_refl _) _).setCell (p := ⟨w.heap.size + 1, 0, none⟩) (Nat.le_succ _) _
    | some news =>
      rw [hgot] at hhas
      have HGOT := hide hgot
      clear hgot
      refine ⟨trivial, (CallsIn.inRound lp (callsIn_wide.2 hhas)).mono ?_⟩
      rintro e w4 ⟨rfl, hb4⟩
      have hps4 := G3.out.below hb4
      have hp4 := (hb4.block _ (at_lt GP.out)).trans GP.out
      have ho4 := (Stays.of_below (B := 0) hb4).owns G4.out.1
      have b2 := (hb4.block _ (at_lt G7.out)).trans G7.out
      have HB4 := hide hb4
      have HX4 : Hid (Boxed w4 (w.heap.size + 2) 37 (.slice S2 k c2)) := b2
      have hz4 := hb4.size
      clear hhas hb4 e0 e1
      obtain ⟨cs, hcs, hpsl⟩ := hps4
      have hnl : news.length = m := ((A.got_iff _ _ _).1 HGOT.out).1
      have hby := hpsl.bytes hg hx hy (news := news) (by rw [hgx, hyx]; exact HGOT.out)
      have hrd : Rd w4.drew (b + 1) 1 (some ⟨b, 1 + 13 * g + 5 + x, none⟩) m (u8s news) := ⟨by simp [u8s, hnl], fun _ => ⟨_, rfl, Nat.lt_succ_self _, fun j u hu => by
        have e : (⟨b, 1 + 13 * g + 5 + x, none⟩ : Addr).add j = ⟨b, 1 + 13 * g + 5 + x + j, none⟩ := by unfold Addr.add; split <;> simp_all
        rw [e]
        exact (PS.cell hcs _).trans (hby j u hu)⟩⟩
      obtain ⟨i0, hi, hz0, hz1, hz2⟩ := info_parts u8info
      obtain ⟨v5, w5, hrun, hl5⟩ := run_append_rd (P := Try.prog) w4.drew 37 37 5 i0 _ 1 1 Try.underlying37 hi hz0 hz1 hz2 rfl (by decide) (.slice S2 k c2) k (u8s l) ho4 (b + 1) (some ⟨b, 1 + 13 * g + 5 + x, none⟩) m (8 - x) (u8s news) hrd (fun h => nomatch h) (u8s_one news) (by unfold maxLen; omega) (by omega)
      have hcut := bytes_cut w4.drew b (1 + 13 * g + 5) x y hx hy
      rw [hyx] at hcut
      have e0 := blk_cell hp4 0
      have e1 := blk_cell hp4 1
      have e2 : w4.cell? ⟨w.heap.size + 1 + 1, 0, none⟩ = some (.slice S2 k c2) := by
        have := blk_cell b2 0
        simpa using this
      simp at e0 e1
      obtain ⟨hl5a, hl5b, hl5c⟩ := hl5
      obtain ⟨S5, c5, rfl, _⟩ := owns_slice hl5a
      have hne := owns_ne ho4 HX4.out (by decide)
      have hx5 : Boxed w5 (w.heap.size + 2) 37 (.slice S2 k c2) := (hl5b.block _ (at_lt HX4.out) (fun e => hne e.symm)).trans HX4.out
      have e3 : w5.cell? ⟨w.heap.size + 1 + 1, 0, none⟩ = some (.slice S2 k c2) := by
        have := blk_cell hx5 0
        simpa using this
      have e4 : w5.frozen? ⟨w.heap.size + 1 + 1, 0, none⟩ = false := blk_free hx5 0
      have HX5 := hide hx5
      have HL5 := hide (And.intro hl5a (And.intro hl5b hl5c))
      have hl5x := at_lt hx5
      have hxy2 : x ≤ y := Nat.le_of_lt hx
      have HP4 := hide hp4
      have HO4 := hide ho4
      clear hcs hpsl hby hrd hl5a hl5b hl5c hp4 ho4 b2 hx5 hne
      gi_wp2_with fail
      obtain ⟨w6, hw6⟩ : ∃ w6, w6 = w5.setCell ⟨w.heap.size + 1 + 1, 0, none⟩ (.slice S5 (k + m) c5) := ⟨_, rfl⟩
      refine wpIn_tells5 (fun _ => trivial) hmo (TTold S2 k c2 b (1 + 13 * g) X2 x y m S5 c5) (fun L W => W = if L 10 then w6 else if L 9 then w5 else w4.drew) (by kernel_rfl) (by kernel_rfl) (by kernel_rfl) (by kernel_rfl) ?_ rfl ?_ ?_
      · intro j oj σ σ' hj h hs
        have h0 := hs j (.inl rfl)
        have hi : j < 11 := (Array.getElem?_eq_some_iff.1 hj).1
        have hi' : j = 0 ∨ j = 1 ∨ j = 2 ∨ j = 3 ∨ j = 4 ∨ j = 5 ∨ j = 6 ∨ j = 7 ∨ j = 8 ∨ j = 9 ∨ j = 10 := by omega
        rcases hi' with rfl | rfl | rfl | rfl | rfl | rfl | rfl | rfl | rfl | rfl | rfl
        all_goals first
          | trivial
          | (simp only [TTold] at h ⊢; rw [h0]; exact h)
      · intro i o ho L a W hi hG hold hh hT hcl
        have hi2 : i < 11 := (Array.getElem?_eq_some_iff.1 ho).1
        have c10 : L 10 = true → L 9 = true := fun h => hcl 10 _ 9 rfl h rfl
        have c90 : L 9 = true → L 0 = true := fun h => hcl 9 _ 0 rfl h rfl
        have c98 : L 9 = true → L 8 = true := fun h => hcl 9 _ 8 rfl h rfl
        have c83 : L 8 = true → L 3 = true := fun h => hcl 8 _ 3 rfl h rfl
        have c85 : L 8 = true → L 5 = true := fun h => hcl 8 _ 5 rfl h rfl
        have c87 : L 8 = true → L 7 = true := fun h => hcl 8 _ 7 rfl h rfl
        have c32 : L 3 = true → L 2 = true := fun h => hcl 3 _ 2 rfl h rfl
        have c21 : L 2 = true → L 1 = true := fun h => hcl 2 _ 1 rfl h rfl
        have c54 : L 5 = true → L 4 = true := fun h => hcl 5 _ 4 rfl h rfl
        have c76 : L 7 = true → L 6 = true := fun h => hcl 7 _ 6 rfl h rfl
        have hlow : i < 9 → L 9 = false := fun hi9 => by
          cases h9 : L 9 with
          | false => rfl
          | true =>
            have hx8 := c98 h9
            have hi3 : i = 0 ∨ i = 1 ∨ i = 2 ∨ i = 3 ∨ i = 4 ∨ i = 5 ∨ i = 6 ∨ i = 7 ∨ i = 8 := by omega
            exfalso
            rcases hi3 with rfl | rfl | rfl | rfl | rfl | rfl | rfl | rfl | rfl
            · rw [c90 h9] at hi; cases hi
            · rw [c21 (c32 (c83 hx8))] at hi; cases hi
            · rw [c32 (c83 hx8)] at hi; cases hi
            · rw [c83 hx8] at hi; cases hi
            · rw [c54 (c85 hx8)] at hi; cases hi
            · rw [c85 hx8] at hi; cases hi
            · rw [c76 (c87 hx8)] at hi; cases hi
            · rw [c87 hx8] at hi; cases hi
            · rw [hx8] at hi; cases hi
        have hW4 : L 9 = false → W = w4.drew := fun h9 => by
          have h10 : L 10 = false := by
            cases h : L 10 with
            | false => rfl
            | true => rw [c10 h] at h9; cases h9
          simp only [h9, h10] at hG
          exact hG
        have hGs : i < 9 → W = if (L 10 || (10 == i)) then w6 else if (L 9 || (9 == i)) then w5 else w4.drew := fun hi9 => by
          rw [show (10 == i) = false by simp; omega, show (9 == i) = false by simp; omega, Bool.or_false, Bool.or_false]
          exact hG
        have hi' : i = 0 ∨ i = 1 ∨ i = 2 ∨ i = 3 ∨ i = 4 ∨ i = 5 ∨ i = 6 ∨ i = 7 ∨ i = 8 ∨ i = 9 ∨ i = 10 := by omega
        rcases hi' with rfl | rfl | rfl | rfl | rfl | rfl | rfl | rfl | rfl | rfl | rfl
        · cases ho
          obtain rfl := hW4 (hlow (by omega))
          refine step5_told (.slice S2 k c2) ?_ (by decide) (hGs (by omega)) rfl
          have e5 : a.eval (.tmp 8) = .pointer (some ⟨w.heap.size + 1 + 1, 0, none⟩) := hold 8 (by kernel_rfl)
          generalize a.eval = ev at e5 ⊢
          simp [execOp, go_sem, e5, e2]
        · cases ho
          obtain rfl := hW4 (hlow (by omega))
          refine step5_told (.pointer (some ⟨b, 1 + 13 * g, none⟩)) ?_ (by decide) (hGs (by omega)) rfl
          have e5 : a.eval (.tmp 9) = .pointer (some ⟨b, 1 + 13 * g, none⟩) := hold 9 (by kernel_rfl)
          generalize a.eval = ev at e5 ⊢
          simp [execOp, go_sem, e5]
        · cases ho
          obtain rfl := hW4 (hlow (by omega))
          refine step5_told (.pointer (some ⟨b, 1 + 13 * g, none⟩)) ?_ (by decide) (hGs (by omega)) rfl
          have e5 : a.eval (.tmp 24) = .pointer (some ⟨b, 1 + 13 * g, none⟩) := hT 1 (hh 1 rfl)
          generalize a.eval = ev at e5 ⊢
          simp [execOp, go_sem, e5]
        · cases ho
          obtain rfl := hW4 (hlow (by omega))
          refine step5_told (.pointer (some ⟨b, 1 + 13 * g + 5, none⟩)) ?_ (by decide) (hGs (by omega)) rfl
          have e5 : a.eval (.tmp 25) = .pointer (some ⟨b, 1 + 13 * g, none⟩) := hT 2 (hh 2 rfl)
          generalize a.eval = ev at e5 ⊢
          simp [execOp, go_sem, e5]
        · cases ho
          obtain rfl := hW4 (hlow (by omega))
          refine step5_told (.pointer (some ⟨X2, 0, none⟩)) ?_ (by decide) (hGs (by omega)) rfl
          have e5 : a.eval (.tmp 10) = .pointer (some ⟨X2, 0, none⟩) := hold 10 (by kernel_rfl)
          generalize a.eval = ev at e5 ⊢
          simp [execOp, go_sem, e5]
        · cases ho
          obtain rfl := hW4 (hlow (by omega))
          refine step5_told (.int .i64 x) ?_ (by decide) (hGs (by omega)) rfl
          have e5 : a.eval (.tmp 27) = .pointer (some ⟨X2, 0, none⟩) := hT 4 (hh 4 rfl)
          generalize a.eval = ev at e5 ⊢
          simp [execOp, go_sem, e5, e0]
        · cases ho
          obtain rfl := hW4 (hlow (by omega))
          refine step5_told (.pointer (some ⟨X2, 1, none⟩)) ?_ (by decide) (hGs (by omega)) rfl
          have e5 : a.eval (.tmp 10) = .pointer (some ⟨X2, 0, none⟩) := hold 10 (by kernel_rfl)
          generalize a.eval = ev at e5 ⊢
          simp [execOp, go_sem, e5]
        · cases ho
          obtain rfl := hW4 (hlow (by omega))
          refine step5_told (.int .i64 y) ?_ (by decide) (hGs (by omega)) rfl
          have e5 : a.eval (.tmp 29) = .pointer (some ⟨X2, 1, none⟩) := hT 6 (hh 6 rfl)
          generalize a.eval = ev at e5 ⊢
          simp [execOp, go_sem, e5, e1]
        · cases ho
          obtain rfl := hW4 (hlow (by omega))
          refine step5_told (.slice (some ⟨b, 1 + 13 * g + 5 + x, none⟩) m (8 - x)) ?_ (by decide) (hGs (by omega)) rfl
          have e5 : a.eval (.tmp 26) = .pointer (some ⟨b, 1 + 13 * g + 5, none⟩) := hT 3 (hh 3 rfl)
          have e6 : a.eval (.tmp 28) = .int .i64 x := hT 5 (hh 5 rfl)
          have e7 : a.eval (.tmp 30) = .int .i64 y := hT 7 (hh 7 rfl)
          generalize a.eval = ev at e5 e6 e7 ⊢
          simp [execOp, go_sem, e5, e6, e7, hcut]
        · cases ho
          obtain rfl := hW4 hi
          have h10 : L 10 = false := by
            cases h : L 10 with
            | false => rfl
            | true => rw [c10 h] at hi; cases hi
          refine step5_told (W' := w5) (.slice S5 (k + m) c5) ?_ (by decide) (by simp [h10]) rfl
          have e5 : a.eval (.tmp 23) = .slice S2 k c2 := hT 0 (hh 0 rfl)
          have e6 : a.eval (.tmp 31) = .slice (some ⟨b, 1 + 13 * g + 5 + x, none⟩) m (8 - x) := hT 8 (hh 8 rfl)
          generalize a.eval = ev at e5 e6 ⊢
          rw [show ∀ o : Oper, (∀ c, o.op ≠ .defer c) → Oper.semAt (Fence.wide.inRound lp).round ev o = execOp ev o from fun o h => Oper.semAt_some lp ev o h]
          rotate_left
          · intro c h; cases h
          unfold execOp
          simp only [List.getElem_toArray, List.getElem_cons_succ, List.getElem_cons_zero]
          simp only [resolve, invoke, builtin, Sem.run_bind, Sem.run_pure, Result.andThen_ok, List.map_toArray, List.map_cons, List.map_nil, e5, e6, hrun]
        · cases ho
          have h9 : L 9 = true := hh 9 rfl
          have hW5 : W = w5 := by
            simp only [h9, hi] at hG
            exact hG
          subst hW5
          refine step5_skip (W' := w6) ?_ (by simp) trivial
          have e5 : a.eval (.tmp 8) = .pointer (some ⟨w.heap.size + 1 + 1, 0, none⟩) := hold 8 (by kernel_rfl)
          have e6 : a.eval (.tmp 32) = .slice S5 (k + m) c5 := hT 9 h9
          rw [hw6]
          generalize a.eval = ev at e5 e6 ⊢
          simp [execOp, go_sem, e5, e6, e3, e4]
      · intro a Wz hd hs hold hT hG
        have hW6 : Wz = w6 := by simpa using hG
        subst hW6
        obtain ⟨q1, q2, q3⟩ := HL5.out
        have hne2 := owns_ne q1 HX5.out (by decide)
        have hTX : Turn (w.heap.size + 2) w5 (w5.setCell ⟨w.heap.size + 2, 0, none⟩ (.slice S5 (k + m) c5)) := Turn.set _ _ _ _
        have hB34 : Below W3.heap.size W3 w4.drew := HB4.out.drew
        have hrow : ∀ j, (Value.slice S2 k c2).ownBlock = some j → W.heap.size ≤ j := G4.out.2
        have hwW : w.heap.size ≤ W.heap.size := by omega
        have g8s := G8.out.size
        have hz34 := hB34.size
        have hrow5 : w5.ownsRow 0 5 1 (.slice S5 (k + m) c5) (k + m) (u8s (l ++ news)) := by
          have e : u8s (l ++ news) = u8s l ++ u8s news := by simp [u8s]
          rw [e]; exact q1
        have hz45 := q2.size
        have hz5 : W3.heap.size ≤ w5.heap.size := Nat.le_trans hB34.size hz45
        have h6e : Wz = w5.setCell ⟨w.heap.size + 2, 0, none⟩ (.slice S5 (k + m) c5) := hw6
        have hl37 : ∀ j t cs fr, t ≠ 5 → w4.drew.heap[j]? = some (Obj.cells cs t fr) → w5.heap[j]? = some (Obj.cells cs t fr) := fun j t cs fr ht hj => by
          refine (q2.block j (at_lt hj) (fun e => ?_)).trans hj
          rcases HO4.out.2 with ⟨h0, _⟩ | ⟨g', cap, cur, h0, _, hg', _⟩
          · rw [h0] at e; cases e
          · rw [h0] at e
            simp only [Value.ownBlock, Option.some.injEq] at e
            subst e
            have h2 : w4.heap[j]? = some (Obj.cells cs t fr) := hj
            rw [hg'] at h2
            simp only [Option.some.injEq, Obj.cells.injEq] at h2
            exact ht h2.2.1.symm
        have hgrow : Below w.heap.size W3 w5 := (hB34.mono g8s).grown q2 (Nat.le_trans g8s hz34) (fun j e => Nat.le_trans hwW (hrow j e))
        have hother : ∀ j, j < w4.drew.heap.size → (∀ cur fr, w4.drew.heap[j]? ≠ some (Obj.cells cur 5 fr)) → w5.heap[j]? = w4.drew.heap[j]? := fun j hj hn => q2.block j hj (fun e => by
          rcases HO4.out.2 with ⟨h0, _⟩ | ⟨g', cap, cur, h0, _, hg', _⟩
          · rw [h0] at e; cases e
          · rw [h0] at e
            simp only [Value.ownBlock, Option.some.injEq] at e
            subst e
            exact hn _ _ hg')
        have hlow5 : ∀ j, j < W.heap.size → w5.heap[j]? = w4.drew.heap[j]? := fun j hj => q2.block j (by omega) (fun e => by have := hrow j e.symm; omega)
        have hX5 : ∀ j, j ≠ w.heap.size + 2 → Wz.heap[j]? = w5.heap[j]? := fun j hj => by
          rw [h6e]
          exact Below.heap_setCell w5 ⟨w.heap.size + 2, 0, none⟩ _ j hj
        have hx6 : Boxed Wz (w.heap.size + 2) 37 (.slice S5 (k + m) c5) := by rw [h6e]; exact HX5.out.set _
        have hz6 : Wz.heap.size = w5.heap.size := by rw [h6e]; simp [World.setCell]
        refine ⟨⟨by omega, fun j o hj ho hc => ?_⟩, ⟨⟨?_, ?_, ?_⟩, fun j cs hj ho => ?_⟩, k + m, S5, c5, l ++ news, by omega, HPN.out, by rw [AS.got_add, H3.out, Option.bind_some, HGOT.out]; rfl, ⟨?_, ?_⟩, ?_, ?_, hx6, ?_⟩
        · have h4 : w4.drew.heap[j]? = some o := (hB34.block j (at_lt ho)).trans ho
          rw [hX5 j (by omega), hother j (at_lt h4) (fun cur fr h => by rw [h4] at h; cases h; cases hc)]
          exact h4
        · rw [hX5 _ (by omega), hlow5 _ (by omega)]
          exact hB34.block _ (by omega)
        · rw [hX5 _ (by omega), hlow5 _ (by omega)]
          exact hB34.block _ (by omega)
        · rw [hX5 _ (by omega), hlow5 _ (by omega)]
          exact hB34.block _ (by omega)
        · have h4 : w4.drew.heap[j]? = some (Obj.cells cs 86 (0, 0)) := (hB34.block j (at_lt ho)).trans ho
          rw [hX5 j (by omega)]
          exact hl37 j 86 cs (0, 0) (by decide) h4
        · rw [h6e]
          refine World.ownsRow.kept hrow5 hTX (.inr ?_)
          exact hne2
        · intro j hj
          rcases q3 with e | e
          · exact hrow j (e ▸ hj)
          · rw [e] at hj
            have : w4.drew.heap.size = j := by injection hj
            omega
        · have := hl37 w.heap.size 37 _ (0, 0) (by decide) ((hB34.block _ (at_lt G5.out)).trans G5.out)
          exact (hX5 _ (by omega)).trans this
        · have := hl37 (w.heap.size + 1) 41 _ (0, 0) (by decide) ((hB34.block _ (at_lt G6.out)).trans G6.out)
          exact (hX5 _ (by omega)).trans this
        · exact (G8.out.trans hgrow).trans ⟨by rw [h6e]; rfl, by rw [h6e]; rfl, by rw [h6e]; rfl, by omega, fun j hj => hX5 j (by omega)⟩
  case done =>
    rintro D xs W2 hD hxs ⟨k, S2, c2, l, h1, h2, h3, h4, h5, h6, h7, h8⟩ hdef
    have hkq : k = q := by
      rw [hxs] at h2
      have h9 : parts (off + k) (q - k) = [] := by simpa using h2
      by_cases hk : k < q
      · rw [parts_next _ _ (by omega)] at h9; cases h9
      · omega
    subst hkq
    have e2 : W2.cell? ⟨w.heap.size + 1 + 1, 0, none⟩ = some (.slice S2 k c2) := by
      have := blk_cell h7 0
      simpa using this
    have e0 := h5.cell
    have e1 := h6.cell
    have f0 := h5.frozen
    have f1 := h6.frozen
    have hl0 := h5.lt
    have hl1 := h6.lt
    have B0 := hide ((h5.set (.slice S2 k c2)).other (B' := w.heap.size + 1) (by omega) (.int .i64 0))
    have B1 := hide ((h6.other (B' := w.heap.size) (by omega) (.slice S2 k c2)).set (.int .i64 0))
    have HB := hide ((h8.setCell (p := ⟨w.heap.size, 0, none⟩) (Nat.le_refl _) (.slice S2 k c2)).setCell (p := ⟨w.heap.size + 1, 0, none⟩) (Nat.le_succ _) (.int .i64 0))
    have hrow := ((h4.1.kept (Turn.set W2 w.heap.size 0 (.slice S2 k c2)) (.inr (owns_ne h4.1 h5 (by decide)))).kept (Turn.set _ (w.heap.size + 1) 0 (.int .i64 0)) (.inr (owns_ne h4.1 h6 (by decide))))
    have HR := hide hrow
    have HR2 := hide h4.2
    have H3 := hide h3
    have HDEF := hide hdef
    clear h2 h3 h4 h5 h6 h7 h8 hdef hxs hrow
    gi_wp2
    have hK := ((KeepsOthers.setCell W2 ⟨w.heap.size, 0, none⟩ (.slice S2 k c2)).trans (KeepsOthers.setCell _ ⟨w.heap.size + 1, 0, none⟩ (.int .i64 0))).same D _ HDEF.out rfl
    refine ⟨by simp, .inl ⟨_, _, rfl, run_takeDeferred hK, ?_⟩⟩
    have hst := Stays.putObj (B := w.heap.size) (.deferred none) (by omega) hK rfl
    have r0 := (hst.boxed B0.out).cell
    have r1 := (hst.boxed B1.out).cell
    refine ⟨.tuple #[.slice S2 k c2, .int .i64 0], by simp [results, Try.results31, go_sem, r0, r1], _, _, rfl, .inl ⟨l, H3.out, rfl, hst.owns HR.out, fun j hj => Nat.le_trans (by omega) (HR2.out j hj)⟩, hst.below (Nat.le_refl _) (Nat.le_refl _) HB.out⟩
  case stop =>
    rintro D xs W2 hD ⟨h1, h5, h6, h8⟩ hdef
    have HDEF := hide hdef
    have H1 := hide h1
    gi_wp2
    refine ⟨by simp, .inl ⟨_, _, rfl, run_takeDeferred HDEF.out, ?_⟩⟩
    have hst := Stays.putObj (B := w.heap.size) (.deferred none) (by omega) HDEF.out rfl
    have r0 := (hst.boxed h5).cell
    have r1 := (hst.boxed h6).cell
    refine ⟨.tuple #[.slice none 0 0, .int .i64 30], by simp [results, Try.results31, go_sem, r0, r1], _, _, rfl, .inr ⟨H1.out, rfl, rfl⟩, hst.below (Nat.le_refl _) (Nat.le_refl _) h8⟩
end Go.Proofs.Ytkpoilcbdcddcaa
