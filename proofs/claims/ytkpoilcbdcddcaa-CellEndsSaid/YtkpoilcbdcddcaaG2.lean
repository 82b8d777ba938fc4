/-
  Bytes of a group are set.
-/
import Derived.Test.YtkpoilcbdcddcaaG1
import Derived.Deep.RegionWith
import Derived.Deep.Cut
namespace Go.Proofs.Ytkpoilcbdcddcaa
open Go.RowKit
set_option linter.unusedVariables false
set_option linter.unusedSimpArgs false

theorem put_cell {w : World} {b : Nat} {cs : List Value} {t : TypeId} (h : w.heap[b]? = some (.cells cs.toArray t (0, 0))) (i : Nat) (u : Value) : (w.setCell ⟨b, i, none⟩ u).heap[b]? = some (.cells (cs.set i u).toArray t (0, 0)) := by
  have := Joins.block_setCell (i := i) h u
  rw [List.setIfInBounds_toArray] at this
  exact this
theorem Turn.set (w : World) (b i : Nat) (u : Value) : Turn b w (w.setCell ⟨b, i, none⟩ u) := grown_set w b i u
theorem Turn.setRow (w : World) (b : Nat) (cs : Array Value) : Turn b w (w.setRow b cs) := ⟨rfl, rfl, rfl, by simp [World.setRow], fun k _ hn => setRow_other w b k cs (fun e => hn (by rw [e]))⟩
theorem Turn.drew {b : Nat} {w w' : World} (h : Turn b w w') : Turn b w w'.drew := h.trans (.of_below (Below.refl _ _).drew)
/-- Cells whose group g is set anew at x, .., y - 1. -/
structure PutL (cs cs' : List Value) (g x y : Nat) (s : Nat) (d : List Int) : Prop where
  len : cs'.length = cs.length
  off : ∀ j, j < 1 + 13 * g ∨ 1 + 13 * g + 13 ≤ j → cs'[j]? = cs[j]?
  k : cs'[1 + 13 * g]? = some (.int .u8 0)
  wd : cs'[1 + 13 * g + 1]? = some (.int .u64 0)
  rg : cs'[1 + 13 * g + 2]? = some (.int .i64 0)
  of : cs'[1 + 13 * g + 3]? = some (.int .i64 0)
  set : cs'[1 + 13 * g + 4]? = some (.int .u8 ((s ||| mb x y : Nat) : Int))
  byte : ∀ i, i < 8 → cs'[1 + 13 * g + 5 + i]? = if x ≤ i ∧ i < y then (u8s d)[i - x]? else cs[1 + 13 * g + 5 + i]?
theorem PutL.psl {cs cs' : List Value} {b g x y s : Nat} {d : List Int} {A : AS} (h : PutL cs cs' g x y s d) (hp : PSL cs b A) (hg : g < 64) (hx : x < y) (hy : y ≤ 8) (hd : d.length = y - x) (hs : s < 256) (hbit : ∀ i, i < 8 → s.testBit i = (A.pl (8 * g + i)).isSome) : PSL cs' b (A.put (8 * g + x) d) := by
  refine ⟨h.len.trans hp.len, (h.off 0 (by omega)).trans hp.self, fun g' hg' => ?_⟩
  have hgg := hp.grp g' hg'
  by_cases e : g' = g
  · subst e
    have hw : (A.put (8 * g' + x) d).wh g' = c0 := by
      rw [AS.put_wh, if_pos (by rw [hd]; omega)]
    refine ⟨by rw [hw]; exact h.k, by rw [hw]; exact h.wd, by rw [hw]; exact h.rg, by rw [hw]; exact h.of, ⟨s ||| mb x y, ?_, h.set, fun i hi => ?_⟩, fun i hi => ?_⟩
    · have := mb_lt ⟨y, by omega⟩ ⟨x, by omega⟩
      exact Nat.or_lt_two_pow (n := 8) hs this
    · rw [Nat.testBit_or, hbit i hi, AS.put_pl]
      have := mb_fin ⟨y, by omega⟩ ⟨x, by omega⟩ ⟨i, hi⟩ hx
      simp only at this
      rw [this]
      by_cases hin : x ≤ i ∧ i < y
      · rw [if_pos (by omega), List.getElem?_eq_getElem (by omega)]
        simp [hin.1, hin.2]
      · rw [if_neg (by omega)]
        have : (decide (x ≤ i) && decide (i < y)) = false := by simp; omega
        rw [this, Bool.or_false]
    · rw [h.byte i hi, AS.put_pl]
      by_cases hin : x ≤ i ∧ i < y
      · rw [if_pos hin, if_pos (by omega), show 8 * g' + i - (8 * g' + x) = i - x by omega]
        have hl : i - x < d.length := by omega
        refine ⟨d[i - x], by simp [u8s, List.getElem?_eq_getElem hl], fun z hz => ?_⟩
        rw [List.getElem?_eq_getElem hl] at hz
        cases hz
        rfl
      · rw [if_neg hin, if_neg (by omega)]
        exact hgg.byte i hi
  · have hw : (A.put (8 * g + x) d).wh g' = A.wh g' := by
      rw [AS.put_wh, if_neg (by rw [hd]; omega)]
    have hpl : ∀ i, i < 8 → (A.put (8 * g + x) d).pl (8 * g' + i) = A.pl (8 * g' + i) := fun i hi => by
      rw [AS.put_pl, if_neg (by rw [hd]; omega)]
    have ho : ∀ j, j < 13 → cs'[1 + 13 * g' + j]? = cs[1 + 13 * g' + j]? := fun j hj => h.off _ (by omega)
    refine ⟨by rw [hw]; exact (ho 0 (by omega)).trans hgg.k, by rw [hw]; exact (ho 1 (by omega)).trans hgg.wd, by rw [hw]; exact (ho 2 (by omega)).trans hgg.rg, by rw [hw]; exact (ho 3 (by omega)).trans hgg.of, ?_, fun i hi => ?_⟩
    · obtain ⟨s', h1, h2, h3⟩ := hgg.set
      exact ⟨s', h1, (ho 4 (by omega)).trans h2, fun i hi => by rw [hpl i hi]; exact h3 i hi⟩
    · obtain ⟨z, h1, h2⟩ := hgg.byte i hi
      exact ⟨z, by rw [show 1 + 13 * g' + 5 + i = 1 + 13 * g' + (5 + i) by omega, ho (5 + i) (by omega), ← h1]; exact congrArg (cs[·]?) (by omega), fun u hu => h2 u (by rw [← hpl i hi]; exact hu)⟩
theorem set_away {cs : List Value} {i j : Nat} (u : Value) (h : i ≠ j) : (cs.set i u)[j]? = cs[j]? := List.getElem?_set_ne h
theorem set_here {cs : List Value} {i : Nat} (u : Value) (h : i < cs.length) : (cs.set i u)[i]? = some u := List.getElem?_set_self h
theorem splice_at (L N : List Value) (o n j : Nat) (hn : N.length = n) (h : o + n ≤ L.length) : (L.take o ++ (N ++ L.drop (o + n)))[j]? = if o ≤ j ∧ j < o + n then N[j - o]? else L[j]? := by
  have ht : (L.take o).length = o := by rw [List.length_take]; omega
  by_cases h1 : j < o
  · rw [List.getElem?_append_left (by omega), List.getElem?_take_of_lt h1, if_neg (by omega)]
  · rw [List.getElem?_append_right (by omega), ht]
    by_cases h2 : j < o + n
    · rw [List.getElem?_append_left (by omega), if_pos (by omega)]
    · rw [List.getElem?_append_right (by omega), List.getElem?_drop, hn, if_neg (by omega), show o + n + (j - o - n) = j by omega]
theorem putL_made (cs : List Value) (g x y s : Nat) (d : List Int) (hl : cs.length = 833) (hg : g < 64) (hx : x < y) (hy : y ≤ 8) (hd : d.length = y - x) :
    PutL cs (((((((cs.set (1 + 13 * g) (.int .u8 0)).set (1 + 13 * g + 1) (.int .u64 0)).set (1 + 13 * g + 2) (.int .i64 0)).set (1 + 13 * g + 3) (.int .i64 0)).take (1 + 13 * g + 5 + x) ++ (u8s d ++ ((((cs.set (1 + 13 * g) (.int .u8 0)).set (1 + 13 * g + 1) (.int .u64 0)).set (1 + 13 * g + 2) (.int .i64 0)).set (1 + 13 * g + 3) (.int .i64 0)).drop (1 + 13 * g + 5 + x + (y - x))))).set (1 + 13 * g + 4) (.int .u8 ((s ||| mb x y : Nat) : Int))) g x y s d := by
  obtain ⟨L, hL⟩ : ∃ L, L = (((cs.set (1 + 13 * g) (.int .u8 0)).set (1 + 13 * g + 1) (.int .u64 0)).set (1 + 13 * g + 2) (.int .i64 0)).set (1 + 13 * g + 3) (.int .i64 0) := ⟨_, rfl⟩
  rw [← hL]
  have hLl : L.length = 833 := by rw [hL]; simp [hl]
  have hnl : (u8s d).length = y - x := by simp [u8s, hd]
  have hsp := fun j => splice_at L (u8s d) (1 + 13 * g + 5 + x) (y - x) j hnl (by omega)
  have hlen : (L.take (1 + 13 * g + 5 + x) ++ (u8s d ++ L.drop (1 + 13 * g + 5 + x + (y - x)))).length = 833 := by simp [hnl, hLl]; omega
  refine ⟨by rw [List.length_set, hlen, hl], fun j hj => ?_, ?_, ?_, ?_, ?_, ?_, fun i hi => ?_⟩
  · rw [set_away _ (by omega), hsp, if_neg (by omega), hL, set_away _ (by omega), set_away _ (by omega), set_away _ (by omega), set_away _ (by omega)]
  · rw [set_away _ (by omega), hsp, if_neg (by omega), hL, set_away _ (by omega), set_away _ (by omega), set_away _ (by omega), set_here _ (by omega)]
  · rw [set_away _ (by omega), hsp, if_neg (by omega), hL, set_away _ (by omega), set_away _ (by omega), set_here _ (by simp; omega)]
  · rw [set_away _ (by omega), hsp, if_neg (by omega), hL, set_away _ (by omega), set_here _ (by simp; omega)]
  · rw [set_away _ (by omega), hsp, if_neg (by omega), hL, set_here _ (by simp; omega)]
  · exact set_here _ (by rw [hlen]; omega)
  · rw [set_away _ (by omega), hsp]
    by_cases hin : x ≤ i ∧ i < y
    · rw [if_pos (by omega), if_pos hin]
      exact congrArg ((u8s d)[·]?) (by omega)
    · rw [if_neg (by omega), if_neg hin, hL, set_away _ (by omega), set_away _ (by omega), set_away _ (by omega), set_away _ (by omega)]
theorem arr51 : Try.prog.underlying 51 = some (.array (Try.prog.arrayLen 51) (Try.prog.elem 51)) := by kernel_rfl
theorem len51 : Try.prog.arrayLen 51 = 8 := by kernel_rfl
theorem elem51 : Try.prog.elem 51 = 5 := by kernel_rfl
theorem bytes_cut (W : World) (b o x y : Nat) (hx : x < y) (hy : y ≤ 8) : (Instr.sliceAt 51 (.pointer (some ⟨b, o, none⟩)) (some (.int .i64 x)) (some (.int .i64 y)) none).run Try.prog W = .ok (.slice (some ⟨b, o + x, none⟩) (y - x) (8 - x)) W := by
  obtain ⟨i0, hi, hz0, hz1, hz2⟩ := info_parts u8info
  have := run_sliceAt_array_lh W 51 ⟨b, o, none⟩ arr51 .i64 .i64 x y (by omega) (by omega) (by rw [len51]; omega)
  rw [this, elem51, len51]
  have e : (sizeOf 5).run Try.prog W = .ok 1 W := by simp [sizeOf, typeInfo, hi, hz1]
  rw [e]
  simp only [Result.andThen_ok, slicedAt, Int.toNat_natCast, Nat.mul_one]
  rw [if_neg (by omega)]
  unfold Addr.add
  split
  · subst_vars; simp
  · simp
set_option maxRecDepth 100000 in
set_option maxHeartbeats 1000000 in
theorem gput_any (b g x y : Nat) (A : AS) (S : Option Addr) (q sc : Nat) (l : List Int) (w : World) (h : PS w b A) (hg : g < 64) (hx : x < y) (hy : y ≤ 8) (hsrc : Src w b S q l) (hq : y - x ≤ q) :
    Calls Try.prog 45 #[.pointer (some ⟨b, 1 + 13 * g, none⟩), .agg #[.int .i64 x, .int .i64 y], .slice S q sc] w fun e w' => e = .returned (.tuple #[]) ∧ PS w' b (A.put (8 * g + x) (l.take (y - x))) ∧ Turn b w w' := by
  have hbw := below1 w (.cells #[.int .i64 x, .int .i64 y] 86)
  have hs1 := hsrc.turn (.of_below hbw)
  obtain ⟨cs, hb, hs⟩ := h.below hbw
  have hp := World.alloc_heap_new w (.cells #[.int .i64 x, .int .i64 y] 86)
  have hne : b ≠ w.heap.size := Nat.ne_of_lt h.lt
  clear h hsrc
  go_enter Try.func45, Try.ntmps45
  go_upto_region 1 with fail
  generalize w.alloc (.cells _ 86) = w1 at hbw hs1 hb hp ⊢
  have hg1 := hs.grp g hg
  have c0 := (PS.cell hb (1 + 13 * g)).trans hg1.k
  have c1 := (PS.cell hb (1 + 13 * g + 1)).trans hg1.wd
  have c2 := (PS.cell hb (1 + 13 * g + 2)).trans hg1.rg
  have c3 := (PS.cell hb (1 + 13 * g + 3)).trans hg1.of
  have f0 := blk_free hb (1 + 13 * g)
  have f1 := blk_free hb (1 + 13 * g + 1)
  have f2 := blk_free hb (1 + 13 * g + 2)
  have f3 := blk_free hb (1 + 13 * g + 3)
  have hlt := at_lt hb
  have HBW := hide hbw
  have HS := hide hs1
  have HB := hide hb
  have HPS := hide hs
  have HP := hide hp
  have HNE := hide hne
  clear hg1 hbw hs1 hb hs hp hne
  go_upto_region 2 with fail
  have hb2 := put_cell (put_cell (put_cell (put_cell HB.out (1 + 13 * g) (.int .u8 0)) (1 + 13 * g + 1) (.int .u64 0)) (1 + 13 * g + 2) (.int .i64 0)) (1 + 13 * g + 3) (.int .i64 0)
  have ht2 := (((Turn.set w1 b (1 + 13 * g) (.int .u8 0)).trans (Turn.set _ b (1 + 13 * g + 1) (.int .u64 0))).trans (Turn.set _ b (1 + 13 * g + 2) (.int .i64 0))).trans (Turn.set _ b (1 + 13 * g + 3) (.int .i64 0))
  obtain ⟨cs2, hcs2⟩ : ∃ cs2, cs2 = (((cs.set (1 + 13 * g) (.int .u8 0)).set (1 + 13 * g + 1) (.int .u64 0)).set (1 + 13 * g + 2) (.int .i64 0)).set (1 + 13 * g + 3) (.int .i64 0) := ⟨_, rfl⟩
  rw [← hcs2] at hb2
  generalize (((w1.setCell ⟨b, 1 + 13 * g, none⟩ (.int .u8 0)).setCell ⟨b, 1 + 13 * g + 1, none⟩ (.int .u64 0)).setCell ⟨b, 1 + 13 * g + 2, none⟩ (.int .i64 0)).setCell ⟨b, 1 + 13 * g + 3, none⟩ (.int .i64 0) = w2 at hb2 ht2 ⊢
  have hp2 := (ht2.block _ (at_lt HP.out) (fun e => HNE.out (by cases e; rfl))).trans HP.out
  have HS2 := hide (HS.out.turn ht2)
  have HCS2 := hide hcs2
  have HB2 := hide hb2
  have HT2 := hide ht2
  have HP2 := hide hp2
  have p0 := blk_cell hp2 0
  have p1 := blk_cell hp2 1
  simp at p0 p1
  have hlt2 := at_lt hb2
  have x1 : x ≤ y := Nat.le_of_lt hx
  clear c0 c1 c2 c3 f0 f1 f2 f3 hcs2 hb2 ht2 hp2
  have hcut := bytes_cut w2.drew b (1 + 13 * g + 5) x y hx hy
  refine wp_region_still_tail 9 (by kernel_rfl) (by kernel_rfl) ?_
  simp only [List.take_succ_cons, List.take_zero, List.drop_succ_cons, List.drop_zero]
  repeat still_step
  refine wpStill_nil ?_
  clear p0 p1 hcut
  obtain ⟨ad, rfl, hadb, _, hsrc⟩ := HS2.out.2 (by omega)
  have hll := HS2.out.1
  have hlen2 : cs2.length = 833 := by rw [HCS2.out]; simp [HPS.out.len]
  have hnl : (u8s (l.take (y - x))).length = y - x := by simp [u8s]; omega
  refine wpList_copy_own rfl (.tmp 17) (.tmp 18) 37 37 rfl 5 Try.underlying37 u8size b (1 + 13 * g + 5 + x) (y - x) (8 - x) ad q sc rfl rfl cs2.toArray 58 HB2.out (u8s (l.take (y - x))) (by rw [hnl]; exact (Nat.min_eq_right hq).symm) (fun j v hv => ?_) (by rw [hnl, List.size_toArray, hlen2]; omega) (u8s_one _) ?_
  · have hj : j < y - x := by rw [← hnl]; exact (List.getElem?_eq_some_iff.1 hv).1
    refine hsrc j v ?_
    rw [← hv]
    simp [u8s, List.getElem?_take, hj]
  rw [hnl, List.toList_toArray]
  obtain ⟨cs3, hcs3⟩ : ∃ cs3, cs3 = cs2.take (1 + 13 * g + 5 + x) ++ (u8s (l.take (y - x)) ++ cs2.drop (1 + 13 * g + 5 + x + (y - x))) := ⟨_, rfl⟩
  rw [← hcs3]
  have hb3 : (({ heap := w2.heap, tape := w2.tape, drawn := w2.drawn + 1, os := w2.os, output := w2.output } : World).setRow b cs3.toArray).heap[b]? = some (.cells cs3.toArray 58 (0, 0)) := setRow_heap w2.drew b cs2.toArray cs3.toArray 58 (0, 0) HB2.out
  have ht3 : Turn b w1 (({ heap := w2.heap, tape := w2.tape, drawn := w2.drawn + 1, os := w2.os, output := w2.output } : World).setRow b cs3.toArray) := HT2.out.drew.trans (Turn.setRow w2.drew b cs3.toArray)
  generalize ({ heap := w2.heap, tape := w2.tape, drawn := w2.drawn + 1, os := w2.os, output := w2.output } : World).setRow b cs3.toArray = w3 at hb3 ht3 ⊢
  have hp3 := (ht3.block _ (at_lt HP.out) (fun e => HNE.out (by cases e; rfl))).trans HP.out
  obtain ⟨s, s1, s2, s3⟩ := (HPS.out.grp g hg).set
  have hc3 : cs3[1 + 13 * g + 4]? = some (.int .u8 s) := by
    rw [hcs3, List.getElem?_append_left (by simp [hlen2]; omega), List.getElem?_take_of_lt (by omega), HCS2.out]
    rw [List.getElem?_set_ne (by omega), List.getElem?_set_ne (by omega), List.getElem?_set_ne (by omega), List.getElem?_set_ne (by omega)]
    exact s2
  have HC3 := hide hcs3
  have HB3 := hide hb3
  have HT3 := hide ht3
  have c4 := (PS.cell hb3 (1 + 13 * g + 4)).trans hc3
  have f4 := blk_free hb3 (1 + 13 * g + 4)
  have p0 := blk_cell hp3 0
  have p1 := blk_cell hp3 1
  simp at p0 p1
  have hlt3 := at_lt hb3
  have HP3 := hide hp3
  have hm := mb_lt ⟨y, by omega⟩ ⟨x, by omega⟩
  simp only at hm
  have hbm := mb_bits ⟨y, by omega⟩ ⟨x, by omega⟩ hx
  simp only at hbm
  have HQ := hide (fun w => partBits_any x y w hx hy)
  rw [hbm] at HQ
  have hor := u8_or_nat s (mb x y) s1 hm
  have S3 := hide s3
  have HC4 := hide hc3
  clear hcs3 hb3 ht3 hp3 hsrc hll hlen2 hnl s2 s3 hc3
  go_upto_region 3 with fail
  go_region_with (go_at_call 49; refine (HQ.out _).mono ?_; rintro e w4 ⟨rfl, hb4⟩; have d4 := (hb4.cell (p := ⟨b, 1 + 13 * g + 4, none⟩) hlt3).trans c4; have g4 := (hb4.frozen (p := ⟨b, 1 + 13 * g + 4, none⟩) hlt3).trans f4; have HB4 := hide hb4; have hlt4 := Nat.lt_of_lt_of_le hlt3 hb4.size; clear hb4)
  all_goals
    have hb4 := (HB4.out.block b hlt3).trans HB3.out
    have hb5 := put_cell hb4 (1 + 13 * g + 4) (.int .u8 ((s ||| mb x y : Nat) : Int))
    have hd : (l.take (y - x)).length = y - x := by rw [List.length_take, HS2.out.1]; omega
    have hpl : PutL cs (cs3.set (1 + 13 * g + 4) (.int .u8 ((s ||| mb x y : Nat) : Int))) g x y s (l.take (y - x)) := by
      rw [HC3.out, HCS2.out]
      exact putL_made cs g x y s _ HPS.out.len hg hx hy hd
    refine bodyPost_end (results_none rfl _ _ _) rfl ⟨rfl, ⟨_, hb5, hpl.psl HPS.out hg hx hy hd s1 S3.out⟩, ?_⟩
    exact ((((Turn.of_below HBW.out).trans HT3.out).drew).trans (Turn.of_below HB4.out)).trans (Turn.set _ _ _ _)
end Go.Proofs.Ytkpoilcbdcddcaa
