/-
  HashKeeps' walk.
-/
import Derived.Test.YtlagpbgekihodaaKPI
namespace Go.Proofs.Ytlagpbgekihodaa
open Go.RowKit Go.Maps Go.Sort
set_option linter.unusedVariables false

/-- A make of keys of 1 to 3 bytes, values of 1 to 9, 1 to 40 of them, is right. -/
theorem spec_few {ks sz n : Nat} (h0 : 1 ≤ ks) (h1 : ks ≤ 3) (h2 : 1 ≤ sz) (h3 : sz ≤ 9) (h4 : 1 ≤ n) (h5 : n ≤ 40) : specM 2 ks sz n = 0 := by
  have H : ∀ a < 3, ∀ b < 9, ∀ c < 40, specM 2 ((a + 1 : Nat) : Int) ((b + 1 : Nat) : Int) ((c + 1 : Nat) : Int) = 0 := by decide +kernel
  have := H (ks - 1) (by omega) (sz - 1) (by omega) (n - 1) (by omega)
  rwa [show ks - 1 + 1 = ks by omega, show sz - 1 + 1 = sz by omega, show n - 1 + 1 = n by omega] at this
set_option maxRecDepth 100000 in
set_option maxHeartbeats 8000000 in
theorem law_hashKeeps (xs xv xe : Int) (A : Option Addr) (m c : Nat) (ds : List ADo) (w : World) (hxs : I64 xs) (hxv : I64 xv) (hxe : I64 xe) (hd : ADos w w.heap.size A m ds) (hm : m ≤ 140737488351232) :
    Calls Try.prog 4 #[.int .i64 xs, .int .i64 xv, .int .i64 xe, .slice A m c] w fun e w' => e = .returned (.bool true) ∧ Below w.heap.size w w' := by
  have HD := hide hd
  have hmm := @run_makeMap Try.prog
  clear hd
  go_enter Try.func4, Try.ntmps4
  go_wp2_with fail
  refine (awake_any w).mono ?_
  rintro e w1 ⟨rfl, hb⟩
  have HB1 := hide hb
  clear hb
  have HP1 := hide (pick_is xs 3 w1 (by decide) (by decide) hxs.1 hxs.2)
  have HP2 := hide (pick_is xv 9 w1 (by decide) (by decide) hxv.1 hxv.2)
  have HP3 := hide (pick_is xe 40 w1 (by decide) (by decide) hxe.1 hxe.2)
  have hq1 := pickN_lt xs 3 (by decide)
  have hq2 := pickN_lt xv 9 (by decide)
  have hq3 := pickN_lt xe 40 (by decide)
  generalize pickN xs 3 = q1 at HP1 hq1
  generalize pickN xv 9 = q2 at HP2 hq2
  generalize pickN xe 40 = q3 at HP3 hq3
  obtain ⟨ks, hks⟩ : ∃ s : Nat, s = 1 + q1 := ⟨_, rfl⟩
  obtain ⟨sz, hsz⟩ : ∃ s : Nat, s = 1 + q2 := ⟨_, rfl⟩
  obtain ⟨n, hn⟩ : ∃ s : Nat, s = 1 + q3 := ⟨_, rfl⟩
  have e1 : (1 : Int) + (q1 : Int) = (ks : Int) := by omega
  have e2 : (1 : Int) + (q2 : Int) = (sz : Int) := by omega
  have e3 : (1 : Int) + (q3 : Int) = (n : Int) := by omega
  have f1 : 1 ≤ ks ∧ ks ≤ 3 := by omega
  have f2 : 1 ≤ sz ∧ sz ≤ 9 := by omega
  have f3 : 1 ≤ n ∧ n ≤ 40 := by omega
  have HSP := hide (spec_few f1.1 f1.2 f2.1 f2.2 f3.1 f3.2)
  clear hks hsz hn
  go_wp2_with fail
  refine HP1.out.mono ?_
  rintro e w' ⟨rfl, hW⟩
  replace hW := hW.symm
  subst hW
  go_wp2_with fail
  refine HP2.out.mono ?_
  rintro e w' ⟨rfl, hW⟩
  replace hW := hW.symm
  subst hW
  go_wp2_with fail
  refine HP3.out.mono ?_
  rintro e w' ⟨rfl, hW⟩
  replace hW := hW.symm
  subst hW
  clear HP1 HP2 HP3
  go_wp2_with fail
  have hx := World.alloc_heap_new w1 (.cells #[.int .u8 2, .int .i64 ks, .int .i64 sz, .int .i64 n] 50)
  have hbx := below1 w1 (.cells #[.int .u8 2, .int .i64 ks, .int .i64 sz, .int .i64 n] 50)
  have HX := hide hx
  have HB2 := hide (HB1.out.trans (hbx.mono HB1.out.size))
  have HZ2 : Hid ((w1.alloc (.cells #[.int .u8 2, .int .i64 ks, .int .i64 sz, .int .i64 n] 50)).heap.size = w1.heap.size + 1 ∧ w.heap.size ≤ w1.heap.size) := hide ⟨by simp, HB1.out.size⟩
  clear hx hbx
  generalize w1.alloc (.cells #[.int .u8 2, .int .i64 ks, .int .i64 sz, .int .i64 n] 50) = w2 at *
  refine (great_any 2 ks sz n A m c w.heap.size ds w2 (HD.out.below HB2.out) HB2.out.size hm).mono ?_
  rintro e w3 ⟨g, rfl, hb, hg⟩
  have HB3 := hide (HB2.out.trans (hb.mono HB2.out.size))
  have HX3 := hide ((hb.block _ (at_lt HX.out)).trans HX.out)
  have HZ3 : Hid (w1.heap.size < w3.heap.size ∧ w.heap.size ≤ w1.heap.size) := hide ⟨by have := HZ2.out.1; have := hb.size; omega, HZ2.out.2⟩
  clear hb HX HB2 HZ2 e1 e2 e3
  by_cases hgo : g = false ∧ m ≤ 200
  · obtain ⟨rfl, hm2⟩ := hgo
    have HG := hide (hg rfl)
    have dm : ¬ ((200 : Int) < (m : Int)) := by omega
    have x0 : w3.cell? ⟨w1.heap.size, 0, none⟩ = some (.int .u8 2) := (blk_cell HX3.out 0).trans rfl
    have x1 : w3.cell? ⟨w1.heap.size, 1, none⟩ = some (.int .i64 ks) := (blk_cell HX3.out 1).trans rfl
    have x2 : w3.cell? ⟨w1.heap.size, 2, none⟩ = some (.int .i64 sz) := (blk_cell HX3.out 2).trans rfl
    have x3 : w3.cell? ⟨w1.heap.size, 3, none⟩ = some (.int .i64 n) := (blk_cell HX3.out 3).trans rfl
    clear hg
    go_wp2_with fail
    refine (new_yes n ks sz w3 HSP.out (by omega) (by omega) (by omega)).mono ?_
    rintro e w4 ⟨b, cb, mb, s, rfl, ha, hb⟩
    have hnone := zHSs_none s sz n
    have hlen := zHSs_len s sz n
    have HH := hide ha
    have HB4 := hide (HB3.out.trans (hb.mono HB3.out.size))
    have HX4 := hide ((hb.block _ (at_lt HX3.out)).trans HX3.out)
    have HZ4 : Hid (w3.heap.size ≤ w4.heap.size) := hide hb.size
    clear ha hb x0 x1 x2 x3 HX3
    have HN := hide hnone
    have HLN := hide hlen
    clear hnone hlen
    have HBL := hide (BL.zero s sz n)
    generalize zHSs s sz n = L0 at *
    have HK0 : Hid (KS w ((w4.alloc (.map #[] 0)).alloc (.map #[] 0)) w1.heap.size n ks sz b cb mb w4.heap.size (w4.heap.size + 1) w3.heap.size 0 L0 (fun _ => none)) := by
      have hb := below2 w4 (.map #[] 0) (.map #[] 0)
      have hb1 := below1 (w4.alloc (.map #[] 0)) (.map #[] 0)
      have z1 := HZ3.out
      have z2 := HZ4.out
      have z3 := HB4.out.size
      have hm1 : KMap Try.prog 9 9 (w4.alloc (.map #[] 0)) w4.heap.size 0 (fun _ => none) := KMap.made w4
      have hm2 : KMap Try.prog 9 3 ((w4.alloc (.map #[] 0)).alloc (.map #[] 0)) (w4.alloc (.map #[] 0)).heap.size 0 (fun _ => none) := KMap.made _
      refine hide ⟨(hb.block _ (at_lt HX4.out)).trans HX4.out, HH.out.below hb, HLN.out, ?_, ⟨0, Nat.zero_le _, by simpa using hm2⟩, fun k j hf => ?_, ⟨fun hc => ?_, fun hc => ?_, by omega⟩, ⟨by omega, by omega, by omega, by omega, by omega⟩, HB4.out.trans (hb.mono z3)⟩
      · rw [HN.out.2]
        refine (hm1.same (hb1.block _ hm1.lt)).congr (fun l _ => ?_)
        cases l <;> simp [allF, valAt, HN.out.1]
      · rw [HN.out.1] at hf; cases hf
      · have := HH.out.lt _ hc; omega
      · have := HH.out.lt _ hc; omega
    clear HN HLN HH HX4 HB3
    go_wp2_with fail
    clear hmm
    go_loopw [14, 15, 16, 17, 18, 19, 20, 21] (fun u a1 a2 a3 a4 a5 a6 a7 wr => ∃ (i : Nat) (L : List HS) (fT : Lit → Option Value), i ≤ m ∧ u = .int .i64 i ∧ KS w wr w1.heap.size n ks sz b cb mb w4.heap.size (w4.heap.size + 1) w3.heap.size i L fT ∧ BL L) (fun u _ _ _ _ _ _ _ _ => m - (intOf u).toNat)
    case atStart => exact ⟨0, L0, _, Nat.zero_le _, rfl, HK0.out, HBL.out⟩
    case round =>
      obtain ⟨i, L, fT, hi, rfl, hK, hBL⟩ := hrel
      have HBR := hide hBL
      clear hBL HBL
      have HK := hide hK
      clear HK0
      by_cases him : i < m
      · have x1 : wr.cell? ⟨w1.heap.size, 1, none⟩ = some (.int .i64 ks) := (blk_cell hK.box 1).trans rfl
        have x2 : wr.cell? ⟨w1.heap.size, 2, none⟩ = some (.int .i64 sz) := (blk_cell hK.box 2).trans rfl
        have i0 : (0 : Int) ≤ (i : Int) := by omega
        have i1 : (i : Int) < (m : Int) := by omega
        have hz1 := fun W => zeros_made Try.underlying22 ks (by omega) W
        have hz2 := fun W => zeros_made Try.underlying22 sz (by omega) W
        have hSl := at_lt hK.box
        have y1 := ((below1 wr (.cells (u8s (List.replicate sz 0)).toArray 5)).cell (p := ⟨w1.heap.size, 1, none⟩) hSl).trans x1
        have y2 := ((below1 wr (.cells (u8s (List.replicate ks 0)).toArray 5)).cell (p := ⟨w1.heap.size, 2, none⟩) hSl).trans x2
        clear hK hSl
        go_wp2_with fail
        go_region
        · have HW : Hid (Below wr.heap.size wr ((wr.alloc (.cells (u8s (List.replicate ks 0)).toArray 5)).alloc (.cells (u8s (List.replicate sz 0)).toArray 5)).drew ∧ ((wr.alloc (.cells (u8s (List.replicate ks 0)).toArray 5)).alloc (.cells (u8s (List.replicate sz 0)).toArray 5)).drew.ownsRow 0 5 1 (.slice (some ⟨wr.heap.size, 0, none⟩) ks ks) ks (u8s (List.replicate ks 0)) ∧ ((wr.alloc (.cells (u8s (List.replicate ks 0)).toArray 5)).alloc (.cells (u8s (List.replicate sz 0)).toArray 5)).drew.ownsRow 0 5 1 (.slice (some ⟨(wr.heap.size + 1), 0, none⟩) sz sz) sz (u8s (List.replicate sz 0)) ∧ ((wr.alloc (.cells (u8s (List.replicate ks 0)).toArray 5)).alloc (.cells (u8s (List.replicate sz 0)).toArray 5)).drew.heap.size = wr.heap.size + 2) := hide (twoRows_a wr ks sz (by omega) (by omega))
          clear x1 x2 y1 y2 hz1 hz2
          generalize ((wr.alloc (.cells (u8s (List.replicate ks 0)).toArray 5)).alloc (.cells (u8s (List.replicate sz 0)).toArray 5)).drew = W2 at *
          have HK2 := hide (HK.out.later HW.out.1)
          have HD2 := HD.out.below HK2.out.below
          obtain ⟨ad, d, hA, hd, hadB, hc⟩ := HD2.cell him
          subst hA
          have HI := hide (HD.out.inner d (List.mem_of_getElem? hd))
          have HC : Hid (∀ W, Below w.heap.size w W → W.cell? (ad.add (i * 6)) = some (.int .i64 d.what) ∧ W.cell? ⟨(ad.add (i * 6)).block, (ad.add (i * 6)).off + 1, none⟩ = some (.slice d.k.A d.k.n d.k.c) ∧ W.cell? ⟨(ad.add (i * 6)).block, (ad.add (i * 6)).off + 2, none⟩ = some (.slice d.v.A d.v.n d.v.c)) := hide (deed_cells HD.out him hd)
          clear HD2 hd hadB hc
          have c1 := (HC.out W2 HK2.out.below).2.1
          go_wp2_with (with_reducible refine stop_copy ?_)
          show Hid _
          refine start_here ?_
          refine wpList_copy_head (e := 5) (n := ks) (xs := u8s (List.replicate ks 0)) rfl (.tmp 72) (.tmp 77) 22 22 rfl Try.underlying22 u8size wr.heap.size ks HW.out.2.1 ks rfl w.heap.size d.k.A d.k.n d.k.c rfl (u8s d.k.bs) (HI.out.k.rd.below HK2.out.below) (u8s_one d.k.bs) ?_
          intro w5 ho5 hg5 hz5
          have H5 := hide (copied_head HW.out.1 (g := wr.heap.size) (g2 := (wr.heap.size + 1)) (by omega) (by omega) HW.out.2.2.1 ho5 hg5)
          have HK5 := hide (HK.out.later H5.out.1)
          have HZ5 : Hid (w5.heap.size = wr.heap.size + 2) := hide (by rw [hz5]; exact HW.out.2.2.2)
          clear c1 ho5 hg5 hz5 HW HK2
          have c2 := (HC.out w5 HK5.out.below).2.2
          go_wp2_with (with_reducible refine stop_copy ?_)
          show Hid _
          refine start_here ?_
          refine wpList_copy_head (e := 5) (n := sz) (xs := u8s (List.replicate sz 0)) rfl (.tmp 79) (.tmp 84) 22 22 rfl Try.underlying22 u8size (wr.heap.size + 1) sz H5.out.2.2 sz rfl w.heap.size d.v.A d.v.n d.v.c rfl (u8s d.v.bs) (HI.out.v.rd.below HK5.out.below) (u8s_one d.v.bs) ?_
          intro w6 ho6 hg6 hz6
          have H6 := hide (copied_head H5.out.1 (g := (wr.heap.size + 1)) (g2 := wr.heap.size) (by omega) (by omega) H5.out.2.1 ho6 hg6)
          have HK6 := hide (HK.out.later H6.out.1)
          have HZ6 : Hid (w6.heap.size = wr.heap.size + 2) := hide (by rw [hz6]; exact HZ5.out)
          clear c2 ho6 hg6 hz6 H5 HK5 HZ5
          have HBK := hide (heads_byte ks HI.out.k.byte)
          have HBV := hide (heads_byte sz HI.out.v.byte)
          have HWT := hide HI.out.what
          have c0 := (HC.out w6 HK6.out.below).1
          clear HC HI
          generalize heads (List.replicate ks 0) d.k.bs ks = kL at *
          generalize heads (List.replicate sz 0) d.v.bs sz = vL at *
          have HLL : Hid (kL.length = ks ∧ vL.length = sz) := hide ⟨by have := H6.out.2.2.1; simpa [u8s] using this, by have := H6.out.2.1.1; simpa [u8s] using this⟩
          have HKL : Hid ((kb kL).length ≤ maxLen) := hide (by rw [kb_len, HLL.out.1]; unfold maxLen; omega)
          have HKR : Hid (KRow w6 w6.heap.size (some ⟨wr.heap.size, 0, none⟩) ks kL) := hide ⟨Rd.of_own H6.out.2.2, (fun h => by cases h), HBK.out⟩
          have hcv := conv_key (c := ks) HBK.out (Rd.of_own H6.out.2.2) (fun h => by cases h)
          obtain ⟨is, his⟩ : ∃ is, is = (findK L (kb kL)).isSome := ⟨_, rfl⟩
          obtain ⟨vv, hlk⟩ := HK6.out.is HKL.out w6 rfl
          rw [← his] at hlk
          replace his := hide his
          have hp := pick_is d.what 6 w6 (by decide) (by decide) HWT.out.1 HWT.out.2
          have HPK := hide hp
          have hp6 := pickN_lt d.what 6 (by decide)
          clear hp
          generalize pickN d.what 6 = pk at HPK hp6
          go_wp2_with fail
          refine HPK.out.mono ?_
          rintro e W' ⟨rfl, hW⟩
          replace hW := hW.symm
          subst hW
          clear HPK c0 hlk hcv
          have HOF := hide HK.out.h.lt
          have HMA := hide HK.out.all.lt
          have HAL := hide (HK.out.below.size)
          by_cases hp4 : 4 ≤ pk
          · have g1 : (4 : Int) ≤ (pk : Int) := by omega
            cases hf : findK L (kb kL) with
            | some j =>
              obtain rfl : is = true := by rw [his.out, hf]; rfl
              have hdel := del_any w3.heap.size b cb mb ks sz L (some ⟨wr.heap.size, 0, none⟩) ks ks w6.heap.size kL w6 HK6.out.h HKR.out (Nat.le_refl _)
              rw [(delE_yes hf).1, (delE_yes hf).2] at hdel
              have HDEL := hide hdel
              clear hdel
              go_wp2_with fail
              refine HDEL.out.mono ?_
              rintro e w7 ⟨rfl, hh, hk⟩
              obtain ⟨w8, hdl, hK8⟩ := HK6.out.deleted hf hh hk HKL.out
              have HK8 := hide hK8
              have hcv := conv_key (W := w7) (c := ks) HBK.out (Rd.of_own (row_past H6.out.2.2 hk (fun ho => absurd (HOF.out _ ho) (by omega)))) (fun h => by cases h)
              clear hh hk hK8 HDEL
              go_wp2_with fail
              go_roundw
              case rel => exact ⟨i + 1, dropK L j, fT, by omega, by go_num, HK8.out.mono (Nat.le_succ i), HBR.out.dropK j⟩
              case measure => simp [intOf]; omega
            | none =>
              obtain rfl : is = false := by rw [his.out, hf]; rfl
              have hdel := del_any w3.heap.size b cb mb ks sz L (some ⟨wr.heap.size, 0, none⟩) ks ks w6.heap.size kL w6 HK6.out.h HKR.out (Nat.le_refl _)
              rw [(delE_no hf).1, (delE_no hf).2] at hdel
              have HDEL := hide hdel
              clear hdel
              go_wp2_with fail
              refine HDEL.out.mono ?_
              rintro e w7 ⟨rfl, hh, hk⟩
              obtain ⟨w8, hdl, hK8⟩ := (HK6.out.still hh hk).undeleted hf (Below.refl _ _) HKL.out
              have HK8 := hide hK8
              have hcv := conv_key (W := w7) (c := ks) HBK.out (Rd.of_own (row_past H6.out.2.2 hk (fun ho => absurd (HOF.out _ ho) (by omega)))) (fun h => by cases h)
              clear hh hk hK8 HDEL
              go_wp2_with fail
              go_roundw
              case rel => exact ⟨i + 1, L, fT, by omega, by go_num, HK8.out.mono (Nat.le_succ i), HBR.out⟩
              case measure => simp [intOf]; omega
          · have g1 : (pk : Int) < 4 := by omega
            have hfull := @upd_0 L (kb kL)
            have hup := upd_any w3.heap.size b cb mb ks sz L (some ⟨wr.heap.size, 0, none⟩) (some ⟨(wr.heap.size + 1), 0, none⟩) ks ks w6.heap.size sz sz 0 kL vL w6 HK6.out.h HKR.out (Nat.le_refl _) (Rd.of_own H6.out.2.1)
            rw [updE_is] at hup
            by_cases hfu : (findK L (kb kL)).isSome = false ∧ takenK L = L.length
            · rw [if_pos hfu] at hfull
              rw [hfull, updL_no hfull] at hup
              obtain rfl : is = false := by rw [his.out]; exact hfu.1
              have HUP := hide hup
              clear hup hfull
              go_wp2_with fail
              refine HUP.out.mono ?_
              rintro e w7 ⟨rfl, hh, hk⟩
              have HK7 := hide (HK6.out.still hh hk)
              have hln := fun ty => HK7.out.all.len Try.underlying54 ty
              rw [show takenK L = n by rw [hfu.2]; exact HK.out.len] at hln
              have x3 : w7.cell? ⟨w1.heap.size, 3, none⟩ = some (.int .i64 n) := (blk_cell HK7.out.box 3).trans rfl
              clear hh hk HUP hfu
              go_wp2_with fail
              clear x3
              go_roundw
              case rel => exact ⟨i + 1, L, fT, by omega, by go_num, HK7.out.mono (Nat.le_succ i), HBR.out⟩
              case measure => simp [intOf]; omega
            · rw [if_neg hfu] at hfull
              rw [hfull, updL_yes hfull] at hup
              have HUP := hide hup
              have HFU := hide hfull
              have hlt : putAt L (kb kL) < n := by
                obtain ⟨r, hr⟩ := putAt_row hfull
                have := (List.getElem?_eq_some_iff.1 hr).1
                rwa [putK_len, HK.out.len] at this
              have HLF := hide (lookE_is (ks := ks) ((upd_find (d := vL) HK.out.h.once hfull (kb kL)).trans (if_pos rfl)))
              clear hup hfull
              cases hf : findK L (kb kL) with
              | some j =>
                obtain rfl : is = true := by rw [his.out, hf]; rfl
                have epa := putAt_is hf
                rw [epa] at hlt
                have p0 : (0 : Int) ≤ (j : Int) := by omega
                have p1 : (j : Int) < (n : Int) := by omega
                clear hfu
                go_wp2_with fail
                refine HUP.out.mono ?_
                rintro e w7 ⟨rfl, hh, hk⟩
                have HH7 := hide hh
                have HKK := hide hk
                have HLK := hide (lookup_any w3.heap.size b cb mb ks sz _ (some ⟨wr.heap.size, 0, none⟩) ks ks w7.heap.size kL w7 hh ⟨Rd.of_own (row_past H6.out.2.2 hk (fun ho => absurd (HOF.out _ ho) (by omega))), (fun h => by cases h), HBK.out⟩ (Nat.le_refl _))
                clear hh hk HUP
                go_wp2_with fail
                refine HLK.out.mono ?_
                rintro e w8 ⟨rfl, hb8⟩
                rw [HLF.out, epa]
                have HK8 := hide (kept_then HKK.out hb8)
                have hat := HK6.out.at1 HK8.out hf HKL.out
                obtain ⟨w9, hm1, hk9, w10, hm2, hK10⟩ := HK6.out.stored (d := vL) HFU.out (HH7.out.below hb8) HK8.out HKL.out HLL.out.2 (by omega)
                have HK10 := hide hK10
                have x3 : w8.cell? ⟨w1.heap.size, 3, none⟩ = some (.int .i64 n) := (blk_cell (HK6.out.turned (L' := L) HK8.out).1 3).trans rfl
                have ok8 := row_past H6.out.2.2 HK8.out (fun ho => absurd (HOF.out _ ho) (by omega))
                have ov8 := row_past H6.out.2.1 HK8.out (fun ho => absurd (HOF.out _ ho) (by omega))
                have hck := conv_key (W := w8) (c := ks) HBK.out (Rd.of_own ok8) (fun h => by cases h)
                have hcw := conv_key (W := w8) (c := sz) HBV.out (Rd.of_own ov8) (fun h => by cases h)
                have hck9 := conv_key (W := w9) (c := ks) HBK.out (Rd.of_own (row_past ok8 hk9 (fun e => by have := HMA.out; omega))) (fun h => by cases h)
                rw [epa] at hm2
                clear hK10 hb8 hk9 ok8 ov8 HH7 HKK HLK
                go_wp2_with fail
                go_roundw
                case rel => exact ⟨i + 1, _, _, by omega, by go_num, HK10.out, (HBR.out.putK _).putB _ HBV.out⟩
                case measure => simp [intOf]; omega
              | none =>
                obtain rfl : is = false := by rw [his.out, hf]; rfl
                have ene : ¬ ((takenK L : Int) = (n : Int)) := fun e => hfu ⟨by rw [hf]; rfl, by rw [HK.out.len]; omega⟩
                have ENE : Hid (takenK L < n ∨ n < takenK L) := hide (by omega)
                clear hfu
                generalize hpa : putAt L (kb kL) = pa at hlt HLF
                have HPA := hide hpa
                have p0 : (0 : Int) ≤ (pa : Int) := by omega
                have p1 : (pa : Int) < (n : Int) := by omega
                clear hpa ene
                go_wp2_with fail
                refine HUP.out.mono ?_
                rintro e w7 ⟨rfl, hh, hk⟩
                have HH7 := hide hh
                have HKK := hide hk
                have HLK := hide (lookup_any w3.heap.size b cb mb ks sz _ (some ⟨wr.heap.size, 0, none⟩) ks ks w7.heap.size kL w7 hh ⟨Rd.of_own (row_past H6.out.2.2 hk (fun ho => absurd (HOF.out _ ho) (by omega))), (fun h => by cases h), HBK.out⟩ (Nat.le_refl _))
                obtain ⟨t1, t2, _, _⟩ := HK6.out.turned (L' := L) hk
                have x3 : w7.cell? ⟨w1.heap.size, 3, none⟩ = some (.int .i64 n) := (blk_cell t1 3).trans rfl
                have hln := fun ty => t2.len Try.underlying54 ty
                have d3 : decide ((takenK L : Int) = (n : Int)) = false := decide_eq_false (by have := ENE.out; omega)
                have d4 : ¬ ((takenK L : Int) = (n : Int)) := by have := ENE.out; omega
                clear hh hk HUP t1 t2
                go_wp2_with fail
                refine HLK.out.mono ?_
                rintro e w8 ⟨rfl, hb8⟩
                rw [HPA.out, HLF.out]
                have HK8 := hide (kept_then HKK.out hb8)
                obtain ⟨w9, hm1, hk9, w10, hm2, hK10⟩ := HK6.out.stored (d := vL) HFU.out (HH7.out.below hb8) HK8.out HKL.out HLL.out.2 (by omega)
                have HK10 := hide hK10
                have x38 : w8.cell? ⟨w1.heap.size, 3, none⟩ = some (.int .i64 n) := (blk_cell (HK6.out.turned (L' := L) HK8.out).1 3).trans rfl
                have ok8 := row_past H6.out.2.2 HK8.out (fun ho => absurd (HOF.out _ ho) (by omega))
                have ov8 := row_past H6.out.2.1 HK8.out (fun ho => absurd (HOF.out _ ho) (by omega))
                have hck := conv_key (W := w8) (c := ks) HBK.out (Rd.of_own ok8) (fun h => by cases h)
                have hcw := conv_key (W := w8) (c := sz) HBV.out (Rd.of_own ov8) (fun h => by cases h)
                have hck9 := conv_key (W := w9) (c := ks) HBK.out (Rd.of_own (row_past ok8 hk9 (fun e => by have := HMA.out; omega))) (fun h => by cases h)
                rw [HPA.out] at hm2
                clear hK10 hb8 hk9 ok8 ov8 HH7 HKK HLK x3 hln d3 d4
                go_wp2_with fail
                go_roundw
                case rel => exact ⟨i + 1, _, _, by omega, by go_num, HK10.out, (HBR.out.putK _).putB _ HBV.out⟩
                case measure => simp [intOf]; omega
        · have HW : Hid (Below wr.heap.size wr ((wr.alloc (.cells (u8s (List.replicate sz 0)).toArray 5)).alloc (.cells (u8s (List.replicate ks 0)).toArray 5)).drew ∧ ((wr.alloc (.cells (u8s (List.replicate sz 0)).toArray 5)).alloc (.cells (u8s (List.replicate ks 0)).toArray 5)).drew.ownsRow 0 5 1 (.slice (some ⟨(wr.heap.size + 1), 0, none⟩) ks ks) ks (u8s (List.replicate ks 0)) ∧ ((wr.alloc (.cells (u8s (List.replicate sz 0)).toArray 5)).alloc (.cells (u8s (List.replicate ks 0)).toArray 5)).drew.ownsRow 0 5 1 (.slice (some ⟨wr.heap.size, 0, none⟩) sz sz) sz (u8s (List.replicate sz 0)) ∧ ((wr.alloc (.cells (u8s (List.replicate sz 0)).toArray 5)).alloc (.cells (u8s (List.replicate ks 0)).toArray 5)).drew.heap.size = wr.heap.size + 2) := hide (twoRows_b wr ks sz (by omega) (by omega))
          clear x1 x2 y1 y2 hz1 hz2
          generalize ((wr.alloc (.cells (u8s (List.replicate sz 0)).toArray 5)).alloc (.cells (u8s (List.replicate ks 0)).toArray 5)).drew = W2 at *
          have HK2 := hide (HK.out.later HW.out.1)
          have HD2 := HD.out.below HK2.out.below
          obtain ⟨ad, d, hA, hd, hadB, hc⟩ := HD2.cell him
          subst hA
          have HI := hide (HD.out.inner d (List.mem_of_getElem? hd))
          have HC : Hid (∀ W, Below w.heap.size w W → W.cell? (ad.add (i * 6)) = some (.int .i64 d.what) ∧ W.cell? ⟨(ad.add (i * 6)).block, (ad.add (i * 6)).off + 1, none⟩ = some (.slice d.k.A d.k.n d.k.c) ∧ W.cell? ⟨(ad.add (i * 6)).block, (ad.add (i * 6)).off + 2, none⟩ = some (.slice d.v.A d.v.n d.v.c)) := hide (deed_cells HD.out him hd)
          clear HD2 hd hadB hc
          have c1 := (HC.out W2 HK2.out.below).2.1
          go_wp2_with (with_reducible refine stop_copy ?_)
          show Hid _
          refine start_here ?_
          refine wpList_copy_head (e := 5) (n := ks) (xs := u8s (List.replicate ks 0)) rfl (.tmp 72) (.tmp 77) 22 22 rfl Try.underlying22 u8size (wr.heap.size + 1) ks HW.out.2.1 ks rfl w.heap.size d.k.A d.k.n d.k.c rfl (u8s d.k.bs) (HI.out.k.rd.below HK2.out.below) (u8s_one d.k.bs) ?_
          intro w5 ho5 hg5 hz5
          have H5 := hide (copied_head HW.out.1 (g := (wr.heap.size + 1)) (g2 := wr.heap.size) (by omega) (by omega) HW.out.2.2.1 ho5 hg5)
          have HK5 := hide (HK.out.later H5.out.1)
          have HZ5 : Hid (w5.heap.size = wr.heap.size + 2) := hide (by rw [hz5]; exact HW.out.2.2.2)
          clear c1 ho5 hg5 hz5 HW HK2
          have c2 := (HC.out w5 HK5.out.below).2.2
          go_wp2_with (with_reducible refine stop_copy ?_)
          show Hid _
          refine start_here ?_
          refine wpList_copy_head (e := 5) (n := sz) (xs := u8s (List.replicate sz 0)) rfl (.tmp 79) (.tmp 84) 22 22 rfl Try.underlying22 u8size wr.heap.size sz H5.out.2.2 sz rfl w.heap.size d.v.A d.v.n d.v.c rfl (u8s d.v.bs) (HI.out.v.rd.below HK5.out.below) (u8s_one d.v.bs) ?_
          intro w6 ho6 hg6 hz6
          have H6 := hide (copied_head H5.out.1 (g := wr.heap.size) (g2 := (wr.heap.size + 1)) (by omega) (by omega) H5.out.2.1 ho6 hg6)
          have HK6 := hide (HK.out.later H6.out.1)
          have HZ6 : Hid (w6.heap.size = wr.heap.size + 2) := hide (by rw [hz6]; exact HZ5.out)
          clear c2 ho6 hg6 hz6 H5 HK5 HZ5
          have HBK := hide (heads_byte ks HI.out.k.byte)
          have HBV := hide (heads_byte sz HI.out.v.byte)
          have HWT := hide HI.out.what
          have c0 := (HC.out w6 HK6.out.below).1
          clear HC HI
          generalize heads (List.replicate ks 0) d.k.bs ks = kL at *
          generalize heads (List.replicate sz 0) d.v.bs sz = vL at *
          have HLL : Hid (kL.length = ks ∧ vL.length = sz) := hide ⟨by have := H6.out.2.2.1; simpa [u8s] using this, by have := H6.out.2.1.1; simpa [u8s] using this⟩
          have HKL : Hid ((kb kL).length ≤ maxLen) := hide (by rw [kb_len, HLL.out.1]; unfold maxLen; omega)
          have HKR : Hid (KRow w6 w6.heap.size (some ⟨(wr.heap.size + 1), 0, none⟩) ks kL) := hide ⟨Rd.of_own H6.out.2.2, (fun h => by cases h), HBK.out⟩
          have hcv := conv_key (c := ks) HBK.out (Rd.of_own H6.out.2.2) (fun h => by cases h)
          obtain ⟨is, his⟩ : ∃ is, is = (findK L (kb kL)).isSome := ⟨_, rfl⟩
          obtain ⟨vv, hlk⟩ := HK6.out.is HKL.out w6 rfl
          rw [← his] at hlk
          replace his := hide his
          have hp := pick_is d.what 6 w6 (by decide) (by decide) HWT.out.1 HWT.out.2
          have HPK := hide hp
          have hp6 := pickN_lt d.what 6 (by decide)
          clear hp
          generalize pickN d.what 6 = pk at HPK hp6
          go_wp2_with fail
          refine HPK.out.mono ?_
          rintro e W' ⟨rfl, hW⟩
          replace hW := hW.symm
          subst hW
          clear HPK c0 hlk hcv
          have HOF := hide HK.out.h.lt
          have HMA := hide HK.out.all.lt
          have HAL := hide (HK.out.below.size)
          by_cases hp4 : 4 ≤ pk
          · have g1 : (4 : Int) ≤ (pk : Int) := by omega
            cases hf : findK L (kb kL) with
            | some j =>
              obtain rfl : is = true := by rw [his.out, hf]; rfl
              have hdel := del_any w3.heap.size b cb mb ks sz L (some ⟨(wr.heap.size + 1), 0, none⟩) ks ks w6.heap.size kL w6 HK6.out.h HKR.out (Nat.le_refl _)
              rw [(delE_yes hf).1, (delE_yes hf).2] at hdel
              have HDEL := hide hdel
              clear hdel
              go_wp2_with fail
              refine HDEL.out.mono ?_
              rintro e w7 ⟨rfl, hh, hk⟩
              obtain ⟨w8, hdl, hK8⟩ := HK6.out.deleted hf hh hk HKL.out
              have HK8 := hide hK8
              have hcv := conv_key (W := w7) (c := ks) HBK.out (Rd.of_own (row_past H6.out.2.2 hk (fun ho => absurd (HOF.out _ ho) (by omega)))) (fun h => by cases h)
              clear hh hk hK8 HDEL
              go_wp2_with fail
              go_roundw
              case rel => exact ⟨i + 1, dropK L j, fT, by omega, by go_num, HK8.out.mono (Nat.le_succ i), HBR.out.dropK j⟩
              case measure => simp [intOf]; omega
            | none =>
              obtain rfl : is = false := by rw [his.out, hf]; rfl
              have hdel := del_any w3.heap.size b cb mb ks sz L (some ⟨(wr.heap.size + 1), 0, none⟩) ks ks w6.heap.size kL w6 HK6.out.h HKR.out (Nat.le_refl _)
              rw [(delE_no hf).1, (delE_no hf).2] at hdel
              have HDEL := hide hdel
              clear hdel
              go_wp2_with fail
              refine HDEL.out.mono ?_
              rintro e w7 ⟨rfl, hh, hk⟩
              obtain ⟨w8, hdl, hK8⟩ := (HK6.out.still hh hk).undeleted hf (Below.refl _ _) HKL.out
              have HK8 := hide hK8
              have hcv := conv_key (W := w7) (c := ks) HBK.out (Rd.of_own (row_past H6.out.2.2 hk (fun ho => absurd (HOF.out _ ho) (by omega)))) (fun h => by cases h)
              clear hh hk hK8 HDEL
              go_wp2_with fail
              go_roundw
              case rel => exact ⟨i + 1, L, fT, by omega, by go_num, HK8.out.mono (Nat.le_succ i), HBR.out⟩
              case measure => simp [intOf]; omega
          · have g1 : (pk : Int) < 4 := by omega
            have hfull := @upd_0 L (kb kL)
            have hup := upd_any w3.heap.size b cb mb ks sz L (some ⟨(wr.heap.size + 1), 0, none⟩) (some ⟨wr.heap.size, 0, none⟩) ks ks w6.heap.size sz sz 0 kL vL w6 HK6.out.h HKR.out (Nat.le_refl _) (Rd.of_own H6.out.2.1)
            rw [updE_is] at hup
            by_cases hfu : (findK L (kb kL)).isSome = false ∧ takenK L = L.length
            · rw [if_pos hfu] at hfull
              rw [hfull, updL_no hfull] at hup
              obtain rfl : is = false := by rw [his.out]; exact hfu.1
              have HUP := hide hup
              clear hup hfull
              go_wp2_with fail
              refine HUP.out.mono ?_
              rintro e w7 ⟨rfl, hh, hk⟩
              have HK7 := hide (HK6.out.still hh hk)
              have hln := fun ty => HK7.out.all.len Try.underlying54 ty
              rw [show takenK L = n by rw [hfu.2]; exact HK.out.len] at hln
              have x3 : w7.cell? ⟨w1.heap.size, 3, none⟩ = some (.int .i64 n) := (blk_cell HK7.out.box 3).trans rfl
              clear hh hk HUP hfu
              go_wp2_with fail
              clear x3
              go_roundw
              case rel => exact ⟨i + 1, L, fT, by omega, by go_num, HK7.out.mono (Nat.le_succ i), HBR.out⟩
              case measure => simp [intOf]; omega
            · rw [if_neg hfu] at hfull
              rw [hfull, updL_yes hfull] at hup
              have HUP := hide hup
              have HFU := hide hfull
              have hlt : putAt L (kb kL) < n := by
                obtain ⟨r, hr⟩ := putAt_row hfull
                have := (List.getElem?_eq_some_iff.1 hr).1
                rwa [putK_len, HK.out.len] at this
              have HLF := hide (lookE_is (ks := ks) ((upd_find (d := vL) HK.out.h.once hfull (kb kL)).trans (if_pos rfl)))
              clear hup hfull
              cases hf : findK L (kb kL) with
              | some j =>
                obtain rfl : is = true := by rw [his.out, hf]; rfl
                have epa := putAt_is hf
                rw [epa] at hlt
                have p0 : (0 : Int) ≤ (j : Int) := by omega
                have p1 : (j : Int) < (n : Int) := by omega
                clear hfu
                go_wp2_with fail
                refine HUP.out.mono ?_
                rintro e w7 ⟨rfl, hh, hk⟩
                have HH7 := hide hh
                have HKK := hide hk
                have HLK := hide (lookup_any w3.heap.size b cb mb ks sz _ (some ⟨(wr.heap.size + 1), 0, none⟩) ks ks w7.heap.size kL w7 hh ⟨Rd.of_own (row_past H6.out.2.2 hk (fun ho => absurd (HOF.out _ ho) (by omega))), (fun h => by cases h), HBK.out⟩ (Nat.le_refl _))
                clear hh hk HUP
                go_wp2_with fail
                refine HLK.out.mono ?_
                rintro e w8 ⟨rfl, hb8⟩
                rw [HLF.out, epa]
                have HK8 := hide (kept_then HKK.out hb8)
                have hat := HK6.out.at1 HK8.out hf HKL.out
                obtain ⟨w9, hm1, hk9, w10, hm2, hK10⟩ := HK6.out.stored (d := vL) HFU.out (HH7.out.below hb8) HK8.out HKL.out HLL.out.2 (by omega)
                have HK10 := hide hK10
                have x3 : w8.cell? ⟨w1.heap.size, 3, none⟩ = some (.int .i64 n) := (blk_cell (HK6.out.turned (L' := L) HK8.out).1 3).trans rfl
                have ok8 := row_past H6.out.2.2 HK8.out (fun ho => absurd (HOF.out _ ho) (by omega))
                have ov8 := row_past H6.out.2.1 HK8.out (fun ho => absurd (HOF.out _ ho) (by omega))
                have hck := conv_key (W := w8) (c := ks) HBK.out (Rd.of_own ok8) (fun h => by cases h)
                have hcw := conv_key (W := w8) (c := sz) HBV.out (Rd.of_own ov8) (fun h => by cases h)
                have hck9 := conv_key (W := w9) (c := ks) HBK.out (Rd.of_own (row_past ok8 hk9 (fun e => by have := HMA.out; omega))) (fun h => by cases h)
                rw [epa] at hm2
                clear hK10 hb8 hk9 ok8 ov8 HH7 HKK HLK
                go_wp2_with fail
                go_roundw
                case rel => exact ⟨i + 1, _, _, by omega, by go_num, HK10.out, (HBR.out.putK _).putB _ HBV.out⟩
                case measure => simp [intOf]; omega
              | none =>
                obtain rfl : is = false := by rw [his.out, hf]; rfl
                have ene : ¬ ((takenK L : Int) = (n : Int)) := fun e => hfu ⟨by rw [hf]; rfl, by rw [HK.out.len]; omega⟩
                have ENE : Hid (takenK L < n ∨ n < takenK L) := hide (by omega)
                clear hfu
                generalize hpa : putAt L (kb kL) = pa at hlt HLF
                have HPA := hide hpa
                have p0 : (0 : Int) ≤ (pa : Int) := by omega
                have p1 : (pa : Int) < (n : Int) := by omega
                clear hpa ene
                go_wp2_with fail
                refine HUP.out.mono ?_
                rintro e w7 ⟨rfl, hh, hk⟩
                have HH7 := hide hh
                have HKK := hide hk
                have HLK := hide (lookup_any w3.heap.size b cb mb ks sz _ (some ⟨(wr.heap.size + 1), 0, none⟩) ks ks w7.heap.size kL w7 hh ⟨Rd.of_own (row_past H6.out.2.2 hk (fun ho => absurd (HOF.out _ ho) (by omega))), (fun h => by cases h), HBK.out⟩ (Nat.le_refl _))
                obtain ⟨t1, t2, _, _⟩ := HK6.out.turned (L' := L) hk
                have x3 : w7.cell? ⟨w1.heap.size, 3, none⟩ = some (.int .i64 n) := (blk_cell t1 3).trans rfl
                have hln := fun ty => t2.len Try.underlying54 ty
                have d3 : decide ((takenK L : Int) = (n : Int)) = false := decide_eq_false (by have := ENE.out; omega)
                have d4 : ¬ ((takenK L : Int) = (n : Int)) := by have := ENE.out; omega
                clear hh hk HUP t1 t2
                go_wp2_with fail
                refine HLK.out.mono ?_
                rintro e w8 ⟨rfl, hb8⟩
                rw [HPA.out, HLF.out]
                have HK8 := hide (kept_then HKK.out hb8)
                obtain ⟨w9, hm1, hk9, w10, hm2, hK10⟩ := HK6.out.stored (d := vL) HFU.out (HH7.out.below hb8) HK8.out HKL.out HLL.out.2 (by omega)
                have HK10 := hide hK10
                have x38 : w8.cell? ⟨w1.heap.size, 3, none⟩ = some (.int .i64 n) := (blk_cell (HK6.out.turned (L' := L) HK8.out).1 3).trans rfl
                have ok8 := row_past H6.out.2.2 HK8.out (fun ho => absurd (HOF.out _ ho) (by omega))
                have ov8 := row_past H6.out.2.1 HK8.out (fun ho => absurd (HOF.out _ ho) (by omega))
                have hck := conv_key (W := w8) (c := ks) HBK.out (Rd.of_own ok8) (fun h => by cases h)
                have hcw := conv_key (W := w8) (c := sz) HBV.out (Rd.of_own ov8) (fun h => by cases h)
                have hck9 := conv_key (W := w9) (c := ks) HBK.out (Rd.of_own (row_past ok8 hk9 (fun e => by have := HMA.out; omega))) (fun h => by cases h)
                rw [HPA.out] at hm2
                clear hK10 hb8 hk9 ok8 ov8 HH7 HKK HLK x3 hln d3 d4
                go_wp2_with fail
                go_roundw
                case rel => exact ⟨i + 1, _, _, by omega, by go_num, HK10.out, (HBR.out.putK _).putB _ HBV.out⟩
                case measure => simp [intOf]; omega
      · obtain rfl : i = m := by omega
        have HKEYS := hide (keys_any w3.heap.size b cb mb ks sz L wr hK.h)
        clear hK
        go_wp2_with fail
        refine HKEYS.out.mono ?_
        rintro e w5 ⟨v, rs, rfl, hkt, hrs, hb⟩
        obtain ⟨A5, c5, rfl, _⟩ := owns_slice hkt.row
        have HKT := hide hkt
        have HRS := hide hrs
        have HK5 := hide (HK.out.later hb)
        have HRL : Hid (rs.length = takenK L ∧ rs.length ≤ 40) := hide (by
          have e : rs.length = takenK L := by rw [← keysM_len, ← hrs, List.length_map]
          have := takenK_le L
          have := HK.out.len
          exact ⟨e, by omega⟩)
        have hmm := @run_makeMap Try.prog
        clear hkt hrs hb HKEYS HK
        go_wp2_with fail
        clear hmm
        have HM0 : Hid (KMap Try.prog 3 4 (w5.alloc (.map #[] 0)) w5.heap.size 0 (fun _ => none)) := hide (KMap.made w5)
        have HB6 := hide (below1 w5 (.map #[] 0))
        generalize w5.alloc (.map #[] 0) = w6 at *
        go_loopw [24, 25, 26, 27, 28, 29, 30] (fun u a1 a2 a3 a4 a5 a6 wq => ∃ (j N : Nat) (g : Lit → Option Value), j ≤ rs.length ∧ u = .int .i64 j ∧ Below w5.heap.size w5 wq ∧ KMap Try.prog 3 4 wq w5.heap.size N g ∧ N ≤ j ∧ TookBy L rs j g) (fun u _ _ _ _ _ _ _ => rs.length - (intOf u).toNat)
        case atStart => exact ⟨0, 0, _, Nat.zero_le _, rfl, HB6.out, HM0.out, Nat.le_refl _, fun p hp => absurd rfl hp⟩
        case round =>
          obtain ⟨j, N, g, hj, rfl, hbq, hkm, hN, hT⟩ := hrel
          clear HM0 HB6
          by_cases hjr : j < rs.length
          · obtain ⟨r, hr⟩ : ∃ r, rs[j]? = some r := ⟨_, List.getElem?_eq_getElem hjr⟩
            obtain ⟨p, row, hp, hrow⟩ := keys_at HRS.out hr
            have hkt := HKT.out.below hbq
            have hKq := HK5.out.later hbq
            obtain ⟨ad, rfl⟩ : ∃ ad, A5 = some ad := by
              obtain ⟨A', c', e, hrd⟩ := owns_slice hkt.row
              injection e with e1 e2 e3
              subst e1
              obtain ⟨ad, e, _⟩ := hrd.2 (by omega)
              exact ⟨ad, e⟩
            have hl : r.k.length = ks := by
              obtain ⟨row', h1, h2, _⟩ := findK_some hp
              exact hKq.h.keyl p row' r.k h1 h2
            have hlt : p < n := by
              have := (List.getElem?_eq_some_iff.1 hrow).1
              have := hKq.len
              omega
            have hlk := lookup_any w3.heap.size b cb mb ks sz L (some ⟨r.g, 0, none⟩) r.k.length r.cap wr.heap.size (ints r.k) wr hKq.h (hkt.krow hr) (Nat.le_refl _)
            have e3 : lookE ks r.k.length L r.k = ((p : Int), 0) := by rw [hl]; exact lookE_is hp
            rw [kb_ints, e3] at hlk
            have HLK := hide hlk
            have c1 := hkt.cell hr
            have j0 : (0 : Int) ≤ (j : Int) := by omega
            have j1 : (j : Int) < (rs.length : Int) := by omega
            have HR := hide hr
            have HP := hide hp
            have HROW := hide hrow
            have HLN : Hid (r.k.length ≤ maxLen) := hide (by rw [hl]; unfold maxLen; omega)
            have HBQ := hide hbq
            have HKM := hide hkm
            have HT := hide hT
            have HNJ := hide hN
            have HLT := hide hlt
            clear hkt hKq hlk e3 hr hp hrow hbq hkm hT hN hl hlt
            go_wp2_with fail
            refine HLK.out.mono ?_
            rintro e w7 ⟨rfl, hb7⟩
            have HB7 := hide (HBQ.out.trans (hb7.mono HBQ.out.size))
            have HV := hide (value_yes w3.heap.size b cb mb ks sz p L row w7 (HK5.out.later HB7.out).h HROW.out)
            have HKM7 := hide (HKM.out.same (hb7.block _ HKM.out.lt))
            clear hb7 HLK c1 HKM
            go_wp2_with fail
            refine HV.out.mono ?_
            rintro e w8 ⟨v8, rfl, ho8, hb8⟩
            obtain ⟨A8, c8, rfl, _⟩ := owns_slice ho8.1
            have HB8 := hide (HB7.out.trans (hb8.mono HB7.out.size))
            have HKM8 := hide (HKM7.out.same (hb8.block _ HKM7.out.lt))
            have HO8 := hide ho8.1
            have c1 := (HKT.out.below HB8.out).cell HR.out
            have c2 := (HKT.out.below HB8.out).conv HR.out
            have c3 := (HK5.out.later HB8.out).all.look strK Try.underlying54 (Try.zeroValue9 w8) zstr (keyOf_str_mk Try.underlying9 HLN.out) (v := encStr (kb row.bs)) (by rw [allF_str]; unfold valAt; rw [HP.out]; simp [HROW.out])
            clear ho8 hb8 HV HKM7
            go_wp2_with fail
            clear c1 c2 c3
            have F1 : ∀ x : Later w8, x.w.cell? (ad.add j) = some (.slice (some ⟨r.g, 0, none⟩) r.k.length r.cap) := fun x => ((HKT.out.below HB8.out).below x.below).cell HR.out
            have HK8 : Hid (∀ x : Later w8, KS w x.w w1.heap.size n ks sz b cb mb w4.heap.size (w4.heap.size + 1) w3.heap.size i L fT) := hide (fun x => HK5.out.later (HB8.out.trans (x.below.mono HB8.out.size)))
            have F2 : ∀ x : Later w8, (convert 22 9 (.slice A8 sz c8)).run Try.prog x.w = .ok (encStr (kb row.bs)) x.w := fun x => conv_key (HBR.out row (List.mem_of_getElem? HROW.out)) (Rd.of_own (owns_kept_below HO8.out x.below)) (fun e => by
              subst e
              refine Classical.byContradiction fun hc => ?_
              obtain ⟨ad', e, _⟩ := (Rd.of_own HO8.out).2 (by omega)
              cases e)
            have F3 : ∀ x : Later w8, (binOp .neq 9 (encStr (kb row.bs)) (encStr (kb row.bs))).run Try.prog x.w = .ok (.bool false) x.w := fun x => neq_self _ x.w _
            have F4 : ∀ x : Later w8, (Instr.lookup 56 (.map (some w5.heap.size)) (.int .i64 (p : Int)) false).run Try.prog x.w = .ok (.bool false) x.w := fun x => by
              have h := (HKM8.out.same (x.below.block _ HKM8.out.lt)).look1 intK Try.underlying56 (Try.zeroValue4 x.w) zbool (place_key (p := p) (by have := HLT.out; omega))
              rw [HT.out.no (HK8.out x).h.once HRS.out HR.out HP.out] at h
              exact h
            have F5 : ∀ x : Later w8, (convert 22 9 (.slice (some ⟨r.g, 0, none⟩) r.k.length r.cap)).run Try.prog x.w = .ok (encStr r.k) x.w := fun x => ((HKT.out.below HB8.out).below x.below).conv HR.out
            have F6 : ∀ x : Later w8, (Instr.lookup 28 (.map (some (w4.heap.size + 1))) (encStr r.k) false).run Try.prog x.w = .ok (.int .i64 (p : Int)) x.w := fun x => (HK8.out x).at1 (Kept.refl _ _) HP.out HLN.out
            by_cases hj0 : 0 < j
            · obtain ⟨jp, hjp⟩ : ∃ jp, j = jp + 1 := ⟨j - 1, by omega⟩
              have q1 : IntKind.i64.wrap ((j : Int) - 1) = (jp : Int) := by rw [IntWalk.i64_in _ (by have := HRL.out.2; omega)]; omega
              have jz : (0 : Int) < (j : Int) := by omega
              have jp0 : (0 : Int) ≤ (jp : Int) := by omega
              have jp1 : (jp : Int) < (rs.length : Int) := by omega
              obtain ⟨r', hr'⟩ : ∃ r', rs[jp]? = some r' := ⟨_, List.getElem?_eq_getElem (by omega)⟩
              have F7 : ∀ x : Later w8, x.w.cell? (ad.add jp) = some (.slice (some ⟨r'.g, 0, none⟩) r'.k.length r'.cap) := fun x => ((HKT.out.below HB8.out).below x.below).cell hr'
              have F8 : ∀ x : Later w8, (convert 22 9 (.slice (some ⟨r'.g, 0, none⟩) r'.k.length r'.cap)).run Try.prog x.w = .ok (encStr r'.k) x.w := fun x => ((HKT.out.below HB8.out).below x.below).conv hr'
              have hlt2 : r'.k < r.k := keys_rise (HK5.out.later HB8.out).h.once HRS.out hr' (by rw [← hjp]; exact HR.out)
              have F9 : ∀ x : Later w8, (binOp .geq 9 (encStr r'.k) (encStr r.k)).run Try.prog x.w = .ok (.bool false) x.w := fun x => geq_rising hlt2 x.w _
              have F10 : Op.bytesLess (⟨r'.k.toArray⟩ : ByteArray).toList (⟨r.k.toArray⟩ : ByteArray).toList = true := by rw [str_list, str_list, less_bytes]; exact decide_eq_true hlt2
              have F11 : Op.bytesLess r'.k r.k = true := by rw [less_bytes]; exact decide_eq_true hlt2
              have HJP := hide hjp
              clear hjp hr' hlt2
              refine wp_region_later (by kernel_rfl) (by kernel_rfl) ?_
              repeat (first | go_big_quiet_step (fail) | (refine wpQuiet_step (fun K hK => ?_); go_simp; refine hK _ ?_; clear hK K))
              refine wpQuiet_nil ?_
              rintro _ ⟨y, rfl⟩
              clear F1 F2 F3 F4 F5 F6 F7 F8 F9 F10 F11 q1
              have HY := hide y.below
              generalize y.w = wy at *
              obtain ⟨wz, hpt, hkz, hgz⟩ := (HKM8.out.same (HY.out.block _ HKM8.out.lt)).put intK Try.underlying56 (by have := HNJ.out; have := HRL.out; unfold maxLen; omega) (place_key (p := p) (by have := HLT.out; omega)) trivial (plainElem_bool (H := Unit) Try.underlying4 true)
              have HKZ := hide hkz
              have hbz : Below w5.heap.size wy wz := ((Kept.refl (fun q => q ≠ w5.heap.size) wy).grown hgz (fun q e _ hh => hh (by injection e with e; exact e.symm))).to_below (fun q hq e => by omega) (Nat.le_trans HB8.out.size HY.out.size)
              have HBZ := hide ((HB8.out.trans (HY.out.mono HB8.out.size)).trans hbz)
              clear hkz hgz hbz
              have jb : (j : Int) ≤ 40 := by have := HRL.out.2; omega
              go_wp2_with fail
              go_roundw
              case rel => exact ⟨j + 1, _, _, by omega, by go_num, HBZ.out, HKZ.out, by have := HNJ.out; split <;> omega, HT.out.next HR.out HP.out⟩
              case measure => simp [intOf]; omega
            · have jz : decide ((0 : Int) < (j : Int)) = false := decide_eq_false (by omega)
              refine wp_region_later (by kernel_rfl) (by kernel_rfl) ?_
              repeat (first | go_big_quiet_step (fail) | (refine wpQuiet_step (fun K hK => ?_); go_simp; refine hK _ ?_; clear hK K))
              refine wpQuiet_nil ?_
              rintro _ ⟨y, rfl⟩
              clear F1 F2 F3 F4 F5 F6
              have HY := hide y.below
              generalize y.w = wy at *
              obtain ⟨wz, hpt, hkz, hgz⟩ := (HKM8.out.same (HY.out.block _ HKM8.out.lt)).put intK Try.underlying56 (by have := HNJ.out; have := HRL.out; unfold maxLen; omega) (place_key (p := p) (by have := HLT.out; omega)) trivial (plainElem_bool (H := Unit) Try.underlying4 true)
              have HKZ := hide hkz
              have hbz : Below w5.heap.size wy wz := ((Kept.refl (fun q => q ≠ w5.heap.size) wy).grown hgz (fun q e _ hh => hh (by injection e with e; exact e.symm))).to_below (fun q hq e => by omega) (Nat.le_trans HB8.out.size HY.out.size)
              have HBZ := hide ((HB8.out.trans (HY.out.mono HB8.out.size)).trans hbz)
              clear hkz hgz hbz
              have jb : (j : Int) ≤ 40 := by have := HRL.out.2; omega
              go_wp2_with fail
              go_roundw
              case rel => exact ⟨j + 1, _, _, by omega, by go_num, HBZ.out, HKZ.out, by have := HNJ.out; split <;> omega, HT.out.next HR.out HP.out⟩
              case measure => simp [intOf]; omega
          · obtain rfl : j = rs.length := by omega
            have hKf := HK5.out.later hbq
            have hln := fun ty => hKf.all.len Try.underlying54 ty
            rw [← HRL.out.1] at hln
            have HBF := hide hKf.below
            clear hKf hkm hT hbq
            go_wp2_with fail
            go_ret
            exact ⟨rfl, HBF.out⟩
  · have hcase : g = true ∨ (g = false ∧ (200 : Int) < (m : Int)) := by
      cases g
      · exact .inr ⟨rfl, by have : ¬ m ≤ 200 := fun h => hgo ⟨rfl, h⟩; omega⟩
      · exact .inl rfl
    rcases hcase with rfl | ⟨rfl, h1⟩
    · go_wp2_with fail
      go_ret
      exact ⟨rfl, HB3.out⟩
    · go_wp2_with fail
      go_ret
      exact ⟨rfl, HB3.out⟩
end Go.Proofs.Ytlagpbgekihodaa
