/-
  The law's walk: two programs that are taken, one behind the other.
-/
import Derived.Test.YtjnmfgkjeofneaaL6a
import Derived.Test.YtjnmfgkjeofneaaSl
namespace Go.Proofs.Ytjnmfgkjeofneaa
open Go.RowKit
set_option linter.unusedVariables false

theorem targets_in {l : List Ins} (y : Int) (hy : y ∈ targetsM l) : 0 ≤ y ∧ y < l.length := by
  unfold targetsM risen at hy
  split at hy
  · rw [List.mem_map] at hy
    obtain ⟨i, hi, rfl⟩ := hy
    rw [List.mem_filter, List.mem_range] at hi
    omega
  · simp at hy
theorem row_ints {W0 : World} {base n c : Nat} {A : Option Addr} {l : List Int} (h : W0.ownsRow base 3 1 (.slice A n c) n (l.map (Value.int .i64))) : ∀ wr : World, (∀ b, base ≤ b → b < W0.heap.size → wr.heap[b]? = W0.heap[b]?) → ∀ k, k < n → ∃ ad y, A = some ad ∧ l[k]? = some y ∧ wr.cell? (ad.add k) = some (.int .i64 y) := by
  intro wr hw k hk
  obtain ⟨A', c', e, hrd⟩ := owns_slice (ownsRow_base_a h (Nat.zero_le _))
  cases e
  obtain ⟨ad, y, e, hy, hc⟩ := hrd.int hk
  subst e
  refine ⟨ad, y, rfl, hy, ?_⟩
  rcases h.2 with ⟨h1, h2⟩ | ⟨g, cap, cur, h1, hb, hg, _⟩
  · omega
  · have hblk : ad.block = g := by cases h1; rfl
    refine (World.cell?_of_block ?_).trans hc
    rw [block_add, hblk]
    exact hw g hb (at_lt hg)
set_option maxRecDepth 100000 in
set_option maxHeartbeats 4000000 in
theorem more_walk (A A' : Option Addr) (n n' c c' : Nat) (l m : List Ins) (w : World) (rd : Rd w w.heap.size 5 A n (pcells l)) (rd' : Rd w w.heap.size 5 A' n' (pcells m)) (hf : ∀ s ∈ l, s.Fits) (hf' : ∀ s ∈ m, s.Fits) (nn : A = none → n = 0) (nn' : A' = none → n' = 0) (hn : n ≤ 300) (hn' : n' ≤ 300) (hok : (checkM l).2 = 0) (hok' : (checkM m).2 = 0) :
    Calls Try.prog 6 #[.slice A n c, .slice A' n' c'] w fun e w' => e = .returned (.bool true) ∧ Below w.heap.size w w' := by
  have hll : l.length = n := rd.prg.1
  have hlm : m.length = n' := rd'.prg.1
  obtain ⟨i0, hi, hz0, hz1, hz2⟩ := info_parts slotInfo
  obtain ⟨i1, hi1, hy0, hy1, hy2⟩ := info_parts intInfo
  have HA := hide (awake_any w)
  have HRD := hide (fun (W : World) (hW : Below w.heap.size w W) => rd.below hW)
  have HRE := hide (fun (W : World) (hW : Below w.heap.size w W) => rd'.below hW)
  have HC := hide (fun (W : World) (hW : Below w.heap.size w W) => check_all A n c w.heap.size l W (rd.below hW) hW.size hf (by omega))
  have HD := hide (fun (W : World) (hW : Below w.heap.size w W) => check_all A' n' c' w.heap.size m W (rd'.below hW) hW.size hf' (by omega))
  have HT := hide (fun (W : World) (hW : Below w.heap.size w W) => targets_any A n c w.heap.size l W (rd.below hW) hW.size hf (by omega))
  have HU := hide (fun (W : World) (hW : Below w.heap.size w W) => targets_any A' n' c' w.heap.size m W (rd'.below hW) hW.size hf' (by omega))
  have hs := small_any A n c
  have hs' := small_any A' n' c'
  have hd300 : decide (n ≤ 300) = true := by simp; omega
  have hd300' : decide (n' ≤ 300) = true := by simp; omega
  rw [hok] at HC
  rw [hok'] at HD
  generalize (checkM l).1 = cx at HC
  generalize (checkM m).1 = cy at HD
  have HP := hide (took_of hok)
  have HQ := hide (took_of hok')
  have HLL := hide hll
  have HLM := hide hlm
  have HF := hide hf
  have HG := hide hf'
  have HN := hide nn
  have HN' := hide nn'
  have HTL : Hid ((targetsM l).length ≤ 300) := Nat.le_trans (targets_le l) (by omega)
  have HUL : Hid ((targetsM m).length ≤ 300) := Nat.le_trans (targets_le m) (by omega)
  have HUI : Hid (∀ y ∈ targetsM m, 0 ≤ y ∧ y < 300) := fun y hy => by have := targets_in y hy; omega
  have HBO : Hid (checkM (l ++ m) = (0, 0)) := both_ok HP.out HQ.out hf hf' (by omega)
  have HBT : Hid (targetsM (l ++ m) = targetsM l ++ (targetsM m).map (fun x : Int => x + (n : Nat))) := by
    have := both_targets HP.out HQ.out hf hf' (by omega)
    rw [hll] at this
    exact this
  clear rd rd' hok hok' hll hlm hf hf' nn nn'
  go_enter Try.func6, Try.ntmps6
  go_wp2_with fail
  refine HA.out.mono ?_
  rintro e w1 ⟨rfl, hb1⟩
  have HB1 := hide hb1
  clear hb1
  go_wp2_with fail
  refine (hs _ (by omega)).mono ?_
  rintro e w' ⟨rfl, rfl⟩
  clear hs
  go_wp2_with fail
  refine (hs' _ (by omega)).mono ?_
  rintro e w' ⟨rfl, rfl⟩
  clear hs'
  go_wp2_with fail
  refine (HC.out _ HB1.out).mono ?_
  rintro e w2 ⟨rfl, hb2⟩
  have HB2 := hide (HB1.out.trans (hb2.mono HB1.out.size))
  clear hb2
  go_wp2_with fail
  refine (HD.out _ HB2.out).mono ?_
  rintro e w3 ⟨rfl, hb3⟩
  have HB3 := hide (HB2.out.trans (hb3.mono HB2.out.size))
  clear hb3 HC HD HA
  have HO3 : Hid ((w3.alloc (.cells #[] 42)).ownsRow 0 42 5 (.slice (some ⟨w3.heap.size, 0, none⟩) 0 0) 0 []) := World.ownsRow_made w3 #[] 0 (Nat.zero_le _) (by simp [maxLen]) rfl
  have HC3 : Hid (Below w3.heap.size w3 (w3.alloc (.cells #[] 42))) := (Below.refl _ w3).alloc (Nat.le_refl _) _
  go_wp2_with (first
    | (at_builtin
       refine wpList_append_rd _ rfl (.tmp 41) (.tmp 42) _ rfl 42 i0 _ 5 12 Try.underlying22 hi hz0 hz1 hz2 rfl (by omega) (.slice (some ⟨w3.heap.size, 0, none⟩) 0 0) 0 [] rfl HO3.out w.heap.size A n c (pcells l) rfl (HRD.out _ (HB3.out.alloc HB3.out.size _)) HN.out (slots_one l) (by simp [maxLen]; omega) (by omega) ?_
       intro v7 w7 hl7
       have HL7 := hide hl7
       have HC7 := hide (longer_below HC3.out (by simp) (by simp [Value.ownBlock]) hl7)
       clear hl7)
    | (at_builtin
       refine wpList_append_rd _ rfl (.tmp 43) (.tmp 44) _ rfl 42 i0 _ 5 12 Try.underlying22 hi hz0 hz1 hz2 rfl (by omega) v7 (0 + n) _ rfl HL7.out.1 w.heap.size A' n' c' (pcells m) rfl (HRE.out _ (HB3.out.trans (HC7.out.mono HB3.out.size))) HN'.out (slots_one m) (by simp [maxLen]; omega) (by omega) ?_
       intro v8 w8 hl8
       have HC8 := hide (longer_below HC7.out HC7.out.size (longer_from HL7.out (by simp) (by simp [Value.ownBlock])) hl8)
       obtain ⟨A8, c8, rfl, hr8⟩ := owns_slice hl8.1
       have HR8 := hide (both_rd hr8)
       have HB8 := hide (HB3.out.trans (HC8.out.mono HB3.out.size))
       clear hl8 hr8)
    | fail)
  have HK := hide (check_all A8 (n + n') c8 w8.heap.size (l ++ m) w8 HR8.out (Nat.le_refl _) (both_fits HF.out HG.out) (by omega))
  rw [HBO.out] at HK
  have HV := hide (fun (W : World) (hW : Below w8.heap.size w8 W) => targets_any A8 (n + n') c8 w8.heap.size (l ++ m) W (HR8.out.below hW) hW.size (both_fits HF.out HG.out) (by omega))
  refine HK.out.mono ?_
  rintro e w9 ⟨rfl, hb9⟩
  have HE9 := hide hb9
  clear hb9 HK
  have HB9 := hide (HB8.out.trans (HE9.out.mono HB8.out.size))
  have HO9 : Hid ((w9.alloc (.cells #[] 3)).ownsRow 0 3 1 (.slice (some ⟨w9.heap.size, 0, none⟩) 0 0) 0 []) := World.ownsRow_made w9 #[] 0 (Nat.zero_le _) (by simp [maxLen]) rfl
  have HC9 : Hid (Below w9.heap.size w9 (w9.alloc (.cells #[] 3))) := (Below.refl _ w9).alloc (Nat.le_refl _) _
  go_wp2_with fail
  refine (HT.out _ (HB9.out.alloc HB9.out.size _)).mono ?_
  rintro e w10 ⟨tv, rfl, hrow, hb10⟩
  obtain ⟨TA, tc, rfl, hTrd⟩ := owns_slice (ownsRow_base_a hrow (Nat.zero_le _))
  have HTR := hide hTrd
  have HO10 := hide ((Stays.of_below (B := 0) hb10).owns HO9.out)
  have HC10 := hide (HC9.out.trans (hb10.mono HC9.out.size))
  have HTN : Hid (TA = none → (targetsM l).length = 0) := by
    intro h
    subst h
    rcases hrow.2 with ⟨h1, h2⟩ | ⟨g, cap, cur, h1, _⟩
    · exact h2
    · simp at h1
  clear hb10 hrow hTrd HT
  go_wp2_with (first
    | (at_builtin
       refine wpList_append_rd _ rfl (.tmp 51) (.tmp 53) _ rfl 3 i1 _ 1 8 Try.underlying35 hi1 hy0 hy1 hy2 rfl (by omega) (.slice (some ⟨w9.heap.size, 0, none⟩) 0 0) 0 [] rfl HO10.out w10.heap.size TA (targetsM l).length tc ((targetsM l).map (Value.int .i64)) rfl HTR.out HTN.out (ints_one _) (by have := HTL.out; simp [maxLen]; omega) (by have := HTL.out; omega) ?_
       intro v11 w11 hl11
       have HO11 := hide hl11.1
       have HC11 := hide (longer_below HC10.out HC10.out.size (by simp [Value.ownBlock]) hl11)
       have HV11 := hide (longer_from hl11 HC10.out.size (by simp [Value.ownBlock]))
       have HB11 := hide (HB9.out.trans (HC11.out.mono HB9.out.size))
       clear hl11)
    | fail)
  refine (HU.out _ HB11.out).mono ?_
  rintro e w12 ⟨tv, rfl, hrow, hb12⟩
  obtain ⟨UA, uc, rfl, hUrd⟩ := owns_slice (ownsRow_base_a hrow (Nat.zero_le _))
  have HUR := hide (fun (W : World) (hW : Below w12.heap.size w12 W) => hUrd.below hW)
  have HUC := hide (row_ints hrow)
  have HO12 : Hid (w12.ownsRow 0 3 1 v11 ((targetsM l).length + 0) ((targetsM l ++ ((targetsM m).take 0).map (fun x : Int => x + (n : Nat))).map (Value.int .i64))) := by
    show w12.ownsRow 0 3 1 v11 ((targetsM l).length + 0) ((targetsM l ++ ((targetsM m).take 0).map (fun x : Int => x + (n : Nat))).map (Value.int .i64))
    have := (Stays.of_below (B := 0) hb12).owns HO11.out
    simpa using this
  have HC12 := hide (HC11.out.trans (hb12.mono HC11.out.size))
  have HS12 := hide hb12.size
  have HV12 : Hid (∀ g, v11.ownBlock = some g → w9.heap.size ≤ g ∧ (g < w11.heap.size ∨ w12.heap.size ≤ g)) := fun g hg => ⟨HV11.out g hg, .inl (World.ownsRow.lt HO11.out g hg).2⟩
  clear hb12 hrow hUrd HU HO11 HV11 HO10 HC10 HO9 HC9
  go_wp2_with fail
  go_loopw [12, 14] (fun v p wr => ∃ k : Nat, k ≤ (targetsM m).length ∧ p = .int .i64 k ∧ wr.ownsRow 0 3 1 v ((targetsM l).length + k) ((targetsM l ++ ((targetsM m).take k).map (fun x : Int => x + (n : Nat))).map (Value.int .i64)) ∧ (∀ g, v.ownBlock = some g → w9.heap.size ≤ g ∧ (g < w11.heap.size ∨ w12.heap.size ≤ g)) ∧ Below w9.heap.size w9 wr ∧ w12.heap.size ≤ wr.heap.size ∧ ∀ b, w11.heap.size ≤ b → b < w12.heap.size → wr.heap[b]? = w12.heap[b]?) (fun _ p _ => (targetsM m).length - (intOf p).toNat)
  case atStart => exact ⟨0, Nat.zero_le _, rfl, HO12.out, HV12.out, HC12.out, Nat.le_refl _, fun _ _ _ => rfl⟩
  case round =>
    obtain ⟨k, hk, rfl, hown, hblk, hbr, hsz, hsame⟩ := hrel
    have HO := hide hown
    have HBK := hide hblk
    have HBR := hide hbr
    have HSZ := hide hsz
    have HSM := hide hsame
    clear hown hblk hbr hsz hsame
    by_cases hlt : k < (targetsM m).length
    · obtain ⟨ad, y, hU, hy, hc⟩ := HUC.out wr HSM.out k hlt
      subst hU
      obtain ⟨y0, y1⟩ := HUI.out y (List.mem_of_getElem? hy)
      have HY := hide hy
      clear hy
      have hu := HUL.out
      have ht := HTL.out
      have HRN : Hid (Rd (wr.alloc (.cells #[.int .i64 (y + n)] 3)) (wr.heap.size + 1) 1 (some ⟨wr.heap.size, 0, none⟩) 1 ([y + (n : Int)].map (Value.int .i64))) := cells_rd wr ([y + (n : Int)].map (Value.int .i64)) 3 1 1 rfl
      go_wp2_with (at_builtin; refine stop_here ?_)
      show Hid _
      refine start_here ?_
      refine wpList_append_rd _ rfl (.tmp 63) (.tmp 71) _ rfl 3 i1 _ 1 8 Try.underlying35 hi1 hy0 hy1 hy2 rfl (by omega) u12 ((targetsM l).length + k) _ rfl (World.ownsRow.alloc HO.out _) (wr.heap.size + 1) (some ⟨wr.heap.size, 0, none⟩) 1 1 ([y + (n : Int)].map (Value.int .i64)) rfl HRN.out (fun h => nomatch h) (ints_one _) (by simp [maxLen]; omega) (by omega) ?_
      intro v13 w13 hl13
      have HO13 : Hid (w13.ownsRow 0 3 1 v13 ((targetsM l).length + (k + 1)) ((targetsM l ++ ((targetsM m).take (k + 1)).map (fun x : Int => x + (n : Nat))).map (Value.int .i64))) := by
        show w13.ownsRow 0 3 1 v13 ((targetsM l).length + (k + 1)) ((targetsM l ++ ((targetsM m).take (k + 1)).map (fun x : Int => x + (n : Nat))).map (Value.int .i64))
        have := hl13.1
        have e : (targetsM l ++ ((targetsM m).take (k + 1)).map (fun x : Int => x + (n : Nat))).map (Value.int .i64) = (targetsM l ++ ((targetsM m).take k).map (fun x : Int => x + (n : Nat))).map (Value.int .i64) ++ [y + (n : Int)].map (Value.int .i64) := by
          rw [List.take_add_one, HY.out]
          simp
        rw [e]
        exact this
      have HB13 := hide (longer_below ((HBR.out.alloc HBR.out.size (.cells #[.int .i64 (y + n)] 3))) (by have := HBR.out.size; simp; omega) (fun g hg => (HBK.out g hg).1) hl13)
      have HZ13 : Hid (wr.heap.size + 1 ≤ w13.heap.size) := by
        show wr.heap.size + 1 ≤ w13.heap.size
        have := hl13.2.1.size
        simpa using this
      have HM13 : Hid (∀ b, w11.heap.size ≤ b → b < w12.heap.size → w13.heap[b]? = w12.heap[b]?) := fun b h1 h2 => by
        have hz := HSZ.out
        refine (hl13.2.1.block b (by simp; omega) (fun e => ?_)).trans ((Below.heap_alloc wr (.cells #[.int .i64 (y + n)] 3) b (by omega)).trans (HSM.out b h1 h2))
        have := (HBK.out b e.symm).2
        omega
      have HV13 : Hid (∀ g, v13.ownBlock = some g → w9.heap.size ≤ g ∧ (g < w11.heap.size ∨ w12.heap.size ≤ g)) := fun g hg => by
        have hz := HSZ.out
        have hz2 := HBR.out.size
        rcases hl13.2.2 with h | h
        · exact HBK.out g (h ▸ hg)
        · rw [h] at hg
          simp at hg
          omega
      clear hl13
      go_wp2_with fail
      go_roundw
      case rel => exact ⟨k + 1, by omega, by go_num, HO13.out, HV13.out, HB13.out, by have := HZ13.out; have := HSZ.out; omega, HM13.out⟩
      case measure => simp [intOf]; omega
    · have hkn : k = (targetsM m).length := by omega
      subst hkn
      have HOB : Hid (wr.ownsRow 0 3 1 u12 (targetsM (l ++ m)).length ((targetsM (l ++ m)).map (Value.int .i64))) := by
        show wr.ownsRow 0 3 1 u12 (targetsM (l ++ m)).length ((targetsM (l ++ m)).map (Value.int .i64))
        have := HO.out
        rw [HBT.out, List.length_append, List.length_map]
        rwa [List.take_length] at this
      have HBLEN : Hid ((targetsM (l ++ m)).length ≤ 600) := by
        show (targetsM (l ++ m)).length ≤ 600
        have := HUL.out
        have := HTL.out
        rw [HBT.out, List.length_append, List.length_map]
        omega
      have HBW := hide (HE9.out.trans (HBR.out.mono HE9.out.size))
      have HBF := hide (HB9.out.trans (HBR.out.mono HB9.out.size))
      clear HO
      generalize hbt : targetsM (l ++ m) = bt at HOB HV HBLEN
      clear hbt
      go_wp2_with fail
      refine (HV.out _ HBW.out).mono ?_
      rintro e w14 ⟨tv, rfl, hrow, hb14⟩
      obtain ⟨TB, tbc, rfl, hTB⟩ := owns_slice (ownsRow_base_a hrow (Nat.zero_le _))
      obtain ⟨WA, wac, rfl, hWA⟩ := owns_slice ((Stays.of_below (B := 0) hb14).owns HOB.out)
      have HB14 := hide (HBF.out.trans (hb14.mono HBF.out.size))
      have HTB := hide hTB
      have HWA := hide hWA
      clear hrow hb14 hTB hWA
      go_wp2_with fail
      refine (sameInts_yes TB WA bt.length tbc wac w14.heap.size bt w14 HTB.out HWA.out (Nat.le_refl _) (by have := HBLEN.out; omega)).mono ?_
      rintro e w15 ⟨rfl, hb15⟩
      have HB15 := hide (HB14.out.trans (hb15.mono HB14.out.size))
      clear hb15
      go_wp2
      go_ret
      exact ⟨rfl, HB15.out⟩
end Go.Proofs.Ytjnmfgkjeofneaa
