/-
  The document's Check, and where it goes on behind an instruction.
-/
import Derived.Test.YtjnmfgkjeofneaaQ4
import Derived.Test.YtjnmfgkjeofneaaQ5
namespace Go.Proofs.Ytjnmfgkjeofneaa
open Go.RowKit Go.Maps
set_option linter.unusedVariables false

def lastIx (l : List Ins) (k : Nat) : Nat := ((preL l k).getLast?.map (·.1)).getD 0
theorem lastIx_no {l : List Ins} {k : Nat} (h : preL l (k + 1) = preL l k) : lastIx l (k + 1) = lastIx l k := by unfold lastIx; rw [h]
theorem lastIx_yes {l : List Ins} {k : Nat} {s : Ins} (h : preL l (k + 1) = preL l k ++ [(k, s)]) : lastIx l (k + 1) = k := by unfold lastIx; rw [h]; simp
theorem lastIx_at {l : List Ins} (h : 0 < l.length) : lastIx l l.length < l.length ∧ (lastIx l l.length, lastOf (fsts 0 false l)) ∈ fsts 0 false l := by
  unfold lastIx lastOf
  rw [pre_all]
  have hne : fsts 0 false l ≠ [] := by
    match l, h with
    | x :: r, _ => simp [fsts]
  rw [List.getLast?_eq_some_getLast hne]
  have hm := List.getLast_mem hne
  refine ⟨?_, ?_⟩
  · have := (fsts_mem _ _ _ _ hm).2.1
    simpa using this
  · exact hm
theorem first_here {l : List Ins} {k : Nat} {s : Ins} (hs : l[k]? = some s) (hf : firstAt l k = true) : preL l (k + 1) = preL l k ++ [(k, s)] ∧ (k, s) ∈ fsts 0 false l := by
  have hk := (List.getElem?_eq_some_iff.1 hs).1
  exact pre_yes (by rw [firstAt_is hk, hf]) hs
theorem first_not {l : List Ins} {k : Nat} (hk : k < l.length) (hf : firstAt l k = false) : preL l (k + 1) = preL l k := pre_no (by rw [firstAt_is hk, hf])

set_option maxRecDepth 100000 in
set_option maxHeartbeats 4000000 in
theorem check_doc (A : Option Addr) (n c B : Nat) (l : List Ins) (w : World) (h : Rd w B 5 A n (pcells l)) (hB : B ≤ w.heap.size) (hn : n ≤ 4096) (hn0 : 0 < n) (hf : ∀ s ∈ l, s.Fits) :
    Calls Try.prog 11 #[.slice A n c] w fun e w' => e = .returned (.tuple #[.int .i64 (checkL l).1, .int .i64 (checkL l).2]) ∧ Below w.heap.size w w' := by
  have hll : l.length = n := h.prg.1
  have hd0 : ((n : Int) == 0) = false := by simp; omega
  have hd1 : decide (4096 < (n : Int)) = false := by simp; omega
  have HLL := hide hll
  have HH := hide h
  have HF := hide hf
  have HFR := hide (firsts_ref A n c B l w h hB hn)
  clear hll h hf
  go_enter Try.func11, Try.ntmps11
  go_wp2_with fail
  refine HFR.out.mono ?_
  rintro e w1 ⟨rfl, hbo, hb1⟩
  have HBO := hide hbo
  have HB1 := hide hb1
  clear hbo hb1 HFR
  go_wp2_with fail
  go_loopw [5, 6] (fun la p wr => ∃ k : Nat, k ≤ n ∧ p = .int .i64 k ∧ la = .int .i64 (lastIx l k : Nat) ∧ AllFine l (preL l k) ∧ Bools wr w.heap.size n (fun i => firstAt l i) ∧ Below w.heap.size w wr) (fun _ p _ => n - (intOf p).toNat)
  case atStart => exact ⟨0, by omega, rfl, by simp [lastIx, pre_zero], fun p hp => by rw [pre_zero] at hp; simp at hp, HBO.out, HB1.out⟩
  case round =>
    obtain ⟨k, hk, rfl, rfl, haf, hbo, hb⟩ := hrel
    have HA := hide haf
    have HO := hide hbo
    have HB := hide hb
    clear haf hbo hb HBO HB1
    by_cases hlt : k < n
    · obtain ⟨s, hs⟩ : ∃ s, l[k]? = some s := ⟨_, List.getElem?_eq_getElem (by rw [HLL.out]; exact hlt)⟩
      have HS := hide hs
      have hc := HO.out.cell hlt
      have hd : decide ((k : Int) < (n : Int)) = true := by simp; omega
      have hd2 : decide (k < n) = true := by simp; omega
      clear hs
      cases hfk : firstAt l k
      · rw [hfk] at hc
        have HN := hide (first_not (l := l) (k := k) (by rw [HLL.out]; exact hlt) hfk)
        clear hfk
        go_wp2
        go_roundw
        case rel => exact ⟨k + 1, by omega, by go_num, by rw [lastIx_no HN.out], by rw [HN.out]; exact HA.out, HO.out, HB.out⟩
        case measure => simp [intOf]; omega
      · rw [hfk] at hc
        have HN := hide (first_here HS.out hfk)
        have HOne := hide (one_ref A n c B k w.heap.size l s wr (HH.out.below (HB.out.mono hB)) (Nat.le_trans hB HB.out.size) hn HS.out (HF.out s (List.mem_of_getElem? HS.out)) (fun j hj => HO.out.cell hj))
        clear hfk
        by_cases he : errM l (k, s) = 0
        · rw [he] at HOne
          have HE := hide he
          clear he
          go_wp2_with fail
          refine HOne.out.mono ?_
          rintro e w2 ⟨rfl, hb2⟩
          have HB2 := hide hb2
          clear hb2
          go_wp2
          go_roundw
          case rel =>
            refine ⟨k + 1, by omega, by go_num, by rw [lastIx_yes HN.out.1], ?_, HO.out.below HB2.out, HB.out.trans (HB2.out.mono HB.out.size)⟩
            rw [HN.out.1]
            intro p hp
            rw [List.mem_append, List.mem_singleton] at hp
            rcases hp with hp | rfl
            · exact HA.out p hp
            · rw [HE.out]; rfl
          case measure => simp [intOf]; omega
        · have HC : Hid (checkL l = ((k : Int), errM l (k, s))) := by
            show checkL l = _
            unfold checkL
            have hpre : preL l k ++ [(k, s)] <+: fsts 0 false l := by rw [← HN.out.1]; exact pre_is l (k + 1)
            rw [find_at hpre HA.out (by simpa using he)]
          have hne : (errM l (k, s) == 0) = false := by simpa using he
          have hne2 : (errM l (k, s) != 0) = true := by simpa using he
          generalize errM l (k, s) = ee at *
          clear he
          go_wp2_with fail
          refine HOne.out.mono ?_
          rintro e w2 ⟨rfl, hb2⟩
          have HB2 := hide hb2
          clear hb2
          go_wp2
          go_ret2
          exact ⟨by rw [HC.out]; rfl, HB.out.trans (HB2.out.mono HB.out.size)⟩
    · have hkn : k = n := by omega
      subst hkn
      have hd : decide ((k : Int) < (k : Int)) = false := by simp
      have hd2 : decide (k < k) = false := by simp
      have hlast := lastIx_at (l := l) (by rw [HLL.out]; exact hn0)
      rw [HLL.out] at hlast
      have HM := hide hlast.2
      have hlx := hlast.1
      have hx := (fsts_mem _ _ _ _ hlast.2).2.2
      simp only [Nat.sub_zero] at hx
      have HAF : Hid (AllFine l (fsts 0 false l)) := by
        have := HA.out
        rw [← HLL.out, pre_all] at this
        exact this
      generalize hls : lastOf (fsts 0 false l) = ls at *
      generalize lastIx l k = lx at *
      obtain ⟨ad, ls', rfl, hl', c0, c1, c2, c3, c4⟩ := (HH.out.below (HB.out.mono hB)).slot hlx
      rw [hx] at hl'
      cases hl'
      have HX := hide hx
      have HLS := hide hls
      have hop := (HF.out ls (List.mem_of_getElem? hx)).op
      have hfine := HAF.out _ HM.out
      have hisb : isB (clsI ls.op) ls.op = true := by
        have h0 : errM l (lx, ls) = 0 := by simpa using hfine
        unfold errM faultM at h0
        exact (faultE_zero h0).1
      have hj := (jumps_is ls.op hop hisb).2.2
      obtain ⟨op, dst, src, off, imm⟩ := ls
      simp only at c0 c1 c2 c3 c4 hj hop
      have HJ := hide hj
      have HCL : Hid (checkL l = if goesB op then ((k : Int) - 1, 24) else (0, 0)) := by
        show checkL l = _
        unfold checkL
        rw [find_none HAF.out]
        simp only [HLS.out]
        rw [HLL.out]
      replace c0 := Later.cell c0
      replace c1 := Later.cell c1
      replace c2 := Later.cell c2
      replace c3 := Later.cell c3
      replace c4 := Later.cell c4
      have hC := hide (fun w => class_any op dst src off imm w)
      have hH := hide (fun w => hi_any op dst src off imm w)
      have hdl : decide (lx < k) = true := by simp; omega
      clear hlast hx hls hfine hisb hj hop HAF HX HLS HM
      generalize clsI op = cc at *
      generalize hiI op = oo at *
      cases hgo : goesB op
      · rw [hgo] at HJ HCL
        have hcase := HJ.out.2 rfl
        have HCA := hide hcase
        clear hgo hcase HJ
        go_wp2
        refine wp_region_later (by kernel_rfl) (by kernel_rfl) ?_
        repeat (go_big_quiet_step ((first | exact Later.calls _ hC.out | exact Later.calls _ hH.out)))
        refine wpQuiet_nil ?_
        rintro _ ⟨x, rfl⟩
        have HX := hide (HB.out.trans (x.below.mono HB.out.size))
        go_wp2
        all_goals
          go_ret2
          refine ⟨?_, HX.out⟩
          try simp only [beq_iff_eq, beq_eq_false_iff_ne, bne_iff_ne, bne_eq_false_iff_eq, ne_eq] at *
          have hcase := HCA.out
          first
            | (rw [HCL.out]; rfl)
            | (exfalso; omega)
      · rw [hgo] at HJ HCL
        have hcase : ¬ _ := fun h => absurd (HJ.out.1 h) (by simp)
        have HCA := hide hcase
        clear hgo hcase HJ
        go_wp2
        refine wp_region_later (by kernel_rfl) (by kernel_rfl) ?_
        repeat (go_big_quiet_step ((first | exact Later.calls _ hC.out | exact Later.calls _ hH.out)))
        refine wpQuiet_nil ?_
        rintro _ ⟨x, rfl⟩
        have HX := hide (HB.out.trans (x.below.mono HB.out.size))
        go_wp2
        all_goals
          go_ret2
          refine ⟨?_, HX.out⟩
          try simp only [beq_iff_eq, beq_eq_false_iff_ne, bne_iff_ne, bne_eq_false_iff_eq, ne_eq] at *
          have hcase := HCA.out
          first
            | (rw [HCL.out]; rfl)
            | (exfalso; omega)
end Go.Proofs.Ytjnmfgkjeofneaa
