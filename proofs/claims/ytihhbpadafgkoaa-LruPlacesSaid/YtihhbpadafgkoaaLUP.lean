/-
  LruPlaces' walk.
-/
import Derived.Test.YtihhbpadafgkoaaLUQ
import Derived.Test.YtihhbpadafgkoaaLUG
namespace Go.Proofs.Ytihhbpadafgkoaa
open Go.RowKit Go.Maps
set_option linter.unusedVariables false
set_option linter.unusedSimpArgs false

theorem below_in {w0 W w' : World} (h : Below w0.heap.size w0 W) (hb : Below W.heap.size W w') : Below w0.heap.size w0 w' := h.trans (hb.mono h.size)
theorem InB.krow {w : World} {B : Nat} {r : ARow} (h : InB w B r) : KRow w B r.A r.n r.bs := ⟨h.rd, h.nil, h.byte⟩
theorem InB.blk {w : World} {B : Nat} {r : ARow} (h : InB w B r) (hn : 0 < r.n) : ∀ ad, r.A = some ad → ad.block < B := fun ad e => by
  obtain ⟨ad2, e2, hb, _⟩ := h.rd.2 hn
  rw [e] at e2
  injection e2 with e2
  subst e2
  exact hb
theorem ADos.nil (w : World) (B : Nat) : ADos w B none 0 [] := ⟨Rd.nil, fun d hd => by cases hd⟩
set_option maxRecDepth 100000 in
set_option maxHeartbeats 4000000 in
theorem law_lruPlaces (k key val ent : Int) (K V : ARow) (QA : Option Addr) (m c : Nat) (rs : List ARow) (w : World) (hk : 0 ≤ k ∧ k < 256) (hK : InB w w.heap.size K) (hV : InB w w.heap.size V) (hq : KRows w w.heap.size QA m rs) (hmc : m ≤ 140737488351232) :
    Calls Try.prog 6 #[.agg #[.int .u8 k, .int .i64 key, .int .i64 val, .int .i64 ent], .slice K.A K.n K.c, .slice V.A V.n V.c, .slice QA m c] w fun e w' => e = .returned (.bool true) ∧ Below w.heap.size w w' := by
  have q0 := World.alloc_heap_new w (.cells #[.int .u8 k, .int .i64 key, .int .i64 val, .int .i64 ent] 24)
  have hb1 := below1 w (.cells #[.int .u8 k, .int .i64 key, .int .i64 val, .int .i64 ent] 24)
  generalize hW1 : w.alloc (.cells #[.int .u8 k, .int .i64 key, .int .i64 val, .int .i64 ent] 24) = W1 at q0 hb1
  replace hW1 := hide hW1
  have HB := hide hb1
  have HC : Hid (∀ W, Below W1.heap.size W1 W → W.cell? ⟨w.heap.size, 0, none⟩ = some (.int .u8 k) ∧ W.cell? ⟨w.heap.size, 1, none⟩ = some (.int .i64 key) ∧ W.cell? ⟨w.heap.size, 2, none⟩ = some (.int .i64 val) ∧ W.cell? ⟨w.heap.size, 3, none⟩ = some (.int .i64 ent)) := hide (fun W hb => by
    have h1 := (hb.block _ (at_lt q0)).trans q0
    refine ⟨?_, ?_, ?_, ?_⟩ <;> (rw [blk_cell h1]; rfl))
  have HK := hide hK
  have HV := hide hV
  have HQ := hide hq
  have hcapK : K.n ≤ 140737488351232 := Nat.le_trans hK.le hK.cap
  have hcapV : V.n ≤ 140737488351232 := Nat.le_trans hV.le hV.cap
  clear q0 hb1 hK hV hq
  go_enter Try.func6, Try.ntmps6
  go_upto_region 1 with fail
  refine Eq.mp (congrArg (Code.wp Try.prog _ _ _) hW1.out.symm) ?_
  go_wp2_with fail
  refine (awake_any W1).mono ?_
  rintro e w2 ⟨rfl, hb⟩
  have HB2 := hide hb
  clear hb
  obtain ⟨s0, s1, s2, s3⟩ := HC.out w2 HB2.out
  go_wp2_with fail
  refine (light_any k key val ent none 0 0 0 [] w2 (ADos.nil _ _) (Nat.zero_le _) (by omega)).mono ?_
  rintro e w3 ⟨bl, rfl, hl, hb⟩
  have HB3 := hide (below_in HB2.out hb)
  have HL := hide hl
  clear hb hl s0 s1 s2 s3
  obtain ⟨s0, s1, s2, s3⟩ := HC.out w3 HB3.out
  have HBW3 := hide (below_in HB.out HB3.out)
  cases bl
  · go_wp2_with fail
    go_ret
    exact ⟨rfl, HBW3.out⟩
  obtain ⟨l1, l2, l3, _⟩ := HL.out rfl
  by_cases h1 : (80 : Int) < (K.n : Int)
  · have d0 : decide ((80 : Int) < (K.n : Int)) = true := decide_eq_true h1
    go_wp2_with fail
    go_ret
    exact ⟨rfl, HBW3.out⟩
  have d0 : decide ((80 : Int) < (K.n : Int)) = false := decide_eq_false h1
  by_cases h2 : (80 : Int) < (V.n : Int)
  · have d1 : decide ((80 : Int) < (V.n : Int)) = true := decide_eq_true h2
    go_wp2_with fail
    go_ret
    exact ⟨rfl, HBW3.out⟩
  have d1 : decide ((80 : Int) < (V.n : Int)) = false := decide_eq_false h2
  by_cases h3 : (60 : Int) < (m : Int)
  · have d2 : decide ((60 : Int) < (m : Int)) = true := decide_eq_true h3
    go_wp2_with fail
    go_ret
    exact ⟨rfl, HBW3.out⟩
  have d2 : decide ((60 : Int) < (m : Int)) = false := decide_eq_false h3
  by_cases h4 : ent ≤ (m : Int)
  · have d3 : decide (ent ≤ (m : Int)) = true := decide_eq_true h4
    go_wp2_with fail
    go_ret
    exact ⟨rfl, HBW3.out⟩
  have d3 : decide (ent ≤ (m : Int)) = false := decide_eq_false h4
  have HN := hide (show K.n ≤ 80 ∧ V.n ≤ 80 ∧ m ≤ 60 ∧ (m : Int) < ent by omega)
  clear h1 h2 h3 h4 l1 l2 l3 HL
  go_wp2_with fail
  clear d0 d1 d2 d3 s0 s1 s2 s3
  by_cases he : newE k key val ent = 0
  case neg =>
    have hne : (newE k key val ent != 0) = true := by simpa using he
    have HNO := hide (new_no k key val ent w3 hk he)
    generalize newE k key val ent = ne at *
    refine HNO.out.mono ?_
    rintro e w4 ⟨rfl, hb⟩
    have HB4 := hide (below_in HBW3.out hb)
    clear hb he
    go_wp2_with fail
    go_ret
    exact ⟨rfl, HB4.out⟩
  case pos =>
    obtain ⟨rfl, hsp, n1, n2, n3, n4, n5, n6⟩ := newE_yes he
    obtain ⟨ks, rfl⟩ : ∃ n : Nat, key = n := ⟨key.toNat, by omega⟩
    obtain ⟨sz, rfl⟩ : ∃ n : Nat, val = n := ⟨val.toNat, by omega⟩
    obtain ⟨n, rfl⟩ : ∃ n : Nat, ent = n := ⟨ent.toNat, by omega⟩
    clear he
    refine (new_yes n ks sz w3 hsp (by omega) (by omega) (by omega)).mono ?_
    rintro e w4 ⟨b, mb, cb, eb, s, rfl, ha, hb⟩
    have hPl := zHSs_len s sz n
    generalize zHSs s sz n = P at ha hPl
    obtain ⟨Bz, hBz⟩ : ∃ Bz, Bz = w3.heap.size := ⟨_, rfl⟩
    rw [← hBz] at ha hb
    have HA := hide ha
    have HPL := hide hPl
    have HB4 : Hid (Below Bz w3 w4) := hide hb
    have HBZ : Hid (w.heap.size ≤ Bz ∧ Bz = w3.heap.size) := hide ⟨by rw [hBz]; exact HBW3.out.size, hBz⟩
    have HBW4 : Hid (Below w.heap.size w w4) := hide (HBW3.out.trans (hb.mono HBZ.out.1))
    have HSZ4 : Hid (Bz ≤ w4.heap.size) := hide (by rw [hBz]; exact (hBz ▸ hb).size)
    clear ha hb hPl hBz hsp
    by_cases hfit : K.n = ks ∧ V.n = sz
    case neg =>
      have HU := hide (upd_bad Bz b mb cb eb ks sz [] P K.A V.A K.n K.c w.heap.size V.n V.c K.bs 1 w4 HA.out ((HK.out.below HBW4.out).krow) hfit)
      clear hfit
      go_wp2_with fail
      refine HU.out.mono ?_
      rintro e w5 ⟨rfl, hb⟩
      have HA5 := hide (HA.out.below hb)
      have HBW5 := hide (below_in HBW4.out hb)
      have HSZ5 : Hid (Bz ≤ w5.heap.size) := hide (Nat.le_trans HSZ4.out hb.size)
      clear hb
      go_wp2_with fail
      refine (look_nil Bz b mb cb eb ks sz P K.A K.n K.c w.heap.size K.bs w5 HA5.out HSZ5.out ((HK.out.below HBW5.out).krow)).mono ?_
      rintro e w6 ⟨rfl, ha, hb⟩
      have HA6 := hide ha
      have HBW6 := hide (HBW5.out.trans (hb.mono HBZ.out.1))
      clear ha hb
      have HKN := hide (keys_none Bz b mb cb eb ks sz P w6 HA6.out)
      by_cases hkn : K.n = ks
      · have e6 : (if K.n = ks then (6 : Int) else 2) = 6 := if_pos hkn
        rw [e6]
        clear hkn e6
        go_wp2_with fail
        refine HKN.out.mono ?_
        rintro e w7 ⟨Ak, ck, rfl, hb⟩
        have HBW7 := hide (below_in HBW6.out hb)
        clear hb
        go_wp2_with fail
        go_ret
        exact ⟨rfl, HBW7.out⟩
      · have e6 : (if K.n = ks then (6 : Int) else 2) = 2 := if_neg hkn
        rw [e6]
        clear hkn e6
        go_wp2_with fail
        refine HKN.out.mono ?_
        rintro e w7 ⟨Ak, ck, rfl, hb⟩
        have HBW7 := hide (below_in HBW6.out hb)
        clear hb
        go_wp2_with fail
        go_ret
        exact ⟨rfl, HBW7.out⟩
    case pos =>
      obtain ⟨hks, hsz⟩ := hfit
      subst hks hsz
      have HVB : Hid (∀ ad, V.A = some ad → ad.block < Bz) := hide (fun ad e2 => by have := HV.out.blk (by omega) ad e2; have := HBZ.out.1; omega)
      have HU := hide (upd_first Bz b mb cb eb K.n V.n P K.A V.A K.c w.heap.size V.c w.heap.size K.bs V.bs w4 HA.out HSZ4.out ((HK.out.below HBW4.out).krow) (HV.out.below HBW4.out).rd HBZ.out.1 HVB.out)
      rw [HPL.out] at HU
      go_wp2_with fail
      refine HU.out.mono ?_
      rintro e w5 ⟨p, rfl, ha, hb⟩
      have HA5 := hide ha
      have HBW5 := hide (HBW4.out.trans (hb.mono HBZ.out.1))
      have HSZ5 : Hid (Bz ≤ w5.heap.size) := hide (Nat.le_trans HSZ4.out hb.size)
      clear ha hb HU HA
      go_wp2_with fail
      refine (look_ps K.A K.c w.heap.size K.bs w5 HA5.out HSZ5.out ((HK.out.below HBW5.out).krow)).mono ?_
      rintro e w6 ⟨rfl, ha, hb⟩
      have HA6 := hide ha
      have HBW6 := hide (HBW5.out.trans (hb.mono HBZ.out.1))
      have HSZ6 : Hid (Bz ≤ w6.heap.size) := hide (Nat.le_trans HSZ5.out hb.size)
      clear ha hb HA5
      go_wp2_with fail
      go_loopw [14] (fun u wr => ∃ i : Nat, i ≤ m ∧ u = .int .i64 i ∧ PS wr Bz b mb cb eb K.n V.n n (kb K.bs) p (i + 1) ∧ Below w.heap.size w wr ∧ Bz ≤ wr.heap.size) (fun u _ => m - (intOf u).toNat)
      case atStart => exact ⟨0, Nat.zero_le _, rfl, HA6.out, HBW6.out, HSZ6.out⟩
      case round =>
        obtain ⟨i, hi, rfl, ha, hb, hz⟩ := hrel
        have HAr := hide ha
        have HBr := hide hb
        have HZr := hide hz
        clear ha hb hz
        have hm60 : m ≤ 60 := HN.out.2.2.1
        by_cases him : i < m
        · have dm : decide ((i : Int) < (m : Int)) = true := decide_eq_true (by omega)
          have i0 : (0 : Int) ≤ (i : Int) := by omega
          have i1 : (i : Int) < (m : Int) := by omega
          have hqr := HQ.out.below HBr.out
          obtain ⟨ad, r, rfl, hr, hc⟩ := hqr.cell him
          have HRR := hide (hqr.inner r (List.mem_of_getElem? hr))
          have hQA : ad.block < w.heap.size := by
            obtain ⟨ad2, e2, hb2, _⟩ := HQ.out.outer.2 (by omega)
            injection e2 with e2
            subst e2
            exact hb2
          have hqc : ∀ W, Below w.heap.size w W → W.cell? (ad.add i) = some (.slice r.A r.n r.c) := fun W hbW => by
            obtain ⟨ad2, r2, e2, hr2, hc2⟩ := (HQ.out.below hbW).cell him
            injection e2 with e2
            subst e2
            rw [hr] at hr2
            injection hr2 with hr2
            subst hr2
            exact hc2
          have HQC := hide hqc
          have hcapr : r.n ≤ 140737488351232 := Nat.le_trans HRR.out.le HRR.out.cap
          clear hqr hr hqc hQA
          by_cases hr80 : (r.n : Int) ≤ 80
          · have dr : decide ((r.n : Int) ≤ 80) = true := decide_eq_true hr80
            have HSM := hide (same_any r.A K.A r.n K.n r.c K.c w.heap.size r.bs K.bs wr HRR.out.rd (HK.out.below HBr.out).rd HBr.out.size (by omega) (by have := HN.out.1; omega))
            generalize decide (r.bs = K.bs) = sm at HSM
            go_wp2_with fail
            refine HSM.out.mono ?_
            rintro e w7 ⟨rfl, hb⟩
            have HA7 := hide (HAr.out.below hb)
            have HB7 := hide (below_in HBr.out hb)
            have HZ7 : Hid (Bz ≤ w7.heap.size) := hide (Nat.le_trans HZr.out hb.size)
            have hc7 := HQC.out w7 HB7.out
            have HR7 := hide (HRR.out.below (hb.mono HBr.out.size))
            clear hb hc
            cases sm
            · have HU := hide (upd_ps r.A V.A r.n r.c w.heap.size V.n V.c w.heap.size r.bs V.bs w7 HA7.out (by have := HN.out.2.2.2; omega) HZ7.out (HR7.out.krow) (HV.out.below HB7.out).rd HBZ.out.1 HV.out.nil HVB.out)
              go_wp2_with fail
              refine HU.out.mono ?_
              rintro e w8 ⟨er, rfl, ha, hb⟩
              have HA8 := hide ha
              have HB8 := hide (HB7.out.trans (hb.mono HBZ.out.1))
              have HZ8 : Hid (Bz ≤ w8.heap.size) := hide (Nat.le_trans HZ7.out hb.size)
              clear ha hb
              go_wp2_with fail
              go_roundw
              case rel => exact ⟨i + 1, by omega, by go_num, HA8.out, HB8.out, HZ8.out⟩
              case measure => simp [intOf]; omega
            · go_wp2_with fail
              go_roundw
              case rel => exact ⟨i + 1, by omega, by go_num, HA7.out.more (by omega), HB7.out, HZ7.out⟩
              case measure => simp [intOf]; omega
          · have dr : decide ((r.n : Int) ≤ 80) = false := decide_eq_false hr80
            go_wp2_with fail
            go_roundw
            case rel => exact ⟨i + 1, by omega, by go_num, HAr.out.more (by omega), HBr.out, HZr.out⟩
            case measure => simp [intOf]; omega
        · obtain rfl : i = m := by omega
          have dm : decide ((i : Int) < (i : Int)) = false := decide_eq_false (by omega)
          go_wp2_with fail
          refine (look_ps K.A K.c w.heap.size K.bs wr HAr.out HZr.out ((HK.out.below HBr.out).krow)).mono ?_
          rintro e w7 ⟨rfl, ha, hb⟩
          have HA7 := hide ha
          have HB7 := hide (HBr.out.trans (hb.mono HBZ.out.1))
          have HZ7 : Hid (Bz ≤ w7.heap.size) := hide (Nat.le_trans HZr.out hb.size)
          clear ha hb
          go_wp2_with fail
          refine (upd_ps2 K.A V.A K.c w.heap.size V.c w.heap.size K.bs V.bs w7 HA7.out HZ7.out ((HK.out.below HB7.out).krow) (HV.out.below HB7.out).rd HBZ.out.1 HVB.out).mono ?_
          rintro e w8 ⟨rfl, ha, hb⟩
          have HA8 := hide ha
          have HB8 := hide (HB7.out.trans (hb.mono HBZ.out.1))
          have HZ8 : Hid (Bz ≤ w8.heap.size) := hide (Nat.le_trans HZ7.out hb.size)
          clear ha hb
          go_wp2_with fail
          refine (look_ps K.A K.c w.heap.size K.bs w8 HA8.out HZ8.out ((HK.out.below HB8.out).krow)).mono ?_
          rintro e w9 ⟨rfl, ha, hb⟩
          have HA9 := hide ha
          have HB9 := hide (HB8.out.trans (hb.mono HBZ.out.1))
          have HZ9 : Hid (Bz ≤ w9.heap.size) := hide (Nat.le_trans HZ8.out hb.size)
          clear ha hb
          go_wp2_with fail
          refine (upd_ps1 K.A V.A K.c w.heap.size V.c K.bs w9 HA9.out HZ9.out ((HK.out.below HB9.out).krow)).mono ?_
          rintro e w10 ⟨rfl, ha, hb⟩
          have HB10 := hide (HB9.out.trans (hb.mono HBZ.out.1))
          clear ha hb
          go_wp2_with fail
          go_ret
          exact ⟨rfl, HB10.out⟩
end Go.Proofs.Ytihhbpadafgkoaa
