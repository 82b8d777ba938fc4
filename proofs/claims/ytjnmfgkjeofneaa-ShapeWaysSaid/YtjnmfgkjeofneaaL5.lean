/-
  The law's walk: whichever ways are gone.
-/
import Derived.Test.YtjnmfgkjeofneaaL5a
namespace Go.Proofs.Ytjnmfgkjeofneaa
open Go.RowKit
set_option linter.unusedVariables false

theorem wide_next {l : List Ins} {p : Nat × Ins} (h : Fine l p) (h24 : p.2.op = 24) : jumpI p = -1 ∧ slotsN p.2.op = 2 := by
  constructor
  · unfold jumpI
    have : targetB p.2 = false := by
      unfold targetB
      rw [h24]
      decide +kernel
    rw [this]
    rfl
  · unfold slotsN; rw [if_pos h24]
/-- Where an instruction goes on stands no second slot of its own. -/
theorem to_ok {l : List Ins} {p q : Nat × Ins} (hf : Fine l p) (hq : q ∈ fsts 0 false l) (hto : ((q.1 : Int) = nextI p ∧ q.1 = p.1 + slotsN p.2.op) ∨ (q.1 : Int) = jumpI p) (s2 : Ins) (hl : l[q.1 - 1]? = some s2) (hz : 0 < q.1) (h24 : s2.op = 24) : q.1 ≠ p.1 + 1 := by
  intro e
  obtain ⟨h0, h1, h2⟩ := fsts_mem _ _ _ _ hf.mem
  have : s2 = p.2 := by
    rw [show q.1 - 1 = p.1 - 0 by omega, h2] at hl
    injection hl with hl
    exact hl.symm
  rw [this] at h24
  obtain ⟨a, b⟩ := wide_next hf h24
  rcases hto with ⟨_, h⟩ | h
  · omega
  · omega
set_option maxRecDepth 100000 in
set_option maxHeartbeats 4000000 in
theorem ways_walk (A A' : Option Addr) (n n' c c' : Nat) (l : List Ins) (bl : List Bool) (w : World) (rd : Rd w w.heap.size 5 A n (pcells l)) (rd' : Rd w w.heap.size 1 A' n' (bl.map Value.bool)) (hf : ∀ s ∈ l, s.Fits) (hn : n ≤ 300) (hn' : n' ≤ 600) (hok : (checkM l).2 = 0) :
    Calls Try.prog 5 #[.slice A n c, .slice A' n' c'] w fun e w' => e = .returned (.bool true) ∧ Below w.heap.size w w' := by
  have hll : l.length = n := rd.prg.1
  have HA := hide (awake_any w)
  have HRD := hide (fun (W : World) (hW : Below w.heap.size w W) => rd.below hW)
  have HRB := hide (fun (W : World) (hW : Below w.heap.size w W) => rd'.below hW)
  have hC := check_all A n c w.heap.size l
  have HC := hide (fun (W : World) (hW : Below w.heap.size w W) => check_all A n c w.heap.size l W (rd.below hW) hW.size hf (by omega))
  have HT := hide (fun (W : World) (hW : Below w.heap.size w W) => targets_any A n c w.heap.size l W (rd.below hW) hW.size hf (by omega))
  have HN := hide (fun (W : World) (hW : Below w.heap.size w W) (at' : Int) => next_any A n c w.heap.size l at' W (rd.below hW) hW.size hf (by omega))
  have hs := small_any A n c
  have hd300 : decide (n ≤ 300) = true := by simp; omega
  rw [hok] at HC
  generalize (checkM l).1 = cx at HC
  have hblen : bl.length = n' := by have := rd'.1; simpa using this
  have HOK := hide hok
  have HLL := hide hll
  have HBL := hide hblen
  clear rd rd' hC hok hll hblen
  go_enter Try.func5, Try.ntmps5
  go_wp2_with fail
  refine HA.out.mono ?_
  rintro e w1 ⟨rfl, hb1⟩
  have HB1 := hide hb1
  clear hb1
  go_wp2_with fail
  refine (hs _ (by omega)).mono ?_
  rintro e w' ⟨rfl, rfl⟩
  clear hs
  have hd600 : decide (600 < (n' : Int)) = false := by simp; omega
  go_wp2_with fail
  refine (HC.out _ HB1.out).mono ?_
  rintro e w2 ⟨rfl, hb2⟩
  have HB2 := hide (HB1.out.trans (hb2.mono HB1.out.size))
  clear hb2
  go_wp2_with fail
  refine (HT.out _ HB2.out).mono ?_
  rintro e w3 ⟨tv, rfl, hrow, hb3⟩
  have HB3 := hide (HB2.out.trans (hb3.mono HB2.out.size))
  obtain ⟨TA, tc, rfl, hTrd⟩ := owns_slice (ownsRow_base_a hrow (Nat.zero_le _))
  have HTR := hide (fun (W : World) (hW : Below w3.heap.size w3 W) => hTrd.below hW)
  clear hb3 hrow hTrd HC HT HA
  obtain ⟨n0, n1⟩ := check_ok HOK.out
  have hl0 := HLL.out
  have hTL : (targetsM l).length ≤ 300 := Nat.le_trans (targets_le l) (by omega)
  obtain ⟨p0, hp0, hp01⟩ := fsts_head 0 l (by omega)
  obtain ⟨k0, s0⟩ := p0
  simp only at hp01
  subst hp01
  go_wp2_with fail
  go_loopw [8, 9] (fun a i wr => ∃ (j k : Nat) (s : Ins), j ≤ n' ∧ i = .int .i64 j ∧ a = .int .i64 k ∧ (k, s) ∈ fsts 0 false l ∧ Below w3.heap.size w3 wr) (fun _ i _ => n' - (intOf i).toNat)
  case atStart => exact ⟨0, 0, s0, by omega, rfl, rfl, hp0, Below.refl _ _⟩
  case round =>
    obtain ⟨j, k, s, hj, rfl, rfl, hps, hbk⟩ := hrel
    have HPS := hide hps
    have HBK := hide hbk
    have z3 := HB3.out.size
    clear hps hbk hp0
    by_cases hlt : j < n'
    · have HF := hide (fine_of HOK.out HPS.out)
      have HBW := hide (HB3.out.trans (HBK.out.mono z3))
      have hnx := HN.out wr HBW.out (k : Int)
      rw [next_at HOK.out HPS.out] at hnx
      simp only at hnx
      have HNX := hide hnx
      obtain ⟨m0, m1, m2⟩ := fsts_mem _ _ _ _ HPS.out
      simp only at m1 m2
      have hkn : k < n := by omega
      obtain ⟨adB, ub, hAB, hub, cub⟩ : ∃ (ad : Addr) (ub : Bool), A' = some ad ∧ bl[j]? = some ub ∧ ∀ W, Below w.heap.size w W → W.cell? (ad.add j) = some (.bool ub) := by
        obtain ⟨ad, e, _, _⟩ := (HRB.out w (Below.refl _ _)).2 (by omega)
        have hjl : j < bl.length := by have := HBL.out; omega
        refine ⟨ad, bl[j], e, List.getElem?_eq_getElem hjl, fun W hW => ?_⟩
        obtain ⟨ad', e', _, hc⟩ := (HRB.out W hW).2 (by omega)
        rw [e] at e'
        cases e'
        exact hc j _ (by simp [List.getElem?_eq_getElem hjl])
      subst hAB
      have CUB := hide cub
      clear hnx m0 m1 cub hub
      have HM2 := hide m2
      clear m2
      have hfin := HF.out
      rcases HF.out.next with hn1 | ⟨q, hq, hqe, hqs⟩
      · rcases HF.out.jump with hj1 | ⟨q, hq, hqe⟩
        · -- it stops
          have h149 := HF.out.stops hn1 hj1
          simp only at h149
          rw [hn1, hj1] at HNX
          have hop : s.op = 149 := h149
          have HOP := hide hop
          clear hfin hop h149
          go_wp2_with fail
          refine HNX.out.mono ?_
          rintro e w4 ⟨rfl, hb4⟩
          have HBV := hide (HBW.out.trans (hb4.mono HBW.out.size))
          have HB4 := hide (HBK.out.trans (hb4.mono HBK.out.size))
          clear hb4 HNX
          obtain ⟨ad1, s1, e1, hl1, d0, d1, d2, d3, d4⟩ := (HRD.out w4 HBV.out).slot hkn
          have hs1 : s1 = s := by
            have := HM2.out
            rw [show k - 0 = k by omega, hl1] at this
            injection this
          subst hs1
          cases e1
          have hop2 : (s1.op == 149) = true := by rw [HOP.out]; rfl
          clear hl1 d1 d2 d3 d4
          go_wp2
          go_ret
          exact ⟨by simp [HOP.out], HBV.out⟩
        · -- it jumps
          rw [hn1, ← hqe] at HNX
          have TOK := hide (to_ok HF.out hq (.inr hqe))
          have JEQ := hide hqe
          clear hfin hqe hn1
          obtain ⟨qk, qs⟩ := q
          simp only at HNX JEQ
          go_wp2_with fail
          refine HNX.out.mono ?_
          rintro e w4 ⟨rfl, hb4⟩
          have HBV := hide (HBW.out.trans (hb4.mono HBW.out.size))
          have HB4 := hide (HBK.out.trans (hb4.mono HBK.out.size))
          clear hb4 HNX
          have HMEM := hide (show (qk : Int) ∈ targetsM l from by rw [JEQ.out]; exact jump_told HOK.out HPS.out (by rw [← JEQ.out]; omega))
          go_wp2_with fail
          go_loop [13, 14] (fun b p => ∃ i : Nat, i ≤ (targetsM l).length ∧ p = .int .i64 i ∧ b = .bool (decide ((qk : Int) ∈ (targetsM l).take i))) (fun _ p => (targetsM l).length - (intOf p).toNat)
          case atStart => exact ⟨0, by omega, rfl, by simp⟩
          case round =>
            obtain ⟨i, hi, rfl, rfl⟩ := hrel
            by_cases hlt2 : i < (targetsM l).length
            · obtain ⟨adT, y, hAT, hy, cT⟩ : ∃ (ad : Addr) (y : Int), TA = some ad ∧ (targetsM l)[i]? = some y ∧ w4.cell? (ad.add i) = some (.int .i64 y) := by
                obtain ⟨ad, e, _, hc⟩ := (HTR.out w4 HB4.out).2 (by omega)
                exact ⟨ad, (targetsM l)[i], e, List.getElem?_eq_getElem hlt2, hc i _ (by simp [List.getElem?_eq_getElem hlt2])⟩
              have HTK := hide (take_mem (x := (qk : Int)) hy)
              have HY := hide hy
              clear hy
              subst hAT
              cases hm : decide ((qk : Int) ∈ (targetsM l).take i)
              · rw [hm] at HTK
                clear hm
                by_cases hyq : y = (qk : Int)
                · have hyq2 : (y == (qk : Int)) = true := by simpa using hyq
                  have HYQ := hide hyq2
                  subst hyq
                  go_wp2
                  go_round
                  case rel => exact ⟨i + 1, by omega, by go_num, by rw [HTK.out, HYQ.out]; rfl⟩
                  case measure => simp [intOf]; omega
                · have hyq2 : (y == (qk : Int)) = false := by simpa using hyq
                  have HYQ := hide hyq2
                  go_wp2
                  go_round
                  case rel => exact ⟨i + 1, by omega, by go_num, by rw [HTK.out, HYQ.out]; rfl⟩
                  case measure => simp [intOf]; omega
              · rw [hm] at HTK
                clear hm
                go_wp2
                go_round
                case rel => exact ⟨i + 1, by omega, by go_num, by rw [HTK.out]; rfl⟩
                case measure => simp [intOf]; omega
            · have hit : i = (targetsM l).length := by omega
              have hmm : decide ((qk : Int) ∈ (targetsM l).take i) = true := by
                rw [hit, List.take_length]
                simpa using HMEM.out
              subst hit
              rw [hmm]
              clear hmm
              have HQ := hide (fine_of HOK.out hq)
              obtain ⟨q0, q1, q2⟩ := fsts_mem _ _ _ _ hq
              simp only at q0 q1 q2 HQ TOK
              have hqm : qk < n := by omega
              have hqm2 : decide (n ≤ qk) = false := by simp; omega
              obtain ⟨ad1, s1, e1, hl1, d0, d1, d2, d3, d4⟩ := (HRD.out _ HBV.out).slot hqm
              have hs1 : s1 = qs := by rw [show qk - 0 = qk by omega, hl1] at q2; injection q2
              subst hs1
              subst e1
              have hop : (s1.op == 0) = false := by simpa using HQ.out.op
              have HQM := hide hq
              clear d1 d2 d3 d4 hl1 q2 HQ q0 q1 hq
              by_cases hz : qk = 0
              · subst hz
                have d0' : w4.cell? ad1 = some (.int .u8 s1.op) := by
                  have e : ad1.add (0 * 5) = ad1 := by unfold Addr.add; rw [if_pos rfl]
                  rw [e] at d0
                  exact d0
                clear TOK d0
                go_wp2
                go_roundw
                case rel => exact ⟨j + 1, 0, s1, by omega, by go_num, rfl, HQM.out, HB4.out⟩
                case measure => simp [intOf]; omega
              · obtain ⟨ad2, s2, e2, hl2, f0, f1, f2, f3, f4⟩ := (HRD.out _ HBV.out).slot (k := qk - 1) (by omega)
                cases e2
                have hz1 : 0 < qk := by omega
                have hz2 : decide (0 < (qk : Int)) = true := by simp; omega
                by_cases h24 : s2.op = 24
                · have hne : ((qk : Int) == (k : Int) + 1) = false := by
                    have := TOK.out s2 hl2 hz1 h24
                    simp; omega
                  clear f1 f2 f3 f4 hl2 TOK
                  go_wp2
                  go_roundw
                  case rel => exact ⟨j + 1, qk, s1, by omega, by go_num, rfl, HQM.out, HB4.out⟩
                  case measure => simp [intOf]; omega
                · have hne : (s2.op == 24) = false := by simpa using h24
                  clear f1 f2 f3 f4 hl2 TOK
                  go_wp2
                  go_roundw
                  case rel => exact ⟨j + 1, qk, s1, by omega, by go_num, rfl, HQM.out, HB4.out⟩
                  case measure => simp [intOf]; omega

      · rcases HF.out.jump with hj1 | ⟨q', hq', hqe'⟩
        · -- it goes on alone
          rw [hj1, ← hqe] at HNX
          have TOK := hide (to_ok HF.out hq (.inl ⟨hqe, hqs⟩))
          clear hfin hqs hqe hj1
          obtain ⟨qk, qs⟩ := q
          simp only at HNX
          go_wp2_with fail
          refine HNX.out.mono ?_
          rintro e w4 ⟨rfl, hb4⟩
          have HBV := hide (HBW.out.trans (hb4.mono HBW.out.size))
          have HB4 := hide (HBK.out.trans (hb4.mono HBK.out.size))
          clear hb4 HNX
          have HQ := hide (fine_of HOK.out hq)
          obtain ⟨q0, q1, q2⟩ := fsts_mem _ _ _ _ hq
          simp only at q0 q1 q2 HQ TOK
          have hqm : qk < n := by omega
          have hqm2 : decide (n ≤ qk) = false := by simp; omega
          obtain ⟨ad1, s1, e1, hl1, d0, d1, d2, d3, d4⟩ := (HRD.out _ HBV.out).slot hqm
          have hs1 : s1 = qs := by rw [show qk - 0 = qk by omega, hl1] at q2; injection q2
          subst hs1
          subst e1
          have hop : (s1.op == 0) = false := by simpa using HQ.out.op
          have HQM := hide hq
          clear d1 d2 d3 d4 hl1 q2 HQ q0 q1 hq
          by_cases hz : qk = 0
          · subst hz
            have d0' : w4.cell? ad1 = some (.int .u8 s1.op) := by
              have e : ad1.add (0 * 5) = ad1 := by unfold Addr.add; rw [if_pos rfl]
              rw [e] at d0
              exact d0
            clear TOK d0
            go_wp2
            go_roundw
            case rel => exact ⟨j + 1, 0, s1, by omega, by go_num, rfl, HQM.out, HB4.out⟩
            case measure => simp [intOf]; omega
          · obtain ⟨ad2, s2, e2, hl2, f0, f1, f2, f3, f4⟩ := (HRD.out _ HBV.out).slot (k := qk - 1) (by omega)
            cases e2
            have hz1 : 0 < qk := by omega
            have hz2 : decide (0 < (qk : Int)) = true := by simp; omega
            by_cases h24 : s2.op = 24
            · have hne : ((qk : Int) == (k : Int) + 1) = false := by
                have := TOK.out s2 hl2 hz1 h24
                simp; omega
              clear f1 f2 f3 f4 hl2 TOK
              go_wp2
              go_roundw
              case rel => exact ⟨j + 1, qk, s1, by omega, by go_num, rfl, HQM.out, HB4.out⟩
              case measure => simp [intOf]; omega
            · have hne : (s2.op == 24) = false := by simpa using h24
              clear f1 f2 f3 f4 hl2 TOK
              go_wp2
              go_roundw
              case rel => exact ⟨j + 1, qk, s1, by omega, by go_num, rfl, HQM.out, HB4.out⟩
              case measure => simp [intOf]; omega
        · -- it may do both
          have TOK := hide (to_ok HF.out hq (.inl ⟨hqe, hqs⟩))
          have TOK' := hide (to_ok HF.out hq' (.inr hqe'))
          have JEQ' := hide hqe'
          rw [← hqe, ← hqe'] at HNX
          clear hfin hqe hqs hqe'
          obtain ⟨qk, qs⟩ := q
          obtain ⟨qk', qs'⟩ := q'
          simp only at HNX JEQ'
          go_wp2_with fail
          refine HNX.out.mono ?_
          rintro e w4 ⟨rfl, hb4⟩
          have HBV := hide (HBW.out.trans (hb4.mono HBW.out.size))
          have HB4 := hide (HBK.out.trans (hb4.mono HBK.out.size))
          clear hb4 HNX
          have cu := CUB.out w4 HBV.out
          cases ub
          · clear hq' TOK' JEQ'
            have HQ := hide (fine_of HOK.out hq)
            obtain ⟨q0, q1, q2⟩ := fsts_mem _ _ _ _ hq
            simp only at q0 q1 q2 HQ TOK
            have hqm : qk < n := by omega
            have hqm2 : decide (n ≤ qk) = false := by simp; omega
            obtain ⟨ad1, s1, e1, hl1, d0, d1, d2, d3, d4⟩ := (HRD.out _ HBV.out).slot hqm
            have hs1 : s1 = qs := by rw [show qk - 0 = qk by omega, hl1] at q2; injection q2
            subst hs1
            subst e1
            have hop : (s1.op == 0) = false := by simpa using HQ.out.op
            have HQM := hide hq
            clear d1 d2 d3 d4 hl1 q2 HQ q0 q1 hq
            by_cases hz : qk = 0
            · subst hz
              have d0' : w4.cell? ad1 = some (.int .u8 s1.op) := by
                have e : ad1.add (0 * 5) = ad1 := by unfold Addr.add; rw [if_pos rfl]
                rw [e] at d0
                exact d0
              clear TOK d0
              go_wp2
              go_roundw
              case rel => exact ⟨j + 1, 0, s1, by omega, by go_num, rfl, HQM.out, HB4.out⟩
              case measure => simp [intOf]; omega
            · obtain ⟨ad2, s2, e2, hl2, f0, f1, f2, f3, f4⟩ := (HRD.out _ HBV.out).slot (k := qk - 1) (by omega)
              cases e2
              have hz1 : 0 < qk := by omega
              have hz2 : decide (0 < (qk : Int)) = true := by simp; omega
              by_cases h24 : s2.op = 24
              · have hne : ((qk : Int) == (k : Int) + 1) = false := by
                  have := TOK.out s2 hl2 hz1 h24
                  simp; omega
                clear f1 f2 f3 f4 hl2 TOK
                go_wp2
                go_roundw
                case rel => exact ⟨j + 1, qk, s1, by omega, by go_num, rfl, HQM.out, HB4.out⟩
                case measure => simp [intOf]; omega
              · have hne : (s2.op == 24) = false := by simpa using h24
                clear f1 f2 f3 f4 hl2 TOK
                go_wp2
                go_roundw
                case rel => exact ⟨j + 1, qk, s1, by omega, by go_num, rfl, HQM.out, HB4.out⟩
                case measure => simp [intOf]; omega
          · clear hq TOK
            have TOK := TOK'
            have JEQ := JEQ'
            have hq := hq'
            clear TOK' JEQ' hq'
            obtain ⟨qk0, hqk0⟩ : ∃ z, z = qk := ⟨_, rfl⟩
            rw [← hqk0]
            clear hqk0 qk
            obtain ⟨qk, hqk⟩ : ∃ z, z = qk' := ⟨_, rfl⟩
            rw [← hqk] at hq TOK JEQ ⊢
            obtain ⟨qs, hqs'⟩ : ∃ z, z = qs' := ⟨_, rfl⟩
            rw [← hqs'] at hq
            clear hqk hqs'
            have HMEM := hide (show (qk : Int) ∈ targetsM l from by rw [JEQ.out]; exact jump_told HOK.out HPS.out (by rw [← JEQ.out]; omega))
            go_wp2_with fail
            go_loop [13, 14] (fun b p => ∃ i : Nat, i ≤ (targetsM l).length ∧ p = .int .i64 i ∧ b = .bool (decide ((qk : Int) ∈ (targetsM l).take i))) (fun _ p => (targetsM l).length - (intOf p).toNat)
            case atStart => exact ⟨0, by omega, rfl, by simp⟩
            case round =>
              obtain ⟨i, hi, rfl, rfl⟩ := hrel
              by_cases hlt2 : i < (targetsM l).length
              · obtain ⟨adT, y, hAT, hy, cT⟩ : ∃ (ad : Addr) (y : Int), TA = some ad ∧ (targetsM l)[i]? = some y ∧ w4.cell? (ad.add i) = some (.int .i64 y) := by
                  obtain ⟨ad, e, _, hc⟩ := (HTR.out w4 HB4.out).2 (by omega)
                  exact ⟨ad, (targetsM l)[i], e, List.getElem?_eq_getElem hlt2, hc i _ (by simp [List.getElem?_eq_getElem hlt2])⟩
                have HTK := hide (take_mem (x := (qk : Int)) hy)
                have HY := hide hy
                clear hy
                subst hAT
                cases hm : decide ((qk : Int) ∈ (targetsM l).take i)
                · rw [hm] at HTK
                  clear hm
                  by_cases hyq : y = (qk : Int)
                  · have hyq2 : (y == (qk : Int)) = true := by simpa using hyq
                    have HYQ := hide hyq2
                    subst hyq
                    go_wp2
                    go_round
                    case rel => exact ⟨i + 1, by omega, by go_num, by rw [HTK.out, HYQ.out]; rfl⟩
                    case measure => simp [intOf]; omega
                  · have hyq2 : (y == (qk : Int)) = false := by simpa using hyq
                    have HYQ := hide hyq2
                    go_wp2
                    go_round
                    case rel => exact ⟨i + 1, by omega, by go_num, by rw [HTK.out, HYQ.out]; rfl⟩
                    case measure => simp [intOf]; omega
                · rw [hm] at HTK
                  clear hm
                  go_wp2
                  go_round
                  case rel => exact ⟨i + 1, by omega, by go_num, by rw [HTK.out]; rfl⟩
                  case measure => simp [intOf]; omega
              · have hit : i = (targetsM l).length := by omega
                have hmm : decide ((qk : Int) ∈ (targetsM l).take i) = true := by
                  rw [hit, List.take_length]
                  simpa using HMEM.out
                subst hit
                rw [hmm]
                clear hmm
                have HQ := hide (fine_of HOK.out hq)
                obtain ⟨q0, q1, q2⟩ := fsts_mem _ _ _ _ hq
                simp only at q0 q1 q2 HQ TOK
                have hqm : qk < n := by omega
                have hqm2 : decide (n ≤ qk) = false := by simp; omega
                obtain ⟨ad1, s1, e1, hl1, d0, d1, d2, d3, d4⟩ := (HRD.out _ HBV.out).slot hqm
                have hs1 : s1 = qs := by rw [show qk - 0 = qk by omega, hl1] at q2; injection q2
                subst hs1
                subst e1
                have hop : (s1.op == 0) = false := by simpa using HQ.out.op
                have HQM := hide hq
                clear d1 d2 d3 d4 hl1 q2 HQ q0 q1 hq
                by_cases hz : qk = 0
                · subst hz
                  have d0' : w4.cell? ad1 = some (.int .u8 s1.op) := by
                    have e : ad1.add (0 * 5) = ad1 := by unfold Addr.add; rw [if_pos rfl]
                    rw [e] at d0
                    exact d0
                  clear TOK d0
                  go_wp2
                  go_roundw
                  case rel => exact ⟨j + 1, 0, s1, by omega, by go_num, rfl, HQM.out, HB4.out⟩
                  case measure => simp [intOf]; omega
                · obtain ⟨ad2, s2, e2, hl2, f0, f1, f2, f3, f4⟩ := (HRD.out _ HBV.out).slot (k := qk - 1) (by omega)
                  cases e2
                  have hz1 : 0 < qk := by omega
                  have hz2 : decide (0 < (qk : Int)) = true := by simp; omega
                  by_cases h24 : s2.op = 24
                  · have hne : ((qk : Int) == (k : Int) + 1) = false := by
                      have := TOK.out s2 hl2 hz1 h24
                      simp; omega
                    clear f1 f2 f3 f4 hl2 TOK
                    go_wp2
                    go_roundw
                    case rel => exact ⟨j + 1, qk, s1, by omega, by go_num, rfl, HQM.out, HB4.out⟩
                    case measure => simp [intOf]; omega
                  · have hne : (s2.op == 24) = false := by simpa using h24
                    clear f1 f2 f3 f4 hl2 TOK
                    go_wp2
                    go_roundw
                    case rel => exact ⟨j + 1, qk, s1, by omega, by go_num, rfl, HQM.out, HB4.out⟩
                    case measure => simp [intOf]; omega
    · go_wp2
      go_ret
      exact ⟨rfl, HB3.out.trans (HBK.out.mono z3)⟩
end Go.Proofs.Ytjnmfgkjeofneaa
