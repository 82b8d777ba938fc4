/-
  ArrayKeeps' walk.
-/
import Derived.Test.YtjkoaphomimebaaAO
import Derived.Test.YtjkoaphomimebaaIV
import Derived.Deep.QuietTactic
import Derived.BigQuiet
namespace Go.Proofs.Ytjkoaphomimebaa
open Go.RowKit Go.Maps
set_option linter.unusedVariables false

set_option maxRecDepth 100000 in
set_option maxHeartbeats 4000000 in
theorem law_arrayKeeps (val ent off : Int) (QA : Option Addr) (m c : Nat) (rs : List ARow) (IA : Option Addr) (mi ci : Nat) (l : List Int) (r : ARow) (w : World) (hv : I64 val) (he : I64 ent) (ho : I64 off) (hq : ARows w w.heap.size QA m rs) (hi : AIs w w.heap.size IA mi l) (hr : r.Is w) (hmc : m ≤ c) (hc : c ≤ 140737488351232) (hic : mi ≤ ci) (hci : ci ≤ 140737488351232) :
    Calls Try.prog 4 #[.int .i64 val, .int .i64 ent, .slice QA m c, .slice IA mi ci, .int .i64 off, .slice r.A r.n r.c] w fun e w' => e = .returned (.bool true) ∧ Below w.heap.size w w' := by
  have HQ := hide hq
  have HI := hide hi
  have HR := hide hr
  have hrn : r.n ≤ 140737488351232 := Nat.le_trans hr.2.2.1 hr.2.2.2.1
  clear hq hi hr
  go_enter Try.func4, Try.ntmps4
  go_wp2_with fail
  refine (awake_any w).mono ?_
  rintro e w1 ⟨rfl, hb⟩
  have HB1 := hide hb
  clear hb
  by_cases hg : m ≤ 100 ∧ mi ≤ 100 ∧ r.n ≤ 100
  · obtain ⟨hg1, hg2, hg3⟩ := hg
    have d1 : decide ((m : Int) > 100) = false := decide_eq_false (by omega)
    have d2 : decide ((mi : Int) > 100) = false := decide_eq_false (by omega)
    have d3 : decide ((r.n : Int) > 100) = false := decide_eq_false (by omega)
    go_wp2_with fail
    refine (pick_any val 40 w1 (by decide) (by decide) hv.1 hv.2).mono ?_
    rintro e w1' ⟨q1, hq1, rfl, rfl⟩
    go_wp2_with fail
    refine (pick_any ent 40 w1 (by decide) (by decide) he.1 he.2).mono ?_
    rintro e w1' ⟨q2, hq2, rfl, rfl⟩
    obtain ⟨sz, hsz⟩ : ∃ s : Nat, s = 1 + q1 := ⟨_, rfl⟩
    obtain ⟨n, hn⟩ : ∃ s : Nat, s = 1 + q2 := ⟨_, rfl⟩
    have e1 : IntKind.i64.wrap (1 + (q1 : Int)) = (sz : Int) := by rw [IntWalk.i64_in _ (by omega)]; omega
    have e2 : IntKind.i64.wrap (1 + (q2 : Int)) = (n : Int) := by rw [IntWalk.i64_in _ (by omega)]; omega
    have e1b : (1 : Int) + (q1 : Int) = (sz : Int) := by omega
    have e2b : (1 : Int) + (q2 : Int) = (n : Int) := by omega
    have hs1 : 1 ≤ sz ∧ sz ≤ 40 := by omega
    have hn1 : 1 ≤ n ∧ n ≤ 40 := by omega
    have HSP := hide (spec_small hs1.1 hs1.2 hn1.1 hn1.2)
    clear hsz hn
    go_wp2_with fail
    have hx := World.alloc_heap_new w1 (.cells #[.int .u8 1, .int .i64 4, .int .i64 sz, .int .i64 n] 48)
    have hbx := below1 w1 (.cells #[.int .u8 1, .int .i64 4, .int .i64 sz, .int .i64 n] 48)
    have HX := hide hx
    have HB2 := hide (HB1.out.trans (hbx.mono HB1.out.size))
    have hz2 : (w1.alloc (.cells #[.int .u8 1, .int .i64 4, .int .i64 sz, .int .i64 n] 48)).heap.size = w1.heap.size + 1 := by simp
    clear hx hbx
    generalize w1.alloc (.cells #[.int .u8 1, .int .i64 4, .int .i64 sz, .int .i64 n] 48) = w2 at *
    refine (new_yes n sz w2 HSP.out (by omega) (by omega)).mono ?_
    rintro e w3 ⟨b, cb, s, rfl, ha, hb⟩
    have HA3 := hide (ha.below (Below.refl _ _))
    have HB3 := hide (HB2.out.trans (hb.mono HB2.out.size))
    have hx3 := (hb.block _ (at_lt HX.out)).trans HX.out
    have HX3 := hide hx3
    have x3 : w3.cell? ⟨w1.heap.size, 3, none⟩ = some (.int .i64 n) := (blk_cell hx3 3).trans rfl
    have HZ : Hid ((zARs s sz n).length = n ∧ w2.heap.size = w1.heap.size + 1 ∧ w2.heap.size ≤ w3.heap.size) := hide ⟨by simp [zARs], hz2, hb.size⟩
    have hnil := nils_made n (by omega) w3
    clear ha hb hx3 e1 e2 e1b e2b hz2
    go_wp2_with fail
    have HK0 : Hid (AKS w (w3.alloc (.cells (List.replicate n (Value.slice none 0 0)).toArray 22)) w1.heap.size n sz b cb w3.heap.size w2.heap.size w3.heap.size (zARs s sz n) [] n) := by
      have hb := below1 w3 (.cells (List.replicate n (Value.slice none 0 0)).toArray 22)
      have hx := World.alloc_heap_new w3 (.cells (List.replicate n (Value.slice none 0 0)).toArray 22)
      have h1 := HZ.out
      have h2 := HB1.out.size
      have h3 := hb.size
      refine hide ⟨(hb.block _ (at_lt HX3.out)).trans HX3.out, HA3.out.below hb, ⟨by simpa using hx, fun i r hi => by simp at hi, fun g hg => ?_, fun i j r s hi => by simp at hi⟩, fun g hg hc => ?_, by omega, HB3.out.trans (hb.mono HB3.out.size)⟩
      · rcases hg with rfl | ⟨r, hr, _⟩
        · exact Nat.le_refl _
        · simp at hr
      · rcases hc with rfl | ⟨r, hr, _⟩
        · have := HA3.out.lt _ hg; omega
        · simp at hr
    have HZ2 : Hid ((zARs s sz n).map AR.bs = List.replicate n (List.replicate sz 0)) := hide (by simp [zARs, zAR, Function.comp_def, List.map_const'])
    have HZ3 : Hid ((zARs s sz n).length = n) := hide HZ.out.1
    rw [List.toArray_replicate] at HK0
    clear hnil x3 HA3 HX3 HX HZ
    generalize zARs s sz n = L0 at *
    go_loopw [17] (fun u wr => ∃ (j : Nat) (M : List AR), j ≤ n ∧ u = .int .i64 j ∧ M.length = j ∧ M.map AR.bs = List.replicate j (List.replicate sz 0) ∧ AKS w wr w1.heap.size n sz b cb w3.heap.size w2.heap.size w3.heap.size L0 M (n - j)) (fun u _ => n - (intOf u).toNat)
    case atStart => exact ⟨0, [], Nat.zero_le _, rfl, rfl, rfl, HK0.out⟩
    case round =>
      obtain ⟨j, M, hj, rfl, hl, hm, hK⟩ := hrel
      have HK := hide hK
      have HM := hide hm
      have HL := hide hl
      have x2 : wr.cell? ⟨w1.heap.size, 2, none⟩ = some (.int .i64 sz) := (blk_cell hK.box 2).trans rfl
      have x3 : wr.cell? ⟨w1.heap.size, 3, none⟩ = some (.int .i64 n) := (blk_cell hK.box 3).trans rfl
      by_cases hjn : j < n
      · have cc : wr.cell? ⟨w3.heap.size, j, none⟩ = some (.slice none 0 0) := by
          rw [blk_cell hK.all.cel]
          simp [List.getElem?_append_right, hl, List.getElem?_replicate]
          omega
        have fc : wr.frozen? ⟨w3.heap.size, j, none⟩ = false := Joins.unfrozen_of_block hK.all.cel j
        have hGlt : w3.heap.size < wr.heap.size := at_lt hK.all.cel
        have hz := zeros_made Try.underlying22 sz (by omega) wr
        have hb1 := below1 wr (.cells (u8s (List.replicate sz 0)).toArray 5)
        have ca := (hb1.cell (p := ⟨w3.heap.size, j, none⟩) hGlt).trans cc
        have fa := (hb1.frozen (p := ⟨w3.heap.size, j, none⟩) hGlt).trans fc
        have k0 : (0 : Int) ≤ (j : Int) := by omega
        have k1 : (j : Int) < (n : Int) := by omega
        clear hK hm hl hb1 HK0
        go_wp2
        go_roundw
        case rel =>
          have h1 := HK.out
          rw [show n - j = (n - (j + 1)) + 1 by omega] at h1
          have h2 := h1.make
          rw [HL.out] at h2
          rw [World.setCell_alloc_past _ _ _ _ (at_lt h1.all.cel)] at h2
          exact ⟨j + 1, M ++ [zAR sz wr.heap.size], by omega, by go_num, by simp [HL.out], by rw [List.map_append, HM.out, List.replicate_succ']; rfl, h2⟩
        case measure => simp [intOf]; omega
      · have hjq : j = n := by omega
        clear hjn hj hK hm hl
        subst hjq
        have HLM : Hid (M.map AR.bs = L0.map AR.bs) := hide (HM.out.trans HZ2.out.symm)
        have HML : Hid (M.length = j) := hide HL.out
        have HK1 := hide HK.out
        rw [Nat.sub_self] at HK1
        clear HK HM HL HK0 HZ2 x2
        go_wp2_with fail
        clear x3
        go_loopw [18, 19, 20, 21, 22, 23] (fun u a1 a2 a3 a4 a5 wr => ∃ (t : Nat) (L M : List AR), t ≤ m ∧ t ≤ mi ∧ u = .int .i64 t ∧ L.length = j ∧ M.length = j ∧ M.map AR.bs = L.map AR.bs ∧ AKS w wr w1.heap.size j sz b cb w3.heap.size w2.heap.size w3.heap.size L M 0) (fun u _ _ _ _ _ _ => m - (intOf u).toNat)
        case atStart => exact ⟨0, L0, M, Nat.zero_le _, Nat.zero_le _, rfl, HZ3.out, HML.out, HLM.out, HK1.out⟩
        case round =>
          obtain ⟨t, L, M2, ht, hti, rfl, hl, hml, hlm, hK⟩ := hrel
          have HK := hide hK
          have HL := hide hl
          have HML2 := hide hml
          have HLM2 := hide hlm
          clear hl hml hlm HK1 HLM HML HZ3
          by_cases hgo : t < m ∧ t < mi
          · obtain ⟨hg1', hg2'⟩ := hgo
            have x2 : wr.cell? ⟨w1.heap.size, 2, none⟩ = some (.int .i64 sz) := (blk_cell hK.box 2).trans rfl
            have x3 : wr.cell? ⟨w1.heap.size, 3, none⟩ = some (.int .i64 j) := (blk_cell hK.box 3).trans rfl
            have q1' : decide ((t : Int) < (m : Int)) = true := decide_eq_true (by omega)
            have q2' : decide ((t : Int) < (mi : Int)) = true := decide_eq_true (by omega)
            obtain ⟨adq, rr, rfl, hrr, cq⟩ := (HQ.out.below hK.below).cell hg1'
            obtain ⟨adi, p, rfl, hp, Ip, ci1⟩ := (HI.out.below hK.below).cell hg2'
            have hz := zeros_made Try.underlying22 sz (by omega) wr
            have hb1 := below1 wr (.cells (u8s (List.replicate sz 0)).toArray 5)
            have hx1 := World.alloc_heap_new wr (.cells (u8s (List.replicate sz 0)).toArray 5)
            have HRR := hide ((HQ.out.inner rr (List.mem_of_getElem? hrr)))
            have hzw : (wr.alloc (.cells (u8s (List.replicate sz 0)).toArray 5)).heap.size = wr.heap.size + 1 := by simp
            have cq2 := (hb1.cell (World.block_lt_of_cell? wr _ cq)).trans cq
            have t0 : (0 : Int) ≤ (t : Int) := by omega
            have t1 : (t : Int) < (m : Int) := by omega
            have t2 : (t : Int) < (mi : Int) := by omega
            have HX1 := hide hx1
            have HB4 := hide hb1
            clear hK hb1 hx1 hrr hp
            go_wp2_with (with_reducible refine stop_copy ?_)
            show Hid _
            refine start_here ?_
            refine wpList_copy_head (e := 5) (n := sz) (xs := u8s (List.replicate sz 0)) rfl (.tmp 88) (.tmp 92) 22 22 rfl Try.underlying22 u8size wr.heap.size sz (owns_zero HX1.out (by omega)) sz rfl w.heap.size rr.A rr.n rr.c rfl (u8s rr.bs) (HRR.out.1.below ((HK.out.below.trans (HB4.out.mono HK.out.below.size)))) (u8s_one rr.bs) ?_
            intro w4 ho4 hg4 hz4
            have hb4 : Below wr.heap.size wr w4 := ⟨hg4.os.trans HB4.out.os, hg4.tape.trans HB4.out.tape, hg4.output.trans HB4.out.output, Nat.le_trans HB4.out.size hg4.size, fun k hk => (hg4.block k (by omega) (by simp; omega)).trans (HB4.out.block k hk)⟩
            have HK4 := hide (HK.out.later hb4)
            have HO4 : Hid (w4.ownsRow 0 5 1 (.slice (some ⟨wr.heap.size, 0, none⟩) sz sz) sz (u8s (heads (List.replicate sz 0) rr.bs sz))) := hide (by
              unfold heads
              rw [u8s_splice, show u8s (rr.bs.take sz) = (u8s rr.bs).take sz by simp [u8s, List.map_take]]
              exact ho4)
            have ci4 := (hb4.cell (World.block_lt_of_cell? wr _ ci1)).trans ci1
            have x24 : w4.cell? ⟨w1.heap.size, 2, none⟩ = some (.int .i64 sz) := (blk_cell HK4.out.box 2).trans rfl
            have x34 : w4.cell? ⟨w1.heap.size, 3, none⟩ = some (.int .i64 j) := (blk_cell HK4.out.box 3).trans rfl
            have HS4 : Hid (wr.heap.size < w4.heap.size) := hide (by omega)
            obtain ⟨jj, hjj⟩ : ∃ s : Nat, s = j + 2 := ⟨_, rfl⟩
            have e5 : IntKind.i64.wrap ((j : Int) + 2) = (jj : Int) := by rw [IntWalk.i64_in _ (by omega)]; omega
            clear ho4 hg4 hz4 hb4 HX1 HB4 x2 x3 ci1 cq cq2 hz hzw HRR
            have hpick := fun W => pick_is p jj W (by omega) (by omega) Ip.1 Ip.2
            have hq := pickN_lt p jj (by omega)
            generalize pickN p jj = q at hpick hq
            replace hjj := hide hjj
            have HPK := hide hpick
            have HQ' := hide hq
            clear hpick hq
            go_wp2_with fail
            have hb4d := (Below.refl w4.heap.size w4).drew
            have HK4d := hide (HK4.out.later hb4d)
            have HO4d := hide (owns_kept_below HO4.out hb4d)
            clear hb4d
            refine wp_region_still_tail 7 (by kernel_rfl) (by kernel_rfl) ?_
            simp only [List.take_succ_cons, List.take_zero, List.drop_succ_cons, List.drop_zero]
            repeat still_step
            refine wpStill_nil ?_
            clear HK4 HO4 e5 x24 x34 ci4 t0 t1 t2
            go_wp2_with fail
            refine (HPK.out _).mono ?_
            rintro e W ⟨rfl, rfl⟩
            have HS5 : Hid (wr.heap.size < w4.drew.heap.size) := HS4
            have HGA : Hid ((∀ g, OfA b cb sz L g → g < wr.heap.size) ∧ (∀ g, OfL w3.heap.size sz M2 g → g < wr.heap.size) ∧ w3.heap.size ≤ wr.heap.size) := hide ⟨HK.out.arr.lt, HK.out.all.lt, HK.out.low.2.2.2.2⟩
            clear HS4 HK
            generalize w4.drew = w5 at *
            go_wp2_with fail
            refine (key_any q w5).mono ?_
            rintro e w6 ⟨rfl, rfl⟩
            have hb6 := below1 w5 (.cells (u8s (keyB q)).toArray 5)
            have HK6 := hide (HK4d.out.later hb6)
            have HO6 := hide (owns_kept_below HO4d.out hb6)
            have HS6 := hide (Nat.lt_of_lt_of_le HS5.out hb6.size)
            have hlk := lookup_any _ b cb sz L _ 4 4 _ (keyB q) _ HK6.out.arr (rd_new w5 (keyB q) 4 rfl) (by simp) (keyB_byte q)
            have hkv := keyV_keyB q (by have := HQ'.out; have := hjj.out; omega)
            rw [HL.out] at hlk
            unfold lookV at hlk
            rw [if_pos rfl, hkv] at hlk
            have HLK := hide hlk
            have HKV := hide hkv
            clear hlk hkv hb6 HK4d HO4d HS5
            by_cases hqj : q < j
            · replace HLK := HLK.out
              rw [if_pos hqj] at HLK
              replace HLK := hide HLK
              go_wp2_with fail
              refine HLK.out.mono ?_
              rintro e w7 ⟨rfl, hb7⟩
              have HK7 := hide (HK6.out.later hb7)
              have HO7 := hide (owns_kept_below HO6.out hb7)
              have HS7 := hide (Nat.lt_of_lt_of_le HS6.out hb7.size)
              clear hb7 HK6 HO6 HS6 HLK
              go_wp2_with fail
              refine (key_any q w7).mono ?_
              rintro e w8 ⟨rfl, rfl⟩
              have hb8 := below1 w7 (.cells (u8s (keyB q)).toArray 5)
              have HK8 := hide (HK7.out.later hb8)
              have HO8 := hide (owns_kept_below HO7.out hb8)
              have HS8 := hide (Nat.lt_of_lt_of_le HS7.out hb8.size)
              have HR8 := hide (rd_new w7 (keyB q) 4 rfl)
              have HZ8 := hide (show w7.heap.size + 1 ≤ (w7.alloc (.cells (u8s (keyB q)).toArray 5)).heap.size by simp)
              clear hb8 HK7 HO7
              generalize w7.alloc (.cells (u8s (keyB q)).toArray 5) = w8 at *
              obtain ⟨f2, hf2, hf3⟩ : ∃ f : Nat, (t : Int).tmod 2 = (f : Int) ∧ f ≤ 1 := ⟨t % 2, by rw [Int.tmod_eq_emod_of_nonneg (by omega)]; omega, by omega⟩
              have hup := upd_both (fl := 2 * (f2 : Int)) (n := 4) (c := 4) (k := sz) (sc := sz) HK8.out.arr HR8.out HZ8.out (keyB_byte q) (Rd.of_own HO8.out) (Nat.le_refl _)
              have hue : updE L.length sz 4 (keyB q) sz (2 * (f2 : Int)) = 0 := by
                unfold updE
                rw [if_pos rfl, if_pos ⟨rfl, by omega⟩, HKV.out, HL.out, if_pos hqj, if_neg (by omega)]
              rw [show updL L sz 4 (keyB q) sz (2 * (f2 : Int)) (heads (List.replicate sz 0) rr.bs sz) = putL L q 0 (heads (List.replicate sz 0) rr.bs sz) by unfold updL; rw [if_pos hue, HKV.out], hue] at hup
              have HU := hide hup
              clear hup hue
              go_wp2_with fail
              refine HU.out.mono ?_
              rintro e w9 ⟨rfl, ha9, hk9⟩
              obtain ⟨g1, g2, g3⟩ := HGA.out
              obtain ⟨hK, hM, hL9, hM9⟩ := AKS.upd HK8.out HML2.out HL.out HLM2.out hqj ha9 hk9 HO8.out ⟨g3, fun h => Nat.lt_irrefl _ (g1 _ h), fun h => Nat.lt_irrefl _ (g2 _ h)⟩
              have HKe := hide hK
              have HMe := hide hM
              have HLe := hide hL9
              have HMl := hide hM9
              have hSA : ¬ OfA b cb sz L w1.heap.size := fun hc => by have := HK8.out.arr.low _ hc; have := HK8.out.low; omega
              have hGA : ¬ OfA b cb sz L w3.heap.size := fun hc => HK8.out.sep _ hc (.inl rfl)
              have hx9 := (hk9.block _ (at_lt HK8.out.box) hSA).trans HK8.out.box
              have hG9 := (hk9.block _ (at_lt HK8.out.all.cel) hGA).trans HK8.out.all.cel
              have x39 : w9.cell? ⟨w1.heap.size, 3, none⟩ = some (.int .i64 j) := (blk_cell hx9 3).trans rfl
              obtain ⟨rq, hrq⟩ : ∃ rq, M2[q]? = some rq := ⟨M2[q]'(by rw [HML2.out]; exact hqj), List.getElem?_eq_getElem _⟩
              have cG : w9.cell? ⟨w3.heap.size, q, none⟩ = some (.slice rq.A sz rq.c) := (HK8.out.all.kept hk9 (fun g hg ho => HK8.out.sep g ho hg)).cell hrq
              have fG : w9.frozen? ⟨w3.heap.size, q, none⟩ = false := Joins.unfrozen_of_block hG9 q
              have dq : decide ((q : Int) ≥ (j : Int)) = false := decide_eq_false (by omega)
              have dq0 : (0 : Int) ≤ (q : Int) := by omega
              have dq1 : (q : Int) < (j : Int) := by omega
              clear ha9 hk9 hK hM hL9 hM9 hSA hGA hx9 hG9 g1 g2 g3 HK8 HO8 HR8 HZ8 HU hf2 hrq
              go_wp2_with fail
              go_roundw
              case rel => exact ⟨t + 1, putL L q 0 (heads (List.replicate sz 0) rr.bs sz), M2.set q ⟨some ⟨wr.heap.size, 0, none⟩, sz, heads (List.replicate sz 0) rr.bs sz⟩, by omega, by omega, by go_num, HLe.out, HMl.out, HMe.out, HKe.out⟩
              case measure => simp [intOf]; omega
            · replace HLK := HLK.out
              rw [if_neg hqj] at HLK
              replace HLK := hide HLK
              go_wp2_with fail
              refine HLK.out.mono ?_
              rintro e w7 ⟨rfl, hb7⟩
              have HK7 := hide (HK6.out.later hb7)
              clear hb7 HK6 HO6 HS6 HLK
              go_wp2_with fail
              refine (key_any q w7).mono ?_
              rintro e w8 ⟨rfl, rfl⟩
              have hb8 := below1 w7 (.cells (u8s (keyB q)).toArray 5)
              have HK8 := hide (HK7.out.later hb8)
              have HR8 := hide (rd_new w7 (keyB q) 4 rfl)
              have HZ8 := hide (show w7.heap.size + 1 ≤ (w7.alloc (.cells (u8s (keyB q)).toArray 5)).heap.size by simp)
              clear hb8 HK7
              generalize w7.alloc (.cells (u8s (keyB q)).toArray 5) = w8 at *
              obtain ⟨f2, hf2, hf3⟩ : ∃ f : Nat, (t : Int).tmod 2 = (f : Int) ∧ f ≤ 1 := ⟨t % 2, by rw [Int.tmod_eq_emod_of_nonneg (by omega)]; omega, by omega⟩
              have hue : updE L.length sz 4 (keyB q) sz (2 * (f2 : Int)) = 6 := by
                unfold updE
                rw [if_pos rfl, if_pos ⟨rfl, by omega⟩, HKV.out, HL.out, if_neg hqj]
              have hup := upd_no _ b cb sz L (some ⟨w7.heap.size, 0, none⟩) (some ⟨wr.heap.size, 0, none⟩) 4 4 _ sz sz (2 * (f2 : Int)) (keyB q) w8 HK8.out.arr HR8.out HZ8.out (keyB_byte q) (by rw [hue]; decide)
              rw [hue] at hup
              have HU := hide hup
              clear hup hue
              go_wp2_with fail
              refine HU.out.mono ?_
              rintro e w9 ⟨rfl, hb9⟩
              have HK9 := hide (HK8.out.later hb9)
              have x39 : w9.cell? ⟨w1.heap.size, 3, none⟩ = some (.int .i64 j) := (blk_cell HK9.out.box 3).trans rfl
              have dq : decide ((q : Int) ≥ (j : Int)) = true := decide_eq_true (by omega)
              clear hb9 HK8 HR8 HZ8 HU hf2
              go_wp2_with fail
              go_roundw
              case rel => exact ⟨t + 1, L, M2, by omega, by omega, by go_num, HL.out, HML2.out, HLM2.out, HK9.out⟩
              case measure => simp [intOf]; omega
          · have hcase : ((m : Int) ≤ (t : Int)) ∨ ((t : Int) < (m : Int) ∧ (mi : Int) ≤ (t : Int)) := by omega
            have x2 : wr.cell? ⟨w1.heap.size, 2, none⟩ = some (.int .i64 sz) := (blk_cell hK.box 2).trans rfl
            have x3 : wr.cell? ⟨w1.heap.size, 3, none⟩ = some (.int .i64 j) := (blk_cell hK.box 3).trans rfl
            have HPK := hide (pick_is off j wr (by omega) (by omega) ho.1 ho.2)
            have HPO := hide (pick_is off sz wr (by omega) (by omega) ho.1 ho.2)
            have hk0 := pickN_lt off j (by omega)
            have ho0 := pickN_lt off sz (by omega)
            generalize pickN off j = pk at HPK hk0
            generalize pickN off sz = po at HPO ho0
            have HSET := hide (set_both (i := (pk : Int)) (off := (po : Int)) (sc := r.c) hK.arr (by omega) (HR.out.1.below hK.below) hK.below.size)
            clear hK hgo
            rcases hcase with d1' | ⟨d1', d2'⟩
            · go_wp2_with fail
              refine HPK.out.mono ?_
              rintro e W' ⟨rfl, hW⟩
              replace hW := hW.symm
              subst hW
              go_wp2_with fail
              refine HPO.out.mono ?_
              rintro e W' ⟨rfl, hW⟩
              replace hW := hW.symm
              subst hW
              have hE : setE L.length sz (pk : Int) (po : Int) r.n = if po + r.n ≤ sz then 0 else 32 := by
                unfold setE
                rw [if_pos (by simp [hasB, HL.out]; omega)]
                by_cases hf : po + r.n ≤ sz
                · rw [if_pos hf, if_pos (by simp [fitsB]; omega)]
                · rw [if_neg hf, if_neg (by simp [fitsB]; omega)]
              by_cases hf : po + r.n ≤ sz
              · rw [if_pos hf] at hE
                have HS2 := HSET.out
                rw [show setL L sz (pk : Int) (po : Int) r.n r.bs = putL L pk po r.bs by unfold setL; rw [if_pos hE]; simp, hE] at HS2
                replace HS2 := hide HS2
                clear hE
                go_wp2_with fail
                refine HS2.out.mono ?_
                rintro e w5 ⟨rfl, ha, hk⟩
                have HK5 := hide (HK.out.set ha hk)
                obtain ⟨rq, hrq⟩ : ∃ rq, M2[pk]? = some rq := ⟨M2[pk]'(by rw [HML2.out]; exact hk0), List.getElem?_eq_getElem _⟩
                have cG : w5.cell? ⟨w3.heap.size, pk, none⟩ = some (.slice rq.A sz rq.c) := HK5.out.all.cell hrq
                have HRW := hide (HK5.out.all.row pk rq hrq)
                have HRB := hide (HR.out.1.below HK5.out.below)
                have HB5 := hide HK5.out.below.size
                obtain ⟨A2, c2, hcut, hg2⟩ := cut_rest (P := Try.prog) Try.underlying22 u8size HRW.out po (by omega)
                have hcw := hcut w5
                have HG2 := hide hg2
                have HRQ := hide hrq
                have dk0 : (0 : Int) ≤ (pk : Int) := by omega
                have dk1 : (pk : Int) < (j : Int) := by omega
                clear ha hk hcut hg2 hrq x2 x3
                go_wp2_with (with_reducible refine stop_copy ?_)
                show Hid _
                refine start_here ?_
                clear hcw
                refine wpList_copy_owns (e := 5) (n := sz) (xs := u8s rq.bs) rfl (.tmp 162) (.tmp 163) 22 22 rfl Try.underlying22 u8size rq.A rq.c HRW.out po A2 (sz - po) c2 rfl HG2.out w.heap.size r.A r.n r.c rfl (u8s r.bs) HRB.out (u8s_one r.bs) (by omega) hf ?_
                intro w6 ho6 hg6 hz6
                rw [← u8s_splice] at ho6
                have HK6 := hide (HK5.out.copied HRQ.out ho6 ((Kept.refl _ w5).grown hg6 (fun j e _ h => h e)))
                have HLM6 := hide (putL_bs L M2 pk po r.bs HLM2.out)
                have HLL6 : Hid ((putL L pk po r.bs).length = j ∧ (putL M2 pk po r.bs).length = j) := hide ⟨by rw [putL_len]; exact HL.out, by rw [putL_len]; exact HML2.out⟩
                clear ho6 hg6 hz6 HK5 HRW HRB HG2 cG HRQ HB5 HS2 HK HLM2 HL HML2 HSET HPK HPO
                generalize putL L pk po r.bs = LA at *
                generalize putL M2 pk po r.bs = MA at *
                have HKN := hide HK6.out
                have HMN := hide HLM6.out
                have HLN := hide HLL6.out
                clear HK6 HLM6 HLL6
                go_wp2_with fail
                have hK0 := HKN.out
                go_loopw [26, 27, 28] (fun u a1 a2 wx => ∃ i : Nat, i ≤ j ∧ u = .int .i64 i ∧ AKS w wx w1.heap.size j sz b cb w3.heap.size w2.heap.size w3.heap.size LA MA 0) (fun u _ _ _ => j - (intOf u).toNat)
                case atStart => exact ⟨0, Nat.zero_le _, rfl, hK0⟩
                case round =>
                  obtain ⟨i, hi, rfl, hKx⟩ := hrel
                  have x3 : wr.cell? ⟨w1.heap.size, 3, none⟩ = some (.int .i64 j) := (blk_cell hKx.box 3).trans rfl
                  have HKx := hide hKx
                  clear hKx hK0 HKN
                  by_cases hij : i < j
                  · obtain ⟨ra, hra⟩ : ∃ ra, LA[i]? = some ra := ⟨LA[i]'(by rw [HLN.out.1]; exact hij), List.getElem?_eq_getElem _⟩
                    obtain ⟨rm, hrm⟩ : ∃ rm, MA[i]? = some rm := ⟨MA[i]'(by rw [HLN.out.2]; exact hij), List.getElem?_eq_getElem _⟩
                    have hbs : rm.bs = ra.bs := by
                      have e : (MA.map AR.bs)[i]? = (LA.map AR.bs)[i]? := by rw [HMN.out]
                      rw [List.getElem?_map, List.getElem?_map, hra, hrm] at e
                      simpa using e
                    have HV := hide (value_yes _ b cb sz i LA ra wr HKx.out.arr hra)
                    have HRM := hide hrm
                    have HBS := hide hbs
                    have di0 : (0 : Int) ≤ (i : Int) := by omega
                    have di1 : (i : Int) < (j : Int) := by omega
                    clear hra hrm hbs
                    go_wp2_with fail
                    refine HV.out.mono ?_
                    rintro e wv ⟨v, rfl, hov, hbv⟩
                    obtain ⟨Av, cv, rfl, _⟩ := owns_slice hov.1
                    have HK7 := hide (HKx.out.later hbv)
                    have cM : wv.cell? ⟨w3.heap.size, i, none⟩ = some (.slice rm.A sz rm.c) := HK7.out.all.cell HRM.out
                    have hrw := HK7.out.all.row i rm HRM.out
                    rw [HBS.out] at hrw
                    have HSB := hide (sameBytes_yes Av rm.A sz cv rm.c _ ra.bs wv (Rd.of_own hov.1) (Rd.of_own hrw) (Nat.le_refl _) (by omega))
                    clear hov hbv hrw HV HKx x3
                    go_wp2_with fail
                    refine HSB.out.mono ?_
                    rintro e wq ⟨rfl, hbq⟩
                    have HK8 := hide (HK7.out.later hbq)
                    clear hbq HK7 cM HSB
                    go_wp2_with fail
                    go_roundw
                    case rel => exact ⟨i + 1, by omega, by go_num, HK8.out⟩
                    case measure => simp [intOf]; omega
                  · obtain rfl : i = j := by omega
                    go_wp2_with fail
                    go_ret
                    exact ⟨rfl, HKx.out.below⟩
              · rw [if_neg hf] at hE
                have HS2 := HSET.out
                rw [show setL L sz (pk : Int) (po : Int) r.n r.bs = L by unfold setL; rw [if_neg (by rw [hE]; decide)], hE] at HS2
                replace HS2 := hide HS2
                clear hE
                go_wp2_with fail
                refine HS2.out.mono ?_
                rintro e w5 ⟨rfl, ha, hk⟩
                have hlow := HK.out.low
                have hSA : ¬ OfA b cb sz L w1.heap.size := fun hc => by have := HK.out.arr.low _ hc; omega
                have HKN : Hid (AKS w w5 w1.heap.size j sz b cb w3.heap.size w2.heap.size w3.heap.size L M2 0) := hide ⟨(hk.block _ (at_lt HK.out.box) hSA).trans HK.out.box, ha, HK.out.all.kept hk (fun g hg ho => HK.out.sep g ho hg), HK.out.sep, by have := hk.size; omega, HK.out.below.trans (hk.to_below (fun g' hg' hc => by have := HK.out.arr.low _ hc; omega) HK.out.below.size)⟩
                have HMN := hide HLM2.out
                have HLN : Hid (L.length = j ∧ M2.length = j) := hide ⟨HL.out, HML2.out⟩
                have x2 : w5.cell? ⟨w1.heap.size, 2, none⟩ = some (.int .i64 sz) := (blk_cell HKN.out.box 2).trans rfl
                have df : ¬ ((r.n : Int) ≤ (sz : Int) - (po : Int)) := by omega
                have df2 : decide ((r.n : Int) ≤ (sz : Int) - (po : Int)) = false := decide_eq_false df
                clear ha hk hlow hSA HS2 HK HLM2 HL HML2 HSET HPK HPO x3
                generalize L = LA at *
                generalize M2 = MA at *
                go_wp2_with fail
                clear x2
                have hK0 := HKN.out
                go_loopw [26, 27, 28] (fun u a1 a2 wx => ∃ i : Nat, i ≤ j ∧ u = .int .i64 i ∧ AKS w wx w1.heap.size j sz b cb w3.heap.size w2.heap.size w3.heap.size LA MA 0) (fun u _ _ _ => j - (intOf u).toNat)
                case atStart => exact ⟨0, Nat.zero_le _, rfl, hK0⟩
                case round =>
                  obtain ⟨i, hi, rfl, hKx⟩ := hrel
                  have x3 : wr.cell? ⟨w1.heap.size, 3, none⟩ = some (.int .i64 j) := (blk_cell hKx.box 3).trans rfl
                  have HKx := hide hKx
                  clear hKx hK0 HKN
                  by_cases hij : i < j
                  · obtain ⟨ra, hra⟩ : ∃ ra, LA[i]? = some ra := ⟨LA[i]'(by rw [HLN.out.1]; exact hij), List.getElem?_eq_getElem _⟩
                    obtain ⟨rm, hrm⟩ : ∃ rm, MA[i]? = some rm := ⟨MA[i]'(by rw [HLN.out.2]; exact hij), List.getElem?_eq_getElem _⟩
                    have hbs : rm.bs = ra.bs := by
                      have e : (MA.map AR.bs)[i]? = (LA.map AR.bs)[i]? := by rw [HMN.out]
                      rw [List.getElem?_map, List.getElem?_map, hra, hrm] at e
                      simpa using e
                    have HV := hide (value_yes _ b cb sz i LA ra wr HKx.out.arr hra)
                    have HRM := hide hrm
                    have HBS := hide hbs
                    have di0 : (0 : Int) ≤ (i : Int) := by omega
                    have di1 : (i : Int) < (j : Int) := by omega
                    clear hra hrm hbs
                    go_wp2_with fail
                    refine HV.out.mono ?_
                    rintro e wv ⟨v, rfl, hov, hbv⟩
                    obtain ⟨Av, cv, rfl, _⟩ := owns_slice hov.1
                    have HK7 := hide (HKx.out.later hbv)
                    have cM : wv.cell? ⟨w3.heap.size, i, none⟩ = some (.slice rm.A sz rm.c) := HK7.out.all.cell HRM.out
                    have hrw := HK7.out.all.row i rm HRM.out
                    rw [HBS.out] at hrw
                    have HSB := hide (sameBytes_yes Av rm.A sz cv rm.c _ ra.bs wv (Rd.of_own hov.1) (Rd.of_own hrw) (Nat.le_refl _) (by omega))
                    clear hov hbv hrw HV HKx x3
                    go_wp2_with fail
                    refine HSB.out.mono ?_
                    rintro e wq ⟨rfl, hbq⟩
                    have HK8 := hide (HK7.out.later hbq)
                    clear hbq HK7 cM HSB
                    go_wp2_with fail
                    go_roundw
                    case rel => exact ⟨i + 1, by omega, by go_num, HK8.out⟩
                    case measure => simp [intOf]; omega
                  · obtain rfl : i = j := by omega
                    go_wp2_with fail
                    go_ret
                    exact ⟨rfl, HKx.out.below⟩
            · go_wp2_with fail
              refine HPK.out.mono ?_
              rintro e W' ⟨rfl, hW⟩
              replace hW := hW.symm
              subst hW
              go_wp2_with fail
              refine HPO.out.mono ?_
              rintro e W' ⟨rfl, hW⟩
              replace hW := hW.symm
              subst hW
              have hE : setE L.length sz (pk : Int) (po : Int) r.n = if po + r.n ≤ sz then 0 else 32 := by
                unfold setE
                rw [if_pos (by simp [hasB, HL.out]; omega)]
                by_cases hf : po + r.n ≤ sz
                · rw [if_pos hf, if_pos (by simp [fitsB]; omega)]
                · rw [if_neg hf, if_neg (by simp [fitsB]; omega)]
              by_cases hf : po + r.n ≤ sz
              · rw [if_pos hf] at hE
                have HS2 := HSET.out
                rw [show setL L sz (pk : Int) (po : Int) r.n r.bs = putL L pk po r.bs by unfold setL; rw [if_pos hE]; simp, hE] at HS2
                replace HS2 := hide HS2
                clear hE
                go_wp2_with fail
                refine HS2.out.mono ?_
                rintro e w5 ⟨rfl, ha, hk⟩
                have HK5 := hide (HK.out.set ha hk)
                obtain ⟨rq, hrq⟩ : ∃ rq, M2[pk]? = some rq := ⟨M2[pk]'(by rw [HML2.out]; exact hk0), List.getElem?_eq_getElem _⟩
                have cG : w5.cell? ⟨w3.heap.size, pk, none⟩ = some (.slice rq.A sz rq.c) := HK5.out.all.cell hrq
                have HRW := hide (HK5.out.all.row pk rq hrq)
                have HRB := hide (HR.out.1.below HK5.out.below)
                have HB5 := hide HK5.out.below.size
                obtain ⟨A2, c2, hcut, hg2⟩ := cut_rest (P := Try.prog) Try.underlying22 u8size HRW.out po (by omega)
                have hcw := hcut w5
                have HG2 := hide hg2
                have HRQ := hide hrq
                have dk0 : (0 : Int) ≤ (pk : Int) := by omega
                have dk1 : (pk : Int) < (j : Int) := by omega
                clear ha hk hcut hg2 hrq x2 x3
                go_wp2_with (with_reducible refine stop_copy ?_)
                show Hid _
                refine start_here ?_
                clear hcw
                refine wpList_copy_owns (e := 5) (n := sz) (xs := u8s rq.bs) rfl (.tmp 162) (.tmp 163) 22 22 rfl Try.underlying22 u8size rq.A rq.c HRW.out po A2 (sz - po) c2 rfl HG2.out w.heap.size r.A r.n r.c rfl (u8s r.bs) HRB.out (u8s_one r.bs) (by omega) hf ?_
                intro w6 ho6 hg6 hz6
                rw [← u8s_splice] at ho6
                have HK6 := hide (HK5.out.copied HRQ.out ho6 ((Kept.refl _ w5).grown hg6 (fun j e _ h => h e)))
                have HLM6 := hide (putL_bs L M2 pk po r.bs HLM2.out)
                have HLL6 : Hid ((putL L pk po r.bs).length = j ∧ (putL M2 pk po r.bs).length = j) := hide ⟨by rw [putL_len]; exact HL.out, by rw [putL_len]; exact HML2.out⟩
                clear ho6 hg6 hz6 HK5 HRW HRB HG2 cG HRQ HB5 HS2 HK HLM2 HL HML2 HSET HPK HPO
                generalize putL L pk po r.bs = LA at *
                generalize putL M2 pk po r.bs = MA at *
                have HKN := hide HK6.out
                have HMN := hide HLM6.out
                have HLN := hide HLL6.out
                clear HK6 HLM6 HLL6
                go_wp2_with fail
                have hK0 := HKN.out
                go_loopw [26, 27, 28] (fun u a1 a2 wx => ∃ i : Nat, i ≤ j ∧ u = .int .i64 i ∧ AKS w wx w1.heap.size j sz b cb w3.heap.size w2.heap.size w3.heap.size LA MA 0) (fun u _ _ _ => j - (intOf u).toNat)
                case atStart => exact ⟨0, Nat.zero_le _, rfl, hK0⟩
                case round =>
                  obtain ⟨i, hi, rfl, hKx⟩ := hrel
                  have x3 : wr.cell? ⟨w1.heap.size, 3, none⟩ = some (.int .i64 j) := (blk_cell hKx.box 3).trans rfl
                  have HKx := hide hKx
                  clear hKx hK0 HKN
                  by_cases hij : i < j
                  · obtain ⟨ra, hra⟩ : ∃ ra, LA[i]? = some ra := ⟨LA[i]'(by rw [HLN.out.1]; exact hij), List.getElem?_eq_getElem _⟩
                    obtain ⟨rm, hrm⟩ : ∃ rm, MA[i]? = some rm := ⟨MA[i]'(by rw [HLN.out.2]; exact hij), List.getElem?_eq_getElem _⟩
                    have hbs : rm.bs = ra.bs := by
                      have e : (MA.map AR.bs)[i]? = (LA.map AR.bs)[i]? := by rw [HMN.out]
                      rw [List.getElem?_map, List.getElem?_map, hra, hrm] at e
                      simpa using e
                    have HV := hide (value_yes _ b cb sz i LA ra wr HKx.out.arr hra)
                    have HRM := hide hrm
                    have HBS := hide hbs
                    have di0 : (0 : Int) ≤ (i : Int) := by omega
                    have di1 : (i : Int) < (j : Int) := by omega
                    clear hra hrm hbs
                    go_wp2_with fail
                    refine HV.out.mono ?_
                    rintro e wv ⟨v, rfl, hov, hbv⟩
                    obtain ⟨Av, cv, rfl, _⟩ := owns_slice hov.1
                    have HK7 := hide (HKx.out.later hbv)
                    have cM : wv.cell? ⟨w3.heap.size, i, none⟩ = some (.slice rm.A sz rm.c) := HK7.out.all.cell HRM.out
                    have hrw := HK7.out.all.row i rm HRM.out
                    rw [HBS.out] at hrw
                    have HSB := hide (sameBytes_yes Av rm.A sz cv rm.c _ ra.bs wv (Rd.of_own hov.1) (Rd.of_own hrw) (Nat.le_refl _) (by omega))
                    clear hov hbv hrw HV HKx x3
                    go_wp2_with fail
                    refine HSB.out.mono ?_
                    rintro e wq ⟨rfl, hbq⟩
                    have HK8 := hide (HK7.out.later hbq)
                    clear hbq HK7 cM HSB
                    go_wp2_with fail
                    go_roundw
                    case rel => exact ⟨i + 1, by omega, by go_num, HK8.out⟩
                    case measure => simp [intOf]; omega
                  · obtain rfl : i = j := by omega
                    go_wp2_with fail
                    go_ret
                    exact ⟨rfl, HKx.out.below⟩
              · rw [if_neg hf] at hE
                have HS2 := HSET.out
                rw [show setL L sz (pk : Int) (po : Int) r.n r.bs = L by unfold setL; rw [if_neg (by rw [hE]; decide)], hE] at HS2
                replace HS2 := hide HS2
                clear hE
                go_wp2_with fail
                refine HS2.out.mono ?_
                rintro e w5 ⟨rfl, ha, hk⟩
                have hlow := HK.out.low
                have hSA : ¬ OfA b cb sz L w1.heap.size := fun hc => by have := HK.out.arr.low _ hc; omega
                have HKN : Hid (AKS w w5 w1.heap.size j sz b cb w3.heap.size w2.heap.size w3.heap.size L M2 0) := hide ⟨(hk.block _ (at_lt HK.out.box) hSA).trans HK.out.box, ha, HK.out.all.kept hk (fun g hg ho => HK.out.sep g ho hg), HK.out.sep, by have := hk.size; omega, HK.out.below.trans (hk.to_below (fun g' hg' hc => by have := HK.out.arr.low _ hc; omega) HK.out.below.size)⟩
                have HMN := hide HLM2.out
                have HLN : Hid (L.length = j ∧ M2.length = j) := hide ⟨HL.out, HML2.out⟩
                have x2 : w5.cell? ⟨w1.heap.size, 2, none⟩ = some (.int .i64 sz) := (blk_cell HKN.out.box 2).trans rfl
                have df : ¬ ((r.n : Int) ≤ (sz : Int) - (po : Int)) := by omega
                have df2 : decide ((r.n : Int) ≤ (sz : Int) - (po : Int)) = false := decide_eq_false df
                clear ha hk hlow hSA HS2 HK HLM2 HL HML2 HSET HPK HPO x3
                generalize L = LA at *
                generalize M2 = MA at *
                go_wp2_with fail
                clear x2
                have hK0 := HKN.out
                go_loopw [26, 27, 28] (fun u a1 a2 wx => ∃ i : Nat, i ≤ j ∧ u = .int .i64 i ∧ AKS w wx w1.heap.size j sz b cb w3.heap.size w2.heap.size w3.heap.size LA MA 0) (fun u _ _ _ => j - (intOf u).toNat)
                case atStart => exact ⟨0, Nat.zero_le _, rfl, hK0⟩
                case round =>
                  obtain ⟨i, hi, rfl, hKx⟩ := hrel
                  have x3 : wr.cell? ⟨w1.heap.size, 3, none⟩ = some (.int .i64 j) := (blk_cell hKx.box 3).trans rfl
                  have HKx := hide hKx
                  clear hKx hK0 HKN
                  by_cases hij : i < j
                  · obtain ⟨ra, hra⟩ : ∃ ra, LA[i]? = some ra := ⟨LA[i]'(by rw [HLN.out.1]; exact hij), List.getElem?_eq_getElem _⟩
                    obtain ⟨rm, hrm⟩ : ∃ rm, MA[i]? = some rm := ⟨MA[i]'(by rw [HLN.out.2]; exact hij), List.getElem?_eq_getElem _⟩
                    have hbs : rm.bs = ra.bs := by
                      have e : (MA.map AR.bs)[i]? = (LA.map AR.bs)[i]? := by rw [HMN.out]
                      rw [List.getElem?_map, List.getElem?_map, hra, hrm] at e
                      simpa using e
                    have HV := hide (value_yes _ b cb sz i LA ra wr HKx.out.arr hra)
                    have HRM := hide hrm
                    have HBS := hide hbs
                    have di0 : (0 : Int) ≤ (i : Int) := by omega
                    have di1 : (i : Int) < (j : Int) := by omega
                    clear hra hrm hbs
                    go_wp2_with fail
                    refine HV.out.mono ?_
                    rintro e wv ⟨v, rfl, hov, hbv⟩
                    obtain ⟨Av, cv, rfl, _⟩ := owns_slice hov.1
                    have HK7 := hide (HKx.out.later hbv)
                    have cM : wv.cell? ⟨w3.heap.size, i, none⟩ = some (.slice rm.A sz rm.c) := HK7.out.all.cell HRM.out
                    have hrw := HK7.out.all.row i rm HRM.out
                    rw [HBS.out] at hrw
                    have HSB := hide (sameBytes_yes Av rm.A sz cv rm.c _ ra.bs wv (Rd.of_own hov.1) (Rd.of_own hrw) (Nat.le_refl _) (by omega))
                    clear hov hbv hrw HV HKx x3
                    go_wp2_with fail
                    refine HSB.out.mono ?_
                    rintro e wq ⟨rfl, hbq⟩
                    have HK8 := hide (HK7.out.later hbq)
                    clear hbq HK7 cM HSB
                    go_wp2_with fail
                    go_roundw
                    case rel => exact ⟨i + 1, by omega, by go_num, HK8.out⟩
                    case measure => simp [intOf]; omega
                  · obtain rfl : i = j := by omega
                    go_wp2_with fail
                    go_ret
                    exact ⟨rfl, HKx.out.below⟩
  · have hcase : (100 : Int) < (m : Int) ∨ ((m : Int) ≤ 100 ∧ (100 : Int) < (mi : Int)) ∨ ((m : Int) ≤ 100 ∧ (mi : Int) ≤ 100 ∧ (100 : Int) < (r.n : Int)) := by omega
    rcases hcase with h1 | ⟨h1, h2⟩ | ⟨h1, h2, h3⟩
    · go_wp2_with fail
      go_ret
      exact ⟨rfl, HB1.out⟩
    · go_wp2_with fail
      go_ret
      exact ⟨rfl, HB1.out⟩
    · go_wp2_with fail
      go_ret
      exact ⟨rfl, HB1.out⟩
end Go.Proofs.Ytjkoaphomimebaa
