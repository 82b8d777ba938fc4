/-
  Whatever is made, written, read and freed: RegionLives' walk.
-/
import Derived.Test.YtbllnjkagleenaaGreatSP
import Derived.Test.YtbllnjkagleenaaGreatAP4
import Derived.Deep.CutBlock
import Derived.Deep.CutRange
namespace Go.Proofs.YtbllnjkagleenaaGreat
open Go.RowKit
set_option linter.unusedVariables false

/-- What a round stands on. -/
structure Turn (w0 w : World) (B b mm x : Nat) (tv : Value) (j : Nat) (L : List (Option PRow)) (v : Value) (R : List RRow) (TL : List TRow) : Prop where
  st : St w0 w B b mm L x v R tv TL
  sim : Sim L R
  len : L.length ≤ j
  told : TL.length ≤ j
theorem i64_wf {n : Int} (h : wfI n) : -9223372036854775808 ≤ n ∧ n ≤ 9223372036854775807 := by
  unfold wfI Lit.wf at h
  simp at h
  exact h
theorem lent_rd {w : World} {g n : Nat} {l : List Int} (h : Row w g (n + 12) 5 1 (n + 12) (u8s l ++ marks (mkB 1) 12)) (hl : l.length = n) : Rd w (g + 1) 1 (some ⟨g, 0, none⟩) n (u8s l) := by
  have h1 := owns_prefix (n := n) h (by omega)
  rw [List.take_append_of_le_length (by simp [u8s, hl])] at h1
  rw [List.take_of_length_le (by simp [u8s, hl])] at h1
  exact Rd.of_owns h1
theorem rdN_le {w : World} {B b mm : Nat} {L : List (Option PRow)} {i off size : Int} (h : Mem w B b mm L) : rdN (viewL L i) off size ≤ 4096 := by
  unfold viewL rdN
  cases hr : rowAt L i with
  | none => simp
  | some r =>
    have h2 := (h.at_ hr).2.1
    simp only [Option.map_some]
    split
    · rename_i hf
      obtain ⟨o, s, rfl, rfl, hfit⟩ := fits_parts hf
      omega
    · omega
theorem rows_told (TL : List TRow) : rowsV (fun i => (TL.getD i ⟨none, 0, 0⟩).A) (fun i => (TL.getD i ⟨none, 0, 0⟩).n) (fun i => (TL.getD i ⟨none, 0, 0⟩).c) TL.length = TL.map TRow.sl := by
  apply List.ext_getElem?
  intro i
  unfold rowsV
  rw [List.getElem?_map, List.getElem?_map]
  by_cases hi : i < TL.length
  · rw [List.getElem?_range hi, List.getElem?_eq_getElem hi]
    simp [rowV, TRow.sl, List.getD_eq_getElem?_getD, hi]
  · rw [List.getElem?_eq_none (by simp; omega), List.getElem?_eq_none (by omega)]
    rfl
theorem row_told {TL : List TRow} {i : Nat} (hi : i < TL.length) : ∃ t, TL[i]? = some t ∧ rowV (fun i => (TL.getD i ⟨none, 0, 0⟩).A) (fun i => (TL.getD i ⟨none, 0, 0⟩).n) (fun i => (TL.getD i ⟨none, 0, 0⟩).c) i = t.sl ∧ (TL.getD i ⟨none, 0, 0⟩).n = t.n :=
  ⟨TL[i], List.getElem?_eq_getElem hi, by simp [rowV, TRow.sl, List.getD_eq_getElem?_getD, hi], by simp [List.getD_eq_getElem?_getD, hi]⟩
theorem wf_small {k : Nat} (h : k ≤ 1000000) : wfI (k : Int) := wf_nat (by omega)
/-- What stands in a slot of the region that writes into both. -/
def TWr (b x D G n N : Nat) (off E : Int) (A : Option Addr) (c : Nat) (j : Nat) (σ : Nat → Value) (_ : World) : Prop :=
  match j with
  | 0 => σ 0 = .pointer (some ⟨b, 0, none⟩)
  | 1 => σ 1 = .int .i64 n
  | 2 => σ 2 = .pointer (some ⟨D, 3, none⟩)
  | 3 => σ 3 = .int .i64 off
  | 4 => σ 4 = .slice (some ⟨G, 0, none⟩) N (N + 12)
  | 5 => σ 5 = .int .i64 E
  | 6 => σ 6 = .pointer (some ⟨x, 0, none⟩)
  | 7 => σ 7 = .int .i64 n
  | 8 => σ 8 = .pointer (some ⟨D, 3, none⟩)
  | 9 => σ 9 = .int .i64 off
  | 10 => σ 10 = .pointer (some ⟨D, 5, none⟩)
  | 11 => σ 11 = .slice A N c
  | 12 => σ 12 = .int .i64 E
  | 13 => σ 13 = .bool false
  | _ => True
/-- Which of both has been written. -/
def GWr (w0 wx : World) (X : Nat → Prop) (B b mm x : Nat) (L : List (Option PRow)) (v : Value) (R : List RRow) (tv : Value) (TL : List TRow) (i off : Int) (q : Nat) (d : List Int) (done : Nat → Bool) (W : World) : Prop :=
  All w0 wx W X B b mm (if done 5 = true then wrL L i off q d else L) x v (if done 12 = true then wrR R i off q d else R) tv TL
theorem GWr.same {w0 wx W : World} {X : Nat → Prop} {B b mm x : Nat} {L : List (Option PRow)} {v : Value} {R : List RRow} {tv : Value} {TL : List TRow} {i off : Int} {q : Nat} {d : List Int} {M : Nat → Bool} {j : Nat} (h : GWr w0 wx X B b mm x L v R tv TL i off q d M W) (h5 : j ≠ 5) (h12 : j ≠ 12) : GWr w0 wx X B b mm x L v R tv TL i off q d (fun k => M k || k == j) W := by
  unfold GWr at h ⊢
  have e5 : (5 == j) = false := by simpa using fun e => h5 e.symm
  have e12 : (12 == j) = false := by simpa using fun e => h12 e.symm
  simp only [e5, e12, Bool.or_false]
  exact h
theorem wr_frees {L : List (Option PRow)} {M : Nat → Bool} {i off : Int} {q : Nat} {d : List Int} : (if M 5 = true then wrL L i off q d else L).length = L.length := by split <;> simp [wrL_len]
theorem wrR_len {R : List RRow} {i off : Int} {q : Nat} {d : List Int} : (wrR R i off q d).length = R.length := by
  unfold wrR
  split
  · rfl
  · split <;> simp
set_option maxRecDepth 100000 in
set_option maxHeartbeats 8000000 in
theorem law_regionLives (A0 : Option Addr) (m c0 : Nat) (ds : List ADo) (w : World) (hA : ADos w w.heap.size A0 m ds) (hm : m ≤ 140737488351232) :
    Calls Tryz.prog 4 #[.slice A0 m c0] w fun e w' => e = .returned (.bool true) ∧ Below w.heap.size w w' := by
  have HA := hide hA
  clear hA
  go_enter Tryz.func4, Tryz.ntmps4
  go_wp2_with fail
  refine (great_any A0 m c0 _ ds w HA.out hm).mono ?_
  rintro e w1 ⟨g, rfl, rfl, hg⟩
  cases g with
  | true =>
    clear hg
    go_wp2_with fail
    refine (awake_any _).mono ?_
    rintro e w2 ⟨rfl, hb⟩
    have HB := hide hb
    clear hb
    go_wp2
    go_ret
    exact ⟨rfl, HB.out⟩
  | false =>
    obtain ⟨hm4, hn4⟩ := hg rfl
    have HN := hide hn4
    clear hg hn4
    go_wp2_with fail
    refine (new_M w).mono ?_
    rintro e w2 ⟨b, mm, rfl, hmem, hb⟩
    have HM2 := hide hmem
    have HB2 := hide hb
    clear hmem hb
    go_wp2_with fail
    refine (rnew_any w2).mono ?_
    rintro e w3 ⟨x, rfl, hr, hb⟩
    have hs0 : St w w3 w.heap.size b mm [] x (.slice none 0 0) [] (.slice none 0 0) [] := by
      have hs2 := HB2.out.size
      refine ⟨HM2.out.below hb, ⟨hr.blk, hr.lst, hr.row, fun g hg => Nat.le_trans hs2 (hr.low g hg), hr.sep⟩, ⟨⟨rfl, .inl ⟨rfl, rfl⟩⟩, fun i t hi => by simp at hi, fun t ht => by simp at ht, fun g hg => ?_, fun i j r s hi => by simp at hi⟩, fun g hm ho => ?_, fun g hm ho => ?_, fun g hm ho => ?_, Nat.le_refl _, Nat.le_trans hs2 hb.size, HB2.out.trans (hb.mono hs2)⟩
      · rcases hg with hg | ⟨t, ht, _⟩
        · cases hg
        · simp at ht
      · have h1 := HM2.out.lt g hm
        have h2 := hr.low g ho
        omega
      · rcases ho with ho | ⟨t, ht, _⟩
        · cases ho
        · simp at ht
      · rcases ho with ho | ⟨t, ht, _⟩
        · cases ho
        · simp at ht
    have HS0 := hide hs0
    clear hr hb hs0 HM2 HB2
    obtain ⟨B, hB⟩ : ∃ B, B = w.heap.size := ⟨_, rfl⟩
    have HB := hide hB
    rw [← hB] at HS0
    clear hB
    go_wp2_with fail
    go_loopw [5, 6] (fun tv u wr => ∃ (j : Nat) (L : List (Option PRow)) (v : Value) (R : List RRow) (TL : List TRow), j ≤ m ∧ u = .int .i64 j ∧ Turn w wr B b mm x tv j L v R TL) (fun _ u _ => m - (intOf u).toNat)
    case atStart => exact ⟨0, [], _, [], [], Nat.zero_le _, rfl, HS0.out, ⟨rfl, fun i r hi => by simp at hi⟩, Nat.le_refl _, Nat.le_refl _⟩
    case round =>
      obtain ⟨j, L, v, R, TL, hj, rfl, ht⟩ := hrel
      have HT := hide ht
      clear ht
      by_cases hjm : j < m
      · have hAr := HA.out.below HT.out.st.below
        obtain ⟨ad, d, rfl, hd, hadb, hc⟩ := hAr.cell hjm
        have HI := hide (hAr.inner d (List.mem_of_getElem? hd))
        have HN1 := hide (HN.out d (List.mem_of_getElem? hd))
        have c0 : wr.cell? (ad.add (j * 6)) = some (.int .i64 d.what) := hc 0 _ rfl
        have c1 := hc 1 _ rfl
        have c2 := hc 2 _ rfl
        have c3 := hc 3 _ rfl
        have c4 := hc 4 _ rfl
        have c5 := hc 5 _ rfl
        rw [add_parts ad _ 1 (by decide)] at c1
        rw [add_parts ad _ 2 (by decide)] at c2
        rw [add_parts ad _ 3 (by decide)] at c3
        rw [add_parts ad _ 4 (by decide)] at c4
        rw [add_parts ad _ 5 (by decide)] at c5
        have HMEM := hide (List.mem_of_getElem? hd)
        clear hc hAr hd
        go_wp2_with fail
        obtain ⟨W1, hW1⟩ : ∃ W1, W1 = wr.alloc (.cells #[.int .i64 d.what, .int .i64 d.region, .int .u8 d.kind, .int .i64 d.off, .int .i64 d.size, .slice d.b.A d.b.n d.b.c] 28) := ⟨_, rfl⟩
        rw [← hW1]
        have hb1 : Below wr.heap.size wr W1 := by rw [hW1]; exact below1 _ _
        have hbox : W1.heap[wr.heap.size]? = some (.cells #[.int .i64 d.what, .int .i64 d.region, .int .u8 d.kind, .int .i64 d.off, .int .i64 d.size, .slice d.b.A d.b.n d.b.c] 28 (0, 0)) := by rw [hW1]; exact World.alloc_heap_new _ _
        have HB1 := hide hb1
        have HX1 := hide hbox
        obtain ⟨D, hD⟩ : ∃ D, D = wr.heap.size := ⟨_, rfl⟩
        rw [← hD] at HX1 ⊢
        have hDs : D < W1.heap.size := at_lt HX1.out
        have HD := hide hD
        have d0 : W1.cell? ⟨D, 0, none⟩ = some (.int .i64 d.what) := (blk_cell HX1.out 0).trans rfl
        have d5 : W1.cell? ⟨D, 5, none⟩ = some (.slice d.b.A d.b.n d.b.c) := (blk_cell HX1.out 5).trans rfl
        clear hb1 hbox hW1 hD c0 c1 c2 c3 c4 c5
        have hwr := i64_wf HI.out.region
        refine (pick_any d.region 12 W1 (by decide) (by decide) hwr.1 hwr.2).mono ?_
        rintro e w4 ⟨n, hn12, rfl, rfl⟩
        clear hwr
        have HN12 := hide hn12
        clear hn12
        go_wp2_with fail
        refine (lentBytes_any d.b.A d.b.n d.b.c w.heap.size d.b.bs W1 ((HI.out.rd).below (HB1.out.mono HT.out.st.below.size)) HI.out.nil (Nat.le_trans HT.out.st.below.size HB1.out.size) (Nat.le_trans HN1.out (by decide))).mono ?_
        rintro e W2 ⟨rfl, hrow, hb2⟩
        have d0 : W2.cell? ⟨D, 0, none⟩ = some (.int .i64 d.what) := (hb2.cell (p := ⟨D, 0, none⟩) hDs).trans d0
        obtain ⟨G, hG⟩ : ∃ G, G = W1.heap.size := ⟨_, rfl⟩
        have hb2' := hb2
        rw [← hG] at hDs hrow hb2' ⊢
        have HGs := hide hG
        have HROW := hide hrow
        have HB2 := hide hb2'
        have hall : All w W2 W2 (fun g => g = D ∨ g = G) B b mm L x v R u5 TL := by
          have hD := HD.out
          have h1 := HT.out.st.size
          have h2 := HB1.out.size
          refine ⟨(HT.out.st.later HB1.out).later hb2, Kept.refl _ _, fun g hg => ?_⟩
          have hgw : g < W2.heap.size ∧ wr.heap.size ≤ g := by
            rcases hg with rfl | rfl
            · exact ⟨Nat.lt_of_lt_of_le hDs (hG ▸ hb2.size), by omega⟩
            · exact ⟨row_lt hrow, by omega⟩
          exact ⟨by omega, hgw.1, fun h => by have := HT.out.st.mem.lt g h; omega, fun h => by have := HT.out.st.ref.lt g h; omega, fun h => by have := HT.out.st.told.lt g h; omega⟩
        have hbox : W2.heap[D]? = some (.cells #[.int .i64 d.what, .int .i64 d.region, .int .u8 d.kind, .int .i64 d.off, .int .i64 d.size, .slice d.b.A d.b.n d.b.c] 28 (0, 0)) := (hb2.block D (at_lt HX1.out)).trans HX1.out
        have HAL := hide hall
        have HX2 := hide hbox
        clear hrow hb2 hb2' hG hall hbox d5
        go_wp2_with fail
        have hww := i64_wf HI.out.what
        refine (pick_any d.what 6 W2 (by decide) (by decide) hww.1 hww.2).mono ?_
        rintro e w5 ⟨q, hq6, rfl, rfl⟩
        clear hww d0
        go_upto_block 2 with fail
        go_cut [5, 10, 11, 12, 13, 14, 15, 16, 17] from 23 to 152 (fun s5 s10 s11 s12 s13 s14 s15 s16 s17 wc => ∃ (L' : List (Option PRow)) (v' : Value) (R' : List RRow) (TL' : List TRow), All w W2 wc (fun g => g = D ∨ g = G) B b mm L' x v' R' s5 TL' ∧ Sim L' R' ∧ L'.length ≤ j + 1 ∧ TL'.length ≤ j + 1)
        case first =>
          have hwn : wfI (n : Int) := wf_small (by have := HN12.out; omega)
          have HWN := hide hwn
          have HWO := hide HI.out.off
          have hLl : L.length ≤ 400 := by have := HT.out.len; omega
          have hRl : R.length ≤ 400 := by have := HT.out.sim.len; omega
          have hTl : TL.length ≤ 400 := by have := HT.out.told; omega
          have HBs : Hid (B ≤ W2.heap.size ∧ G + 1 ≤ W2.heap.size) := ⟨HAL.out.st.size, row_lt HROW.out⟩
          have HRD : Hid (Rd W2 (G + 1) 1 (some ⟨G, 0, none⟩) d.b.n (u8s d.b.bs)) := lent_rd HROW.out (by have := HI.out.rd.1; simpa [u8s] using this)
          have HAW : Hid (∀ W, Below w.heap.size w W → Rd W w.heap.size 1 d.b.A d.b.n (u8s d.b.bs)) := fun W h => ((HA.out.below h).inner d HMEM.out).rd
          have HXA : Hid (∀ {W L v R tv TL}, All w W2 W (fun g => g = D ∨ g = G) B b mm L x v R tv TL → W.heap[D]? = some (.cells #[.int .i64 d.what, .int .i64 d.region, .int .u8 d.kind, .int .i64 d.off, .int .i64 d.size, .slice d.b.A d.b.n d.b.c] 28 (0, 0))) := fun h => (h.kept.block D (at_lt HX2.out) (.inl rfl)).trans HX2.out
          clear hwn
          have hq : q = 0 ∨ q = 1 ∨ q = 2 ∨ q = 3 ∨ q = 4 ∨ q = 5 := by omega
          clear hq6
          rcases hq with rfl | rfl | rfl | rfl | rfl | rfl
          · have d2 : W2.cell? ⟨D, 2, none⟩ = some (.int .u8 d.kind) := (blk_cell HX2.out 2).trans rfl
            go_wp2_with fail
            refine (make_both HAL.out.st.mem (by omega) d.kind _ _ _ (G + 1) d.b.bs (Nat.le_trans HN1.out (by decide)) HRD.out nofun HBs.out.2 HBs.out.1).mono ?_
            rintro e W3 ⟨L', rfl, hml, hm3, hk3⟩
            have hal := HAL.out.prog hk3 hm3 hml.sub
            have HAL3 := hide hal
            have HML := hide hml
            have d2 : W3.cell? ⟨D, 2, none⟩ = some (.int .u8 d.kind) := (blk_cell (HXA.out hal) 2).trans rfl
            have d5 : W3.cell? ⟨D, 5, none⟩ = some (.slice d.b.A d.b.n d.b.c) := (blk_cell (HXA.out hal) 5).trans rfl
            have hsl : R.length = L.length := HT.out.sim.len.symm
            have HSL := hide hsl
            clear hsl hal hml hm3 hk3
            go_wp2_with fail
            refine (rmake_both HAL3.out.st.ref (by omega) d.kind d.b.A d.b.n d.b.c w.heap.size d.b.bs (Nat.le_trans HN1.out (by decide)) (HAW.out _ HAL3.out.st.below) HI.out.nil HAL3.out.st.base HAL3.out.st.size).mono ?_
            rintro e W4 ⟨v', R', rfl, hmr, hm4, hk4, hs4⟩
            have hal := HAL3.out.doc hk4 hm4 hs4
            have hsim := HT.out.sim.makes HML.out hmr
            have hlen := HML.out.len
            have HAL4 := hide hal
            have HSIM := hide hsim
            clear hal hsim hmr hm4 hk4 hs4 d2 d5
            rw [HSL.out]
            generalize mkA L.length d.kind d.b.n = ma
            generalize mkE d.kind d.b.n = me
            go_wp2_with fail
            go_meet
            case rel => exact ⟨L', v', R', TL, HAL4.out, HSIM.out, by have := HT.out.len; omega, by have := HT.out.told; omega⟩
          · go_wp2_with fail
            rename_i K hK
            have hlen : d.b.bs.length = d.b.n := by have := HI.out.rd.1; simpa [u8s] using this
            have HLEN := hide hlen
            clear hlen
            have hE19 : ∀ args (W : World), (callFunc 20 args).run Tryz.prog W = .ok (.enter 20 args) W := by intro args W; kernel_rfl
            have hE20 : ∀ args (W : World), (callFunc 21 args).run Tryz.prog W = .ok (.enter 21 args) W := by intro args W; kernel_rfl
            refine wp_tells2 (by kernel_rfl) (TWr b x D G n d.b.n d.off (accE (viewL L (n : Int)) d.off d.b.n) d.b.A d.b.c) (GWr w W2 (fun g => g = D ∨ g = G) B b mm x L v R u5 TL (n : Int) d.off d.b.n d.b.bs) (by kernel_rfl) (by kernel_rfl) (by kernel_rfl) (by kernel_rfl) ?_ ?_ ?_ ?_
            · intro j oj σ σ' W hj h hs
              have h0 := hs j (.inl rfl)
              have hi : j < 14 := (Array.getElem?_eq_some_iff.1 hj).1
              have hi' : j = 0 ∨ j = 1 ∨ j = 2 ∨ j = 3 ∨ j = 4 ∨ j = 5 ∨ j = 6 ∨ j = 7 ∨ j = 8 ∨ j = 9 ∨ j = 10 ∨ j = 11 ∨ j = 12 ∨ j = 13 := by omega
              rcases hi' with rfl | rfl | rfl | rfl | rfl | rfl | rfl | rfl | rfl | rfl | rfl | rfl | rfl | rfl
              all_goals (simp only [TWr] at h ⊢; rw [h0]; exact h)
            · unfold GWr
              exact ⟨HAL.out.st.later (Below.refl _ _).drew, HAL.out.kept.drew, HAL.out.off⟩
            · intro i o ho M a W hi hG hold hT hh
              have hi2 : i < 14 := (Array.getElem?_eq_some_iff.1 ho).1
              have hi' : i = 0 ∨ i = 1 ∨ i = 2 ∨ i = 3 ∨ i = 4 ∨ i = 5 ∨ i = 6 ∨ i = 7 ∨ i = 8 ∨ i = 9 ∨ i = 10 ∨ i = 11 ∨ i = 12 ∨ i = 13 := by omega
              rcases hi' with rfl | rfl | rfl | rfl | rfl | rfl | rfl | rfl | rfl | rfl | rfl | rfl | rfl | rfl
              · cases ho
                refine step2_told (.pointer (some ⟨b, 0, none⟩)) ?_ (by decide) (hG.same (by decide) (by decide)) hT rfl
                have e0 : a.eval (.tmp 3) = .pointer (some ⟨b, 0, none⟩) := hold 3 (by kernel_rfl)
                generalize a.eval = ev at e0 ⊢
                simp [execOp, go_sem, e0]
              · cases ho
                refine step2_told (.int .i64 n) ?_ (by decide) (hG.same (by decide) (by decide)) hT rfl
                have e0 : a.eval (.tmp 8) = .int .i64 n := hold 8 (by kernel_rfl)
                generalize a.eval = ev at e0 ⊢
                simp [execOp, go_sem, e0]
              · cases ho
                refine step2_told (.pointer (some ⟨D, 3, none⟩)) ?_ (by decide) (hG.same (by decide) (by decide)) hT rfl
                have e0 : a.eval (.tmp 7) = .pointer (some ⟨D, 0, none⟩) := hold 7 (by kernel_rfl)
                generalize a.eval = ev at e0 ⊢
                simp [execOp, go_sem, e0]
              · cases ho
                refine step2_told (.int .i64 d.off) ?_ (by decide) (hG.same (by decide) (by decide)) hT rfl
                have e0 : a.eval (.tmp 44) = .pointer (some ⟨D, 3, none⟩) := hT 2 (hh 2 rfl)
                have dx : W.cell? ⟨D, 3, none⟩ = some _ := (blk_cell (HXA.out hG) 3).trans rfl
                generalize a.eval = ev at e0 ⊢
                simp [execOp, go_sem, e0, dx]
              · cases ho
                refine step2_told (.slice (some ⟨G, 0, none⟩) d.b.n (d.b.n + 12)) ?_ (by decide) (hG.same (by decide) (by decide)) hT rfl
                have e0 : a.eval (.tmp 9) = .slice (some ⟨G, 0, none⟩) d.b.n (d.b.n + 12) := hold 9 (by kernel_rfl)
                generalize a.eval = ev at e0 ⊢
                simp [execOp, go_sem, e0]
              · cases ho
                have e0 : a.eval (.tmp 42) = .pointer (some ⟨b, 0, none⟩) := hT 0 (hh 0 rfl)
                have e1 : a.eval (.tmp 43) = .int .i64 n := hT 1 (hh 1 rfl)
                have e2 : a.eval (.tmp 45) = .int .i64 d.off := hT 3 (hh 3 rfl)
                have e3 : a.eval (.tmp 46) = .slice (some ⟨G, 0, none⟩) d.b.n (d.b.n + 12) := hT 4 (hh 4 rfl)
                unfold GWr at hG
                have hGs := hG.st
                rw [if_neg (by simp [hi])] at hGs hG
                have hrd : Rd W (G + 1) 1 (some ⟨G, 0, none⟩) d.b.n (u8s d.b.bs) := lent_rd (owns_kept HROW.out hG.kept (fun g hg => .inr (by cases hg; rfl))) HLEN.out
                refine step2_called (R := fun u W' => u = .int .i64 (accE (viewL L (n : Int)) d.off d.b.n) ∧ Mem W' B b mm (wrL L (n : Int) d.off d.b.n d.b.bs) ∧ Kept (fun g => ¬ OfM b mm L g) W W') ?_ (by decide) ((write_both hGs.mem HWN.out HWO.out d.b.n (some ⟨G, 0, none⟩) (d.b.n + 12) (G + 1) d.b.bs hrd (Nat.le_trans HBs.out.2 hG.kept.size)).mono ?_) ?_
                · have ef : a.eval (.func 20) = .func (.func 20) #[] #[] := rfl
                  generalize a.eval = ev at e0 e1 e2 e3 ef ⊢
                  simp [execOp, go_sem, e0, e1, e2, e3, ef, hE19]
                · rintro e W' ⟨h1, h2⟩
                  exact ⟨_, h1, rfl, h2⟩
                · rintro u W' ⟨rfl, hm', hk'⟩
                  refine ⟨?_, hT, rfl⟩
                  unfold GWr
                  have hnew := hG.prog hk' hm' (fun g hg => .inl (wrL_sub hg))
                  simpa using hnew
              · cases ho
                refine step2_told (.pointer (some ⟨x, 0, none⟩)) ?_ (by decide) (hG.same (by decide) (by decide)) hT rfl
                have e0 : a.eval (.tmp 4) = .pointer (some ⟨x, 0, none⟩) := hold 4 (by kernel_rfl)
                generalize a.eval = ev at e0 ⊢
                simp [execOp, go_sem, e0]
              · cases ho
                refine step2_told (.int .i64 n) ?_ (by decide) (hG.same (by decide) (by decide)) hT rfl
                have e0 : a.eval (.tmp 8) = .int .i64 n := hold 8 (by kernel_rfl)
                generalize a.eval = ev at e0 ⊢
                simp [execOp, go_sem, e0]
              · cases ho
                refine step2_told (.pointer (some ⟨D, 3, none⟩)) ?_ (by decide) (hG.same (by decide) (by decide)) hT rfl
                have e0 : a.eval (.tmp 7) = .pointer (some ⟨D, 0, none⟩) := hold 7 (by kernel_rfl)
                generalize a.eval = ev at e0 ⊢
                simp [execOp, go_sem, e0]
              · cases ho
                refine step2_told (.int .i64 d.off) ?_ (by decide) (hG.same (by decide) (by decide)) hT rfl
                have e0 : a.eval (.tmp 50) = .pointer (some ⟨D, 3, none⟩) := hT 8 (hh 8 rfl)
                have dx : W.cell? ⟨D, 3, none⟩ = some _ := (blk_cell (HXA.out hG) 3).trans rfl
                generalize a.eval = ev at e0 ⊢
                simp [execOp, go_sem, e0, dx]
              · cases ho
                refine step2_told (.pointer (some ⟨D, 5, none⟩)) ?_ (by decide) (hG.same (by decide) (by decide)) hT rfl
                have e0 : a.eval (.tmp 7) = .pointer (some ⟨D, 0, none⟩) := hold 7 (by kernel_rfl)
                generalize a.eval = ev at e0 ⊢
                simp [execOp, go_sem, e0]
              · cases ho
                refine step2_told (.slice d.b.A d.b.n d.b.c) ?_ (by decide) (hG.same (by decide) (by decide)) hT rfl
                have e0 : a.eval (.tmp 52) = .pointer (some ⟨D, 5, none⟩) := hT 10 (hh 10 rfl)
                have dx : W.cell? ⟨D, 5, none⟩ = some _ := (blk_cell (HXA.out hG) 5).trans rfl
                generalize a.eval = ev at e0 ⊢
                simp [execOp, go_sem, e0, dx]
              · cases ho
                have e0 : a.eval (.tmp 48) = .pointer (some ⟨x, 0, none⟩) := hT 6 (hh 6 rfl)
                have e1 : a.eval (.tmp 49) = .int .i64 n := hT 7 (hh 7 rfl)
                have e2 : a.eval (.tmp 51) = .int .i64 d.off := hT 9 (hh 9 rfl)
                have e3 : a.eval (.tmp 53) = .slice d.b.A d.b.n d.b.c := hT 11 (hh 11 rfl)
                unfold GWr at hG
                have hGs := hG.st
                rw [if_neg (c := M 12 = true) (by simp [hi])] at hGs hG
                have hoo := i64_wf HI.out.off
                have hcall := rwrite_both (i := (n : Int)) hGs.ref (by omega) hoo.2 hoo.1 d.b.n (Nat.le_trans HN1.out (by decide)) d.b.A d.b.c w.heap.size d.b.bs (HAW.out _ hGs.below) (Nat.le_trans hGs.base hGs.size)
                rw [HT.out.sim.view] at hcall
                refine step2_called (R := fun u W' => u = .int .i64 (accE (viewL L (n : Int)) d.off d.b.n) ∧ RMem W' B x v (wrR R (n : Int) d.off d.b.n d.b.bs) ∧ Kept (fun g => ¬ OfR x v R g) W W') ?_ (by decide) (hcall.mono ?_) ?_
                · have ef : a.eval (.func 21) = .func (.func 21) #[] #[] := rfl
                  generalize a.eval = ev at e0 e1 e2 e3 ef ⊢
                  simp [execOp, go_sem, e0, e1, e2, e3, ef, hE20]
                · rintro e W' ⟨h1, h2⟩
                  exact ⟨_, h1, rfl, h2⟩
                · rintro u W' ⟨rfl, hm', hk'⟩
                  refine ⟨?_, hT, rfl⟩
                  unfold GWr
                  have hnew := hG.doc hk' hm' (fun g hg => .inl (wrR_sub hg))
                  simpa using hnew
              · cases ho
                refine step2_told (.bool false) ?_ (by decide) (hG.same (by decide) (by decide)) hT rfl
                have e0 : a.eval (.tmp 47) = .int .i64 (accE (viewL L (n : Int)) d.off d.b.n) := hT 5 (hh 5 rfl)
                have e1 : a.eval (.tmp 54) = .int .i64 (accE (viewL L (n : Int)) d.off d.b.n) := hT 12 (hh 12 rfl)
                generalize a.eval = ev at e0 e1 ⊢
                simp [execOp, go_sem, e0, e1]
            · intro a W hd hs hold hT hG
              have e13 : a.tmps.getD 55 undef = .bool false := hT 13 (by decide)
              unfold GWr at hG
              rw [if_pos (by decide), if_pos (by decide)] at hG
              have HGN := hide hG
              have HSIM := hide (HT.out.sim.writes (i := (n : Int)) (off := d.off) d.b.n d.b.bs)
              obtain ⟨f, hf, ha⟩ := act_puts [42, 43, 44, 45, 46, 47, 48, 49, 50, 51, 52, 53, 54, 55] (fun t ht => by
                by_cases h : t ∈ [42, 43, 44, 45, 46, 47, 48, 49, 50, 51, 52, 53, 54, 55]
                · exact h
                · exfalso
                  simp [unwritten] at ht
                  simp only [List.mem_cons, not_or] at h
                  obtain ⟨h1, h2, h3, h4, h5, h6, h7, h8, h9, h10, h11, h12, h13, h14, _⟩ := h
                  exact absurd (ht (fun e => h1 e.symm) (fun e => h2 e.symm) (fun e => h3 e.symm) (fun e => h4 e.symm) (fun e => h5 e.symm) (fun e => h6 e.symm) (fun e => h7 e.symm) (fun e => h8 e.symm) (fun e => h9 e.symm) (fun e => h10 e.symm) (fun e => h11 e.symm) (fun e => h12 e.symm) (fun e => h13 e.symm)) (fun e => h14 e.symm)) (fun t ht => by
                have hsz : t < 158 := by
                  simp only [List.mem_cons, List.mem_nil_iff, or_false] at ht
                  omega
                exact hsz) hd hs hold
              have e55 : f 55 = .bool false := (hf 55).trans e13
              subst ha
              clear hd hs hold hT hf e13 hG
              show K _ _
              refine hK _ _ ?_
              simp only [List.foldl_cons, List.foldl_nil, e55]
              obtain ⟨u42, hu42⟩ : ∃ u, u = f 42 := ⟨_, rfl⟩
              obtain ⟨u43, hu43⟩ : ∃ u, u = f 43 := ⟨_, rfl⟩
              obtain ⟨u44, hu44⟩ : ∃ u, u = f 44 := ⟨_, rfl⟩
              obtain ⟨u45, hu45⟩ : ∃ u, u = f 45 := ⟨_, rfl⟩
              obtain ⟨u46, hu46⟩ : ∃ u, u = f 46 := ⟨_, rfl⟩
              obtain ⟨u47, hu47⟩ : ∃ u, u = f 47 := ⟨_, rfl⟩
              obtain ⟨u48, hu48⟩ : ∃ u, u = f 48 := ⟨_, rfl⟩
              obtain ⟨u49, hu49⟩ : ∃ u, u = f 49 := ⟨_, rfl⟩
              obtain ⟨u50, hu50⟩ : ∃ u, u = f 50 := ⟨_, rfl⟩
              obtain ⟨u51, hu51⟩ : ∃ u, u = f 51 := ⟨_, rfl⟩
              obtain ⟨u52, hu52⟩ : ∃ u, u = f 52 := ⟨_, rfl⟩
              obtain ⟨u53, hu53⟩ : ∃ u, u = f 53 := ⟨_, rfl⟩
              obtain ⟨u54, hu54⟩ : ∃ u, u = f 54 := ⟨_, rfl⟩
              rw [← hu42, ← hu43, ← hu44, ← hu45, ← hu46, ← hu47, ← hu48, ← hu49, ← hu50, ← hu51, ← hu52, ← hu53, ← hu54]
              clear hu42 hu43 hu44 hu45 hu46 hu47 hu48 hu49 hu50 hu51 hu52 hu53 hu54 e55
              go_simp
              go_wp2_with fail
              go_meet
              case rel => exact ⟨_, v, _, TL, HGN.out, HSIM.out, by have := HT.out.len; rw [wrL_len]; omega, by have := HT.out.told; omega⟩
          · go_wp2_with fail
            rename_i K hK
            have hlen : d.b.bs.length = d.b.n := by have := HI.out.rd.1; simpa [u8s] using this
            have HLEN := hide hlen
            clear hlen
            have hE19 : ∀ args (W : World), (callFunc 20 args).run Tryz.prog W = .ok (.enter 20 args) W := by intro args W; kernel_rfl
            have hE20 : ∀ args (W : World), (callFunc 21 args).run Tryz.prog W = .ok (.enter 21 args) W := by intro args W; kernel_rfl
            refine wp_tells2 (by kernel_rfl) (TWr b x D G n d.b.n d.off (accE (viewL L (n : Int)) d.off d.b.n) d.b.A d.b.c) (GWr w W2 (fun g => g = D ∨ g = G) B b mm x L v R u5 TL (n : Int) d.off d.b.n d.b.bs) (by kernel_rfl) (by kernel_rfl) (by kernel_rfl) (by kernel_rfl) ?_ ?_ ?_ ?_
            · intro j oj σ σ' W hj h hs
              have h0 := hs j (.inl rfl)
              have hi : j < 14 := (Array.getElem?_eq_some_iff.1 hj).1
              have hi' : j = 0 ∨ j = 1 ∨ j = 2 ∨ j = 3 ∨ j = 4 ∨ j = 5 ∨ j = 6 ∨ j = 7 ∨ j = 8 ∨ j = 9 ∨ j = 10 ∨ j = 11 ∨ j = 12 ∨ j = 13 := by omega
              rcases hi' with rfl | rfl | rfl | rfl | rfl | rfl | rfl | rfl | rfl | rfl | rfl | rfl | rfl | rfl
              all_goals (simp only [TWr] at h ⊢; rw [h0]; exact h)
            · unfold GWr
              exact ⟨HAL.out.st.later (Below.refl _ _).drew, HAL.out.kept.drew, HAL.out.off⟩
            · intro i o ho M a W hi hG hold hT hh
              have hi2 : i < 14 := (Array.getElem?_eq_some_iff.1 ho).1
              have hi' : i = 0 ∨ i = 1 ∨ i = 2 ∨ i = 3 ∨ i = 4 ∨ i = 5 ∨ i = 6 ∨ i = 7 ∨ i = 8 ∨ i = 9 ∨ i = 10 ∨ i = 11 ∨ i = 12 ∨ i = 13 := by omega
              rcases hi' with rfl | rfl | rfl | rfl | rfl | rfl | rfl | rfl | rfl | rfl | rfl | rfl | rfl | rfl
              · cases ho
                refine step2_told (.pointer (some ⟨b, 0, none⟩)) ?_ (by decide) (hG.same (by decide) (by decide)) hT rfl
                have e0 : a.eval (.tmp 3) = .pointer (some ⟨b, 0, none⟩) := hold 3 (by kernel_rfl)
                generalize a.eval = ev at e0 ⊢
                simp [execOp, go_sem, e0]
              · cases ho
                refine step2_told (.int .i64 n) ?_ (by decide) (hG.same (by decide) (by decide)) hT rfl
                have e0 : a.eval (.tmp 8) = .int .i64 n := hold 8 (by kernel_rfl)
                generalize a.eval = ev at e0 ⊢
                simp [execOp, go_sem, e0]
              · cases ho
                refine step2_told (.pointer (some ⟨D, 3, none⟩)) ?_ (by decide) (hG.same (by decide) (by decide)) hT rfl
                have e0 : a.eval (.tmp 7) = .pointer (some ⟨D, 0, none⟩) := hold 7 (by kernel_rfl)
                generalize a.eval = ev at e0 ⊢
                simp [execOp, go_sem, e0]
              · cases ho
                refine step2_told (.int .i64 d.off) ?_ (by decide) (hG.same (by decide) (by decide)) hT rfl
                have e0 : a.eval (.tmp 44) = .pointer (some ⟨D, 3, none⟩) := hT 2 (hh 2 rfl)
                have dx : W.cell? ⟨D, 3, none⟩ = some _ := (blk_cell (HXA.out hG) 3).trans rfl
                generalize a.eval = ev at e0 ⊢
                simp [execOp, go_sem, e0, dx]
              · cases ho
                refine step2_told (.slice (some ⟨G, 0, none⟩) d.b.n (d.b.n + 12)) ?_ (by decide) (hG.same (by decide) (by decide)) hT rfl
                have e0 : a.eval (.tmp 9) = .slice (some ⟨G, 0, none⟩) d.b.n (d.b.n + 12) := hold 9 (by kernel_rfl)
                generalize a.eval = ev at e0 ⊢
                simp [execOp, go_sem, e0]
              · cases ho
                have e0 : a.eval (.tmp 42) = .pointer (some ⟨b, 0, none⟩) := hT 0 (hh 0 rfl)
                have e1 : a.eval (.tmp 43) = .int .i64 n := hT 1 (hh 1 rfl)
                have e2 : a.eval (.tmp 45) = .int .i64 d.off := hT 3 (hh 3 rfl)
                have e3 : a.eval (.tmp 46) = .slice (some ⟨G, 0, none⟩) d.b.n (d.b.n + 12) := hT 4 (hh 4 rfl)
                unfold GWr at hG
                have hGs := hG.st
                rw [if_neg (by simp [hi])] at hGs hG
                have hrd : Rd W (G + 1) 1 (some ⟨G, 0, none⟩) d.b.n (u8s d.b.bs) := lent_rd (owns_kept HROW.out hG.kept (fun g hg => .inr (by cases hg; rfl))) HLEN.out
                refine step2_called (R := fun u W' => u = .int .i64 (accE (viewL L (n : Int)) d.off d.b.n) ∧ Mem W' B b mm (wrL L (n : Int) d.off d.b.n d.b.bs) ∧ Kept (fun g => ¬ OfM b mm L g) W W') ?_ (by decide) ((write_both hGs.mem HWN.out HWO.out d.b.n (some ⟨G, 0, none⟩) (d.b.n + 12) (G + 1) d.b.bs hrd (Nat.le_trans HBs.out.2 hG.kept.size)).mono ?_) ?_
                · have ef : a.eval (.func 20) = .func (.func 20) #[] #[] := rfl
                  generalize a.eval = ev at e0 e1 e2 e3 ef ⊢
                  simp [execOp, go_sem, e0, e1, e2, e3, ef, hE19]
                · rintro e W' ⟨h1, h2⟩
                  exact ⟨_, h1, rfl, h2⟩
                · rintro u W' ⟨rfl, hm', hk'⟩
                  refine ⟨?_, hT, rfl⟩
                  unfold GWr
                  have hnew := hG.prog hk' hm' (fun g hg => .inl (wrL_sub hg))
                  simpa using hnew
              · cases ho
                refine step2_told (.pointer (some ⟨x, 0, none⟩)) ?_ (by decide) (hG.same (by decide) (by decide)) hT rfl
                have e0 : a.eval (.tmp 4) = .pointer (some ⟨x, 0, none⟩) := hold 4 (by kernel_rfl)
                generalize a.eval = ev at e0 ⊢
                simp [execOp, go_sem, e0]
              · cases ho
                refine step2_told (.int .i64 n) ?_ (by decide) (hG.same (by decide) (by decide)) hT rfl
                have e0 : a.eval (.tmp 8) = .int .i64 n := hold 8 (by kernel_rfl)
                generalize a.eval = ev at e0 ⊢
                simp [execOp, go_sem, e0]
              · cases ho
                refine step2_told (.pointer (some ⟨D, 3, none⟩)) ?_ (by decide) (hG.same (by decide) (by decide)) hT rfl
                have e0 : a.eval (.tmp 7) = .pointer (some ⟨D, 0, none⟩) := hold 7 (by kernel_rfl)
                generalize a.eval = ev at e0 ⊢
                simp [execOp, go_sem, e0]
              · cases ho
                refine step2_told (.int .i64 d.off) ?_ (by decide) (hG.same (by decide) (by decide)) hT rfl
                have e0 : a.eval (.tmp 50) = .pointer (some ⟨D, 3, none⟩) := hT 8 (hh 8 rfl)
                have dx : W.cell? ⟨D, 3, none⟩ = some _ := (blk_cell (HXA.out hG) 3).trans rfl
                generalize a.eval = ev at e0 ⊢
                simp [execOp, go_sem, e0, dx]
              · cases ho
                refine step2_told (.pointer (some ⟨D, 5, none⟩)) ?_ (by decide) (hG.same (by decide) (by decide)) hT rfl
                have e0 : a.eval (.tmp 7) = .pointer (some ⟨D, 0, none⟩) := hold 7 (by kernel_rfl)
                generalize a.eval = ev at e0 ⊢
                simp [execOp, go_sem, e0]
              · cases ho
                refine step2_told (.slice d.b.A d.b.n d.b.c) ?_ (by decide) (hG.same (by decide) (by decide)) hT rfl
                have e0 : a.eval (.tmp 52) = .pointer (some ⟨D, 5, none⟩) := hT 10 (hh 10 rfl)
                have dx : W.cell? ⟨D, 5, none⟩ = some _ := (blk_cell (HXA.out hG) 5).trans rfl
                generalize a.eval = ev at e0 ⊢
                simp [execOp, go_sem, e0, dx]
              · cases ho
                have e0 : a.eval (.tmp 48) = .pointer (some ⟨x, 0, none⟩) := hT 6 (hh 6 rfl)
                have e1 : a.eval (.tmp 49) = .int .i64 n := hT 7 (hh 7 rfl)
                have e2 : a.eval (.tmp 51) = .int .i64 d.off := hT 9 (hh 9 rfl)
                have e3 : a.eval (.tmp 53) = .slice d.b.A d.b.n d.b.c := hT 11 (hh 11 rfl)
                unfold GWr at hG
                have hGs := hG.st
                rw [if_neg (c := M 12 = true) (by simp [hi])] at hGs hG
                have hoo := i64_wf HI.out.off
                have hcall := rwrite_both (i := (n : Int)) hGs.ref (by omega) hoo.2 hoo.1 d.b.n (Nat.le_trans HN1.out (by decide)) d.b.A d.b.c w.heap.size d.b.bs (HAW.out _ hGs.below) (Nat.le_trans hGs.base hGs.size)
                rw [HT.out.sim.view] at hcall
                refine step2_called (R := fun u W' => u = .int .i64 (accE (viewL L (n : Int)) d.off d.b.n) ∧ RMem W' B x v (wrR R (n : Int) d.off d.b.n d.b.bs) ∧ Kept (fun g => ¬ OfR x v R g) W W') ?_ (by decide) (hcall.mono ?_) ?_
                · have ef : a.eval (.func 21) = .func (.func 21) #[] #[] := rfl
                  generalize a.eval = ev at e0 e1 e2 e3 ef ⊢
                  simp [execOp, go_sem, e0, e1, e2, e3, ef, hE20]
                · rintro e W' ⟨h1, h2⟩
                  exact ⟨_, h1, rfl, h2⟩
                · rintro u W' ⟨rfl, hm', hk'⟩
                  refine ⟨?_, hT, rfl⟩
                  unfold GWr
                  have hnew := hG.doc hk' hm' (fun g hg => .inl (wrR_sub hg))
                  simpa using hnew
              · cases ho
                refine step2_told (.bool false) ?_ (by decide) (hG.same (by decide) (by decide)) hT rfl
                have e0 : a.eval (.tmp 47) = .int .i64 (accE (viewL L (n : Int)) d.off d.b.n) := hT 5 (hh 5 rfl)
                have e1 : a.eval (.tmp 54) = .int .i64 (accE (viewL L (n : Int)) d.off d.b.n) := hT 12 (hh 12 rfl)
                generalize a.eval = ev at e0 e1 ⊢
                simp [execOp, go_sem, e0, e1]
            · intro a W hd hs hold hT hG
              have e13 : a.tmps.getD 55 undef = .bool false := hT 13 (by decide)
              unfold GWr at hG
              rw [if_pos (by decide), if_pos (by decide)] at hG
              have HGN := hide hG
              have HSIM := hide (HT.out.sim.writes (i := (n : Int)) (off := d.off) d.b.n d.b.bs)
              obtain ⟨f, hf, ha⟩ := act_puts [42, 43, 44, 45, 46, 47, 48, 49, 50, 51, 52, 53, 54, 55] (fun t ht => by
                by_cases h : t ∈ [42, 43, 44, 45, 46, 47, 48, 49, 50, 51, 52, 53, 54, 55]
                · exact h
                · exfalso
                  simp [unwritten] at ht
                  simp only [List.mem_cons, not_or] at h
                  obtain ⟨h1, h2, h3, h4, h5, h6, h7, h8, h9, h10, h11, h12, h13, h14, _⟩ := h
                  exact absurd (ht (fun e => h1 e.symm) (fun e => h2 e.symm) (fun e => h3 e.symm) (fun e => h4 e.symm) (fun e => h5 e.symm) (fun e => h6 e.symm) (fun e => h7 e.symm) (fun e => h8 e.symm) (fun e => h9 e.symm) (fun e => h10 e.symm) (fun e => h11 e.symm) (fun e => h12 e.symm) (fun e => h13 e.symm)) (fun e => h14 e.symm)) (fun t ht => by
                have hsz : t < 158 := by
                  simp only [List.mem_cons, List.mem_nil_iff, or_false] at ht
                  omega
                exact hsz) hd hs hold
              have e55 : f 55 = .bool false := (hf 55).trans e13
              subst ha
              clear hd hs hold hT hf e13 hG
              show K _ _
              refine hK _ _ ?_
              simp only [List.foldl_cons, List.foldl_nil, e55]
              obtain ⟨u42, hu42⟩ : ∃ u, u = f 42 := ⟨_, rfl⟩
              obtain ⟨u43, hu43⟩ : ∃ u, u = f 43 := ⟨_, rfl⟩
              obtain ⟨u44, hu44⟩ : ∃ u, u = f 44 := ⟨_, rfl⟩
              obtain ⟨u45, hu45⟩ : ∃ u, u = f 45 := ⟨_, rfl⟩
              obtain ⟨u46, hu46⟩ : ∃ u, u = f 46 := ⟨_, rfl⟩
              obtain ⟨u47, hu47⟩ : ∃ u, u = f 47 := ⟨_, rfl⟩
              obtain ⟨u48, hu48⟩ : ∃ u, u = f 48 := ⟨_, rfl⟩
              obtain ⟨u49, hu49⟩ : ∃ u, u = f 49 := ⟨_, rfl⟩
              obtain ⟨u50, hu50⟩ : ∃ u, u = f 50 := ⟨_, rfl⟩
              obtain ⟨u51, hu51⟩ : ∃ u, u = f 51 := ⟨_, rfl⟩
              obtain ⟨u52, hu52⟩ : ∃ u, u = f 52 := ⟨_, rfl⟩
              obtain ⟨u53, hu53⟩ : ∃ u, u = f 53 := ⟨_, rfl⟩
              obtain ⟨u54, hu54⟩ : ∃ u, u = f 54 := ⟨_, rfl⟩
              rw [← hu42, ← hu43, ← hu44, ← hu45, ← hu46, ← hu47, ← hu48, ← hu49, ← hu50, ← hu51, ← hu52, ← hu53, ← hu54]
              clear hu42 hu43 hu44 hu45 hu46 hu47 hu48 hu49 hu50 hu51 hu52 hu53 hu54 e55
              go_simp
              go_wp2_with fail
              go_meet
              case rel => exact ⟨_, v, _, TL, HGN.out, HSIM.out, by have := HT.out.len; rw [wrL_len]; omega, by have := HT.out.told; omega⟩
          · have d3 : W2.cell? ⟨D, 3, none⟩ = some (.int .i64 d.off) := (blk_cell HX2.out 3).trans rfl
            have d4 : W2.cell? ⟨D, 4, none⟩ = some (.int .i64 d.size) := (blk_cell HX2.out 4).trans rfl
            go_wp2_with fail
            refine (read_all (size := d.size) HAL.out.st.mem HWN.out HWO.out).mono ?_
            rintro e W3 ⟨ua, rfl, hoa, hb3⟩
            have hba := (hide hoa.2)
            have hal := HAL.out.later hb3
            have HAL3 := hide hal
            have HOA := hide hoa
            have HB3 := hide hb3
            have d3 : W3.cell? ⟨D, 3, none⟩ = some (.int .i64 d.off) := (blk_cell (HXA.out hal) 3).trans rfl
            have d4 : W3.cell? ⟨D, 4, none⟩ = some (.int .i64 d.size) := (blk_cell (HXA.out hal) 4).trans rfl
            clear hoa hal hb3
            go_wp2_with fail
            have hoo := i64_wf HI.out.off
            have hss := i64_wf HI.out.size
            refine (rread_all (size := d.size) HAL3.out.st.ref HT.out.sim (by omega) hoo.2 hoo.1 hss.2 hss.1).mono ?_
            rintro e W4 ⟨ub, rfl, hob, hb4⟩
            have hN : rdN (viewL L (n : Int)) d.off d.size ≤ 4096 := rdN_le HAL.out.st.mem
            have hw34 := HB3.out.size
            have hoa4 : OwnB W4 W2.heap.size ua (rdN (viewL L (n : Int)) d.off d.size) (rdL (viewL L (n : Int)) d.off d.size) := ⟨owns_kept_below HOA.out.1 hb4, HOA.out.2⟩
            generalize accE (viewL L (n : Int)) d.off d.size = me at hoa4 hob hN ⊢
            generalize rdN (viewL L (n : Int)) d.off d.size = rn at hoa4 hob hN
            generalize rdL (viewL L (n : Int)) d.off d.size = rl at hoa4 hob
            obtain ⟨Aa, ca, rfl, hra⟩ := owns_slice hoa4.1
            obtain ⟨Ab, cb, rfl, hrb⟩ := owns_slice hob.1
            have HAL4 := hide (HAL3.out.later hb4)
            have HO4 := hide hoa4
            have HRA := hide hra
            have HRB := hide hrb
            have HSZ : Hid (W2.heap.size ≤ W4.heap.size) := Nat.le_trans HB3.out.size hb4.size
            clear hoo hss hob hb4 hoa4 hra hrb d3 d4 hba HOA hw34
            go_wp2_with fail
            refine (sameBytes_yes Aa Ab rn ca cb W4.heap.size rl W4 HRA.out HRB.out (Nat.le_refl _) (by omega)).mono ?_
            rintro e W5 ⟨rfl, hb5⟩
            have HAL5 := hide (HAL4.out.later hb5)
            have HO5 : Hid (OwnB W5 W2.heap.size (.slice Aa rn ca) rn rl) := ⟨owns_kept_below HO4.out.1 hb5, HO4.out.2⟩
            have HSZ5 : Hid (W2.heap.size ≤ W5.heap.size) := Nat.le_trans HSZ.out hb5.size
            clear hb5 HAL4 HO4 HRA HRB
            obtain ⟨TA, tc, htv, _⟩ := owns_slice HAL5.out.st.told.lst
            subst htv
            obtain ⟨i31, hi31, hz0, hz1, hz2⟩ := info_parts rowInfo
            have HI31 := hide hi31
            have HZ := hide (And.intro hz0 (And.intro hz1 hz2))
            clear hi31 hz0 hz1 hz2
            go_wp2_with (at_builtin; refine stop_here ?_)
            show Hid _
            refine start_here ?_
            refine wpList_append_two _ rfl (.tmp 115) (.tmp 117) 40 rfl 26 i31 _ 1 24 Tryz.underlying40 HI31.out HZ.out.1 HZ.out.2.1 HZ.out.2.2 rfl (by decide) _ TL.length (TL.map TRow.sl) rfl (HAL5.out.st.told.lst.alloc _) ⟨W5.heap.size, 0, none⟩ 1 1 [.slice Aa rn ca] rfl rfl (new_one W5 (.slice Aa rn ca)) (by intro u hu; simp only [List.mem_singleton] at hu; subst hu; rfl) (by decide) (by simp only [maxLen]; omega) (by omega) ?_
            intro tv' W6 hgw
            have hal6 := HAL5.out.later (below1 W5 (.cells #[.slice Aa rn ca] 26))
            have ho6 := owns_kept_below HO5.out.1 (below1 W5 (.cells #[.slice Aa rn ca] 26))
            obtain ⟨hk1, hv1⟩ := grown2_kept hgw
            have htell := hal6.tell (t := ⟨Aa, rn, ca⟩) (tv' := tv') ho6 (Nat.le_trans hN (by decide)) (by have := HSZ5.out; simp; omega) (fun g hg => by
              have h1 := HO5.out.2 g hg
              have h2 := HBs.out.1
              exact ⟨by omega, h1, fun h => by have := HAL.out.st.mem.lt g h; omega, fun h => by have := HAL.out.st.ref.lt g h; omega, fun h => by have := HAL.out.st.told.lt g h; omega⟩) hk1 hgw.1 (fun g hg => hv1.elim (fun h => .inl (h.symm.trans hg)) (fun h => .inr (by rw [h] at hg; injection hg with hg; omega)))
            have HTELL := hide htell
            obtain ⟨TA', tc', rfl, _⟩ := owns_slice hgw.1
            clear hal6 ho6 hk1 hv1 htell hgw
            go_wp2_with fail
            go_meet
            case rel => exact ⟨L, v, R, TL ++ [⟨Aa, rn, ca⟩], HTELL.out, HT.out.sim, by have := HT.out.len; omega, by have := HT.out.told; simp; omega⟩
          · have d3 : W2.cell? ⟨D, 3, none⟩ = some (.int .i64 d.off) := (blk_cell HX2.out 3).trans rfl
            have d4 : W2.cell? ⟨D, 4, none⟩ = some (.int .i64 d.size) := (blk_cell HX2.out 4).trans rfl
            go_wp2_with fail
            refine (read_all (size := d.size) HAL.out.st.mem HWN.out HWO.out).mono ?_
            rintro e W3 ⟨ua, rfl, hoa, hb3⟩
            have hba := (hide hoa.2)
            have hal := HAL.out.later hb3
            have HAL3 := hide hal
            have HOA := hide hoa
            have HB3 := hide hb3
            have d3 : W3.cell? ⟨D, 3, none⟩ = some (.int .i64 d.off) := (blk_cell (HXA.out hal) 3).trans rfl
            have d4 : W3.cell? ⟨D, 4, none⟩ = some (.int .i64 d.size) := (blk_cell (HXA.out hal) 4).trans rfl
            clear hoa hal hb3
            go_wp2_with fail
            have hoo := i64_wf HI.out.off
            have hss := i64_wf HI.out.size
            refine (rread_all (size := d.size) HAL3.out.st.ref HT.out.sim (by omega) hoo.2 hoo.1 hss.2 hss.1).mono ?_
            rintro e W4 ⟨ub, rfl, hob, hb4⟩
            have hN : rdN (viewL L (n : Int)) d.off d.size ≤ 4096 := rdN_le HAL.out.st.mem
            have hw34 := HB3.out.size
            have hoa4 : OwnB W4 W2.heap.size ua (rdN (viewL L (n : Int)) d.off d.size) (rdL (viewL L (n : Int)) d.off d.size) := ⟨owns_kept_below HOA.out.1 hb4, HOA.out.2⟩
            generalize accE (viewL L (n : Int)) d.off d.size = me at hoa4 hob hN ⊢
            generalize rdN (viewL L (n : Int)) d.off d.size = rn at hoa4 hob hN
            generalize rdL (viewL L (n : Int)) d.off d.size = rl at hoa4 hob
            obtain ⟨Aa, ca, rfl, hra⟩ := owns_slice hoa4.1
            obtain ⟨Ab, cb, rfl, hrb⟩ := owns_slice hob.1
            have HAL4 := hide (HAL3.out.later hb4)
            have HO4 := hide hoa4
            have HRA := hide hra
            have HRB := hide hrb
            have HSZ : Hid (W2.heap.size ≤ W4.heap.size) := Nat.le_trans HB3.out.size hb4.size
            clear hoo hss hob hb4 hoa4 hra hrb d3 d4 hba HOA hw34
            go_wp2_with fail
            refine (sameBytes_yes Aa Ab rn ca cb W4.heap.size rl W4 HRA.out HRB.out (Nat.le_refl _) (by omega)).mono ?_
            rintro e W5 ⟨rfl, hb5⟩
            have HAL5 := hide (HAL4.out.later hb5)
            have HO5 : Hid (OwnB W5 W2.heap.size (.slice Aa rn ca) rn rl) := ⟨owns_kept_below HO4.out.1 hb5, HO4.out.2⟩
            have HSZ5 : Hid (W2.heap.size ≤ W5.heap.size) := Nat.le_trans HSZ.out hb5.size
            clear hb5 HAL4 HO4 HRA HRB
            obtain ⟨TA, tc, htv, _⟩ := owns_slice HAL5.out.st.told.lst
            subst htv
            obtain ⟨i31, hi31, hz0, hz1, hz2⟩ := info_parts rowInfo
            have HI31 := hide hi31
            have HZ := hide (And.intro hz0 (And.intro hz1 hz2))
            clear hi31 hz0 hz1 hz2
            go_wp2_with (at_builtin; refine stop_here ?_)
            show Hid _
            refine start_here ?_
            refine wpList_append_two _ rfl (.tmp 115) (.tmp 117) 40 rfl 26 i31 _ 1 24 Tryz.underlying40 HI31.out HZ.out.1 HZ.out.2.1 HZ.out.2.2 rfl (by decide) _ TL.length (TL.map TRow.sl) rfl (HAL5.out.st.told.lst.alloc _) ⟨W5.heap.size, 0, none⟩ 1 1 [.slice Aa rn ca] rfl rfl (new_one W5 (.slice Aa rn ca)) (by intro u hu; simp only [List.mem_singleton] at hu; subst hu; rfl) (by decide) (by simp only [maxLen]; omega) (by omega) ?_
            intro tv' W6 hgw
            have hal6 := HAL5.out.later (below1 W5 (.cells #[.slice Aa rn ca] 26))
            have ho6 := owns_kept_below HO5.out.1 (below1 W5 (.cells #[.slice Aa rn ca] 26))
            obtain ⟨hk1, hv1⟩ := grown2_kept hgw
            have htell := hal6.tell (t := ⟨Aa, rn, ca⟩) (tv' := tv') ho6 (Nat.le_trans hN (by decide)) (by have := HSZ5.out; simp; omega) (fun g hg => by
              have h1 := HO5.out.2 g hg
              have h2 := HBs.out.1
              exact ⟨by omega, h1, fun h => by have := HAL.out.st.mem.lt g h; omega, fun h => by have := HAL.out.st.ref.lt g h; omega, fun h => by have := HAL.out.st.told.lt g h; omega⟩) hk1 hgw.1 (fun g hg => hv1.elim (fun h => .inl (h.symm.trans hg)) (fun h => .inr (by rw [h] at hg; injection hg with hg; omega)))
            have HTELL := hide htell
            obtain ⟨TA', tc', rfl, _⟩ := owns_slice hgw.1
            clear hal6 ho6 hk1 hv1 htell hgw
            go_wp2_with fail
            go_meet
            case rel => exact ⟨L, v, R, TL ++ [⟨Aa, rn, ca⟩], HTELL.out, HT.out.sim, by have := HT.out.len; omega, by have := HT.out.told; simp; omega⟩
          · go_wp2_with fail
            refine (free_both HAL.out.st.mem HWN.out).mono ?_
            rintro e W3 ⟨rfl, hm3, hk3⟩
            have hal := HAL.out.prog hk3 hm3 (fun g hg => .inl (frL_sub hg))
            have HAL3 := hide hal
            clear hal hm3 hk3
            go_wp2_with fail
            have hfb := rfree_both (i := (n : Int)) HAL3.out.st.ref (by omega)
            rw [HT.out.sim.view] at hfb
            refine hfb.mono ?_
            rintro e W4 ⟨rfl, hm4, hk4⟩
            have hal := HAL3.out.doc hk4 hm4 (fun g hg => .inl (frR_sub hg))
            have HAL4 := hide hal
            have HSIM := hide (HT.out.sim.frees (i := (n : Int)))
            clear hal hm4 hk4 hfb
            generalize frE (viewL L (n : Int)) = me
            go_wp2_with fail
            go_meet
            case rel => exact ⟨_, v, _, TL, HAL4.out, HSIM.out, by have := HT.out.len; rw [frL_len]; omega, by have := HT.out.told; omega⟩
        case rest =>
          obtain ⟨L', v', R', TL', hal, hsim, hln, htl⟩ := hcut
          have HALc := hide hal
          have HSIM := hide hsim
          have hLl : L'.length ≤ 401 := by omega
          have hTl : R'.length ≤ 401 := by have := hsim.len; omega
          have HBs : Hid (w.heap.size ≤ wc.heap.size) := Nat.le_trans hal.st.base hal.st.size
          have hrw : Row wc G (d.b.n + 12) 5 1 (d.b.n + 12) (u8s d.b.bs ++ marks (mkB 1) 12) := owns_kept HROW.out hal.kept (fun g hg => .inr (by cases hg; rfl))
          have HRW := hide hrw
          have HRD := hide ((HA.out.below hal.st.below).inner d HMEM.out).rd
          have d5 : wc.cell? ⟨D, 5, none⟩ = some (.slice d.b.A d.b.n d.b.c) := (blk_cell ((hal.kept.block D (at_lt HX2.out) (.inl rfl)).trans HX2.out) 5).trans rfl
          have hwn : wfI (n : Int) := wf_small (by have := HN12.out; omega)
          have HWN := hide hwn
          clear hal hsim hrw hwn
          go_wp2_with fail
          refine (keptBytes_any G d.b.A d.b.n d.b.c w.heap.size d.b.bs wc HRD.out HBs.out HRW.out (Nat.le_trans HN1.out (by decide))).mono ?_
          rintro e wd ⟨rfl, hb⟩
          have HALd := hide (HALc.out.later hb)
          clear hb d5
          go_wp2_with fail
          refine (kind_all HALd.out.st.mem HWN.out).mono ?_
          rintro e we ⟨rfl, hb⟩
          have HALe := hide (HALd.out.later hb)
          clear hb
          go_wp2_with fail
          refine (rkind_all (i := (n : Int)) HALe.out.st.ref HSIM.out (by omega)).mono ?_
          rintro e we2 ⟨rfl, rfl⟩
          generalize kOf L' (n : Int) = ko
          go_wp2_with fail
          refine (size_all HALe.out.st.mem HWN.out).mono ?_
          rintro e wf ⟨rfl, hb⟩
          have HALf := hide (HALe.out.later hb)
          clear hb
          go_wp2_with fail
          refine (rsize_all (i := (n : Int)) HALf.out.st.ref HSIM.out (by omega)).mono ?_
          rintro e wf2 ⟨rfl, rfl⟩
          generalize nOf L' (n : Int) = no
          go_wp2_with fail
          refine (over_any G d.b.n _ wf (owns_kept HROW.out HALf.out.kept (fun g hg => .inr (by cases hg; rfl))) (Nat.le_trans HN1.out (by decide))).mono ?_
          rintro e wg ⟨rfl, hk⟩
          have hoG := HALf.out.off G (.inr rfl)
          have HST := hide (HALf.out.st.kept hk (fun g _ hg e => by
            subst e
            rcases hg with h | h | h | h
            · exact hoG.2.2.1 h
            · exact hoG.2.2.2.1 h
            · exact hoG.2.2.2.2 h
            · have := hoG.1; omega))
          clear hk hoG
          go_wp2_with fail
          go_roundw
          case measure => simp [intOf]; omega
          case rel => exact ⟨j + 1, L', v', R', TL', by omega, by go_num, HST.out, HSIM.out, hln, htl⟩
      · have hjm2 : j = m := by omega
        subst hjm2
        have htl : TL.length ≤ 400 := by have := HT.out.told; omega
        have HL : Hid (wr.ownsRow 0 26 1 u5 TL.length (rowsV (fun i => (TL.getD i ⟨none, 0, 0⟩).A) (fun i => (TL.getD i ⟨none, 0, 0⟩).n) (fun i => (TL.getD i ⟨none, 0, 0⟩).c) TL.length)) := by
          rw [rows_told]
          exact HT.out.st.told.lst
        have hat : ∀ i, i < TL.length → ∃ t, TL[i]? = some t ∧ rowV (fun i => (TL.getD i ⟨none, 0, 0⟩).A) (fun i => (TL.getD i ⟨none, 0, 0⟩).n) (fun i => (TL.getD i ⟨none, 0, 0⟩).c) i = t.sl ∧ (TL.getD i ⟨none, 0, 0⟩).n = t.n := fun i hi => row_told hi
        have HV : Hid (∀ i, i < TL.length → ∃ xs, wr.ownsRow 0 5 1 (rowV (fun i => (TL.getD i ⟨none, 0, 0⟩).A) (fun i => (TL.getD i ⟨none, 0, 0⟩).n) (fun i => (TL.getD i ⟨none, 0, 0⟩).c) i) (TL.getD i ⟨none, 0, 0⟩).n xs) := fun i hi => by
          obtain ⟨t, h1, h2, h3⟩ := hat i hi
          rw [h2, h3]
          exact HT.out.st.told.row i t h1
        have HSE : Hid (Sep TL.length (rowV (fun i => (TL.getD i ⟨none, 0, 0⟩).A) (fun i => (TL.getD i ⟨none, 0, 0⟩).n) (fun i => (TL.getD i ⟨none, 0, 0⟩).c))) := fun i k hi hk hne g hg => by
          obtain ⟨t, h1, h2, _⟩ := hat i hi
          obtain ⟨s, h3, h4, _⟩ := hat k hk
          rw [h2] at hg
          rw [h4]
          exact HT.out.st.told.sep i k t s h1 h3 hne g hg
        have HNN : Hid (∀ i, (TL.getD i ⟨none, 0, 0⟩).n ≤ 1000000) := fun i => by
          by_cases hi : i < TL.length
          · obtain ⟨t, h1, _, h3⟩ := hat i hi
            rw [h3]
            exact HT.out.st.told.small t (List.mem_of_getElem? h1)
          · rw [List.getD_eq_getElem?_getD, List.getElem?_eq_none (by omega)]
            exact Nat.zero_le _
        have HLOW : Hid (∀ g, g < w.heap.size → Own TL.length (fun i => (TL.getD i ⟨none, 0, 0⟩).A) (fun i => (TL.getD i ⟨none, 0, 0⟩).n) (fun i => (TL.getD i ⟨none, 0, 0⟩).c) g) := fun g hg i hi e => by
          obtain ⟨t, h1, h2, _⟩ := hat i hi
          rw [h2] at e
          have h3 := HT.out.st.told.low g (.inr ⟨t, List.mem_of_getElem? h1, e⟩)
          have h4 := HT.out.st.base
          omega
        clear hat
        go_wp2_with fail
        refine (apartBytes_any u5 TL.length _ _ _ wr HL.out HV.out HSE.out HNN.out htl).mono ?_
        rintro e ws ⟨rfl, hk⟩
        have HBs := hide (HT.out.st.below.trans (hk.to_below HLOW.out (Nat.le_trans HT.out.st.base HT.out.st.size)))
        clear hk
        go_wp2_with fail
        refine (awake_any _).mono ?_
        rintro e wt ⟨rfl, hb⟩
        have HBt := hide (HBs.out.trans (hb.mono HBs.out.size))
        clear hb
        go_wp2_with fail
        go_ret
        exact ⟨rfl, HBt.out⟩
end Go.Proofs.YtbllnjkagleenaaGreat
