/-
  The ring answers as the document says, whatever is done: RingLives' walk.
-/
import Derived.Test.YtdbflopfcnkjbaaGreatJC
import Derived.Test.YtdbflopfcnkjbaaGreatRT6
import Derived.Test.YtdbflopfcnkjbaaGreatAP4
import Derived.Test.YtdbflopfcnkjbaaGreatN3
import Derived.Test.YtdbflopfcnkjbaaGreatN4
import Derived.Test.YtdbflopfcnkjbaaGreatOV
namespace Go.Proofs.YtdbflopfcnkjbaaGreat
open Go.RowKit
set_option linter.unusedVariables false

/-- What each operation of the statement that puts into both leaves. -/
def TPu (b x gI q k m cc : Nat) (ad : Addr) (pe : Int) (dA : Option Addr) (dc : Nat) (j : Nat) (σ : Nat → Value) (_ : World) : Prop :=
  match j with
  | 0 => σ 0 = .pointer (some ⟨b, 0, none⟩)
  | 1 => σ 1 = .slice (some ⟨gI, 0, none⟩) q (q + 12)
  | 2 => σ 2 = .int .i64 pe
  | 3 => σ 3 = .pointer (some ⟨x, 0, none⟩)
  | 4 => σ 4 = .slice (some ad) m cc
  | 5 => σ 5 = .int .i64 (k : Nat)
  | 6 => σ 6 = .pointer (some (ad.add (k * 2)))
  | 7 => σ 7 = .pointer (some ⟨(ad.add (k * 2)).block, (ad.add (k * 2)).off + 1, none⟩)
  | 8 => σ 8 = .slice dA q dc
  | 9 => σ 9 = .int .i64 pe
  | 10 => σ 10 = .bool false
  | 11 => σ 11 = .bool false
  | 12 => σ 12 = .slice (some ⟨gI, 0, none⟩) q (q + 12)
  | 13 => σ 13 = .slice (some ad) m cc
  | 14 => σ 14 = .int .i64 (k : Nat)
  | 15 => σ 15 = .pointer (some (ad.add (k * 2)))
  | 16 => σ 16 = .pointer (some ⟨(ad.add (k * 2)).block, (ad.add (k * 2)).off + 1, none⟩)
  | 17 => σ 17 = .slice dA q dc
  | 18 => σ 18 = .bool true
  | 19 => σ 19 = .bool false
  | 20 => σ 20 = .bool false
  | _ => True
/-- Which of both has been put to. -/
def GPu (w wd : World) (Mid Fin : World → Prop) (done : Nat → Bool) (W : World) : Prop :=
  Below w.heap.size w W ∧ (done 2 = false → done 9 = false ∧ W = wd) ∧ (done 2 = true → done 9 = false → Mid W) ∧ (done 9 = true → Fin W) ∧ (done 11 = true → done 9 = true)
theorem GPu.same {w wd W : World} {Mid Fin : World → Prop} {M : Nat → Bool} {j : Nat} (h : GPu w wd Mid Fin M W) (h7 : j ≠ 2) (h19 : j ≠ 9) (h21 : j ≠ 11) : GPu w wd Mid Fin (fun k => M k || k == j) W := by
  unfold GPu at h ⊢
  have e7 : (2 == j) = false := by simpa using fun e => h7 e.symm
  have e19 : (9 == j) = false := by simpa using fun e => h19 e.symm
  have e21 : (11 == j) = false := by simpa using fun e => h21 e.symm
  simp only [e7, e19, e21, Bool.or_false]
  exact h
theorem add_at (ad : Addr) (i j : Nat) (hj : 0 < j) : ad.add (i + j) = ⟨(ad.add i).block, (ad.add i).off + j, none⟩ := add_parts ad i j hj
set_option maxRecDepth 100000 in
set_option maxHeartbeats 20000000 in
theorem law_ringLives (k key val ent : Int) (hk : 0 ≤ k ∧ k < 256) (A0 : Option Addr) (m cc : Nat) (ds : List ADo) (w : World) (h : ADos w w.heap.size A0 m ds) (hm : m ≤ 140737488351232) :
    Calls Tryz.prog 4 #[.agg #[.int .u8 k, .int .i64 key, .int .i64 val, .int .i64 ent], .slice A0 m cc] w fun e w' => e = .returned (.bool true) ∧ Below w.heap.size w w' := by
  have hx := World.alloc_heap_new w (.cells #[.int .u8 k, .int .i64 key, .int .i64 val, .int .i64 ent] 25)
  have hb1 := below1 w (.cells #[.int .u8 k, .int .i64 key, .int .i64 val, .int .i64 ent] 25)
  obtain ⟨W1, hW1⟩ : ∃ W1, W1 = w.alloc (.cells #[.int .u8 k, .int .i64 key, .int .i64 val, .int .i64 ent] 25) := ⟨_, rfl⟩
  rw [← hW1] at hx hb1
  have HC : Hid (∀ W, Below W1.heap.size W1 W → W.cell? ⟨w.heap.size, 0, none⟩ = some (.int .u8 k) ∧ W.cell? ⟨w.heap.size, 1, none⟩ = some (.int .i64 key) ∧ W.cell? ⟨w.heap.size, 2, none⟩ = some (.int .i64 val) ∧ W.cell? ⟨w.heap.size, 3, none⟩ = some (.int .i64 ent)) := hide (fun W hb => by
    have h1 := (hb.block _ (at_lt hx)).trans hx
    exact ⟨(blk_cell h1 0).trans rfl, (blk_cell h1 1).trans rfl, (blk_cell h1 2).trans rfl, (blk_cell h1 3).trans rfl⟩)
  have HH := hide h
  have HB1 := hide hb1
  have HG := hide (great_any A0 m cc w.heap.size ds W1 (h.below hb1) hm)
  have HW1 := hide hW1
  clear h hx hb1 hW1
  go_enter Tryz.func4, Tryz.ntmps4
  go_wp2_with (go_at_call 10; refine stop_here ?_)
  show Hid _
  refine start_here ?_
  rw [← HW1.out]
  refine HG.out.mono ?_
  rintro e w' ⟨g, rfl, rfl, hg⟩
  cases g with
  | true =>
    have HA := hide (awake_any W1)
    go_wp2_with (go_at_call 9; refine HA.out.mono ?_; rintro e w2 ⟨rfl, hb⟩; have HB := hide hb; clear hb)
    go_ret
    exact ⟨rfl, HB1.out.trans (HB.out.mono HB1.out.size)⟩
  | false =>
    obtain ⟨hm4, hn4⟩ := hg rfl
    have HN := hide hn4
    have HM4 := hide hm4
    clear hg hn4
    by_cases he : newE k key val ent = 0
    · obtain ⟨rfl, rfl, rfl, hsp, h3, h4⟩ := newE_yes he
      obtain ⟨sz, rfl⟩ : ∃ n : Nat, ent = n := ⟨ent.toNat, by omega⟩
      have hs : 16 ≤ sz ∧ sz ≤ 16384 := by omega
      have HNW := hide (new_yes sz W1 hs)
      have HRN : Hid (∀ W, Calls Tryz.prog 11 #[.agg #[.int .u8 7, .int .i64 0, .int .i64 0, .int .i64 sz]] W (RNewTold sz W)) := hide (fun W => rnew_yes sz W hs)
      obtain ⟨x0, x1, x2, x3⟩ := HC.out W1 (Below.refl _ _)
      clear hsp h3 h4 he hk
      go_wp2_with (go_at_call 5; refine stop_here ?_)
      show Hid _
      refine start_here ?_
      refine HNW.out.mono ?_
      rintro e w2 ⟨b, bx, rfl, hq, hb2⟩
      obtain ⟨y0, y1, y2, y3⟩ := HC.out w2 hb2
      have HQ := hide hq
      have HB2 := hide hb2
      clear x0 x1 x2 x3 hq hb2
      go_wp2_with (go_at_call 11; refine stop_here ?_)
      show Hid _
      refine start_here ?_
      refine (HRN.out w2).mono ?_
      rintro e w3 ⟨x, rfl, hr, hb3⟩
      have HS0 : Hid (S15 w w3 W1.heap.size b bx x sz [] none 0 [] (.slice none 0 0) []) := hide (by
        have hs1 := HB1.out.size
        have hs2 := HB2.out.size
        refine ⟨HQ.out.below hb3, ⟨hr.blk, hr.out, hr.row, fun g hg => Nat.le_trans hs2 (hr.low g hg), hr.big⟩, Told.none _ _, fun g hg hg2 => ?_, fun g hg hg2 => ?_, fun g hg hg2 => ?_, hs1, (HB1.out.trans (HB2.out.mono hs1)).trans (hb3.mono (by omega))⟩
        · have h1 := HQ.out.lt g hg
          have h2 := hr.low g hg2
          omega
        · rcases hg2 with e | ⟨t, ht, _⟩
          · cases e
          · cases ht
        · rcases hg2 with e | ⟨t, ht, _⟩
          · cases e
          · cases ht)
      clear y0 y1 y2 y3 hr hb3 HQ HB2 HNW HRN HC HG
      go_wp2_with fail
      go_loopw [9, 10] (fun u q wr => ∃ (k : Nat) (L : List RK) (A2 : Option Addr) (c2 : Nat) (M : List ARow) (TL : List TRow), k ≤ m ∧ q = .int .i64 k ∧ TL.length ≤ k ∧ S15 w wr W1.heap.size b bx x sz L A2 c2 M u TL ∧ M.map ARow.bs = L.map RK.bs) (fun _ q _ => m - (intOf q).toNat)
      case atStart => exact ⟨0, _, _, _, _, [], Nat.zero_le _, rfl, Nat.le_refl _, HS0.out, rfl⟩
      case round =>
        obtain ⟨k, L, A2, c2, M, TL, hkm, rfl, htl, hS, hsame⟩ := hrel
        generalize u9 = tv at *
        have HS := hide hS
        have HSM := hide hsame
        have HTL : Hid (TL.length ≤ 300) := hide (by have := HM4.out; omega)
        clear HS0
        by_cases hlt : k < m
        · obtain ⟨i0, hi0, hz0, hz1, hz2⟩ := info_parts rlInfo
          obtain ⟨ad, d, hA0, hd, hadB, _⟩ := HH.out.cell hlt
          subst hA0
          have hdm := List.mem_of_getElem? hd
          have HDC : Hid (∀ W, Below w.heap.size w W → W.cell? (ad.add (k * 2)) = some (.bool d.take) ∧ W.cell? ⟨(ad.add (k * 2)).block, (ad.add (k * 2)).off + 1, none⟩ = some (.slice d.b.A d.b.n d.b.c)) := hide (fun W hb => by
            obtain ⟨ad', d', e1, e2, _, hc⟩ := (HH.out.below hb).cell hlt
            cases e1
            rw [hd] at e2
            cases e2
            have c0 := hc 0 _ rfl
            have c1 := hc 1 _ rfl
            rw [add_at _ _ 1 (by decide)] at c1
            exact ⟨c0, c1⟩)
          have HI := hide (HH.out.inner d hdm)
          have HDN : Hid (d.b.n ≤ 30100) := hide (HN.out d hdm)
          obtain ⟨d0, d1⟩ := HDC.out wr hS.below
          have HLN := hide (lentBytes_any d.b.A d.b.n d.b.c w.heap.size d.b.bs wr (HI.out.b.rd.below hS.below) HI.out.b.nil hS.below.size (by have := HDN.out; omega))
          have k0 : (0 : Int) ≤ (k : Int) := by omega
          have k1 : (k : Int) < (m : Int) := by omega
          have k2 : (k : Int) ≤ 300 := by have := HM4.out; omega
          clear hS hsame hd hdm hadB
          go_wp2_with (go_at_call 12; refine stop_here ?_)
          show Hid _
          refine start_here ?_
          refine HLN.out.mono ?_
          rintro e w1 ⟨rfl, hrow, hbl⟩
          have HS1 := hide (HS.out.later hbl)
          have HROW := hide hrow
          have HGI : Hid (¬ OfG b bx L wr.heap.size ∧ ¬ OfX x A2 M wr.heap.size ∧ ¬ OfT tv TL wr.heap.size ∧ W1.heap.size ≤ wr.heap.size) := hide ⟨fun e => by have := HS.out.rng.lt _ e; omega, fun e => by have := HS.out.ref.lt _ e; omega, fun e => by have := HS.out.told.lt _ e; omega, HS.out.B_le⟩
          have HGL : Hid (wr.heap.size < w1.heap.size) := hide ((World.ownsRow.lt hrow _ rfl).2)
          obtain ⟨e0, e1⟩ := HDC.out w1 HS1.out.below
          generalize wr.heap.size = gI at *
          clear d0 d1 hrow hbl HLN HS
          cases htk : d.take
          all_goals rw [htk] at e0
          · have HSD := hide (HS1.out.later ((Below.refl _ w1).drew))
            have HP := hide (HSD.out.put (cS := d.b.c) HSM.out HGI.out.1 HGI.out.2.1 HGI.out.2.2.1 HGI.out.2.2.2 (owns_kept_below HROW.out ((Below.refl _ w1).drew)) (HI.out.b.rd.below HSD.out.below) HI.out.b.nil)
            have HKP : Hid (∀ W, Below w.heap.size w W → Row W gI (d.b.n + 12) 5 1 (d.b.n + 12) (u8s d.b.bs ++ marks (mkB 1) 12) → Calls Tryz.prog 17 #[.slice (some ⟨gI, 0, none⟩) d.b.n (d.b.n + 12), .slice d.b.A d.b.n d.b.c] W fun e w' => e = .returned (.bool true) ∧ Below W.heap.size W w') := hide (fun W hb hr => keptBytes_any gI d.b.A d.b.n d.b.c w.heap.size d.b.bs W (HI.out.b.rd.below hb) hb.size hr (by have := HDN.out; omega))
            generalize putE sz (sumR L) d.b.n = pe at *
            clear htk
            go_wp2_with fail
            rename_i K hK
            have hEP : ∀ args (W : World), (callFunc 6 args).run Tryz.prog W = .ok (.enter 6 args) W := enters_of Tryz.func6 (by kernel_rfl) rfl
            have hER : ∀ args (W : World), (callFunc 16 args).run Tryz.prog W = .ok (.enter 16 args) W := enters_of Tryz.func16 (by kernel_rfl) rfl
            have hEK : ∀ args (W : World), (callFunc 17 args).run Tryz.prog W = .ok (.enter 17 args) W := enters_of Tryz.func17 (by kernel_rfl) rfl
            refine wp_tells6 (by kernel_rfl) (TPu b x gI d.b.n k m cc ad pe d.b.A d.b.c) (GPu w w1.drew (fun W => Calls Tryz.prog 16 #[.pointer (some ⟨x, 0, none⟩), .slice d.b.A d.b.n d.b.c] W fun e w3 => e = .returned (.int .i64 pe) ∧ Below w.heap.size w w3 ∧ Row w3 gI (d.b.n + 12) 5 1 (d.b.n + 12) (u8s d.b.bs ++ marks (mkB 1) 12) ∧ PutFin w W1.heap.size b bx x sz tv TL gI w3) (fun W => Row W gI (d.b.n + 12) 5 1 (d.b.n + 12) (u8s d.b.bs ++ marks (mkB 1) 12) ∧ PutFin w W1.heap.size b bx x sz tv TL gI W)) (by kernel_rfl) (by kernel_rfl) ?_ (by kernel_rfl) ?_ ?_ ?_ ?_
            · intro i o j c ho hgd
              have hi : i < 21 := (Array.getElem?_eq_some_iff.1 ho).1
              have hi' : i = 0 ∨ i = 1 ∨ i = 2 ∨ i = 3 ∨ i = 4 ∨ i = 5 ∨ i = 6 ∨ i = 7 ∨ i = 8 ∨ i = 9 ∨ i = 10 ∨ i = 11 ∨ i = 12 ∨ i = 13 ∨ i = 14 ∨ i = 15 ∨ i = 16 ∨ i = 17 ∨ i = 18 ∨ i = 19 ∨ i = 20 := by omega
              rcases hi' with rfl | rfl | rfl | rfl | rfl | rfl | rfl | rfl | rfl | rfl | rfl | rfl | rfl | rfl | rfl | rfl | rfl | rfl | rfl | rfl | rfl
              all_goals
                cases ho
                first
                  | (cases hgd; exact ⟨by kernel_rfl, fun σ W h => h⟩)
                  | cases hgd
            · intro j oj σ σ' W hj h hs
              have h0 := hs j (.inl rfl)
              have hi : j < 21 := (Array.getElem?_eq_some_iff.1 hj).1
              have hi' : j = 0 ∨ j = 1 ∨ j = 2 ∨ j = 3 ∨ j = 4 ∨ j = 5 ∨ j = 6 ∨ j = 7 ∨ j = 8 ∨ j = 9 ∨ j = 10 ∨ j = 11 ∨ j = 12 ∨ j = 13 ∨ j = 14 ∨ j = 15 ∨ j = 16 ∨ j = 17 ∨ j = 18 ∨ j = 19 ∨ j = 20 := by omega
              rcases hi' with rfl | rfl | rfl | rfl | rfl | rfl | rfl | rfl | rfl | rfl | rfl | rfl | rfl | rfl | rfl | rfl | rfl | rfl | rfl | rfl | rfl
              all_goals (simp only [TPu] at h ⊢; rw [h0]; exact h)
            · exact ⟨HSD.out.below, fun _ => ⟨rfl, rfl⟩, (fun h => by cases h), (fun h => by cases h), (fun h => by cases h)⟩
            · intro i o ho M a W hi hG hold hT hh
              have hi2 : i < 21 := (Array.getElem?_eq_some_iff.1 ho).1
              have hi' : i = 0 ∨ i = 1 ∨ i = 2 ∨ i = 3 ∨ i = 4 ∨ i = 5 ∨ i = 6 ∨ i = 7 ∨ i = 8 ∨ i = 9 ∨ i = 10 ∨ i = 11 ∨ i = 12 ∨ i = 13 ∨ i = 14 ∨ i = 15 ∨ i = 16 ∨ i = 17 ∨ i = 18 ∨ i = 19 ∨ i = 20 := by omega
              rcases hi' with rfl | rfl | rfl | rfl | rfl | rfl | rfl | rfl | rfl | rfl | rfl | rfl | rfl | rfl | rfl | rfl | rfl | rfl | rfl | rfl | rfl
              · cases ho
                refine step2_told (.pointer (some ⟨b, 0, none⟩)) ?_ (by decide) (hG.same (by decide) (by decide) (by decide)) hT rfl
                have e0 : a.eval (.tmp 5) = .pointer (some ⟨b, 0, none⟩) := hold 5 (by kernel_rfl)
                generalize a.eval = ev at e0 ⊢
                simp [execOp, go_sem, e0]
              · cases ho
                refine step2_told (.slice (some ⟨gI, 0, none⟩) d.b.n (d.b.n + 12)) ?_ (by decide) (hG.same (by decide) (by decide) (by decide)) hT rfl
                have e0 : a.eval (.tmp 11) = .slice (some ⟨gI, 0, none⟩) d.b.n (d.b.n + 12) := hold 11 (by kernel_rfl)
                generalize a.eval = ev at e0 ⊢
                simp [execOp, go_sem, e0]
              · cases ho
                have e0 : a.eval (.tmp 82) = .pointer (some ⟨b, 0, none⟩) := hT 0 (hh 0 rfl)
                have e1 : a.eval (.tmp 83) = .slice (some ⟨gI, 0, none⟩) d.b.n (d.b.n + 12) := hT 1 (hh 1 rfl)
                obtain ⟨h19, rfl⟩ := hG.2.1 hi
                refine step2_called (f := 6) (args := #[.pointer (some ⟨b, 0, none⟩), .slice (some ⟨gI, 0, none⟩) d.b.n (d.b.n + 12)]) (R := fun v W' => v = .int .i64 pe ∧ Below w.heap.size w W' ∧ (fun W => Calls Tryz.prog 16 #[.pointer (some ⟨x, 0, none⟩), .slice d.b.A d.b.n d.b.c] W fun e w3 => e = .returned (.int .i64 pe) ∧ Below w.heap.size w w3 ∧ Row w3 gI (d.b.n + 12) 5 1 (d.b.n + 12) (u8s d.b.bs ++ marks (mkB 1) 12) ∧ PutFin w W1.heap.size b bx x sz tv TL gI w3) W') ?_ (by decide) (HP.out.mono ?_) ?_
                · have ef : a.eval (.func 6) = .func (.func 6) #[] #[] := rfl
                  generalize a.eval = ev at e0 e1 ef ⊢
                  simp [execOp, go_sem, e0, e1, ef, hEP]
                · rintro e W' ⟨h1, h2, h3⟩
                  exact ⟨_, h1, rfl, h2, h3⟩
                · rintro v W' ⟨rfl, hb', hm'⟩
                  exact ⟨⟨hb', fun h => by simp at h, fun _ _ => hm', fun h => by simp [h19] at h, fun h => by
                    have h21 : M 11 = true := by simpa using h
                    have := hG.2.2.2.2 h21
                    rw [h19] at this; cases this⟩, hT, rfl⟩
              · cases ho
                refine step2_told (.pointer (some ⟨x, 0, none⟩)) ?_ (by decide) (hG.same (by decide) (by decide) (by decide)) hT rfl
                have e0 : a.eval (.tmp 7) = .pointer (some ⟨x, 0, none⟩) := hold 7 (by kernel_rfl)
                generalize a.eval = ev at e0 ⊢
                simp [execOp, go_sem, e0]
              · cases ho
                refine step2_told (.slice (some ad) m cc) ?_ (by decide) (hG.same (by decide) (by decide) (by decide)) hT rfl
                have e0 : a.eval (.tmp 1) = .slice (some ad) m cc := hold 1 (by kernel_rfl)
                generalize a.eval = ev at e0 ⊢
                simp [execOp, go_sem, e0]
              · cases ho
                refine step2_told (.int .i64 k) ?_ (by decide) (hG.same (by decide) (by decide) (by decide)) hT rfl
                have e0 : a.eval (.tmp 10) = .int .i64 k := hold 10 (by kernel_rfl)
                generalize a.eval = ev at e0 ⊢
                simp [execOp, go_sem, e0]
              · cases ho
                refine step2_told (.pointer (some (ad.add (k * 2)))) ?_ (by decide) (hG.same (by decide) (by decide) (by decide)) hT rfl
                have e0 : a.eval (.tmp 86) = .slice (some ad) m cc := hT 4 (hh 4 rfl)
                have e1 : a.eval (.tmp 87) = .int .i64 k := hT 5 (hh 5 rfl)
                generalize a.eval = ev at e0 e1 ⊢
                simp [execOp, go_sem, e0, e1, k0, k1]
              · cases ho
                refine step2_told (.pointer (some ⟨(ad.add (k * 2)).block, (ad.add (k * 2)).off + 1, none⟩)) ?_ (by decide) (hG.same (by decide) (by decide) (by decide)) hT rfl
                have e0 : a.eval (.tmp 88) = .pointer (some (ad.add (k * 2))) := hT 6 (hh 6 rfl)
                generalize a.eval = ev at e0 ⊢
                simp [execOp, go_sem, e0]
              · cases ho
                obtain ⟨_, x1⟩ := HDC.out W hG.1
                refine step2_told (.slice d.b.A d.b.n d.b.c) ?_ (by decide) (hG.same (by decide) (by decide) (by decide)) hT rfl
                have e0 : a.eval (.tmp 89) = .pointer (some ⟨(ad.add (k * 2)).block, (ad.add (k * 2)).off + 1, none⟩) := hT 7 (hh 7 rfl)
                generalize a.eval = ev at e0 ⊢
                simp [execOp, go_sem, e0, x1]
              · cases ho
                have e0 : a.eval (.tmp 85) = .pointer (some ⟨x, 0, none⟩) := hT 3 (hh 3 rfl)
                have e1 : a.eval (.tmp 90) = .slice d.b.A d.b.n d.b.c := hT 8 (hh 8 rfl)
                have h7 := hh 2 rfl
                have hm := hG.2.2.1 h7 hi
                refine step2_called (f := 16) (args := #[.pointer (some ⟨x, 0, none⟩), .slice d.b.A d.b.n d.b.c]) (R := fun v W' => v = .int .i64 pe ∧ Below w.heap.size w W' ∧ (fun W => Row W gI (d.b.n + 12) 5 1 (d.b.n + 12) (u8s d.b.bs ++ marks (mkB 1) 12) ∧ PutFin w W1.heap.size b bx x sz tv TL gI W) W') ?_ (by decide) (hm.mono ?_) ?_
                · have ef : a.eval (.func 16) = .func (.func 16) #[] #[] := rfl
                  generalize a.eval = ev at e0 e1 ef ⊢
                  simp [execOp, go_sem, e0, e1, ef, hER]
                · rintro e W' ⟨h1, h2, h3, h4⟩
                  exact ⟨_, h1, rfl, h2, h3, h4⟩
                · rintro v W' ⟨rfl, hb', hf'⟩
                  exact ⟨⟨hb', fun h => by simp [h7] at h, fun _ h => by simp at h, fun _ => hf', fun _ => by simp⟩, hT, rfl⟩
              · cases ho
                refine step2_told (.bool false) ?_ (by decide) (hG.same (by decide) (by decide) (by decide)) hT rfl
                have e0 : a.eval (.tmp 84) = .int .i64 pe := hT 2 (hh 2 rfl)
                have e1 : a.eval (.tmp 91) = .int .i64 pe := hT 9 (hh 9 rfl)
                generalize a.eval = ev at e0 e1 ⊢
                simp [execOp, go_sem, e0, e1]
              · cases ho
                have h19 := hh 9 rfl
                refine step2_told (.bool false) ?_ (by decide) (show GPu _ _ _ _ _ _ from ⟨hG.1, fun h => by simp at h; simp; exact hG.2.1 h, fun h h2 => by simp [h19] at h2, fun _ => hG.2.2.2.1 h19, fun _ => by simp [h19]⟩) hT rfl
                have e0 : a.eval (.tmp 92) = .bool false := hT 10 (hh 10 rfl)
                generalize a.eval = ev at e0 ⊢
                simp [execOp, go_sem, e0]
              · cases ho
                refine step2_told (.slice (some ⟨gI, 0, none⟩) d.b.n (d.b.n + 12)) ?_ (by decide) (hG.same (by decide) (by decide) (by decide)) hT rfl
                have e0 : a.eval (.tmp 11) = .slice (some ⟨gI, 0, none⟩) d.b.n (d.b.n + 12) := hold 11 (by kernel_rfl)
                generalize a.eval = ev at e0 ⊢
                simp [execOp, go_sem, e0]
              · cases ho
                refine step2_told (.slice (some ad) m cc) ?_ (by decide) (hG.same (by decide) (by decide) (by decide)) hT rfl
                have e0 : a.eval (.tmp 1) = .slice (some ad) m cc := hold 1 (by kernel_rfl)
                generalize a.eval = ev at e0 ⊢
                simp [execOp, go_sem, e0]
              · cases ho
                refine step2_told (.int .i64 k) ?_ (by decide) (hG.same (by decide) (by decide) (by decide)) hT rfl
                have e0 : a.eval (.tmp 10) = .int .i64 k := hold 10 (by kernel_rfl)
                generalize a.eval = ev at e0 ⊢
                simp [execOp, go_sem, e0]
              · cases ho
                refine step2_told (.pointer (some (ad.add (k * 2)))) ?_ (by decide) (hG.same (by decide) (by decide) (by decide)) hT rfl
                have e0 : a.eval (.tmp 95) = .slice (some ad) m cc := hT 13 (hh 13 rfl)
                have e1 : a.eval (.tmp 96) = .int .i64 k := hT 14 (hh 14 rfl)
                generalize a.eval = ev at e0 e1 ⊢
                simp [execOp, go_sem, e0, e1, k0, k1]
              · cases ho
                refine step2_told (.pointer (some ⟨(ad.add (k * 2)).block, (ad.add (k * 2)).off + 1, none⟩)) ?_ (by decide) (hG.same (by decide) (by decide) (by decide)) hT rfl
                have e0 : a.eval (.tmp 97) = .pointer (some (ad.add (k * 2))) := hT 15 (hh 15 rfl)
                generalize a.eval = ev at e0 ⊢
                simp [execOp, go_sem, e0]
              · cases ho
                obtain ⟨_, x1⟩ := HDC.out W hG.1
                refine step2_told (.slice d.b.A d.b.n d.b.c) ?_ (by decide) (hG.same (by decide) (by decide) (by decide)) hT rfl
                have e0 : a.eval (.tmp 98) = .pointer (some ⟨(ad.add (k * 2)).block, (ad.add (k * 2)).off + 1, none⟩) := hT 16 (hh 16 rfl)
                generalize a.eval = ev at e0 ⊢
                simp [execOp, go_sem, e0, x1]
              · cases ho
                have e0 : a.eval (.tmp 94) = .slice (some ⟨gI, 0, none⟩) d.b.n (d.b.n + 12) := hT 12 (hh 12 rfl)
                have e1 : a.eval (.tmp 99) = .slice d.b.A d.b.n d.b.c := hT 17 (hh 17 rfl)
                have h19 := hG.2.2.2.2 (hh 11 rfl)
                have hf := hG.2.2.2.1 h19
                refine step2_called (f := 17) (args := #[.slice (some ⟨gI, 0, none⟩) d.b.n (d.b.n + 12), .slice d.b.A d.b.n d.b.c]) (R := fun v W' => v = .bool true ∧ Below W.heap.size W W') ?_ (by decide) ((HKP.out W hG.1 hf.1).mono ?_) ?_
                · have ef : a.eval (.func 17) = .func (.func 17) #[] #[] := rfl
                  generalize a.eval = ev at e0 e1 ef ⊢
                  simp [execOp, go_sem, e0, e1, ef, hEK]
                · rintro e W' ⟨h1, h2⟩
                  exact ⟨_, h1, rfl, h2⟩
                · rintro v W' ⟨rfl, hb'⟩
                  refine ⟨⟨hG.1.trans (hb'.mono hG.1.size), fun h => ?_, fun h h2 => ?_, fun _ => ⟨row_below hf.1 hb', hf.2.below hb'⟩, fun _ => by simp [h19]⟩, hT, rfl⟩
                  · have h7 : M 2 = false := by simpa using h
                    have := (hG.2.1 h7).1
                    rw [h19] at this; cases this
                  · have h3 : M 9 = false := by simpa using h2
                    rw [h19] at h3; cases h3
              · cases ho
                refine step2_told (.bool false) ?_ (by decide) (hG.same (by decide) (by decide) (by decide)) hT rfl
                have e0 : a.eval (.tmp 100) = .bool true := hT 18 (hh 18 rfl)
                generalize a.eval = ev at e0 ⊢
                simp [execOp, go_sem, e0]
              · cases ho
                refine step2_told (.bool false) ?_ (by decide) (hG.same (by decide) (by decide) (by decide)) hT rfl
                have e0 : a.eval (.tmp 93) = .bool false := hT 11 (hh 11 rfl)
                have e1 : a.eval (.tmp 101) = .bool false := hT 19 (hh 19 rfl)
                generalize a.eval = ev at e0 e1 ⊢
                simp [execOp, go_sem, e0, e1]
            · intro a W hd hsz hold hT hG
              have e94 : a.tmps.getD 102 undef = .bool false := hT 20 (by decide)
              obtain ⟨f, hf, ha⟩ := act_puts [82, 83, 84, 85, 86, 87, 88, 89, 90, 91, 92, 93, 94, 95, 96, 97, 98, 99, 100, 101, 102] (fun t ht => by
                by_cases h : t ∈ [82, 83, 84, 85, 86, 87, 88, 89, 90, 91, 92, 93, 94, 95, 96, 97, 98, 99, 100, 101, 102]
                · exact h
                · exfalso
                  simp [unwritten] at ht
                  simp only [List.mem_cons, not_or] at h
                  obtain ⟨h0, h1, h2, h3, h4, h5, h6, h7, h8, h9, h10, h11, h12, h13, h14, h15, h16, h17, h18, h19, h20, _⟩ := h
                  exact absurd (ht (fun e => h0 e.symm) (fun e => h1 e.symm) (fun e => h2 e.symm) (fun e => h3 e.symm) (fun e => h4 e.symm) (fun e => h5 e.symm) (fun e => h6 e.symm) (fun e => h7 e.symm) (fun e => h8 e.symm) (fun e => h9 e.symm) (fun e => h10 e.symm) (fun e => h11 e.symm) (fun e => h12 e.symm) (fun e => h13 e.symm) (fun e => h14 e.symm) (fun e => h15 e.symm) (fun e => h16 e.symm) (fun e => h17 e.symm) (fun e => h18 e.symm) (fun e => h19 e.symm)) (fun e => h20 e.symm)) (fun t ht => by
                have hsz : t < 115 := by
                  simp only [List.mem_cons, List.mem_nil_iff, or_false] at ht
                  omega
                exact hsz) hd hsz hold
              rw [← hf 102] at e94
              have HF := hide (hG.2.2.2.1 rfl)
              have HBW : Hid (Below w.heap.size w W) := hide hG.1
              subst ha
              clear hd hsz hold hT hf hG
              show K _ _
              refine hK _ _ ?_
              clear hK
              simp only [List.foldl_cons, List.foldl_nil, e94]
              generalize f 82 = u82
              generalize f 83 = u83
              generalize f 84 = u84
              generalize f 85 = u85
              generalize f 86 = u86
              generalize f 87 = u87
              generalize f 88 = u88
              generalize f 89 = u89
              generalize f 90 = u90
              generalize f 91 = u91
              generalize f 92 = u92
              generalize f 93 = u93
              generalize f 94 = u94
              generalize f 95 = u95
              generalize f 96 = u96
              generalize f 97 = u97
              generalize f 98 = u98
              generalize f 99 = u99
              generalize f 100 = u100
              generalize f 101 = u101
              clear e94
              have HOV := hide (over_any gI d.b.n _ W HF.out.1 (by have := HDN.out; omega))
              obtain ⟨L', A3, c3, M', hS', hsame', g1, g2, g3, g4⟩ := HF.out.2
              have HS5 := hide hS'
              have HSM6 := hide hsame'
              have HG5 := hide (And.intro g1 (And.intro g2 (And.intro g3 g4)))
              clear hS' hsame' g1 g2 g3 g4 HF
              go_simp
              iterate 10 go_step
              go_wp2_with (go_at_call 18; refine stop_here ?_)
              show Hid _
              refine start_here ?_
              refine HOV.out.mono ?_
              rintro e w6 ⟨rfl, hkp⟩
              have HS6 := hide (HS5.out.over hkp HG5.out.1 HG5.out.2.1 HG5.out.2.2.1 HG5.out.2.2.2)
              clear hkp HOV
              have HQ1 := hide (room_yes HS6.out.rng)
              have hsum6 := same_sum HS6.out.ref.ns HSM6.out
              have HQ2 : Hid (∀ W, Below w6.heap.size w6 W → Calls Tryz.prog 19 #[.pointer (some ⟨x, 0, none⟩)] W fun e w' => e = .returned (.int .i64 (sz - sumR L' : Nat)) ∧ W = w') := hide (fun W hb => by rw [← hsum6]; exact rroom_any (HS6.out.ref.below hb))
              clear hsum6
              generalize sz - sumR L' = rm at *
              go_wp2_with (first
                | (go_at_call 7; refine HQ1.out.mono ?_; rintro e w7 ⟨rfl, hb7⟩; have HQ3 := hide (HQ2.out w7 hb7); have HS7 := hide (HS6.out.later hb7); clear hb7)
                | (go_at_call 19; refine HQ3.out.mono ?_; rintro e w' ⟨rfl, rfl⟩))
              go_roundw
              case rel => exact ⟨k + 1, _, _, _, _, TL, by omega, by go_num, by omega, HS7.out, HSM6.out⟩
              case measure => simp [intOf]; omega
          · have HP := hide (take_all HS1.out.rng)
            clear e1 htk
            go_wp2_with (go_at_call 13; refine stop_here ?_)
            show Hid _
            refine start_here ?_
            refine HP.out.mono ?_
            rintro e w2 ⟨⟨tA, tn, tc⟩, rfl, ho, htn, htg, hq, hkq⟩
            have hRQ2 : RRng w2 W1.heap.size x sz A2 c2 M := HS1.out.ref.kept hkq (fun g hg => off_of (fun e => HS1.out.d1 g e hg))
            have HRP := hide (rtake_all hRQ2)
            rw [same_len HSM.out, HSM.out] at HRP
            have HTN := hide htn
            have hK := hide (fun w3 (hr : RTold W1.heap.size x sz A2 M (M.drop 1) w2 w3) => HS1.out.popped (t := ⟨tA, tn, tc⟩) hq hkq ho htg hr)
            have HTG : Hid ((TRow.sl ⟨tA, tn, tc⟩).ownBlock ≠ some gI) := hide (fun e => HGI.out.1 (htg gI e).1)
            have HSM6 := hide (same_drop HSM.out)
            clear ho htn htg hq hkq hRQ2 HP
            simp only [TRow.sl]
            go_wp2_with (go_at_call 14; refine stop_here ?_)
            show Hid _
            refine start_here ?_
            refine HRP.out.mono ?_
            rintro e w3 ⟨⟨uA, un, uc⟩, rfl, ho2, hrt⟩
            obtain ⟨A3, c3, hS3, ho3, hnew, hn3, hk3⟩ := hK.out w3 hrt
            have hun : un = tn := by
              have a1 := ho2.1
              have a2 := ho3.1
              simp only at a1 a2
              omega
            subst hun
            have HG3 := hide (hn3 gI HGL.out HGI.out.1 HGI.out.2.1)
            have HROW3 : Hid (Row w3 gI (d.b.n + 12) 5 1 (d.b.n + 12) (u8s d.b.bs ++ marks (mkB 1) 12)) := hide (owns_kept HROW.out hk3 (fun k hk => by
              have e3 : gI = k := Option.some.inj hk
              subst e3
              exact ⟨HGI.out.1, HGI.out.2.1⟩))
            have hgl3 : gI < w3.heap.size := Nat.lt_of_lt_of_le HGL.out hk3.size
            have HGL3 := hide hgl3
            have HSB1 := hide (sameBytes_yes tA uA un tc uc w3.heap.size _ w3 (Rd.of_own ho3) (Rd.of_own ho2) (Nat.le_refl _) (by have := HTN.out; omega))
            have HS3 := hide hS3
            have HO3 := hide ho3
            have HNB := hide hnew
            clear hrt ho2 hS3 ho3 hnew hK HRP hn3 hk3 hgl3
            generalize takeE L.length = pe at *
            simp only [TRow.sl]
            go_wp2_with (go_at_call 15; refine stop_here ?_)
            show Hid _
            refine start_here ?_
            refine HSB1.out.mono ?_
            rintro e w4 ⟨rfl, hb4⟩
            have HSB := hide (HS3.out.later hb4)
            have HOB := hide (owns_kept_below HO3.out hb4)
            have HROW4 := hide (row_below HROW3.out hb4)
            have HGL4 := hide (Nat.lt_of_lt_of_le HGL3.out hb4.size)
            clear hb4 HSB1
            go_wp2_with (at_builtin; refine stop_here ?_)
            show Hid _
            refine start_here ?_
            refine wpList_append_rd _ rfl (.tmp 78) (.tmp 80) 43 rfl 27 i0 _ 1 24 Tryz.underlying43 hi0 hz0 hz1 hz2 rfl (by decide) tv TL.length (TL.map TRow.sl) rfl ((HSB.out.later (below1 _ _)).told.lst) (_ + 1) (some ⟨_, 0, none⟩) 1 1 [(⟨tA, un, tc⟩ : TRow).sl] rfl (cells_rd w4 [(⟨tA, un, tc⟩ : TRow).sl] 27 1 1 rfl) (fun e => by cases e) (fun u hu => by simp at hu; subst hu; rfl) (by have := HTL.out; unfold maxLen; omega) (by have := HTL.out; omega) ?_
            intro tv' w5 hl6
            have HS5 := hide (HSB.out.append HOB.out (by show un ≤ 1000000; have := HTN.out; omega) HNB.out hl6)
            have HROW5 := hide (row_beside HROW4.out hl6 HGI.out.2.2.1)
            have HGT5 := hide (beside_told (t := ⟨tA, un, tc⟩) hl6 HGI.out.2.2.1 HGL4.out HTG.out)
            have HOV := hide (over_any gI d.b.n _ w5 HROW5.out (by have := HDN.out; omega))
            clear hl6
            go_wp2_with (go_at_call 18; refine stop_here ?_)
            show Hid _
            refine start_here ?_
            refine HOV.out.mono ?_
            rintro e w6 ⟨rfl, hkp⟩
            have HS6 := hide (HS5.out.over hkp HG3.out.1 HG3.out.2 HGT5.out HGI.out.2.2.2)
            clear hkp HOV
            have HQ1 := hide (room_yes HS6.out.rng)
            have hsum6 := same_sum HS6.out.ref.ns HSM6.out
            have HQ2 : Hid (∀ W, Below w6.heap.size w6 W → Calls Tryz.prog 19 #[.pointer (some ⟨x, 0, none⟩)] W fun e w' => e = .returned (.int .i64 (sz - sumR (L.drop 1) : Nat)) ∧ W = w') := hide (fun W hb => by rw [← hsum6]; exact rroom_any (HS6.out.ref.below hb))
            clear hsum6
            generalize sz - sumR (L.drop 1) = rm at *
            go_wp2_with (first
              | (go_at_call 7; refine HQ1.out.mono ?_; rintro e w7 ⟨rfl, hb7⟩; have HQ3 := hide (HQ2.out w7 hb7); have HS7 := hide (HS6.out.later hb7); clear hb7)
              | (go_at_call 19; refine HQ3.out.mono ?_; rintro e w' ⟨rfl, rfl⟩))
            go_roundw
            case rel => exact ⟨k + 1, _, _, _, _, TL ++ [⟨tA, un, tc⟩], by omega, by go_num, by rw [List.length_append]; simp; omega, HS7.out, HSM6.out⟩
            case measure => simp [intOf]; omega
        · obtain rfl : k = m := by omega
          have HAP := hide (told_apart hS.told (by have := HTL.out; omega) hS.B_le)
          have HAW : Hid (∀ W, Calls Tryz.prog 9 #[] W fun e w' => e = .returned (.bool true) ∧ Below W.heap.size W w') := hide (fun W => awake_any W)
          clear hS hsame HSM
          go_wp2_with (first
            | (go_at_call 20; refine HAP.out.mono ?_; rintro e w4 ⟨rfl, hb4⟩; have HB4 := hide (HS.out.below.trans (hb4.mono HS.out.base)); clear hb4)
            | (go_at_call 9; refine (HAW.out _).mono ?_; rintro e w5 ⟨rfl, hb5⟩; have HB5 := hide (HB4.out.trans (hb5.mono HB4.out.size)); clear hb5))
          go_ret
          exact ⟨rfl, HB5.out⟩
    · have HNW := hide (new_no k key val ent W1 hk he)
      have HRN : Hid (∀ W, Calls Tryz.prog 11 #[.agg #[.int .u8 k, .int .i64 key, .int .i64 val, .int .i64 ent]] W fun e w' => e = .returned (.tuple #[.pointer none, .int .i64 (newE k key val ent)]) ∧ Below W.heap.size W w') := hide (fun W => rnew_no k key val ent W hk he)
      have HAW : Hid (∀ W, Calls Tryz.prog 9 #[] W fun e w' => e = .returned (.bool true) ∧ Below W.heap.size W w') := hide (fun W => awake_any W)
      obtain ⟨x0, x1, x2, x3⟩ := HC.out W1 (Below.refl _ _)
      generalize newE k key val ent = ne at *
      clear hk he
      go_wp2_with (first
        | (go_at_call 5; refine HNW.out.mono ?_; rintro e w2 ⟨rfl, hb2⟩; obtain ⟨y0, y1, y2, y3⟩ := HC.out w2 hb2; have HB2 := hide hb2; clear hb2 x0 x1 x2 x3)
        | (go_at_call 11; refine (HRN.out _).mono ?_; rintro e w3 ⟨rfl, hb3⟩; have HB3 := hide (HB2.out.trans (hb3.mono HB2.out.size)); clear hb3)
        | (go_at_call 9; refine (HAW.out _).mono ?_; rintro e w4 ⟨rfl, hb4⟩; have HB4 := hide (HB3.out.trans (hb4.mono HB3.out.size)); clear hb4))
      go_ret
      exact ⟨rfl, HB1.out.trans (HB4.out.mono HB1.out.size)⟩
end Go.Proofs.YtdbflopfcnkjbaaGreat
