/-
  A tree's bytes: put.
-/
import Derived.Test.YtolmjnoaiiodlaaWP
namespace Go.Proofs.Ytolmjnoaiiodlaa
open Go.RowKit Go.Maps Forest
set_option linter.unusedVariables false

def headCn (k : Int) : Nat := if k = 1 then 0 else if k = 2 then 1 else 2
theorem headCn_lt (k : Int) : headCn k < 3 := by unfold headCn; split; omega; split <;> omega
theorem headC_eq (k : Int) : headC k = (headCn k : Int) := by unfold headC headCn; split; rfl; split <;> rfl
def putF : Forest → List Int
  | .nil => []
  | .cons k n bs kids rest => headB (headCn k) (headV k n bs.length kids.len) ++ bs ++ putF kids ++ putF rest
theorem putF_length (F : Forest) : (putF F).length = sizeF F := by
  induction F with
  | nil => rfl
  | cons k n bs kids rest ih1 ih2 => simp [putF, sizeF, headB_length, ih1, ih2]; omega
theorem Grows.longer {w w' : World} {v v' : Value} {n : Nat} {xs : List Value} (h : Longer w w' 5 1 v v' n xs) : Grows w v w' v' :=
  ⟨⟨h.2.1.os, h.2.1.tape, h.2.1.output, h.2.1.size, fun j hj hF => h.2.1.block j hj (fun e => hF e.symm)⟩, fun g hg => by
    rcases h.2.2 with e | e
    · exact .inl (e ▸ hg)
    · rw [e] at hg; injection hg with hg; exact .inr (by omega)⟩
theorem Grows.below {w w' : World} {v v' : Value} {B : Nat} (h : Grows w v w' v') (hl : ∀ g, v.ownBlock = some g → B ≤ g) (hB : B ≤ w.heap.size) : Below B w w' := h.kept.to_below (fun g hg e => by have := hl g e; omega) hB
theorem Grows.low {w w' : World} {v v' : Value} {B : Nat} (h : Grows w v w' v') (hl : ∀ g, v.ownBlock = some g → B ≤ g) (hB : B ≤ w.heap.size) : ∀ g, v'.ownBlock = some g → B ≤ g := fun g hg => by
  rcases h.own g hg with e | e
  · exact hl g e
  · omega
theorem own_box {w : World} {v : Value} {n g : Nat} {xs : List Value} {cs : Array Value} (h : w.ownsRow 0 5 1 v n xs) (hb : w.heap[g]? = some (.cells cs 26 (0, 0))) : v.ownBlock ≠ some g := fun e => by
  rcases h.2 with ⟨h0, _⟩ | ⟨g', cap, cur, h0, _, h2, _⟩
  · rw [h0] at e; cases e
  · rw [h0] at e
    simp only [Value.ownBlock, Option.some.injEq] at e
    subst e
    rw [hb] at h2
    injection h2 with h2
    injection h2 with _ h5
    cases h5
set_option maxRecDepth 100000 in
set_option maxHeartbeats 4000000 in
theorem put_all (N : Nat) : ∀ (k n : Int) (bs : List Int) (kids : Forest) (bA : Option Addr) (bc : Nat) (kA : Option Addr) (kc : Nat) (A : Option Addr) (cc nb : Nat) (l : List Int) (B : Nat) (w : World), kids.size < N → Rd w B 1 bA bs.length (u8s bs) → (bA = none → bs.length = 0) → RowAt w B kA kids →
    (∀ g, (Value.slice A nb cc).ownBlock = some g → B ≤ g) → B ≤ w.heap.size → Forest.Wf (.cons k n bs kids .nil) → nb + sizeF (.cons k n bs kids .nil) ≤ 1000000000 → w.ownsRow 0 5 1 (.slice A nb cc) nb (u8s l) →
    Calls Try.prog 24 #[.slice A nb cc, .agg #[.int .u8 k, .int .i64 n, .slice bA bs.length bc, .slice kA kids.len kc]] w fun e w' => ∃ u, e = .returned u ∧ w'.ownsRow 0 5 1 u (nb + sizeF (.cons k n bs kids .nil)) (u8s (l ++ putF (.cons k n bs kids .nil))) ∧ Grows w (.slice A nb cc) w' u := by
  induction N with
  | zero => intro k n bs kids bA bc kA kc A cc nb l B w h; omega
  | succ N ih =>
    intro k n bs kids bA bc kA kc A cc nb l B w hN hrd hnil hrow hlow hB hwf hS hown
    have IH := hide ih
    clear ih
    obtain ⟨hn, hbl, hkl, hwk, _⟩ := hwf
    have hT : sizeF (.cons k n bs kids .nil) = headM (headV k n bs.length kids.len) + bs.length + kids.sizeF := by simp [sizeF]
    have hP : putF (.cons k n bs kids .nil) = headB (headCn k) (headV k n bs.length kids.len) ++ bs ++ putF kids := by simp [putF]
    rw [hT] at hS ⊢
    rw [hP]
    have hv := headV_lt (k := k) hn hbl hkl
    have hh := headM_le (headV k n bs.length kids.len)
    have HRD := hide hrd
    have HNIL := hide hnil
    have HROW := hide hrow
    have HLOW := hide hlow
    have HOWN := hide hown
    have HWK := hide hwk
    have HN := hide hN
    have hgD : ∀ g, (Value.slice A nb cc).ownBlock = some g → g < w.heap.size := fun g hg => (hown.lt g hg).2
    have HGD := hide hgD
    have HHO := headOf_any k n bA bs.length bc kA kids.len kc (w.alloc (.cells #[.int .u8 k, .int .i64 n, .slice bA bs.length bc, .slice kA kids.len kc] 26)) hn hbl hkl
    rw [headC_eq] at HHO
    replace HHO := hide HHO
    have hc3 := headCn_lt k
    clear hrd hnil hrow hlow hown hwk hN hn hT hP hgD
    generalize headV k n bs.length kids.len = hv0 at hv hh hS HHO ⊢
    generalize headCn k = hc0 at HHO hc3 ⊢
    have HHP : Hid (∀ W, W.ownsRow 0 5 1 (.slice A nb cc) nb (u8s l) → Calls Try.prog 36 #[.slice A nb cc, .int .u8 (hc0 : Int), .int .u64 hv0] W fun e w' => ∃ u, e = .returned u ∧ w'.ownsRow 0 5 1 u (nb + headM hv0) (u8s (l ++ headB hc0 hv0)) ∧ Grows W (.slice A nb cc) w' u) := fun W h => putHead_any A nb cc l hc0 hv0 W h (by omega) hc3 hv
    generalize headB hc0 hv0 = hb0 at HHP ⊢
    generalize headM hv0 = h0 at hh hS HHP ⊢
    clear hv hc3
    obtain ⟨i5, hi, hz0, hz1, hz2⟩ := info_parts u8info
    have HI := hide hi
    have HZ := hide (And.intro hz0 (And.intro hz1 hz2))
    clear hi hz0 hz1 hz2
    go_enter Try.func24, Try.ntmps24
    go_wp2_with fail
    refine HHO.out.mono ?_
    rintro e w1 ⟨rfl, hb1⟩
    have hx1 : w1.heap[w.heap.size]? = some (.cells #[.int .u8 k, .int .i64 n, .slice bA bs.length bc, .slice kA kids.len kc] 26 (0, 0)) := (hb1.block _ (by simp)).trans (World.alloc_heap_new _ _)
    have HX1 := hide hx1
    have HB1 := hide (below1c hb1)
    clear hb1 hx1
    go_wp2_with fail
    refine (HHP.out w1 (owns_kept_below HOWN.out HB1.out)).mono ?_
    rintro e w2 ⟨u2, rfl, ho2, hg2⟩
    have hx2 : w2.heap[w.heap.size]? = some (.cells #[.int .u8 k, .int .i64 n, .slice bA bs.length bc, .slice kA kids.len kc] 26 (0, 0)) := (hg2.kept.block _ (at_lt HX1.out) (fun e => by have := HGD.out _ e; omega)).trans HX1.out
    have hgr2 : Grows w (.slice A nb cc) w2 u2 := (Grows.later _ HB1.out).trans hg2
    have d2 : w2.cell? ⟨w.heap.size, 2, none⟩ = some (.slice bA bs.length bc) := (blk_cell hx2 2).trans rfl
    have HX2 := hide hx2
    have HG2 := hide hgr2
    have HO2 := hide ho2
    have HRD2 := hide (HRD.out.below (hgr2.below HLOW.out hB))
    obtain ⟨A2, c2, hu2, _⟩ := owns_slice ho2
    subst hu2
    clear hx2 hgr2 ho2 hg2
    go_wp2_with (at_builtin; refine stop_here ?_)
    show Hid _
    refine start_here ?_
    refine wpList_append_rd _ rfl (.tmp 18) (.tmp 20) 23 rfl 5 i5 _ 1 1 Try.underlying23 HI.out HZ.out.1 HZ.out.2.1 HZ.out.2.2 rfl (by decide) _ (nb + h0) (u8s (l ++ hb0)) rfl HO2.out B bA bs.length bc (u8s bs) rfl HRD2.out HNIL.out (u8s_one _) (by simp only [maxLen]; omega) (by omega) ?_
    intro u3 w3 hlg
    have hg3 := Grows.longer hlg
    have ho3 : w3.ownsRow 0 5 1 u3 (nb + h0 + bs.length) (u8s (l ++ hb0 ++ bs)) := by
      have := hlg.1
      rw [← (show u8s (l ++ hb0 ++ bs) = u8s (l ++ hb0) ++ u8s bs by simp [u8s])] at this
      exact this
    have hx3 : w3.heap[w.heap.size]? = some (.cells #[.int .u8 k, .int .i64 n, .slice bA bs.length bc, .slice kA kids.len kc] 26 (0, 0)) := (hg3.kept.block _ (at_lt HX2.out) (own_box HO2.out HX2.out)).trans HX2.out
    have d3 : w3.cell? ⟨w.heap.size, 3, none⟩ = some (.slice kA kids.len kc) := (blk_cell hx3 3).trans rfl
    have HG3 := hide (HG2.out.trans hg3)
    have HO3 := hide ho3
    clear hlg hg3 ho3 hx3 d2
    obtain ⟨A3, c3, hu3, _⟩ := owns_slice HO3.out
    subst hu3
    go_wp2_with fail
    go_loopw [0, 25] (fun s i wr => ∃ (S : Forest) (j cnt : Nat) (d : List Int), i = .int .i64 j ∧ j + S.len = kids.len ∧ d ++ putF S = putF kids ∧ cnt + S.sizeF = nb + (h0 + bs.length + kids.sizeF) ∧ wr.ownsRow 0 5 1 s cnt (u8s (l ++ hb0 ++ bs ++ d)) ∧ S.Wf ∧ S.size ≤ kids.size ∧ (S.len = 0 ∨ ∃ ka, kA = some ka ∧ FAt wr B S (ka.add (j * 4))) ∧ Grows w (.slice A nb cc) wr s) (fun _ i _ => kids.len - (intOf i).toNat)
    case atStart =>
      refine ⟨kids, 0, nb + h0 + bs.length, [], rfl, by omega, rfl, by omega, by simpa using HO3.out, HWK.out, Nat.le_refl _, ?_, HG3.out⟩
      rcases HROW.out.below (HG3.out.below HLOW.out hB) with h | ⟨ka, e, h⟩
      · exact .inl h
      · exact .inr ⟨ka, e, h⟩
    case round =>
      obtain ⟨S, j, cnt, d, rfl, hjl, hd, hcnt, ho, hwS, hszS, hat, hg⟩ := hrel
      have HG := hide hg
      have HO := hide ho
      have HD := hide hd
      obtain ⟨As, cs, hus, _⟩ := owns_slice ho
      subst hus
      clear hg ho hd
      cases S with
      | nil =>
        simp only [Forest.len, sizeF, Nat.add_zero] at hjl hcnt
        clear hwS hszS hat
        rw [← hjl]
        go_wp2_with fail
        go_ret
        refine ⟨_, rfl, ?_, HG.out⟩
        show wr.ownsRow 0 5 1 (.slice As cnt cs) _ _
        have h1 := HD.out
        simp only [putF, List.append_nil] at h1
        have h2 := HO.out
        rw [h1] at h2
        rw [hcnt] at h2 ⊢
        simpa using h2
      | cons k2 n2 bs2 kids2 rest =>
        simp only [Forest.len, sizeF, Forest.size] at hjl hcnt hszS
        obtain ⟨ka, rfl, hfa⟩ : ∃ ka, kA = some ka ∧ FAt wr B (.cons k2 n2 bs2 kids2 rest) (ka.add (j * 4)) := by
          rcases hat with h | h
          · simp [Forest.len] at h
          · exact h
        obtain ⟨⟨hpb, hpc⟩, ⟨bA2, bc2, kA2, kc2, c0, c1, c2, c3, hrb, hnb, hkr, hkc⟩, hrest⟩ := hfa
        have ea : ∀ t, t ≠ 0 → (ka.add (j * 4)).add t = ⟨(ka.add (j * 4)).block, (ka.add (j * 4)).off + t, none⟩ := fun t ht => by
          generalize ka.add (j * 4) = q
          unfold Addr.add
          rw [if_neg ht]
        rw [ea 1 (by decide)] at c1
        rw [ea 2 (by decide)] at c2
        rw [ea 3 (by decide)] at c3
        obtain ⟨hn2, hbl2, hkl2, hwk2, hwr2⟩ := hwS
        have HRE : Hid (FAt wr B rest (ka.add ((j + 1) * 4))) := by
          rw [add_twice] at hrest
          rw [show (j + 1) * 4 = j * 4 + 4 by omega]
          exact hrest
        have hkr' : RowAt wr B kA2 kids2 := hkr
        have HW2 := hide hwr2
        have hlt : j < kids.len := by omega
        have hlowS := HG.out.low HLOW.out hB
        have hBr : B ≤ wr.heap.size := Nat.le_trans hB HG.out.kept.size
        have hba := below1 wr (.cells #[.int .u8 k2, .int .i64 n2, .slice bA2 bs2.length bc2, .slice kA2 kids2.len kc2] 26)
        have hx2 : sizeF (.cons k2 n2 bs2 kids2 .nil) = headM (headV k2 n2 bs2.length kids2.len) + bs2.length + kids2.sizeF := by simp [sizeF]
        have hp2 : putF (.cons k2 n2 bs2 kids2 rest) = putF (.cons k2 n2 bs2 kids2 .nil) ++ putF rest := by simp [putF]
        have HC := hide (IH.out k2 n2 bs2 kids2 bA2 bc2 kA2 kc2 As cs cnt _ B (wr.alloc (.cells #[.int .u8 k2, .int .i64 n2, .slice bA2 bs2.length bc2, .slice kA2 kids2.len kc2] 26)) (by have := HN.out; omega) (hrb.below (hba.mono hBr)) hnb (hkr'.below (hba.mono hBr)) hlowS (Nat.le_trans hBr hba.size) ⟨hn2, hbl2, hkl2, hwk2, trivial⟩ (by rw [hx2]; omega) (owns_kept_below HO.out hba))
        have HBA := hide hba
        have HP2 := hide hp2
        have hcx : cnt + sizeF (.cons k2 n2 bs2 kids2 .nil) + rest.sizeF = nb + (h0 + bs.length + kids.sizeF) := by rw [hx2]; omega
        generalize sizeF (.cons k2 n2 bs2 kids2 .nil) = x at HC hcx
        generalize putF (.cons k2 n2 bs2 kids2 .nil) = px at HC HP2
        have HBR : Hid (B ≤ wr.heap.size) := hBr
        have HLS := hide hlowS
        clear hpb hpc hrb hnb hkr hkr' hkc hrest ea hn2 hbl2 hkl2 hwk2 hwr2 hat hx2 hcnt hba hp2 hlowS hBr
        go_wp2_with fail
        refine HC.out.mono ?_
        rintro e w5 ⟨u5, rfl, ho5, hg5⟩
        have HO5 := hide ho5
        have HG5 := hide ((Grows.later _ HBA.out).trans hg5)
        clear ho5 hg5 c0 c1 c2 c3 HC
        go_wp2_with fail
        go_roundw
        case rel => exact ⟨rest, j + 1, cnt + x, d ++ px, by go_num, by omega, by have := HD.out; rw [HP2.out] at this; rw [List.append_assoc]; exact this, hcx, by have := HO5.out; rw [List.append_assoc] at this; exact this, HW2.out, by omega, .inr ⟨ka, rfl, HRE.out.kept (fun g hg => (HG5.out.below HLS.out HBR.out).block g hg)⟩, HG.out.trans HG5.out⟩
        case measure => simp [intOf]; omega
end Go.Proofs.Ytolmjnoaiiodlaa
