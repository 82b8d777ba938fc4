/-
  The thing where bits lead to is taken off.
-/
import Derived.Test.YthefgfcjjbjjkaaTG
namespace Go.Proofs.Ythefgfcjjbjjkaa
open Go.RowKit
set_option linter.unusedVariables false
set_option linter.unusedSimpArgs false
attribute [local go_sem] Oper.semAt_some

def cmJ (m : List Bool → Nat) (b : List Bool) (j : Nat) (q : List Bool) : Nat := m q - (if inB b j q = true then 1 else 0)
/-- What the way has made of the tree behind j steps: each node on it has one thing less; or the last one had one alone, and hangs no more. -/
structure RemJ (w : World) (t : TP) (pr : List Bool → Bool) (m : List Bool → Nat) (th : List Bool → Option Addr) (N : List Bool → Nat) (b : List Bool) (pre : List Addr) (V : World) : Prop where
  kept : Kept (fun g => ¬ OfX t pr N g) w V
  last : LastP t pr N b pre
  box : ∃ la, Boxed V w.heap.size 53 (.pointer la) ∧ ∀ p y, pre = p ++ [y] → la = some ⟨N (b.take p.length), 0, none⟩
  le : pre.length ≤ b.length + 1
  tree : (TreeX V t pr (cmJ m b pre.length) th N ∧ ∀ i, i < pre.length → 2 ≤ m (b.take i)) ∨
    (∃ i cs, pre.length = i + 1 ∧ m (b.take i) = 1 ∧ (∀ j, j < i → 2 ≤ m (b.take j)) ∧ TreeX V t (fun q => pr q && !((b.take i).isPrefixOf q)) (cmJ m b (i + 1)) th N ∧ V.heap[N (b.take i)]? = some (.cells cs 110 (0, 0)) ∧ cs.size = 4 ∧ ∀ p y, pre = p ++ [y] → V.cell? y = some (.pointer none))
theorem RemJ.stayN {n : Nat} {w X Y : World} {t : TP} {pr : List Bool → Bool} {m : List Bool → Nat} {th : List Bool → Option Addr} {N : List Bool → Nat} {b : List Bool} {pre : List Addr} (h0 : ∀ p y, pre = p ++ [y] → y.block < n) (h : RemJ w t pr m th N b pre X) (hs : StayN (some 107) n X Y) (hm : w.heap.size ≤ n) (hN : ∀ q, pr q = true → N q < n) (htb : t.tb < n) : RemJ w t pr m th N b pre Y := by
  obtain ⟨h1, h2, ⟨la, h6, h7⟩, h3, h4⟩ := h
  refine ⟨h1.stayN hs hm, h2, ⟨la, hs.blk (by decide) h6, h7⟩, h3, h4.imp (fun ⟨a, b⟩ => ⟨a.stayN hs, b⟩) (fun ⟨i, cs, a1, a2, a3, a4, a5, a6, a7⟩ => ⟨i, cs, a1, a2, a3, a4.stayN hs, hs.blk (by decide) a5, a6, fun p y e => ?_⟩)⟩
  have h8 := a7 p y e
  obtain ⟨o, ho, _⟩ := cells_of_cell h8
  exact (World.cell?_of_block ((hs.same _ o ho (.inl (h0 p y e))).trans ho.symm)).trans h8
set_option maxRecDepth 100000 in
set_option maxHeartbeats 2000000 in
theorem rem_any (Bx B n c : Nat) (A : Option Addr) (k : List Int) (t : TP) (pr : List Bool → Bool) (m : List Bool → Nat) (th : List Bool → Option Addr) (N : List Bool → Nat) (w : World) (hk : ∀ b ∈ k, IsByte b) (hn : 4 ≤ n) (hc : n ≤ c) (hb : n ≤ 1000000) (hright : bcN k ≤ 8 * (n - 4)) (hx : Bx < w.heap.size) (hB : B ≤ w.heap.size) (hkb : KeyBox Bx B n c A k w)
    (h : TreeX w t pr m th N) (hm : ∀ q, m q ≤ 1000000) (hA : ∀ ad, A = some ad → ¬ OfX t pr N ad.block) (hway : ∀ q, q <+: kb k → pr q = true ∧ 1 ≤ m q) (hone : ∀ p, p <+: kb k → m p = 1 → ∀ q, p <+: q → pr q = true → q <+: kb k ∧ m q = 1) :
    Calls Try.prog 43 #[.pointer (some ⟨t.tb, 2, none⟩), .func (.func 58) #[] #[.pointer (some ⟨Bx, 0, none⟩)]] w fun e w' => e = .returned (.tuple #[]) ∧ Kept (fun g => ¬ OfX t pr N g) w w' ∧
      TreeX w' t (fun q => pr q && !(q.isPrefixOf (kb k) && m q == 1)) (fun q => m q - (if q.isPrefixOf (kb k) = true then 1 else 0)) (fun q => if q = kb k then none else th q) N := by
  refine (callsIn_wide (n := 3)).1 ?_
  refine callsIn_of_wp_marks Try.func43 rfl trivial ?_ rfl
  simp only [Try.ntmps43, List.size_toArray, List.length_cons, List.length_nil, Nat.reduceAdd, Nat.reduceSub, Array.replicate_succ, Array.replicate_zero, List.push_toArray, List.append_toArray, List.nil_append, List.cons_append]
  gi_wp2_with fail
  refine ⟨trivial, (callsIn_wide.2 (pegs_any _ _ _ (.inr trivial))).mono ?_⟩
  rintro e w' ⟨rfl, rfl⟩
  gi_wp2_with fail
  obtain ⟨q0, q1, q2⟩ := three_boxes w (.cells #[.pointer none] 53) (.cells #[.pointer (some ⟨t.tb, 2, none⟩)] 103) (.cells #[.func (.func 58) #[] #[.pointer (some ⟨Bx, 0, none⟩)]] 79)
  have hb3 := below3 w (.cells #[.pointer none] 53) (.cells #[.pointer (some ⟨t.tb, 2, none⟩)] 103) (.cells #[.func (.func 58) #[] #[.pointer (some ⟨Bx, 0, none⟩)]] 79)
  have hs3 : (((w.alloc (.cells #[.pointer none] 53)).alloc (.cells #[.pointer (some ⟨t.tb, 2, none⟩)] 103)).alloc (.cells #[.func (.func 58) #[] #[.pointer (some ⟨Bx, 0, none⟩)]] 79)).heap.size = w.heap.size + 3 := by simp
  generalize hW0 : ((w.alloc (.cells #[.pointer none] 53)).alloc (.cells #[.pointer (some ⟨t.tb, 2, none⟩)] 103)).alloc (.cells #[.func (.func 58) #[] #[.pointer (some ⟨Bx, 0, none⟩)]] 79) = W0 at q0 q1 q2 hb3 hs3 ⊢
  clear hW0
  have hle3 : w.heap.size ≤ W0.heap.size := by omega
  have HT0 := hide (h.below (Nat.le_refl _) hb3)
  have HH := hide h
  have htb := at_lt h.blk
  have HK0 := hide hkb
  have HA := hide hA
  have HM := hide hm
  have hj0 : RemJ w t pr m th N (kb k) [] W0 := ⟨Kept.of_below hb3, lastP_nil _ _ _ _, ⟨none, q0, fun p y e => by simp at e⟩, Nat.zero_le _, .inl ⟨HT0.out.congr (fun _ => rfl) (fun p e => by simp [cmJ, inB]), fun i hi => by simp at hi⟩⟩
  have HN : Hid (∀ q, pr q = true → N q < w.heap.size) := hide (fun q hq => at_lt (h.node q hq))
  have HKR : Hid (∀ V, Kept (fun g => ¬ OfX t pr N g) w V → Rd V B 1 A n (u8s k)) := hide (fun V hV => ⟨HK0.out.rd.1, fun h0 => by
    obtain ⟨ad, e, hbl, hcl⟩ := HK0.out.rd.2 h0
    refine ⟨ad, e, hbl, fun j u hu => (World.cell?_of_block ?_).trans (hcl j u hu)⟩
    rw [block_add]
    exact hV.block _ (Nat.lt_of_lt_of_le hbl hB) (HA.out ad e)⟩)
  have HYB : Hid (∀ s X, RemJ w t pr m th N (kb k) s X → ∀ p y, s = p ++ [y] → y.block < W0.heap.size) := hide (fun s X h p y e => by
    obtain ⟨h1, h2⟩ := h.last p y e
    rw [h1]
    rcases h2 with h2 | ⟨q, z, h2, h3⟩
    · rw [h2, pegA_nil]; exact Nat.lt_of_lt_of_le htb hle3
    · rw [h2, pegA_snoc]; exact Nat.lt_of_lt_of_le (HN.out q h3) hle3)
  have HWAY := hide hway
  have HONE := hide hone
  clear h hkb hA hm hway hone
  refine range_w (α := Addr) (t := some 107) (F := Fence.wide) (n := 3) rfl (by omega) (gf := 70) (lb := #[.pointer (some ⟨w.heap.size + 1, 0, none⟩), .pointer (some ⟨w.heap.size + 2, 0, none⟩)]) rfl trivial (enters_of Try.func70 (by kernel_rfl) rfl)
    (pegs_iter (3 - 1) (w.heap.size + 1) (w.heap.size + 2) Bx B n c A k ⟨t.tb, 2, none⟩ W0 (by omega) hk hn hc hb hright (by omega) (by omega) (HK0.out.below hb3 hB hx) (by show t.tb < W0.heap.size; omega) q1 q2) (Below.refl _ _)
    (fun h1 h2 => h1.trans h2) (fun X l o o' _ hl h ho => KpT.put X l o o' hl h ho) (fun _ => rfl)
    (fun pre V => RemJ w t pr m th N (kb k) pre V)
    (fun _ _ => False)
    (fun s X Y h hst => h.stayN (fun p y e => HYB.out s X h p y e) hst hle3 (fun q hq => Nat.lt_of_lt_of_le (HN.out q hq) hle3) (Nat.lt_of_lt_of_le htb hle3)) (fun _ _ _ h _ => h) (fun s V hs h => ⟨fun p y e => ?_, HKR.out V h.kept⟩) (fun s X Y h hst => h.stays hst) hj0 ?round ?done (fun _ _ _ _ h => h.elim)
  · obtain ⟨h8, h9⟩ := h.last p y e
    rcases h.tree with ⟨h2, _⟩ | ⟨i, cs, _, _, _, _, _, _, h7⟩
    · rw [h8, (h2.peg h9).1]
      unfold ptN
      split
      · exact .inr ⟨_, rfl⟩
      · exact .inl rfl
    · exact .inl (h7 p y e)
  case round =>
    rintro lq pre x V hle hloop hws hj hnx
    have HJ := hide hj
    obtain ⟨hkp, h5, ⟨la, h6, h7⟩, h4, htree⟩ := hj
    obtain ⟨h2, h2m⟩ : TreeX V t pr (cmJ m (kb k) pre.length) th N ∧ ∀ i, i < pre.length → 2 ≤ m ((kb k).take i) := by
      rcases htree with h | ⟨i, cs, h8, _, _, _, _, _, h9⟩
      · exact h
      · rcases hnx with ⟨rfl, _⟩ | ⟨p, y, g, h10, _, h11, _⟩
        · simp at h8
        · rw [h9 p y h10] at h11; cases h11
    obtain ⟨hx1, hx2, hx3⟩ := next_peg h2 h5 hnx
    have H2 := hide h2
    have H2M := hide h2m
    have H6 := hide h6
    have HKP := hide hkp
    have HX3 := hide hx3
    have HX1 := hide hx1
    clear h2 h2m h4 h5 h6 h7 hkp hloop hnx hx3 hx1 htree
    simp only [encA]
    gi_wp2
    refine ⟨KeepsFrom.refl _ _, KpT.refl _ _, HJ.out, fun W2 hst => ?_⟩
    have hT := H2.out.stayN (m := W0.heap.size) hst.toN
    have b6 := hst.boxed H6.out
    have f6 := b6.frozen
    have c6 := b6.cell
    obtain ⟨cx, fx⟩ := hT.peg HX3.out
    rw [← HX1.out] at cx fx
    obtain ⟨hin, hge⟩ := HWAY.out ((kb k).take pre.length) (List.take_prefix _ _)
    have hcm : cmJ m (kb k) pre.length ((kb k).take pre.length) = m ((kb k).take pre.length) := by simp [cmJ, inB_not hx2]
    rw [show ptN pr N ((kb k).take pre.length) = some ⟨N ((kb k).take pre.length), 0, none⟩ by simp [ptN, hin]] at cx
    have hT3 := hT.setBox (i := 0) (u := .pointer (some ⟨N ((kb k).take pre.length), 0, none⟩)) (show _ = some _ from b6) ⟨by decide, by decide⟩
    have n3 := hT3.node _ hin
    rw [hcm] at n3
    have c3 : _ = some (Value.int .i64 (m ((kb k).take pre.length))) := blk_cell n3 1
    have f3 := Joins.unfrozen_of_block n3 1
    have b63 := b6.set (.pointer (some ⟨N ((kb k).take pre.length), 0, none⟩))
    have c63 := b63.cell
    have hml := HM.out ((kb k).take pre.length)
    have hT4 := hT3.many hin (m ((kb k).take pre.length) - 1)
    have n4 := hT4.node _ hin
    rw [if_pos rfl] at n4
    have c4 : _ = some (Value.int .i64 ((m ((kb k).take pre.length) - 1 : Nat) : Int)) := blk_cell n4 1
    obtain ⟨mi, hmi⟩ : ∃ mi : Nat, mi = m ((kb k).take pre.length) - 1 := ⟨_, rfl⟩
    rw [show m ((kb k).take pre.length) - 1 = mi from hmi.symm] at hT4 c4 n4
    rw [show m ((kb k).take pre.length) = mi + 1 by omega] at c3
    have hne : N ((kb k).take pre.length) ≠ w.heap.size := fun e2 => by
      have h8 := hT.node _ hin
      have h9 : W2.heap[w.heap.size]? = _ := b6
      rw [e2, h9] at h8
      injection h8 with h8
      injection h8 with _ h8 _
      cases h8
    have b64 := ((b63.kept (grown_set _ (N ((kb k).take pre.length)) 1 (.int .i64 (mi : Nat)))) (fun e2 => by injection e2 with e2; exact hne e2.symm))
    have c64 := b64.cell
    have hkpt : ∀ B2, KpT B2 W2 ((W2.setCell ⟨w.heap.size, 0, none⟩ (.pointer (some ⟨N ((kb k).take pre.length), 0, none⟩))).setCell ⟨N ((kb k).take pre.length), 1, none⟩ (.int .i64 (mi : Nat))) := (fun B2 =>
      (KpT.setBox (show _ = some _ from b6) (.inl rfl) _).trans (hT3.knode hin B2 1 _))
    have hkep : Kept (fun g => ¬ OfX t pr N g) w ((W2.setCell ⟨w.heap.size, 0, none⟩ (.pointer (some ⟨N ((kb k).take pre.length), 0, none⟩))).setCell ⟨N ((kb k).take pre.length), 1, none⟩ (.int .i64 (mi : Nat))) :=
      ((HKP.out.stayN (t := none) hst.toN hle3).setCell (p := ⟨w.heap.size, 0, none⟩) (fun h1 => absurd h1 (Nat.lt_irrefl _)) _).setCell (p := ⟨N ((kb k).take pre.length), 1, none⟩) (fun h1 h2 => h2 (.inr ⟨_, hin, rfl⟩)) _
    obtain ⟨cx4, fx4⟩ := hT4.peg HX3.out
    rw [← HX1.out] at cx4 fx4
    have HB64 := hide b64
    have HKPT := hide hkpt
    have HKEP := hide hkep
    have HT4 := hide hT4
    have HN4 := hide n4
    have HMI := hide hmi
    have hmi2 : mi ≤ 1000000 := by omega
    generalize hgn : N ((kb k).take pre.length) = g at *
    have HGN := hide hgn
    have HOX : Hid (OfX t pr N x.block) := hide (by rw [HX1.out]; exact pegA_block HX3.out)
    have HXW : Hid (x.block < w.heap.size) := hide (by
      rcases HOX.out with h1 | ⟨q, h1, h2⟩
      · rw [h1]; exact htb
      · rw [h2]; exact HN.out q h1)
    have HXG : Hid (x.block ≠ g) := hide (by
      rw [HX1.out, ← hgn]
      rcases HX3.out with h1 | ⟨q, z, h1, h2⟩
      · rw [h1, pegA_nil]; exact HH.out.tb_ne (by rw [← h1]; exact hin)
      · rw [h1, pegA_snoc]
        intro e2
        have := HH.out.inj q (q ++ [z]) h2 (by rw [← h1]; exact hin) e2
        have := congrArg List.length this
        simp at this)
    have HIN := hide hin
    have HGE := hide hge
    clear hT hst b6 hT3 hT4 b63 b64 n3 n4 hgn hin hne hkpt hkep hcm hml hge hmi
    by_cases hz : mi = 0
    · subst hz
      rw [show ((0 : Nat) : Int) = 0 from rfl] at c4 c64 fx4 cx4
      gi_wp2
      have hlen : (pre ++ [x]).length = pre.length + 1 := by simp
      have hm1 : m ((kb k).take pre.length) = 1 := by have := HMI.out; have := HGE.out; omega
      have hk2 := HT4.out.kpeg HX3.out (W0.heap.size + 2) (.pointer none)
      have hcut := HT4.out.cut HX3.out
      have hk3 := HT4.out.kpeg HX3.out W0.heap.size (.pointer none)
      rw [← HX1.out] at hk2 hk3 hcut
      have hkp := (HKPT.out (W0.heap.size + 2)).trans hk2
      have hcut2 := hcut
      have hn5 := (Below.heap_setCell _ x (.pointer none) _ (fun e2 => HXG.out e2.symm)).trans HN4.out
      obtain ⟨cs, hcs, hcz⟩ : ∃ cs, (World.setCell _ x (.pointer none)).heap[g]? = some (.cells cs 110 (0, 0)) ∧ cs.size = 4 := ⟨_, hn5, rfl⟩
      refine ⟨((HKPT.out W0.heap.size).trans hk3).from (Nat.le_refl _), hkp, HKEP.out.setCell (p := x) (fun h1 h2 => h2 HOX.out) _, lastP_snoc HX1.out HX3.out, ⟨_, (Below.heap_setCell _ x _ _ (fun e2 => by have := HXW.out; omega)).trans HB64.out, fun p y e2 => ?_⟩, by rw [hlen]; omega, .inr ⟨pre.length, cs, hlen, hm1, H2M.out, hcut.congr (fun q => rfl) (fun q hq => ⟨?_, rfl, rfl⟩), by rw [HGN.out]; exact hcs, hcz, fun p y e2 => ?_⟩⟩
      · obtain ⟨rfl, _⟩ := List.append_inj' e2 rfl
        rw [HGN.out]
      · have hne : q ≠ (kb k).take pre.length := fun e3 => by
          subst e3
          have h1 : ((kb k).take pre.length).isPrefixOf ((kb k).take pre.length) = true := List.isPrefixOf_iff_prefix.2 (List.prefix_refl _)
          simp [h1] at hq
        rw [if_neg hne]
        simp [cmJ, inB_succ hx2, hne]
      · obtain ⟨rfl, e3⟩ := List.append_inj' e2 rfl
        simp at e3
        subst e3
        have h1 := (hcut2.peg (p := (kb k).take pre.length) (HX3.out.imp id (fun ⟨q, z, h1, h2⟩ => ⟨q, z, h1, by
          have h3 : ¬ (kb k).take pre.length <+: q := fun h4 => by have := h4.length_le; have h5 := congrArg List.length h1; simp at h5; simp at this; omega
          have h4 : ((kb k).take pre.length).isPrefixOf q = false := by rw [Bool.eq_false_iff]; intro h5; exact h3 (List.isPrefixOf_iff_prefix.1 h5)
          simp [h2, h4]⟩))).1
        rw [← HX1.out] at h1
        refine h1.trans ?_
        have h4 : ((kb k).take pre.length).isPrefixOf ((kb k).take pre.length) = true := List.isPrefixOf_iff_prefix.2 (List.prefix_refl _)
        simp [ptN, h4]
    · gi_wp2
      have hlen : (pre ++ [x]).length = pre.length + 1 := by simp
      have hm1 : mi + 1 = m ((kb k).take pre.length) := by have := HMI.out; have := HGE.out; omega
      refine ⟨(HKPT.out (W0.heap.size)).from (Nat.le_refl _), HKPT.out _, HKEP.out, lastP_snoc HX1.out HX3.out, ⟨_, HB64.out, fun p y e2 => ?_⟩, by rw [hlen]; omega, .inl ⟨?_, fun i hi => ?_⟩⟩
      · obtain ⟨rfl, _⟩ := List.append_inj' e2 rfl
        rw [HGN.out]
      · rw [hlen]
        refine HT4.out.congr (fun q => rfl) (fun q hq => ⟨?_, rfl, rfl⟩)
        by_cases e3 : q = (kb k).take pre.length
        · rw [if_pos e3, e3, ← Nat.add_sub_cancel (n := mi) (m := 1), hm1]
          simp [cmJ, inB_succ hx2]
        · rw [if_neg e3]
          simp [cmJ, inB_succ hx2, e3]
      · rw [hlen] at hi
        by_cases e3 : i < pre.length
        · exact H2M.out i e3
        · obtain rfl : i = pre.length := by omega
          omega
  case done =>
    rintro D xs V hD hS hj hdef
    obtain ⟨hkp, h5, ⟨la, h6, h7⟩, h4, htree⟩ := hj
    obtain ⟨p, y, rfl, hp⟩ := hS
    obtain ⟨h8, h9⟩ := h5 p y rfl
    have hla := h7 p y rfl
    have hlen : (p ++ [y]).length = p.length + 1 := by simp
    have hpin : pr ((kb k).take p.length) = true := (HWAY.out _ (List.take_prefix _ _)).1
    have hfin : (∃ v, V.cell? ⟨N ((kb k).take p.length), 0, none⟩ = some v ∧ V.frozen? ⟨N ((kb k).take p.length), 0, none⟩ = false) ∧ TreeX (V.setCell ⟨N ((kb k).take p.length), 0, none⟩ (.pointer none)) t (fun q => pr q && !(q.isPrefixOf (kb k) && m q == 1)) (fun q => m q - (if q.isPrefixOf (kb k) = true then 1 else 0)) (fun q => if q = kb k then none else th q) N := by
      rcases htree with ⟨h2, h2m⟩ | ⟨i, cs, a1, a2, a3, a4, a5, a6, a7⟩
      · have hpl : p.length = bcN k := by
          rcases hp with hp | hp
          · exact hp
          · have h10 := (h2.peg h9).1
            rw [← h8, hp] at h10
            simp [ptN, hpin] at h10
        have hbl : (kb k).take p.length = kb k := List.take_of_length_le (by rw [kb_len]; omega)
        rw [hbl] at hpin ⊢
        have n3 := h2.node _ hpin
        refine ⟨⟨_, blk_cell n3 0, Joins.unfrozen_of_block n3 0⟩, (h2.thing hpin none).congr (fun q => ?_) (fun q hq => ⟨?_, rfl, rfl⟩)⟩
        · cases e : q.isPrefixOf (kb k) with
          | false => simp
          | true =>
            have h10 := List.isPrefixOf_iff_prefix.1 e
            have h11 := h2m q.length (by have := h10.length_le; rw [hlen, hpl, ← kb_len]; omega)
            rw [← List.prefix_iff_eq_take.1 h10] at h11
            have : (m q == 1) = false := by rw [Bool.eq_false_iff]; intro e2; have := eq_of_beq e2; omega
            simp [this]
        · simp [cmJ, hlen, hpl, ← kb_len, inB_all]
      · obtain rfl : i = p.length := by omega
        have hle : p.length ≤ (kb k).length := by omega
        refine ⟨?_, ?_⟩
        · have : ∃ v, cs[0]? = some v := ⟨cs[0], by simp [a6]⟩
          obtain ⟨v, hv⟩ := this
          exact ⟨v, by rw [blk_cell a5, hv], Joins.unfrozen_of_block a5 0⟩
        · refine (a4.same (W' := V.setCell ⟨N ((kb k).take p.length), 0, none⟩ (.pointer none)) (set_other (HH.out.tb_ne hpin)) (fun q hq => set_other (fun e2 => ?_))).congr (fun q => ?_) (fun q hq => ⟨?_, ?_, rfl⟩)
          · simp only [Bool.and_eq_true, Bool.not_eq_true'] at hq
            have h1 := HH.out.inj q _ hq.1 hpin e2
            rw [h1, List.isPrefixOf_iff_prefix.2 (List.prefix_refl _)] at hq
            exact absurd hq.2 (by simp)
          · cases e : pr q with
            | false => simp
            | true =>
              simp only [Bool.true_and]
              congr 1
              rw [Bool.eq_iff_iff, Bool.and_eq_true, beq_iff_eq, List.isPrefixOf_iff_prefix, List.isPrefixOf_iff_prefix]
              constructor
              · rintro ⟨h1, h2⟩
                by_cases h3 : q.length < p.length
                · have h10 := a3 q.length h3
                  rw [← List.prefix_iff_eq_take.1 h1] at h10
                  omega
                · exact List.prefix_of_prefix_length_le (List.take_prefix _ _) h1 (by simp; omega)
              · intro h1
                exact HONE.out _ (List.take_prefix _ _) a2 q h1 e
          · simp only [Bool.and_eq_true, Bool.not_eq_true'] at hq
            have h3 : inB (kb k) (p.length + 1) q = q.isPrefixOf (kb k) := by
              rw [Bool.eq_iff_iff, inB_iff, List.isPrefixOf_iff_prefix]
              refine ⟨fun h => h.1, fun h => ⟨h, ?_⟩⟩
              by_cases h4 : q.length < p.length
              · omega
              · have h5 : (kb k).take p.length <+: q := List.prefix_of_prefix_length_le (List.take_prefix _ _) h (by simp; omega)
                rw [List.isPrefixOf_iff_prefix.2 h5] at hq
                exact absurd hq.2 (by simp)
            simp only [cmJ, h3]
          · simp only [Bool.and_eq_true, Bool.not_eq_true'] at hq
            rw [if_neg]
            rintro rfl
            rw [List.isPrefixOf_iff_prefix.2 (List.take_prefix _ _)] at hq
            exact absurd hq.2 (by simp)
    obtain ⟨⟨v, c3, f3⟩, hT4⟩ := hfin
    rw [hla] at h6
    have c6 := h6.cell
    have HT4 := hide hT4
    have HKEP : Hid (Kept (fun g => ¬ OfX t pr N g) w (V.setCell ⟨N ((kb k).take p.length), 0, none⟩ (.pointer none))) := hide (hkp.setCell (p := ⟨N ((kb k).take p.length), 0, none⟩) (fun h1 h2 => h2 (.inr ⟨_, hpin, rfl⟩)) _)
    have hkd := (KeepsOthers.setCell V ⟨N ((kb k).take p.length), 0, none⟩ (.pointer none)).same _ _ hdef rfl
    generalize N ((kb k).take p.length) = g at *
    clear htree h4 h5 h6 h7 h8 h9 hp hla hT4 hkp hdef hpin
    gi_wp2
    have hst := Stays.putObj (B := W0.heap.size) (.deferred none) hD hkd rfl
    refine ⟨by simp, .inl ⟨_, _, rfl, run_takeDeferred hkd, ?_⟩⟩
    exact ⟨_, results_none rfl _ _ _, rfl, HKEP.out.stayN (t := none) hst.toN hle3, HT4.out.stayN hst.toN⟩
end Go.Proofs.Ythefgfcjjbjjkaa
