/-
  The pegs' iterator.
-/
import Derived.Test.YthefgfcjjbjjkaaTC
namespace Go.Proofs.Ythefgfcjjbjjkaa
open Go.RowKit
set_option linter.unusedVariables false
set_option linter.unusedSimpArgs false
attribute [local go_sem] Oper.semAt_some

theorem Rd.stayN {t : TypeId} {m B0 sz n : Nat} {A : Option Addr} {xs : List Value} {X Y : World} (hr : Rd X B0 sz A n xs) (h : StayN (some t) m X Y) (hB : B0 ≤ m) (hX : B0 ≤ X.heap.size) : Rd Y B0 sz A n xs := hr.kept (fun p hp => by
  have h1 : X.heap[p.block]? = some X.heap[p.block] := Array.getElem?_eq_getElem (by omega)
  exact World.cell?_of_block ((h.same _ _ h1 (.inl (by omega))).trans h1.symm))
theorem KeyBox.stayN {Bx B n c m : Nat} {A : Option Addr} {k : List Int} {X Y : World} (h : KeyBox Bx B n c A k X) (hs : StayN (some 107) m X Y) (hB : B ≤ m) (hX : B ≤ X.heap.size) : KeyBox Bx B n c A k Y :=
  ⟨hs.blk (by decide) h.box, h.rd.stayN hs hB hX⟩
theorem cell_setOther {X : World} {a b : Addr} {v : Value} (h : a.block ≠ b.block) : (X.setCell b v).cell? a = X.cell? a := World.cell?_of_block (Below.heap_setCell X b v a.block h)
set_option maxRecDepth 100000 in
set_option maxHeartbeats 2000000 in
theorem pegs_iter (N b1 b2 Bx B n c : Nat) (A : Option Addr) (k : List Int) (T : Addr) (w0 : World) (HN : 1 ≤ N) (hk : ∀ b ∈ k, IsByte b) (hn : 4 ≤ n) (hc : n ≤ c) (hb : n ≤ 1000000) (hright : bcN k ≤ 8 * (n - 4)) (hx : Bx < w0.heap.size) (hB : B ≤ w0.heap.size) (hkb : KeyBox Bx B n c A k w0)
    (hT : T.block < w0.heap.size) (hb1 : Boxed w0 b1 103 (.pointer (some T))) (hb2 : Boxed w0 b2 79 (.func (.func 58) #[] #[.pointer (some ⟨Bx, 0, none⟩)])) :
    IterW (some 107) Fence.wide N Try.prog 70 #[.pointer (some ⟨b1, 0, none⟩), .pointer (some ⟨b2, 0, none⟩)] encA KpT (KqP B n A k) (NxP T k) (SP k) w0 := by
  intro lp J Jx W hW hJ hJx hJK hY h0
  have k1 : W.cell? ⟨b1, 0, none⟩ = some (.pointer (some T)) := (hW.cell (p := ⟨b1, 0, none⟩) (at_lt hb1)).trans hb1.cell
  have k2 : W.cell? ⟨b2, 0, none⟩ = some (.func (.func 58) #[] #[.pointer (some ⟨Bx, 0, none⟩)]) := (hW.cell (p := ⟨b2, 0, none⟩) (at_lt hb2)).trans hb2.cell
  have l1 : b1 < W.heap.size := Nat.lt_of_lt_of_le (at_lt hb1) hW.size
  have l2 : b2 < W.heap.size := Nat.lt_of_lt_of_le (at_lt hb2) hW.size
  have HTW : Hid (T.block < W.heap.size) := hide (Nat.lt_of_lt_of_le hT hW.size)
  have HKB := hide (hkb.below hW hB hx)
  have HXW : Hid (Bx < W.heap.size ∧ B ≤ W.heap.size) := hide ⟨Nat.lt_of_lt_of_le hx hW.size, Nat.le_trans hB hW.size⟩
  clear hb1 hb2 hkb hW hx hB hT
  refine callsIn_of_wp_marks Try.func70 rfl trivial ?_ rfl
  simp only [Try.ntmps70, List.size_toArray, List.length_cons, List.length_nil, Nat.reduceAdd, Nat.reduceSub, Array.replicate_succ, Array.replicate_zero, List.push_toArray, List.append_toArray, List.nil_append, List.cons_append]
  gi_wp2
  obtain ⟨q0, q1⟩ := two_boxes W (.cells #[.func (.yield lp) #[] #[]] 118) (.cells #[.pointer (some T)] 107)
  have hb2 := below2 W (.cells #[.func (.yield lp) #[] #[]] 118) (.cells #[.pointer (some T)] 107)
  have hs2 : ((W.alloc (.cells #[.func (.yield lp) #[] #[]] 118)).alloc (.cells #[.pointer (some T)] 107)).heap.size = W.heap.size + 2 := by simp
  generalize hW0 : (W.alloc (.cells #[.func (.yield lp) #[] #[]] 118)).alloc (.cells #[.pointer (some T)] 107) = W0 at q0 q1 hb2 hs2 ⊢
  clear hW0 k1 k2
  have hbx : Bx < W0.heap.size ∧ B ≤ W0.heap.size := by have := HXW.out; omega
  have hk0 : KeyBox Bx B n c A k W0 := HKB.out.below hb2 HXW.out.2 HXW.out.1
  have hle2 : W.heap.size ≤ W0.heap.size := by omega
  refine range_w (α := Nat × Bool) (t := none) (F := Fence.wide) (n := N) rfl HN (gf := 58) (lb := #[.pointer (some ⟨Bx, 0, none⟩)]) rfl trivial (enters_of Try.func58 (by kernel_rfl) rfl)
    (bits_iter none (N - 1) Bx B n c A k W0 hk hn hc hb hright hbx.1 hbx.2 hk0.inn) (Below.refl _ _)
    (fun h1 h2 => Nat.le_trans h1 h2) (fun X l o o' _ _ _ _ => by simp) (fun _ => rfl)
    (fun pre V => (∃ s x, s.length = pre.length ∧ J s V ∧ NxP T k s x V ∧ Boxed V (W.heap.size + 1) 107 (.pointer (some x))) ∧ Boxed V W.heap.size 118 (.func (.yield lp) #[] #[]) ∧ KeyBox Bx B n c A k V)
    (fun pre V => (∃ s, Jx s V) ∨ ∃ s, SP k s V ∧ J s V)
    ?_ ?_ (fun s V _ h => h.2.2.inn) (fun _ _ _ h _ => h) ⟨⟨[], T, rfl, hJ _ _ _ h0 (Stays.toN (.of_below hb2)), .inl ⟨rfl, rfl⟩, q1⟩, q0, hk0⟩ ?round ?done ?stop
  · rintro s X Y ⟨⟨s1, x, h1, h2, h3, h4⟩, h5, h6⟩ hst
    replace hst := hst.plain
    refine ⟨⟨s1, x, h1, hJ _ _ _ h2 (hst.mono hle2).toN, ?_, hst.boxed h4⟩, hst.boxed h5, h6.stays hst⟩
    rcases h3 with h3 | ⟨p, y, g, h3, h7, h8, h9⟩
    · exact .inl h3
    · exact .inr ⟨p, y, g, h3, h7, hst.cell h8, h9⟩
  · rintro s X Y h1 hst
    replace hst := hst.plain
    rcases h1 with ⟨s1, h1⟩ | ⟨s1, ⟨p, y, h2, h4⟩, h3⟩
    · exact .inl ⟨s1, hJx _ _ _ h1 (hst.mono hle2).toN⟩
    · exact .inr ⟨s1, ⟨p, y, h2, h4.imp id (fun h5 => hst.cell h5)⟩, hJ _ _ _ h3 (hst.mono hle2).toN⟩
  case round =>
    rintro lq pre x V hle hloop hws ⟨⟨s, x1, h1, h2, h3, h4⟩, h5, h6⟩ ⟨i, hi, hpre, rfl⟩
    have H1 := hide h1
    have H2 := hide h2
    have H3 := hide h3
    have H4 := hide h4
    have H5 := hide h5
    have H6 := hide h6
    have HL := hide hloop
    have HP := hide hpre
    clear h1 h2 h3 h4 h5 h6 hloop hpre
    simp only [encB]
    obtain ⟨z, hzz⟩ : ∃ z : Nat, z = if btN k i then 1 else 0 := ⟨_, rfl⟩
    have hbz : z < 2 := by rw [hzz]; split <;> omega
    rw [show (if btN k i = true then (1 : Int) else 0) = (z : Int) by rw [hzz]; split <;> rfl]
    have HZZ := hide hzz
    clear hzz
    gi_wp2
    refine ⟨KeepsFrom.refl _ _, Nat.le_refl _, ⟨⟨s, x1, H1.out, H2.out, H3.out, H4.out⟩, H5.out, H6.out⟩, fun W2 hst => ?_⟩
    have hJ2 : J s W2 := hJ _ _ _ H2.out (hst.mono hle2).toN
    have hN2 : NxP T k s x1 W2 := by
      rcases H3.out with h3 | ⟨p, y, g, h3, h7, h8, h9⟩
      · exact .inl h3
      · exact .inr ⟨p, y, g, h3, h7, hst.cell h8, h9⟩
    have b4 := hst.boxed H4.out
    have b5 := hst.boxed H5.out
    have H62 := hide (H6.out.stays hst)
    have c4 := b4.cell
    have c5 := b5.cell
    have hz : W.heap.size ≤ W2.heap.size := by have := hst.size; omega
    have B4 := hide b4
    have HN2 := hide hN2
    have B5 := hide b5
    have HS1 : Hid (s.length = i ∧ i < bcN k) := hide ⟨by rw [H1.out, HP.out]; simp [els]; omega, hi⟩
    have HZ := hide hz
    have HJK := hide hJK
    have HE : Hid (∀ x : Nat × Bool, (pre ++ [x]).length = i + 1) := hide (fun x => by rw [HP.out]; simp [els]; omega)
    obtain ⟨fn, tmps, assign, body, hy, hR⟩ := hY s x1 W2 hJ2 hN2 hz
    simp only [encA] at hy
    clear hJ2 hN2 hst b4 b5 hz hJK hle hi
    gi_wp2
    refine ⟨fun h => by simp [Fence.wide] at h, (RoundIn.deep rfl hR).mono ?_⟩
    clear hR hy c4 c5
    rintro e W' (⟨rfl, hJ', hs', hk'⟩ | ⟨rfl, hJx', hs', hk'⟩)
    · have B4' := hide (hk'.boxed B4.out (by decide))
      have B5' := hide (hk'.boxed B5.out (by decide))
      have H6' := hide (H62.out.kept hk' (HJK.out _ _ (by simp) hJ').2)
      have HKF := hide (hk'.from (B' := W0.heap.size) hle2)
      have HSZ := hide hs'
      have HJ' := hide hJ'
      have c4 := B4'.out.cell
      rcases (HJK.out _ _ (by simp) hJ').1 s x1 rfl with hc | ⟨g, hc⟩
      · have HC := hide hc
        clear hJ' hs' hk'
        gi_wp2
        exact ⟨HKF.out, HSZ.out, .inr ⟨s ++ [x1], ⟨s, x1, rfl, .inr HC.out⟩, HJ'.out⟩⟩
      · have HC := hide hc
        have f4 := B4'.out.frozen
        clear hJ' hs' hk'
        gi_wp2
        have hne : x1.block ≠ W.heap.size + 1 := fun e => by
          rcases HN2.out with ⟨_, h3⟩ | ⟨p, y, g2, _, _, _, h9⟩
          · rw [h3] at e; have := HTW.out; omega
          · have h5 := HC.out
            rw [h9] at h5 e
            simp only at e
            subst e
            have h6 : W'.heap[W.heap.size + 1]? = _ := B4'.out
            rw [blk_cell h6] at h5
            simp at h5
        have hset := StayN.setBox (B := W.heap.size) (Nat.le_succ _) B4'.out (.pointer (some ⟨g, 2 + z, none⟩))
        refine ⟨HKF.out.trans ((KeepsOthers.setCell _ _ _).from _), Nat.le_trans HSZ.out hset.size, ⟨s ++ [x1], ⟨g, 2 + z, none⟩, by rw [HE.out]; simp [HS1.out.1], hJ _ _ _ HJ'.out hset, .inr ⟨s, x1, g, rfl, by rw [HS1.out.1]; exact HS1.out.2, ?_, by rw [HS1.out.1, HZZ.out]⟩, B4'.out.set _⟩, hset.blk (by decide) B5'.out, H6'.out.stayN hset HXW.out.2 (by have := HXW.out; have := at_lt B4'.out; omega)⟩
        exact (cell_setOther hne).trans HC.out
    · have HKF := hide (hk'.from (B' := W0.heap.size) hle2)
      have HSZ := hide hs'
      have HJ' := hide hJx'
      clear hJx' hs' hk'
      gi_wp2
      exact ⟨HKF.out, HSZ.out, .inl ⟨_, HJ'.out⟩⟩
  case done =>
    rintro D xs V hD rfl ⟨⟨s, x1, h1, h2, h3, h4⟩, h5, h6⟩ hdef
    have hlen : s.length = bcN k := by rw [h1]; simp [els]
    have c4 := h4.cell
    have c5 := h5.cell
    have hz : W.heap.size ≤ V.heap.size := Nat.le_trans (by have := at_lt h4; omega) (Nat.le_refl _)
    obtain ⟨fn, tmps, assign, body, hy, hR⟩ := hY s x1 V h2 h3 hz
    simp only [encA] at hy
    have HD := hide hdef
    clear h1 h2 h3 h4 h5 h6 hdef hJK hz
    gi_wp2
    refine (RoundIn.deep rfl hR).mono ?_
    clear hR hy c4 c5
    rintro e W' h
    have hkd : W'.heap[D]? = some (.deferred (some [])) := by
      rcases h with ⟨_, _, _, hk'⟩ | ⟨_, _, _, hk'⟩ <;> exact hk'.2 D _ HD.out (by simp [Turns]) (fun _ => Nat.le_trans hle2 hD)
    have hst := Stays.putObj (B := W.heap.size) (.deferred none) (Nat.le_trans hle2 hD) hkd rfl
    rcases h with ⟨rfl, hJ', _, _⟩ | ⟨rfl, hJx', _, _⟩
    · have HJ' := hide hJ'
      clear hJ'
      gi_wp2
      refine ⟨by simp, .inl ⟨_, _, rfl, run_takeDeferred hkd, ?_⟩⟩
      exact ⟨_, results_none rfl _ _ _, _, rfl, .inl ⟨s ++ [x1], ⟨s, x1, rfl, .inl hlen⟩, hJ _ _ _ HJ'.out hst.toN⟩⟩
    · have HJ' := hide hJx'
      clear hJx'
      gi_wp2
      refine ⟨by simp, .inl ⟨_, _, rfl, run_takeDeferred hkd, ?_⟩⟩
      exact ⟨_, results_none rfl _ _ _, _, rfl, .inr ⟨s ++ [x1], hJx _ _ _ HJ'.out hst.toN⟩⟩
  case stop =>
    rintro D pre V hD h1 hdef
    gi_wp2
    have hst := Stays.putObj (B := W.heap.size) (.deferred none) (Nat.le_trans hle2 hD) hdef rfl
    refine ⟨by simp, .inl ⟨_, _, rfl, run_takeDeferred hdef, ?_⟩⟩
    refine ⟨_, results_none rfl _ _ _, _, rfl, ?_⟩
    rcases h1 with ⟨s, h1⟩ | ⟨s, ⟨p, y, h2, h4⟩, h3⟩
    · exact .inr ⟨s, hJx _ _ _ h1 hst.toN⟩
    · exact .inl ⟨s, ⟨p, y, h2, h4.imp id (fun h5 => hst.cell h5)⟩, hJ _ _ _ h3 hst.toN⟩
end Go.Proofs.Ythefgfcjjbjjkaa
