/-
  Update.
-/
import Derived.Test.YtihhbpadafgkoaaLUB
namespace Go.Proofs.Ytihhbpadafgkoaa
open Go.RowKit Go.Maps
set_option linter.unusedVariables false
set_option linter.unusedSimpArgs false

/-- What Update tells. -/
def lruE (ks sz n q : Nat) (P : List HS) (k : List UInt8) (fl : Int) : Int :=
  if n = ks then (if q = sz ∧ fl ≤ 2 then (match findK P k with | some _ => if fl = 1 then 7 else 0 | none => if fl = 2 then 6 else 0) else 2) else 2
section
variable {w w1 : World} {B b mb cb e ks sz : Nat} {L : List LK} {P : List HS}
/-- Bytes are put into a place. -/
theorem Lru.putB {i off : Nat} {r : HS} {d : List Int} (h : Lru w B b mb cb e ks sz L P) (hr : P[i]? = some r) (ho : w1.ownsRow 0 5 1 (.slice r.A sz r.c) sz (u8s (splice r.bs off d))) (hk : Kept (fun g => (r.sl sz).ownBlock ≠ some g) w w1) : LGo B b mb cb e ks sz L P L (putB P i off d) w w1 := by
  obtain ⟨h1, h2⟩ := h.put hr ho hk
  rw [putB_some hr]
  exact ⟨h1, h2, fun g hg => .inl (OfU.rows (SameA.set (t := { r with bs := splice r.bs off d }) hr rfl rfl) hg)⟩
end
set_option maxRecDepth 100000 in
set_option maxHeartbeats 1000000 in
theorem upd_not (p : Option Addr) (A S : Option Addr) (n c q sc : Nat) (fl : Int) (w : World) (h : NoU p w) :
    Calls Try.prog 26 #[.pointer p, .slice A n c, .slice S q sc, .int .u64 fl] w fun e w' => e = .returned (.int .i64 1) ∧ w = w' := by
  have H := hide (refusal_not p A n c w h)
  clear h
  go_enter Try.func26, Try.ntmps26
  go_wp2_with (go_at_call 45; refine H.out.mono ?_; rintro e w' ⟨rfl, rfl⟩)
  go_ret
  exact ⟨rfl, rfl⟩
set_option maxRecDepth 100000 in
set_option maxHeartbeats 2000000 in
theorem upd_no (B b mb cb e ks sz : Nat) (L : List LK) (P : List HS) (A S : Option Addr) (n c C q sc : Nat) (fl : Int) (l : List Int) (w : World) (h : Lru w B b mb cb e ks sz L P) (hr : KRow w C A n l) (he : lruE ks sz n q P (kb l) fl ≠ 0) :
    Calls Try.prog 26 #[.pointer (some ⟨b, 0, none⟩), .slice A n c, .slice S q sc, .int .u64 fl] w fun en w' => en = .returned (.int .i64 (lruE ks sz n q P (kb l) fl)) ∧ Below w.heap.size w w' := by
  have HRF := hide (refusal_any B b mb cb e ks sz L P A n c w h)
  have hfit := h.fit
  unfold lruE at he ⊢
  by_cases hn : n = ks
  · subst hn
    rw [if_pos rfl] at he ⊢
    have hre : refE n n = 0 := by unfold refE; rw [if_pos rfl]
    rw [hre] at HRF
    have c2 := h.c2
    have c4 := h.c4
    by_cases hq : q = sz ∧ fl ≤ 2
    · rw [if_pos hq] at he ⊢
      obtain ⟨rfl, hfl⟩ := hq
      have hkb := h.kbig
      have hk := kb_max hr.rd (by omega)
      have hcv := conv_key (W := w.drew) (c := c) hr.byte (hr.rd.mono (Nat.le_refl _)) hr.nil
      have d3 : decide (2 < fl) = false := decide_eq_false (by omega)
      have d3' : decide (fl ≤ 2) = true := decide_eq_true hfl
      cases hfd : findL L (kb l) with
      | some i =>
        obtain ⟨r, hi, _⟩ := findL_some hfd
        rw [hfit.find_some hfd hi] at he ⊢
        simp only at he ⊢
        by_cases h1 : fl = 1
        · rw [if_pos h1]
          subst h1
          have hlk := (h.below (Below.refl _ _).drew).look hk hfd hi
          generalize encStr (kb l) = kv at hcv hlk
          clear h hr he hfd hi hfit d3 d3' hfl
          go_enter Try.func26, Try.ntmps26
          go_wp2_with (go_at_call 45; refine HRF.out.mono ?_; rintro e w' ⟨rfl, rfl⟩)
          go_region
          go_wp2
          go_ret
          exact ⟨rfl, (Below.refl _ _).drew⟩
        · rw [if_neg h1] at he
          exact absurd rfl he
      | none =>
        rw [hfit.find_none.2 hfd] at he ⊢
        simp only at he ⊢
        by_cases h1 : fl = 2
        · rw [if_pos h1]
          subst h1
          have hlk := (h.below (Below.refl _ _).drew).look_none hk hfd
          generalize encStr (kb l) = kv at hcv hlk
          clear h hr he hfd hfit d3 d3' hfl
          go_enter Try.func26, Try.ntmps26
          go_wp2_with (go_at_call 45; refine HRF.out.mono ?_; rintro e w' ⟨rfl, rfl⟩)
          go_region
          go_wp2
          go_ret
          exact ⟨rfl, (Below.refl _ _).drew⟩
        · rw [if_neg h1] at he
          exact absurd rfl he
    · rw [if_neg hq]
      clear h hr he hfit
      by_cases hk : q = sz
      · have hfl : decide (2 < fl) = true := decide_eq_true (by omega)
        have hfl2 : decide (fl ≤ 2) = false := decide_eq_false (by omega)
        have hkk : ((q : Int) == (sz : Int)) = true := by simp [hk]
        have hkk2 : ((q : Int) != (sz : Int)) = false := by simp [hk]
        clear hq hk
        go_enter Try.func26, Try.ntmps26
        go_wp2_with (go_at_call 45; refine HRF.out.mono ?_; rintro e w' ⟨rfl, rfl⟩)
        go_ret
        exact ⟨rfl, Below.refl _ _⟩
      · have hkk : ((q : Int) == (sz : Int)) = false := by simp; omega
        have hkk2 : ((q : Int) != (sz : Int)) = true := by simp; omega
        clear hq hk
        go_enter Try.func26, Try.ntmps26
        go_wp2_with (go_at_call 45; refine HRF.out.mono ?_; rintro e w' ⟨rfl, rfl⟩)
        go_ret
        exact ⟨rfl, Below.refl _ _⟩
  · rw [if_neg hn]
    have hre : refE ks n = 2 := by unfold refE; rw [if_neg hn]
    rw [hre] at HRF
    clear h hr he hfit
    go_enter Try.func26, Try.ntmps26
    go_wp2_with (go_at_call 45; refine HRF.out.mono ?_; rintro e w' ⟨rfl, rfl⟩)
    go_ret
    exact ⟨rfl, Below.refl _ _⟩
set_option maxRecDepth 100000 in
set_option maxHeartbeats 2000000 in
theorem upd_there (B b mb cb e n q i : Nat) (L : List LK) (P : List HS) (r : LK) (A S : Option Addr) (c C sc D : Nat) (fl : Int) (l d : List Int) (w : World) (h : Lru w B b mb cb e n q L P) (hr : KRow w C A n l) (hd : Rd w D 1 S q (u8s d)) (hD : D ≤ w.heap.size) (hV : ∀ ad, S = some ad → ¬ OfU b mb cb e q L P ad.block)
    (hf : findL L (kb l) = some i) (hi : L[i]? = some r) (hfl : fl ≤ 2) (h1 : fl ≠ 1) :
    Calls Try.prog 26 #[.pointer (some ⟨b, 0, none⟩), .slice A n c, .slice S q sc, .int .u64 fl] w fun en w' => en = .returned (.int .i64 0) ∧ LGo B b mb cb e n q L P (L.eraseIdx i ++ [r]) (putB P r.p 0 d) w w' := by
  have HRF := hide (refusal_any B b mb cb e n q L P A n c w h)
  have hre : refE n n = 0 := by unfold refE; rw [if_pos rfl]
  rw [hre] at HRF
  have c4 := h.c4
  have c2 := h.c2
  have hkb := h.kbig
  have hk := kb_max hr.rd (by omega)
  have hcv := conv_key (W := w.drew) (c := c) hr.byte (hr.rd.mono (Nat.le_refl _)) hr.nil
  have d3 : decide (2 < fl) = false := decide_eq_false (by omega)
  have d3' : decide (fl ≤ 2) = true := decide_eq_true hfl
  have hne : bne fl 1 = true := by simpa using h1
  have hne2 : (fl == 1) = false := by simpa using h1
  have hlk := (h.below (Below.refl _ _).drew).look hk hf hi
  obtain ⟨s, hs, hsk⟩ := h.fit.at_ r (List.mem_of_getElem? hi)
  have hw := h.below (Below.refl _ _).drew
  have c3 := hw.c3
  have HRN := hide (renew_any e i L r w.drew hw.ring hi)
  have HW := hide hw
  have HI := hide hi
  have HS := hide hs
  have HV := hide hV
  have HD := hide (show Rd w.drew D 1 S q (u8s d) from hd)
  have HDL : Hid (D ≤ w.drew.heap.size) := hide hD
  generalize encStr (kb l) = kv at hcv hlk
  clear h hr hd hD hV hf hi hw hfl h1 hs hk
  go_enter Try.func26, Try.ntmps26
  go_wp2_with (go_at_call 45; refine HRF.out.mono ?_; rintro e w' ⟨rfl, rfl⟩)
  go_region
  go_wp2_with (go_at_call 36; refine stop_here ?_)
  show Hid _
  refine start_here ?_
  refine HRN.out.mono ?_
  rintro en w1 ⟨rfl, hri, hk⟩
  obtain ⟨g1, g2, g3⟩ := HW.out.order (erase_perm HI.out) hri hk
  have k1 : w1.cell? ⟨r.g, 1, none⟩ = some (.int .i64 r.p) := by
    obtain ⟨nx, pv, hring⟩ := hri
    exact (hring.each r (by simp)).c1
  have HL1 := hide g1
  have HS1 := HS
  have hLG : LGo B b mb cb e n q L P (L.eraseIdx i ++ [r]) P w w1 := LGo.after (Below.refl _ _).drew ⟨g1, g3, fun g hg => .inl ((g2 g).1 hg)⟩
  have HLG := hide hLG
  have HD1 : Hid (Rd w1.drew D 1 S q (u8s d)) := hide ⟨HD.out.1, fun hq0 => by
    obtain ⟨ad, ea, hlt, hc⟩ := HD.out.2 hq0
    refine ⟨ad, ea, hlt, fun j u hu => ?_⟩
    rw [← hc j u hu]
    refine World.cell?_of_block ?_
    rw [block_add]
    exact g3.block ad.block (by have := HDL.out; omega) (HV.out ad ea)⟩
  clear g1 g2 g3 hri hk hLG hlk hcv c2 c3 c4
  go_wp2_with fail
  have c5 := HL1.out.c5
  have kp := HL1.out.parts HS1.out
  have hplt := (List.getElem?_eq_some_iff.1 HS1.out).1
  have q0 : (0 : Int) ≤ (r.p : Int) := by omega
  have q1 : (r.p : Int) < ((P.length : Nat) : Int) := by omega
  have HRW := hide (HL1.out.row r.p s HS1.out)
  go_still_tail 14, (by kernel_rfl)
  go_wp2_with (with_reducible refine stop_copy ?_)
  show Hid _
  refine start_here ?_
  refine wpList_copy_owns (e := 5) (n := q) (xs := u8s s.bs) rfl (.tmp 73) (.tmp 74) 35 35 rfl Try.underlying35 u8size s.A s.c (show World.ownsRow _ 0 5 1 (.slice s.A q s.c) q (u8s s.bs) from owns_kept_below HRW.out (Below.refl _ _).drew) 0 s.A q s.c rfl (fun hn => ?_) D S q sc rfl (u8s d) HD1.out (u8s_one d) (Nat.le_refl _) (by omega) ?_
  · rcases HRW.out.2 with ⟨_, h0⟩ | ⟨g, cap, cur, h0, _⟩
    · omega
    · injection h0 with h0
      exact ⟨g, h0, h0⟩
  intro w4 ho4 hg4 hz4
  have HF := hide (HLG.out.trans (HL1.out.putB (off := 0) (d := d) HS1.out (by rw [u8s_splice]; exact ho4) (below_then (Below.refl _ _).drew ((Kept.refl _ _).grown hg4 (fun j e2 _ h2 => h2 e2)))))
  clear ho4 hg4 hz4 kp c5 k1
  go_wp2
  go_ret
  exact ⟨rfl, HF.out⟩
set_option maxRecDepth 100000 in
set_option maxHeartbeats 2000000 in
theorem upd_new (B b mb cb e n q : Nat) (L : List LK) (P : List HS) (A S : Option Addr) (c C sc D : Nat) (fl : Int) (l d : List Int) (w : World) (h : Lru w B b mb cb e n q L P) (hr : KRow w C A n l) (hd : Rd w D 1 S q (u8s d)) (hD : D ≤ w.heap.size) (hV : ∀ ad, S = some ad → ¬ OfU b mb cb e q L P ad.block)
    (hf : findL L (kb l) = none) (hfl : fl ≤ 2) (h1 : fl ≠ 2) :
    Calls Try.prog 26 #[.pointer (some ⟨b, 0, none⟩), .slice A n c, .slice S q sc, .int .u64 fl] w fun en w' => en = .returned (.int .i64 0) ∧ ∃ x p s, freeK (roomP L P) = some p ∧ (roomP L P)[p]? = some s ∧ LGo B b mb cb e n q L P (roomL L P ++ [⟨x, kb l, p⟩]) (putB ((roomP L P).set p { s with key := some (kb l) }) p 0 d) w w' := by
  have HRF := hide (refusal_any B b mb cb e n q L P A n c w h)
  have hre : refE n n = 0 := by unfold refE; rw [if_pos rfl]
  rw [hre] at HRF
  have c4 := h.c4
  have c2 := h.c2
  have hkb := h.kbig
  have hk := kb_max hr.rd (by omega)
  have hkl : (kb l).length = n := by rw [kb_len]; have := hr.rd.1; simpa [u8s] using this
  have hcv := conv_key (W := w.drew) (c := c) hr.byte (hr.rd.mono (Nat.le_refl _)) hr.nil
  have d3 : decide (2 < fl) = false := decide_eq_false (by omega)
  have d3' : decide (fl ≤ 2) = true := decide_eq_true hfl
  have hne : bne fl 2 = true := by simpa using h1
  have hne2 : (fl == 2) = false := by simpa using h1
  have hlk := (h.below (Below.refl _ _).drew).look_none hk hf
  have hw := h.below (Below.refl _ _).drew
  have HAD := hide (add_any B b mb cb e n q L P (kb l) w.drew hw hf hkl)
  have HV := hide hV
  have HD := hide (show Rd w.drew D 1 S q (u8s d) from hd)
  have HDL : Hid (D ≤ w.drew.heap.size) := hide hD
  obtain ⟨kv, hkv⟩ : ∃ kv, kv = encStr (kb l) := ⟨_, rfl⟩
  rw [← hkv] at hcv hlk HAD
  clear h hr hd hD hV hf hw hfl h1 hk hkl hkv
  go_enter Try.func26, Try.ntmps26
  go_wp2_with (go_at_call 45; refine HRF.out.mono ?_; rintro e w' ⟨rfl, rfl⟩)
  go_region
  go_wp2_with (go_at_call 46; refine stop_here ?_)
  show Hid _
  refine start_here ?_
  refine HAD.out.mono ?_
  rintro en w1 ⟨x, p, s0, rfl, hp, hs, hg⟩
  obtain ⟨t, ht, htk⟩ : ∃ t, ((roomP L P).set p { s0 with key := some (kb l) })[p]? = some t ∧ t = { s0 with key := some (kb l) } := ⟨_, by simp [(List.getElem?_eq_some_iff.1 hs).1], rfl⟩
  have k1 : w1.cell? ⟨x, 1, none⟩ = some (.int .i64 p) := by
    obtain ⟨nx, pv, hring⟩ := hg.1.ring
    exact (hring.each ⟨x, kb l, p⟩ (by simp)).c1
  have HP := hide hp
  have HSS := hide hs
  have HLG := hide (LGo.after (Below.refl _ _).drew hg : LGo B b mb cb e n q L P _ _ w w1)
  have HD1 : Hid (Rd w1.drew D 1 S q (u8s d)) := hide ⟨HD.out.1, fun hq0 => by
    obtain ⟨ad, ea, hlt, hc⟩ := HD.out.2 hq0
    refine ⟨ad, ea, hlt, fun j u hu => ?_⟩
    rw [← hc j u hu]
    refine World.cell?_of_block ?_
    rw [block_add]
    exact hg.2.1.block ad.block (by have := HDL.out; omega) (HV.out ad ea)⟩
  obtain ⟨PP, hPP⟩ : ∃ PP, PP = (roomP L P).set p { s0 with key := some (kb l) } := ⟨_, rfl⟩
  obtain ⟨LL, hLL⟩ : ∃ LL, LL = roomL L P ++ [⟨x, kb l, p⟩] := ⟨_, rfl⟩
  rw [← hPP] at ht HLG
  rw [← hLL] at HLG
  have HL1 := hide HLG.out.1
  have HPP := hide hPP
  have HLL := hide hLL
  clear hp hs hg hlk hcv c2 c4 hPP hLL htk
  obtain ⟨s, hts⟩ : ∃ s, s = t := ⟨_, rfl⟩
  rw [← hts] at ht
  have HS1 := hide ht
  clear ht hts
  go_wp2_with fail
  have c5 := HL1.out.c5
  have kp := HL1.out.parts HS1.out
  have hplt := (List.getElem?_eq_some_iff.1 HS1.out).1
  have q0 : (0 : Int) ≤ (p : Int) := by omega
  have q1 : (p : Int) < ((PP.length : Nat) : Int) := by omega
  have HRW := hide (HL1.out.row p s HS1.out)
  go_still_tail 14, (by kernel_rfl)
  go_wp2_with (with_reducible refine stop_copy ?_)
  show Hid _
  refine start_here ?_
  refine wpList_copy_owns (e := 5) (n := q) (xs := u8s s.bs) rfl (.tmp 73) (.tmp 74) 35 35 rfl Try.underlying35 u8size s.A s.c (show World.ownsRow _ 0 5 1 (.slice s.A q s.c) q (u8s s.bs) from owns_kept_below HRW.out (Below.refl _ _).drew) 0 s.A q s.c rfl (fun hn => ?_) D S q sc rfl (u8s d) HD1.out (u8s_one d) (Nat.le_refl _) (by omega) ?_
  · rcases HRW.out.2 with ⟨_, h0⟩ | ⟨g, cap, cur, h0, _⟩
    · omega
    · injection h0 with h0
      exact ⟨g, h0, h0⟩
  intro w4 ho4 hg4 hz4
  have HF := hide (HLG.out.trans (HL1.out.putB (off := 0) (d := d) HS1.out (by rw [u8s_splice]; exact ho4) (below_then (Below.refl _ _).drew ((Kept.refl _ _).grown hg4 (fun j e2 _ h2 => h2 e2)))))
  clear ho4 hg4 hz4 kp c5 k1
  go_wp2
  go_ret
  exact ⟨rfl, x, p, s0, HP.out, HSS.out, by rw [← HLL.out, ← HPP.out]; exact HF.out⟩
end Go.Proofs.Ytihhbpadafgkoaa
