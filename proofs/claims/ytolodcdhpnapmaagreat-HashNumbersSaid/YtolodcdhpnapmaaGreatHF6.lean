/-
  The document's Update, done.
-/
import Derived.Test.YtolodcdhpnapmaaGreatHF5
import Derived.Deep.RegionLaw
namespace Go.Proofs.YtolodcdhpnapmaaGreat
open Go.RowKit Go.Maps Go.Sort
set_option linter.unusedVariables false

def HS.kv (r : HS) : Option (List UInt8) × List Int := (r.key, r.bs)
theorem step_append_run {P : Program} (w w2 : World) {ops : Array Oper} {o : Oper} {a : Act} {K : Act → World → Prop} {Q : Exit → Act → World → Prop} {E : Prop} (hgd : o.guard = none) (s x : Operand) (t : TypeId)
    (ho : o.op = .call { callee := .builtin .append, args := #[s, x], argTypes := #[t, t] }) (v vx v' : Value) (hs : a.eval s = v) (hx : a.eval x = vx) (hrun : (Builtin.append_ #[t, t] o.type #[v, vx]).run P w = .ok v' w2)
    (h : K (a.put o.dst v') w2) : if Region.wanted o (yielded ops a.tmps) = true then Oper.wp P o a w K Q else E := by
  have hw : Region.wanted o (yielded ops a.tmps) = true := by simp [Region.wanted, hgd]
  rw [if_pos hw]
  unfold Oper.wp execOp
  simp only [ho, resolve, invoke, builtin, Sem.run_bind, Sem.run_pure, Result.andThen_ok, List.map_toArray, List.map_cons, List.map_nil, hs, hx, hrun]
  exact h
theorem splice_all {a d : List Int} (h : a.length = d.length) : splice a 0 d = d := by
  unfold splice
  simp [h]
theorem kv_set {M : List HS} {p : Nat} {r t u : HS} (hr : M[p]? = some r) (h : t.kv = u.kv) : (M.set p t).map HS.kv = (M.set p u).map HS.kv := by
  rw [List.map_set, List.map_set, h]
theorem kv_found {M : List HS} {p : Nat} {r : HS} {k : List UInt8} {d : List Int} (hf : findK M k = some p) (hr : M[p]? = some r) (hd : r.bs.length = d.length) (A : Option Addr) (c : Nat) : (M.set p ⟨A, c, d, some k⟩).map HS.kv = (putB (putK M k) (putAt M k) 0 d).map HS.kv := by
  obtain ⟨r', h1, h2, _⟩ := findK_some hf
  rw [hr] at h1
  cases h1
  unfold putK putAt
  rw [hf]
  simp only
  rw [putB_some hr]
  exact kv_set hr (by unfold HS.kv; simp only [splice_all hd, h2])
theorem kv_free {M : List HS} {p : Nat} {r : HS} {k : List UInt8} {d : List Int} (hf : findK M k = none) (hfr : freeK M = some p) (hr : M[p]? = some r) (hd : r.bs.length = d.length) (A : Option Addr) (c : Nat) : (M.set p ⟨A, c, d, some k⟩).map HS.kv = (putB (putK M k) (putAt M k) 0 d).map HS.kv := by
  have hlt := (List.getElem?_eq_some_iff.1 hr).1
  unfold putK putAt
  rw [hf, hfr]
  simp only [hr, Option.getD_some]
  rw [putB_some (r := { r with key := some k }) (by rw [List.getElem?_set_self hlt]), List.set_set]
  exact kv_set hr (by unfold HS.kv; simp only [splice_all hd])
/-- What an update that is done tells. -/
def RUpd (B x y lc ks sz : Nat) (M : List HS) (L' : List HS) (w : World) (e : Ending) (w' : World) : Prop := ∃ M' : List HS, e = .returned (.int .i64 0) ∧ RHsh w' B x y lc ks sz M' ∧ M'.map HS.kv = L'.map HS.kv ∧ Kept (fun g => ¬ OfR x y sz M g) w w' ∧ ∀ g, OfR x y sz M' g → OfR x y sz M g ∨ w.heap.size ≤ g
set_option maxRecDepth 100000 in
set_option maxHeartbeats 4000000 in
theorem rupd_yes (B x y lc n q : Nat) (M : List HS) (A S : Option Addr) (c C sc : Nat) (fl : Int) (l d : List Int) (w : World) (h : RHsh w B x y lc n q M) (hr : KRow w C A n l) (hC : C ≤ w.heap.size) (hd : Rd w C 1 S q (u8s d)) (hS : S = none → q = 0) (hf : fl ≤ 2) (he : pickE M (kb l) fl = 0) :
    Calls Tryz.prog 39 #[.pointer (some ⟨x, 0, none⟩), .slice A n c, .slice S q sc, .int .u64 fl] w (RUpd B x y lc n q M (putB (putK M (kb l)) (putAt M (kb l)) 0 d) w) := by
  have c1 := h.c1
  have c2 := h.c2
  have HF := hide (rfind_any B x y lc n q M A n c C l w h hr hC)
  have d3 : decide (2 < fl) = false := decide_eq_false (by omega)
  have d3' : fl ≤ 2 := hf
  have HD := hide hd
  have HS0 := hide hS
  have HH := hide h
  have HR := hide hr
  have HM := hide h.many
  have HLN : Hid (l.length = n ∧ d.length = q) := hide ⟨by have := hr.rd.1; simpa [u8s] using this, by have := hd.1; simpa [u8s] using this⟩
  have HLB : Hid (∀ (i : Nat) (r : HS), M[i]? = some r → r.bs.length = d.length) := hide (fun i r hi => by
    have := (h.each i r hi).1
    rw [HLN.out.2]
    simpa [u8s] using this)
  unfold pickE at he
  cases hfd : findK M (kb l) with
  | some p =>
    rw [hfd] at he
    simp only at he
    have h1 : ¬ fl = 1 := fun e => by rw [if_pos e] at he; cases he
    have d4 : (fl == 1) = false := by simpa using h1
    have d5 : decide (fl = 1) = false := decide_eq_false h1
    rw [show findV M (kb l) = (p : Int) by unfold findV; rw [hfd]] at HF
    have HKV : Hid (∀ r, M[p]? = some r → ∀ A c, (M.set p ⟨A, c, d, some (kb l)⟩).map HS.kv = (putB (putK M (kb l)) (putAt M (kb l)) 0 d).map HS.kv) := hide (fun r hr A c => kv_found hfd hr (HLB.out p r hr) A c)
    obtain ⟨row, hrow, _⟩ := findK_some hfd
    have i0 : (0 : Int) ≤ (p : Int) := by omega
    have b0 : (0 : Int) < (M.length : Int) := by have := HM.out.1; omega
    clear h hr he hd hS
    generalize (putB (putK M (kb l)) (putAt M (kb l)) 0 d) = L' at *
    go_enter Tryz.func39, Tryz.ntmps39
    go_wp2_with fail
    refine HF.out.mono ?_
    rintro e wr ⟨rfl, hb⟩
    have HBR := hide hb
    have x4q := (HH.out.below hb).c4
    clear hb HF c1 c2
    go_wp2_with fail
    refine wp_loop_rounds 1 ?_
    rw [rounds_succ]
    go_wp2_with fail
    clear x4q
    obtain ⟨i0, hinf, hz0, hz1, hz2⟩ := info_parts u8info
    have hh := HH.out.below HBR.out
    have hbig := hh.big
    have hbe := below1 wr (.cells #[] 5)
    have HCB : Hid (C ≤ wr.heap.size) := hide (Nat.le_trans hC HBR.out.size)
    have hv : ∀ g, (Value.slice (some ⟨wr.heap.size, 0, none⟩) 0 0).ownBlock = some g → wr.heap.size ≤ g := fun g hg => by
      simp [Value.ownBlock] at hg
      omega
    obtain ⟨v', w2, hrun, hl⟩ := run_append_rd (P := Tryz.prog) (wr.alloc (.cells #[] 5)).drew 34 34 5 i0 _ 1 1 Tryz.underlying34 hinf hz0 hz1 hz2 rfl (by decide) (.slice (some ⟨wr.heap.size, 0, none⟩) 0 0) 0 [] (owns_empty wr) C S q sc (u8s d) (HD.out.below ((HBR.out.mono hC).trans (hbe.drew.mono HCB.out))) HS0.out (u8s_one d) (by have := hbig.2; unfold maxLen; omega) (by have := hbig.2; omega)
    rw [Nat.zero_add, List.nil_append] at hl
    have hb2 := longer_below hbe.drew (by show wr.heap.size ≤ (wr.alloc (.cells #[] 5)).heap.size; simp) hv hl
    have hfr := longer_from hl (by show wr.heap.size ≤ (wr.alloc (.cells #[] 5)).heap.size; simp) hv
    have ho2 := hl.1
    obtain ⟨A', c', rfl, _⟩ := owns_slice ho2
    have h2 := hh.below hb2
    have x4 := hh.c4
    have x4a := (hh.below hbe).c4
    have x4b := h2.c4
    have cv : ∀ X, Below wr.heap.size wr X → (convert 34 9 (.slice A n c)).run Tryz.prog X = .ok (encStr (kb l)) X := fun X hX => conv_key HR.out.byte (HR.out.rd.below ((HBR.out.mono hC).trans (hX.mono HCB.out))) HR.out.nil
    have cv0 := cv wr.drew (Below.refl _ _).drew
    have cv1 := cv (wr.alloc (.cells #[] 5)).drew hbe.drew
    have cv2 := cv w2 hb2
    obtain ⟨s0, s1, s2, s3, s4, s5⟩ := store3_ok h2 hrow (.bool true) (encStr (kb l))
    unfold HS.v0 at s0
    unfold HS.v1 at s2
    unfold HS.sl at s4
    have hst := h2.store (t := ⟨A', c', d, some (kb l)⟩) hrow h2.xy ho2 (fun e => by have := hfr _ e; have := (hh.lt y (.inr (.inl rfl))); omega) (fun j s hs hne g hg hg' => by have := hfr _ hg; have := hh.lt g (.inr (.inr ⟨s, List.mem_of_getElem? hs, hg'⟩)); omega) (fun g hg => by have := hfr _ hg; have := hh.low x (.inl rfl); have := hh.lt x (.inl rfl); omega) (fun k hk => by injection hk with hk; rw [← hk, kb_len, HLN.out.1])
    have HST := hide hst
    have HB2 := hide (HBR.out.trans (hb2.mono HBR.out.size))
    have HFR := hide hfr
    have HZ := hide HBR.out.size
    have p0 : (0 : Int) ≤ (p : Int) := by omega
    have p1 : (p : Int) < (M.length : Int) := by have := (List.getElem?_eq_some_iff.1 hrow).1; omega
    have HROW := hide hrow
    clear hinf hz0 hz1 hz2 hh hbig hbe HCB hv hl hb2 hfr ho2 h2 cv hst hrow
    go_wp2_with fail
    go_region_law (refine step_append_run _ w2 (by rfl) (.tmp 80) (.tmp 81) 34 (by rfl) _ _ _ (by rfl) (by rfl) hrun ?_)
    all_goals (
      clear s0 s1 s2 s3 s4 s5 x4 x4a x4b cv0 cv1 cv2 hrun
      unfold stored3 HS.v0 HS.v1 HS.sl at HST
      change Hid (RHsh (((w2.setCell ⟨y, p * 3, none⟩ (.bool true)).setCell ⟨y, p * 3 + 1, none⟩ (.string { data := (kb l).toArray })).setCell ⟨y, p * 3 + 2, none⟩ (.slice A' q c')) B x y lc n q (M.set p ⟨A', c', d, some (kb l)⟩) ∧ Kept (fun g => g ≠ y) w2 (((w2.setCell ⟨y, p * 3, none⟩ (.bool true)).setCell ⟨y, p * 3 + 1, none⟩ (.string { data := (kb l).toArray })).setCell ⟨y, p * 3 + 2, none⟩ (.slice A' q c'))) at HST
      generalize ((w2.setCell ⟨y, p * 3, none⟩ (.bool true)).setCell ⟨y, p * 3 + 1, none⟩ (.string { data := (kb l).toArray })).setCell ⟨y, p * 3 + 2, none⟩ (.slice A' q c') = w3 at *
      go_wp2_with fail
      go_ret
      refine ⟨_, rfl, HST.out.1, HKV.out _ HROW.out A' c', below_then HB2.out (HST.out.2.mono (fun g hg e => hg (.inr (.inl e)))), fun g hg => ?_⟩
      rcases hg with e | e | ⟨s, hs, hg⟩
      · exact .inl (.inl e)
      · exact .inl (.inr (.inl e))
      · rcases List.mem_or_eq_of_mem_set hs with hs | rfl
        · exact .inl (.inr (.inr ⟨s, hs, hg⟩))
        · exact .inr (Nat.le_trans HZ.out (HFR.out g hg)))
  | none =>
    rw [hfd] at he
    simp only at he
    have h2 : ¬ fl = 2 := fun e => by rw [if_pos e] at he; cases he
    rw [if_neg h2] at he
    cases hfr : freeK M with
    | none => rw [hfr] at he; cases he
    | some p =>
      have d4 : (fl == 2) = false := by simpa using h2
      have d5 : decide (fl = 2) = false := decide_eq_false h2
      have d6 : ¬ fl = 2 := h2
      rw [show findV M (kb l) = -1 by unfold findV; rw [hfd]] at HF
      have HKV : Hid (∀ r, M[p]? = some r → ∀ A c, (M.set p ⟨A, c, d, some (kb l)⟩).map HS.kv = (putB (putK M (kb l)) (putAt M (kb l)) 0 d).map HS.kv) := hide (fun r hr A c => kv_free hfd hfr hr (HLB.out p r hr) A c)
      obtain ⟨row, hrow, hrn, hbef⟩ := freeK_some hfr
      have HROW0 := hide hrow
      have HRN := hide hrn
      have HBEF := hide hbef
      have hpl := (List.getElem?_eq_some_iff.1 hrow).1
      clear h hr he hd hS hfr hbef hrow hrn
      generalize (putB (putK M (kb l)) (putAt M (kb l)) 0 d) = L' at *
      go_enter Tryz.func39, Tryz.ntmps39
      go_wp2_with fail
      refine HF.out.mono ?_
      rintro e w1 ⟨rfl, hb⟩
      have HB := hide hb
      clear hb HF c1 c2
      go_wp2_with fail
      go_loopw [9, 10] (fun u v wr => ∃ i : Nat, i ≤ p + 1 ∧ u = .int .i64 (if i ≤ p then -1 else (p : Int)) ∧ v = .int .i64 i ∧ Below w.heap.size w wr) (fun _ v _ => M.length - (intOf v).toNat)
      case atStart => exact ⟨0, Nat.zero_le _, by rw [if_pos (Nat.zero_le _)], rfl, HB.out⟩
      case round =>
        obtain ⟨i, hi, rfl, rfl, hb⟩ := hrel
        have HBR := hide hb
        have x4q := (HH.out.below hb).c4
        have jb : (i : Int) ≤ 1024 := by have := HM.out.2; omega
        by_cases hip : i ≤ p
        · rw [if_pos hip]
          obtain ⟨r, hr⟩ : ∃ r, M[i]? = some r := ⟨_, List.getElem?_eq_getElem (by omega)⟩
          have y0 := (HH.out.below hb).is hr
          have j0 : (0 : Int) ≤ (i : Int) := by omega
          have j1 : (i : Int) < (M.length : Int) := by omega
          by_cases hlt : i < p
          · rw [HBEF.out i r hlt hr] at y0
            clear hb hr
            go_wp2_with fail
            go_roundw
            case rel => exact ⟨i + 1, by omega, by rw [if_pos (by omega)], by go_num, HBR.out⟩
            case measure => simp [intOf]; omega
          · obtain rfl : i = p := by omega
            rw [HROW0.out] at hr
            cases hr
            rw [HRN.out] at y0
            simp only [Option.isSome_none] at y0
            clear hb
            go_wp2_with fail
            go_roundw
            case rel => exact ⟨i + 1, by omega, by rw [if_neg (by omega)], by go_num, HBR.out⟩
            case measure => simp [intOf]; omega
        · rw [if_neg hip]
          obtain rfl : i = p + 1 := by omega
          have i0 : (0 : Int) ≤ (p : Int) := by omega
          have hrow := HROW0.out
          clear hb
          have hgd : ((p + 1 : Nat) : Int) < (M.length : Int) ∨ (M.length : Int) ≤ ((p + 1 : Nat) : Int) := by omega
          rcases hgd with g1 | g1
          · go_wp2_with fail
            clear x4q
            obtain ⟨i0, hinf, hz0, hz1, hz2⟩ := info_parts u8info
            have hh := HH.out.below HBR.out
            have hbig := hh.big
            have hbe := below1 wr (.cells #[] 5)
            have HCB : Hid (C ≤ wr.heap.size) := hide (Nat.le_trans hC HBR.out.size)
            have hv : ∀ g, (Value.slice (some ⟨wr.heap.size, 0, none⟩) 0 0).ownBlock = some g → wr.heap.size ≤ g := fun g hg => by
              simp [Value.ownBlock] at hg
              omega
            obtain ⟨v', w2, hrun, hl⟩ := run_append_rd (P := Tryz.prog) (wr.alloc (.cells #[] 5)).drew 34 34 5 i0 _ 1 1 Tryz.underlying34 hinf hz0 hz1 hz2 rfl (by decide) (.slice (some ⟨wr.heap.size, 0, none⟩) 0 0) 0 [] (owns_empty wr) C S q sc (u8s d) (HD.out.below ((HBR.out.mono hC).trans (hbe.drew.mono HCB.out))) HS0.out (u8s_one d) (by have := hbig.2; unfold maxLen; omega) (by have := hbig.2; omega)
            rw [Nat.zero_add, List.nil_append] at hl
            have hb2 := longer_below hbe.drew (by show wr.heap.size ≤ (wr.alloc (.cells #[] 5)).heap.size; simp) hv hl
            have hfr := longer_from hl (by show wr.heap.size ≤ (wr.alloc (.cells #[] 5)).heap.size; simp) hv
            have ho2 := hl.1
            obtain ⟨A', c', rfl, _⟩ := owns_slice ho2
            have h2 := hh.below hb2
            have x4 := hh.c4
            have x4a := (hh.below hbe).c4
            have x4b := h2.c4
            have cv : ∀ X, Below wr.heap.size wr X → (convert 34 9 (.slice A n c)).run Tryz.prog X = .ok (encStr (kb l)) X := fun X hX => conv_key HR.out.byte (HR.out.rd.below ((HBR.out.mono hC).trans (hX.mono HCB.out))) HR.out.nil
            have cv0 := cv wr.drew (Below.refl _ _).drew
            have cv1 := cv (wr.alloc (.cells #[] 5)).drew hbe.drew
            have cv2 := cv w2 hb2
            obtain ⟨s0, s1, s2, s3, s4, s5⟩ := store3_ok h2 hrow (.bool true) (encStr (kb l))
            unfold HS.v0 at s0
            unfold HS.v1 at s2
            unfold HS.sl at s4
            have hst := h2.store (t := ⟨A', c', d, some (kb l)⟩) hrow h2.xy ho2 (fun e => by have := hfr _ e; have := (hh.lt y (.inr (.inl rfl))); omega) (fun j s hs hne g hg hg' => by have := hfr _ hg; have := hh.lt g (.inr (.inr ⟨s, List.mem_of_getElem? hs, hg'⟩)); omega) (fun g hg => by have := hfr _ hg; have := hh.low x (.inl rfl); have := hh.lt x (.inl rfl); omega) (fun k hk => by injection hk with hk; rw [← hk, kb_len, HLN.out.1])
            have HST := hide hst
            have HB2 := hide (HBR.out.trans (hb2.mono HBR.out.size))
            have HFR := hide hfr
            have HZ := hide HBR.out.size
            have p0 : (0 : Int) ≤ (p : Int) := by omega
            have p1 : (p : Int) < (M.length : Int) := by have := (List.getElem?_eq_some_iff.1 hrow).1; omega
            have HROW := hide hrow
            clear hinf hz0 hz1 hz2 hh hbig hbe HCB hv hl hb2 hfr ho2 h2 cv hst hrow
            go_wp2_with fail
            go_region_law (refine step_append_run _ w2 (by rfl) (.tmp 80) (.tmp 81) 34 (by rfl) _ _ _ (by rfl) (by rfl) hrun ?_)
            all_goals (
              clear s0 s1 s2 s3 s4 s5 x4 x4a x4b cv0 cv1 cv2 hrun
              unfold stored3 HS.v0 HS.v1 HS.sl at HST
              change Hid (RHsh (((w2.setCell ⟨y, p * 3, none⟩ (.bool true)).setCell ⟨y, p * 3 + 1, none⟩ (.string { data := (kb l).toArray })).setCell ⟨y, p * 3 + 2, none⟩ (.slice A' q c')) B x y lc n q (M.set p ⟨A', c', d, some (kb l)⟩) ∧ Kept (fun g => g ≠ y) w2 (((w2.setCell ⟨y, p * 3, none⟩ (.bool true)).setCell ⟨y, p * 3 + 1, none⟩ (.string { data := (kb l).toArray })).setCell ⟨y, p * 3 + 2, none⟩ (.slice A' q c'))) at HST
              generalize ((w2.setCell ⟨y, p * 3, none⟩ (.bool true)).setCell ⟨y, p * 3 + 1, none⟩ (.string { data := (kb l).toArray })).setCell ⟨y, p * 3 + 2, none⟩ (.slice A' q c') = w3 at *
              go_wp2_with fail
              go_ret
              refine ⟨_, rfl, HST.out.1, HKV.out _ HROW.out A' c', below_then HB2.out (HST.out.2.mono (fun g hg e => hg (.inr (.inl e)))), fun g hg => ?_⟩
              rcases hg with e | e | ⟨s, hs, hg⟩
              · exact .inl (.inl e)
              · exact .inl (.inr (.inl e))
              · rcases List.mem_or_eq_of_mem_set hs with hs | rfl
                · exact .inl (.inr (.inr ⟨s, hs, hg⟩))
                · exact .inr (Nat.le_trans HZ.out (HFR.out g hg)))
          · go_wp2_with fail
            clear x4q
            obtain ⟨i0, hinf, hz0, hz1, hz2⟩ := info_parts u8info
            have hh := HH.out.below HBR.out
            have hbig := hh.big
            have hbe := below1 wr (.cells #[] 5)
            have HCB : Hid (C ≤ wr.heap.size) := hide (Nat.le_trans hC HBR.out.size)
            have hv : ∀ g, (Value.slice (some ⟨wr.heap.size, 0, none⟩) 0 0).ownBlock = some g → wr.heap.size ≤ g := fun g hg => by
              simp [Value.ownBlock] at hg
              omega
            obtain ⟨v', w2, hrun, hl⟩ := run_append_rd (P := Tryz.prog) (wr.alloc (.cells #[] 5)).drew 34 34 5 i0 _ 1 1 Tryz.underlying34 hinf hz0 hz1 hz2 rfl (by decide) (.slice (some ⟨wr.heap.size, 0, none⟩) 0 0) 0 [] (owns_empty wr) C S q sc (u8s d) (HD.out.below ((HBR.out.mono hC).trans (hbe.drew.mono HCB.out))) HS0.out (u8s_one d) (by have := hbig.2; unfold maxLen; omega) (by have := hbig.2; omega)
            rw [Nat.zero_add, List.nil_append] at hl
            have hb2 := longer_below hbe.drew (by show wr.heap.size ≤ (wr.alloc (.cells #[] 5)).heap.size; simp) hv hl
            have hfr := longer_from hl (by show wr.heap.size ≤ (wr.alloc (.cells #[] 5)).heap.size; simp) hv
            have ho2 := hl.1
            obtain ⟨A', c', rfl, _⟩ := owns_slice ho2
            have h2 := hh.below hb2
            have x4 := hh.c4
            have x4a := (hh.below hbe).c4
            have x4b := h2.c4
            have cv : ∀ X, Below wr.heap.size wr X → (convert 34 9 (.slice A n c)).run Tryz.prog X = .ok (encStr (kb l)) X := fun X hX => conv_key HR.out.byte (HR.out.rd.below ((HBR.out.mono hC).trans (hX.mono HCB.out))) HR.out.nil
            have cv0 := cv wr.drew (Below.refl _ _).drew
            have cv1 := cv (wr.alloc (.cells #[] 5)).drew hbe.drew
            have cv2 := cv w2 hb2
            obtain ⟨s0, s1, s2, s3, s4, s5⟩ := store3_ok h2 hrow (.bool true) (encStr (kb l))
            unfold HS.v0 at s0
            unfold HS.v1 at s2
            unfold HS.sl at s4
            have hst := h2.store (t := ⟨A', c', d, some (kb l)⟩) hrow h2.xy ho2 (fun e => by have := hfr _ e; have := (hh.lt y (.inr (.inl rfl))); omega) (fun j s hs hne g hg hg' => by have := hfr _ hg; have := hh.lt g (.inr (.inr ⟨s, List.mem_of_getElem? hs, hg'⟩)); omega) (fun g hg => by have := hfr _ hg; have := hh.low x (.inl rfl); have := hh.lt x (.inl rfl); omega) (fun k hk => by injection hk with hk; rw [← hk, kb_len, HLN.out.1])
            have HST := hide hst
            have HB2 := hide (HBR.out.trans (hb2.mono HBR.out.size))
            have HFR := hide hfr
            have HZ := hide HBR.out.size
            have p0 : (0 : Int) ≤ (p : Int) := by omega
            have p1 : (p : Int) < (M.length : Int) := by have := (List.getElem?_eq_some_iff.1 hrow).1; omega
            have HROW := hide hrow
            clear hinf hz0 hz1 hz2 hh hbig hbe HCB hv hl hb2 hfr ho2 h2 cv hst hrow
            go_wp2_with fail
            go_region_law (refine step_append_run _ w2 (by rfl) (.tmp 80) (.tmp 81) 34 (by rfl) _ _ _ (by rfl) (by rfl) hrun ?_)
            all_goals (
              clear s0 s1 s2 s3 s4 s5 x4 x4a x4b cv0 cv1 cv2 hrun
              unfold stored3 HS.v0 HS.v1 HS.sl at HST
              change Hid (RHsh (((w2.setCell ⟨y, p * 3, none⟩ (.bool true)).setCell ⟨y, p * 3 + 1, none⟩ (.string { data := (kb l).toArray })).setCell ⟨y, p * 3 + 2, none⟩ (.slice A' q c')) B x y lc n q (M.set p ⟨A', c', d, some (kb l)⟩) ∧ Kept (fun g => g ≠ y) w2 (((w2.setCell ⟨y, p * 3, none⟩ (.bool true)).setCell ⟨y, p * 3 + 1, none⟩ (.string { data := (kb l).toArray })).setCell ⟨y, p * 3 + 2, none⟩ (.slice A' q c'))) at HST
              generalize ((w2.setCell ⟨y, p * 3, none⟩ (.bool true)).setCell ⟨y, p * 3 + 1, none⟩ (.string { data := (kb l).toArray })).setCell ⟨y, p * 3 + 2, none⟩ (.slice A' q c') = w3 at *
              go_wp2_with fail
              go_ret
              refine ⟨_, rfl, HST.out.1, HKV.out _ HROW.out A' c', below_then HB2.out (HST.out.2.mono (fun g hg e => hg (.inr (.inl e)))), fun g hg => ?_⟩
              rcases hg with e | e | ⟨s, hs, hg⟩
              · exact .inl (.inl e)
              · exact .inl (.inr (.inl e))
              · rcases List.mem_or_eq_of_mem_set hs with hs | rfl
                · exact .inl (.inr (.inr ⟨s, hs, hg⟩))
                · exact .inr (Nat.le_trans HZ.out (HFR.out g hg)))
end Go.Proofs.YtolodcdhpnapmaaGreat
