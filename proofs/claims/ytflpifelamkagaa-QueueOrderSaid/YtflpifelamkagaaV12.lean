/-
  Values that are pushed are told in their order: QueueOrder's walk.
-/
import Derived.Test.YtflpifelamkagaaV11
namespace Go.Proofs.Ytflpifelamkagaa
open Go.RowKit
set_option linter.unusedVariables false

theorem wr_lt {w W : World} {B g : Nat} {o : Obj} (h : w.heap[g]? = some o) (hb : Below B w W) (hg : g < B) : W.heap[g]? = some o := (hb.block g hg).trans h
theorem slInfo : (Try.prog.info? 22).map (fun i => (i.zero, i.size, i.bytes)) = some (some (.slice none 0 0), 1, 24) := by kernel_rfl
theorem slSize : (Try.prog.info? 22).map (·.size) = some 1 := by kernel_rfl
set_option maxRecDepth 100000 in
set_option maxHeartbeats 8000000 in
theorem law_queueOrder (value entries : Int) (st : Bool) (A0 : Option Addr) (m cc : Nat) (rs : List ARow) (w : World) (hv : -9223372036854775808 ≤ value ∧ value ≤ 9223372036854775807) (he : -9223372036854775808 ≤ entries ∧ entries ≤ 9223372036854775807) (h : ARows w w.heap.size A0 m rs) :
    Calls Try.prog 4 #[.int .i64 value, .int .i64 entries, .bool st, .slice A0 m cc] w fun e w' => e = .returned (.bool true) ∧ Below w.heap.size w w' := by
  have HA := hide (awake_any w)
  have HH := hide h
  have hp1 := pickN_lt value 40 (by omega)
  have hp2 := pickN_lt entries 110 (by omega)
  have HP1 : Hid (∀ W, Calls Try.prog 10 #[.int .i64 value, .int .i64 40] W fun e w' => e = .returned (.int .i64 (pickN value 40 : Nat)) ∧ W = w') := hide (fun W => pick_is value 40 W (by omega) (by omega) hv.1 hv.2)
  have HP2 : Hid (∀ W, Calls Try.prog 10 #[.int .i64 entries, .int .i64 110] W fun e w' => e = .returned (.int .i64 (pickN entries 110 : Nat)) ∧ W = w') := hide (fun W => pick_is entries 110 W (by omega) (by omega) he.1 he.2)
  generalize pickN value 40 = p1 at *
  generalize pickN entries 110 = p2 at *
  obtain ⟨sz, hsz⟩ : ∃ sz : Nat, (1 : Int) + (p1 : Int) = (sz : Int) := ⟨p1 + 1, by omega⟩
  obtain ⟨n, hn⟩ : ∃ n : Nat, (1 : Int) + (p2 : Int) = (n : Int) := ⟨p2 + 1, by omega⟩
  have HS : Hid (1 ≤ sz ∧ sz ≤ 40) := hide (by omega)
  have HN : Hid (1 ≤ n ∧ n ≤ 110) := hide (by omega)
  have b1 : (p1 : Int) ≤ 40 := by omega
  have b2 : (p2 : Int) ≤ 110 := by omega
  have b3 : (0 : Int) ≤ (p1 : Int) := by omega
  have b4 : (0 : Int) ≤ (p2 : Int) := by omega
  clear h hv he hp1 hp2
  cases st
  · go_enter Try.func4, Try.ntmps4
    by_cases hm : (100 : Int) < (m : Int)
    · have hm2 : decide ((100 : Int) < (m : Int)) = true := decide_eq_true hm
      go_wp2_with (go_at_call 9; refine HA.out.mono ?_; rintro e w1 ⟨rfl, hb⟩; have HB1 := hide hb; clear hb)
      go_ret
      exact ⟨rfl, HB1.out⟩
    · have hm2 : decide ((100 : Int) < (m : Int)) = false := decide_eq_false hm
      have HM : Hid (m ≤ 100) := hide (by omega)
      clear hm
      go_wp2_with (first
        | (go_at_call 9; refine HA.out.mono ?_; rintro e w1 ⟨rfl, hb⟩; have HB1 := hide hb; clear hb)
        | (go_at_call 10; ((with_reducible refine (HP1.out _).mono ?_)); rintro e w' ⟨rfl, rfl⟩)
        | (go_at_call 10; ((with_reducible refine (HP2.out _).mono ?_)); rintro e w' ⟨rfl, rfl⟩)
        | (go_at_call 11; refine stop_here ?_))
      show Hid _
      refine start_here ?_
      obtain ⟨wS, hwS⟩ : ∃ wS, wS = w1.alloc (.cells #[.int .u8 5, .int .i64 0, .int .i64 sz, .int .i64 n] 43) := ⟨_, rfl⟩
      have hbx : wS.heap[w1.heap.size]? = some (.cells #[.int .u8 5, .int .i64 0, .int .i64 sz, .int .i64 n] 43 (0, 0)) := by rw [hwS]; exact World.alloc_heap_new _ _
      have hbS : Below w1.heap.size w1 wS := by rw [hwS]; exact below1 _ _
      rw [← hwS]
      have HBX := hide hbx
      have HBS := hide (HB1.out.trans (hbS.mono HB1.out.size))
      have HRS := hide ((HH.out.below HBS.out))
      clear hwS hbx hbS hsz hn b1 b2 b3 b4 HP1 HP2 HA HB1
      refine (new_yes false sz n wS (by have := HS.out; omega) (by have := HN.out; omega)).mono ?_
      rintro e w2 ⟨b, rfl, hq, hb2⟩
      have HQ0 : Hid (AQ w2 wS.heap.size b false sz n none 0 [] (.slice none 0 0) [] ([].map QR.bs)) := hide ⟨hq, CutRow.nil _ _, rfl, nofun, nofun, nofun, nofun, nofun⟩
      have HB2 := hide hb2
      have hSl : w1.heap.size < wS.heap.size := at_lt HBX.out
      have HSL := hide hSl
      have HBOX : Hid (∀ W, Below wS.heap.size wS W → W.cell? ⟨w1.heap.size, 2, none⟩ = some (.int .i64 sz) ∧ W.cell? ⟨w1.heap.size, 3, none⟩ = some (.int .i64 n)) := hide (fun W hb => by
        have h1 := wr_lt HBX.out hb hSl
        exact ⟨(blk_cell h1 2).trans rfl, (blk_cell h1 3).trans rfl⟩)
      have HROW : Hid (∀ W, Below wS.heap.size wS W → ∀ j, j < m → ∃ (ad : Addr) (r : ARow), A0 = some ad ∧ W.cell? (ad.add j) = some (.slice r.A r.n r.c) ∧ Rd W w.heap.size 1 r.A r.n (u8s r.bs)) := hide (fun W hb j hj => by
        have h1 := HRS.out.below (hb.mono HBS.out.size)
        obtain ⟨ad, r, e1, e2, e3⟩ := h1.cell hj
        exact ⟨ad, r, e1, e3, (h1.inner r (List.mem_of_getElem? e2)).1⟩)
      clear hq hb2 hSl HBX HRS HH
      generalize w1.heap.size = xb at *
      go_wp2_with fail
      go_loopw [12, 13] (fun u q wr => ∃ (k : Nat) (A : Option Addr) (c : Nat) (L : List QR) (gs : List QR), k ≤ m ∧ q = .int .i64 k ∧ gs.length ≤ k ∧ gs.length ≤ n ∧ AQ wr wS.heap.size b false sz n A c L u gs (gs.map QR.bs) ∧ Below wS.heap.size wS wr) (fun _ q _ => m - (intOf q).toNat)
      case atStart => exact ⟨0, _, _, _, _, Nat.zero_le _, rfl, Nat.le_refl _, Nat.zero_le _, HQ0.out, HB2.out⟩
      case round =>
        obtain ⟨k, A, c, L, gs, hk, rfl, hgk, hgn, hAQ, hbw⟩ := hrel
        have hlen : L.length = gs.length := by have := congrArg List.length hAQ.same; simpa using this
        obtain ⟨va, vc, rfl, hrdv⟩ := hAQ.cut.slice
        obtain ⟨ql, hql⟩ : ∃ ql, gs.length = ql := ⟨_, rfl⟩
        rw [hql] at hgk hgn hlen hrdv hAQ ⊢
        have HQL := hide hql
        have HLN := hide hlen
        have HGK := hide hgk
        have HAQ := hide hAQ
        clear hql hlen hgk
        have HBW := hide hbw
        by_cases hlt : k < m
        · obtain ⟨x2, x3⟩ := HBOX.out wr hbw
          have k0 : (0 : Int) ≤ (k : Int) := by omega
          have k1 : (k : Int) < (m : Int) := by omega
          have k2 : (k : Int) ≤ 100 := by have := HM.out; omega
          have hz := fun W => zeros_made Try.underlying22 sz (by have := HS.out; omega) W
          have hz1 := hz wr
          obtain ⟨ad, r, hA0, hc0, hrd0⟩ := HROW.out (wr.alloc (.cells (u8s (List.replicate sz 0)).toArray 5)) (hbw.trans ((below1 _ _).mono hbw.size)) k hlt
          subst hA0
          have hrow0 : Hid ((wr.alloc (.cells (u8s (List.replicate sz 0)).toArray 5)).ownsRow 0 5 1 (.slice (some ⟨wr.heap.size, 0, none⟩) sz sz) sz (u8s (List.replicate sz 0))) := hide ⟨by simp [u8s], .inr ⟨wr.heap.size, sz, _, rfl, Nat.zero_le _, World.alloc_heap_new _ _, Nat.le_refl _, by have := HS.out; unfold maxLen; omega, by simp [u8s], by simp [u8s]⟩⟩
          have HRD0 := hide hrd0
          have HB5 := hide (below1 wr (.cells (u8s (List.replicate sz 0)).toArray 5))
          clear hAQ hbw hrdv hz hrd0
          go_wp2_with (with_reducible refine stop_copy ?_)
          show Hid _
          refine start_here ?_
          refine wpList_copy_head (e := 5) (n := sz) (xs := u8s (List.replicate sz 0)) rfl (.tmp 53) (.tmp 57) 22 22 rfl Try.underlying22 u8size wr.heap.size sz hrow0.out sz rfl w.heap.size r.A r.n r.c rfl (u8s r.bs) HRD0.out (u8s_one r.bs) ?_
          intro w3 ho3 hg3 hz3
          have hb3 : Below wr.heap.size wr w3 := HB5.out.grown hg3 (Nat.le_of_lt (by simp)) (fun k e => by cases e; exact Nat.le_refl _)
          obtain ⟨d, hd⟩ : ∃ d, d = splice (List.replicate sz 0) 0 (r.bs.take sz) := ⟨_, rfl⟩
          have HO3 : Hid (w3.ownsRow 0 5 1 (QR.sl sz ⟨wr.heap.size, sz, d⟩) sz (u8s d)) := hide (by
            rw [hd, u8s_splice]
            have : u8s (r.bs.take sz) = (u8s r.bs).take sz := by simp [u8s, List.map_take]
            rw [this]
            exact ho3)
          have HB3 := hide hb3
          have HAQ3 := hide (HAQ.out.later hb3)
          have HW3 := hide (HBW.out.trans (hb3.mono HBW.out.size))
          obtain ⟨x2', x3'⟩ := HBOX.out w3 HW3.out
          have HNQ : Hid (¬ OfQ b A L wr.heap.size) := hide (fun hq => by have := HAQ.out.que.lt _ hq; omega)
          have HRD3 : Hid (Rd w3 w3.heap.size 1 (some ⟨wr.heap.size, 0, none⟩) sz (u8s d)) := hide (Rd.of_own HO3.out)
          clear ho3 hg3 hz3 hb3 hd x2 x3 hc0 hz1 HB5 hrow0 HRD0
          obtain ⟨i0, hi, hz0, hz1, hz2⟩ := info_parts slInfo
          by_cases hfull : ql = n
          · subst hfull
            have HF := hide (push_full (some ⟨wr.heap.size, 0, none⟩) sz HAQ3.out.que HLN.out)
            obtain ⟨v1, hrun1, hcut1, hvb1⟩ := HAQ3.out.cut.drop1 (t := 39) Try.underlying39 slSize (by have := HQL.out; have := HN.out; omega)
            have HC1 := hide hcut1
            have HV1 := hide hvb1
            clear hcut1 hvb1
            go_wp2_with (go_at_call 7; refine stop_here ?_)
            show Hid _
            refine start_here ?_
            refine HF.out.mono ?_
            rintro e w4 ⟨rfl, hb4⟩
            have hr1 := hrun1 w4
            have HB4 := hide hb4
            have HAQ4 := hide (HAQ3.out.later hb4)
            have HP := hide (push_over ⟨wr.heap.size, 0, none⟩ sz w4.heap.size d HAQ4.out.que HLN.out ((HRD3.out.below hb4).mono hb4.size) (Nat.le_refl _) (fun g hg e => HNQ.out (by rw [show wr.heap.size = g from e]; exact hg)))
            clear hb4 hrun1
            go_wp2_with (go_at_call 7; refine stop_here ?_)
            show Hid _
            refine start_here ?_
            refine HP.out.mono ?_
            rintro e w5 ⟨rfl, A', c', r', hbs, hq5, hk5, hsub5⟩
            obtain ⟨hc6, hnext⟩ := HAQ4.out.ready (k := 1) (o := .cells #[.slice (some ⟨wr.heap.size, 0, none⟩) sz sz] 22) (owns_kept_below HO3.out HB4.out) HBW.out.size HNQ.out hbs hq5 hk5 hsub5 (HC1.out.kept (F := fun _ => True) (Kept.of_below HB4.out) (fun _ _ => trivial)) HV1.out
            have HC6 := hide hc6
            have HNX := hide hnext
            clear hbs hq5 hk5 hsub5 hc6 hnext hr1
            go_wp2_with (at_builtin; refine stop_here ?_)
            show Hid _
            refine start_here ?_
            refine wpList_append_cut rfl _ _ _ rfl i0 _ 24 Try.underlying39 hi hz0 hz1 hz2 rfl HC6.out rfl ⟨w5.heap.size, 0, none⟩ 1 (QR.sl sz ⟨wr.heap.size, sz, d⟩) rfl ((blk_cell (World.alloc_heap_new w5 _) 0).trans rfl) rfl (by rw [List.length_drop]; have := HQL.out; have := HN.out; unfold maxLen; omega) (by rw [List.length_drop]; have := HQL.out; have := HN.out; omega) ?_
            intro v2 w6 hg6
            obtain ⟨hA6, hB6⟩ := HNX.out v2 w6 hg6
            have HA6 := hide hA6
            have HB6 := hide ((HW3.out.trans (HB4.out.mono HW3.out.size)).trans hB6)
            clear hg6 hA6 hB6
            go_wp2_with fail
            go_roundw
            case rel => exact ⟨k + 1, A', c', L.drop 1 ++ [r'], gs.drop 1 ++ [⟨wr.heap.size, sz, d⟩], by omega, by go_num, by rw [List.length_append, List.length_drop]; have := HQL.out; have := HGK.out; have := HN.out; simp; omega, by rw [List.length_append, List.length_drop]; have := HQL.out; have := HN.out; simp; omega, HA6.out, HB6.out⟩
            case measure => simp [intOf]; omega
          · have HLT : Hid (L.length < n) := hide (by have := HLN.out; omega)
            have d1 : ((ql : Int) == (n : Int)) = false := by simp; omega
            have d2 : (ql == n) = false := by simpa using hfull
            have HP := hide (push_room ⟨wr.heap.size, 0, none⟩ sz w3.heap.size d 2 HAQ3.out.que HLT.out HRD3.out (Nat.le_refl _) (.inr rfl))
            go_wp2_with (go_at_call 7; refine stop_here ?_)
            show Hid _
            refine start_here ?_
            refine HP.out.mono ?_
            rintro e w5 ⟨rfl, A', c', r', hbs, hq5, hk5, hsub5⟩
            obtain ⟨hc6, hnext⟩ := HAQ3.out.ready (k := 0) (o := .cells #[.slice (some ⟨wr.heap.size, 0, none⟩) sz sz] 22) HO3.out HBW.out.size HNQ.out hbs hq5 hk5 hsub5 HAQ3.out.cut rfl
            have HC6 := hide hc6
            have HNX := hide hnext
            clear hbs hq5 hk5 hsub5 hc6 hnext
            go_wp2_with (at_builtin; refine stop_here ?_)
            show Hid _
            refine start_here ?_
            refine wpList_append_cut rfl _ _ _ rfl i0 _ 24 Try.underlying39 hi hz0 hz1 hz2 rfl HC6.out rfl ⟨w5.heap.size, 0, none⟩ 1 (QR.sl sz ⟨wr.heap.size, sz, d⟩) rfl ((blk_cell (World.alloc_heap_new w5 _) 0).trans rfl) rfl (by rw [List.length_drop]; have := HQL.out; have := HN.out; unfold maxLen; omega) (by rw [List.length_drop]; have := HQL.out; have := HN.out; omega) ?_
            intro v2 w6 hg6
            obtain ⟨hA6, hB6⟩ := HNX.out v2 w6 hg6
            have HA6 := hide hA6
            have HB6 := hide (HW3.out.trans hB6)
            clear hg6 hA6 hB6
            go_wp2_with fail
            go_roundw
            case rel => exact ⟨k + 1, A', c', L.drop 0 ++ [r'], gs.drop 0 ++ [⟨wr.heap.size, sz, d⟩], by omega, by go_num, by rw [List.length_append, List.length_drop]; have := HQL.out; have := HGK.out; have := HN.out; simp; omega, by rw [List.length_append, List.length_drop]; have := HQL.out; have := HN.out; simp; omega, HA6.out, HB6.out⟩
            case measure => simp [intOf]; omega
        · obtain rfl : k = m := by omega
          have q3 : (ql : Int) ≤ 110 := by have := HN.out; omega
          have q4 : (0 : Int) ≤ (ql : Int) := by omega
          have HL0 : Hid (AQ wr wS.heap.size b false sz n A c L (.slice va ql vc) gs (restI false gs 0)) := hide (by rw [restI_zero]; exact HAQ.out)
          clear hAQ hbw hrdv hlt hk
          go_wp2_with fail
          go_loopw [15] (fun q wq => ∃ (i : Nat) (L2 : List QR), i ≤ ql ∧ q = .int .i64 i ∧ AQ wq wS.heap.size b false sz n A c L2 (.slice va ql vc) gs (restI false gs i) ∧ Below wS.heap.size wS wq) (fun q _ => ql - (intOf q).toNat)
          case atStart => exact ⟨0, L, Nat.zero_le _, rfl, HL0.out, HBW.out⟩
          case round =>
            obtain ⟨i, L2, hi, rfl, hA2, hb2⟩ := hrel
            have HA2 := hide hA2
            have HW2 := hide hb2
            clear hA2 hb2 HL0 HAQ
            by_cases hil : i < ql
            · obtain ⟨hlen2, r, s, hr, hs, hbs, her⟩ := rest_at (st := false) (i := i) (L := L2) (gs := gs) (by have := HQL.out; omega) HA2.out.same
              rw [HQL.out] at hlen2 hs
              obtain ⟨j, hj⟩ : ∃ j : Nat, (ql : Int) - 1 - (i : Int) = (j : Int) := ⟨ql - 1 - i, by omega⟩
              have hmemr := List.mem_of_getElem? hr
              have hmems := List.mem_of_getElem? hs
              have HG : Hid (∀ W, AQ W wS.heap.size b false sz n A c L2 (.slice va ql vc) gs (restI false gs i) → ∃ (ad : Addr) (si sj : QR), va = some ad ∧ gs[i]? = some si ∧ gs[j]? = some sj ∧ W.cell? (ad.add i) = some (.slice (some ⟨si.g, 0, none⟩) sz si.c) ∧ W.cell? (ad.add j) = some (.slice (some ⟨sj.g, 0, none⟩) sz sj.c)) := hide (fun W hA => by
                obtain ⟨va', vc', e1, hrd⟩ := hA.cut.slice
                injection e1 with e1 e2 e3
                subst e1
                obtain ⟨ad, e4, _, hc⟩ := hrd.2 (by have := HQL.out; omega)
                have g1 : gs[i]? = some (gs[i]'(by have := HQL.out; omega)) := List.getElem?_eq_getElem _
                have g2 : gs[j]? = some (gs[j]'(by have := HQL.out; omega)) := List.getElem?_eq_getElem _
                exact ⟨ad, _, _, e4, g1, g2, hc i _ (by rw [List.getElem?_map, g1]; rfl), hc j _ (by rw [List.getElem?_map, g2]; rfl)⟩)
              obtain ⟨ad, si, sj, rfl, hsi, hsj, ci, cj⟩ := HG.out _ HA2.out
              have hww : si = s := by
                have e : wantI false ql i = i := rfl
                rw [e, hsi] at hs
                injection hs
              have i0 : (0 : Int) ≤ (i : Int) := by omega
              have i1 : (i : Int) < (ql : Int) := by omega
              have i2 : (i : Int) ≤ 110 := by omega
              have j0 : (0 : Int) ≤ (j : Int) := by omega
              have j1 : (j : Int) < (ql : Int) := by omega
              have HPK := hide (peek_some HA2.out.que (by omega))
              have HR := hide hr
              have HE := hide her
              have HL2 := hide hlen2
              have HJ := hide hj
              have HMR := hide hmemr
              have HMS := hide hmems
              have HBS := hide hbs
              clear hr hs hbs her hlen2 hmemr hmems hsi hsj HG
              subst hww
              go_wp2_with (go_at_call 6; refine stop_here ?_)
              show Hid _
              refine start_here ?_
              refine HPK.out.mono ?_
              rintro e w3 ⟨r', pg, pc, hr', rfl, hpo, hpg, hb3⟩
              obtain rfl : r = r' := by have := HR.out; rw [hr'] at this; injection this with this; exact this.symm
              have HA3 := hide (HA2.out.later hb3)
              have HB3 := hide hb3
              have HPO := hide hpo
              have HPG := hide hpg
              have HPP := hide (pop_some HA3.out.que (by have := HL2.out; omega))
              clear hr' hpo hpg hb3 ci cj HPK
              go_wp2_with (go_at_call 5; refine stop_here ?_)
              show Hid _
              refine start_here ?_
              refine HPP.out.mono ?_
              rintro e w4 ⟨r', hr', rfl, hrem⟩
              obtain rfl : r = r' := by have := HR.out; rw [hr'] at this; injection this with this; exact this.symm
              obtain ⟨hA4, hrows⟩ := HA3.out.popped hrem
              have hB4 : Below wS.heap.size w3 w4 := HA3.out.low hrem.2
              have HPO4 : Hid (w4.ownsRow 0 5 1 (.slice (some ⟨pg, 0, none⟩) sz pc) sz (u8s r.bs)) := hide (owns_kept HPO.out hrem.2 (fun g hg => by
                have e : pg = g := by simpa [Value.ownBlock] using hg
                subst e
                have hlq := HA2.out.que.lt
                have := HPG.out
                exact ⟨fun e => by have := hlq b (.inl rfl); omega, fun e => by have := hlq pg (.inr (.inl e)); omega⟩))
              have HPR4 := hide (hrows r HMR.out)
              have HW4 := hide ((HW2.out.trans (HB3.out.mono HW2.out.size)).trans hB4)
              have hrow4 := hA4.row _ HMS.out
              rw [← HBS.out] at hrow4
              have HS1 := hide (sameBytes_yes (some ⟨pg, 0, none⟩) (some ⟨si.g, 0, none⟩) sz pc si.c w4.heap.size r.bs w4 (Rd.of_own HPO4.out) (Rd.of_own hrow4) (Nat.le_refl _) (by have := HS.out; omega))
              have HS2 : Hid (∀ W, Below w4.heap.size w4 W → _) := hide (fun W hb => sameBytes_yes (some ⟨r.g, 0, none⟩) (some ⟨si.g, 0, none⟩) sz r.c si.c W.heap.size r.bs W (Rd.of_own (owns_kept_below HPR4.out hb)) (Rd.of_own (owns_kept_below hrow4 hb)) (Nat.le_refl _) (by have := HS.out; omega))
              have HA4 := hide hA4
              have HLN2 : Hid (((L2.eraseIdx (atI false L2.length)).length : Int) = (j : Int)) := hide (by
                rw [List.length_eraseIdx_of_lt (List.getElem?_eq_some_iff.1 HR.out).1]
                have := HL2.out
                have := HJ.out
                omega)
              clear hr' hrem hA4 hrows hrow4 hB4 HPP
              go_wp2_with (first
                | (go_at_call 12; ((with_reducible refine HS1.out.mono ?_)); rintro e w5 ⟨rfl, hb5⟩; have HB5 := hide hb5; have HS2b := hide (HS2.out w5 hb5); clear hb5)
                | (go_at_call 12; ((with_reducible refine HS2b.out.mono ?_)); rintro e w6 ⟨rfl, hb6⟩; have HB6 := hide (HB5.out.trans (hb6.mono HB5.out.size)); have HMN := hide (manyQ_yes (HA4.out.later HB6.out).que); rw [HLN2.out] at HMN; clear hb6)
                | (go_at_call 8; refine HMN.out.mono ?_; rintro e w' ⟨rfl, rfl⟩))
              go_roundw
              case rel => exact ⟨i + 1, L2.eraseIdx (atI false L2.length), by omega, by go_num, by rw [← HE.out]; exact HA4.out.later HB6.out, HW4.out.trans (HB6.out.mono HW4.out.size)⟩
              case measure => simp [intOf]; omega
            · obtain rfl : i = ql := by omega
              have h0 : L2.length = 0 := by
                have := congrArg List.length HA2.out.same
                rw [List.length_map, restI_len, HQL.out] at this
                omega
              have HPN := hide (pop_none HA2.out.que h0)
              have HL2 := hide h0
              clear h0
              go_wp2_with (first
                | (go_at_call 5; refine HPN.out.mono ?_; rintro e w3 ⟨rfl, hb3⟩; have HB3 := hide hb3; have HMN := hide (manyQ_yes (HA2.out.later hb3).que); rw [HL2.out] at HMN; clear hb3)
                | (go_at_call 8; refine HMN.out.mono ?_; rintro e w' ⟨rfl, rfl⟩))
              go_ret
              exact ⟨rfl, HBS.out.trans ((HW2.out.trans (HB3.out.mono HW2.out.size)).mono HBS.out.size)⟩
  · go_enter Try.func4, Try.ntmps4
    by_cases hm : (100 : Int) < (m : Int)
    · have hm2 : decide ((100 : Int) < (m : Int)) = true := decide_eq_true hm
      go_wp2_with (go_at_call 9; refine HA.out.mono ?_; rintro e w1 ⟨rfl, hb⟩; have HB1 := hide hb; clear hb)
      go_ret
      exact ⟨rfl, HB1.out⟩
    · have hm2 : decide ((100 : Int) < (m : Int)) = false := decide_eq_false hm
      have HM : Hid (m ≤ 100) := hide (by omega)
      clear hm
      go_wp2_with (first
        | (go_at_call 9; refine HA.out.mono ?_; rintro e w1 ⟨rfl, hb⟩; have HB1 := hide hb; clear hb)
        | (go_at_call 10; ((with_reducible refine (HP1.out _).mono ?_)); rintro e w' ⟨rfl, rfl⟩)
        | (go_at_call 10; ((with_reducible refine (HP2.out _).mono ?_)); rintro e w' ⟨rfl, rfl⟩)
        | (go_at_call 11; refine stop_here ?_))
      show Hid _
      refine start_here ?_
      obtain ⟨wS, hwS⟩ : ∃ wS, wS = w1.alloc (.cells #[.int .u8 6, .int .i64 0, .int .i64 sz, .int .i64 n] 43) := ⟨_, rfl⟩
      have hbx : wS.heap[w1.heap.size]? = some (.cells #[.int .u8 6, .int .i64 0, .int .i64 sz, .int .i64 n] 43 (0, 0)) := by rw [hwS]; exact World.alloc_heap_new _ _
      have hbS : Below w1.heap.size w1 wS := by rw [hwS]; exact below1 _ _
      rw [← hwS]
      have HBX := hide hbx
      have HBS := hide (HB1.out.trans (hbS.mono HB1.out.size))
      have HRS := hide ((HH.out.below HBS.out))
      clear hwS hbx hbS hsz hn b1 b2 b3 b4 HP1 HP2 HA HB1
      refine (new_yes true sz n wS (by have := HS.out; omega) (by have := HN.out; omega)).mono ?_
      rintro e w2 ⟨b, rfl, hq, hb2⟩
      have HQ0 : Hid (AQ w2 wS.heap.size b true sz n none 0 [] (.slice none 0 0) [] ([].map QR.bs)) := hide ⟨hq, CutRow.nil _ _, rfl, nofun, nofun, nofun, nofun, nofun⟩
      have HB2 := hide hb2
      have hSl : w1.heap.size < wS.heap.size := at_lt HBX.out
      have HSL := hide hSl
      have HBOX : Hid (∀ W, Below wS.heap.size wS W → W.cell? ⟨w1.heap.size, 2, none⟩ = some (.int .i64 sz) ∧ W.cell? ⟨w1.heap.size, 3, none⟩ = some (.int .i64 n)) := hide (fun W hb => by
        have h1 := wr_lt HBX.out hb hSl
        exact ⟨(blk_cell h1 2).trans rfl, (blk_cell h1 3).trans rfl⟩)
      have HROW : Hid (∀ W, Below wS.heap.size wS W → ∀ j, j < m → ∃ (ad : Addr) (r : ARow), A0 = some ad ∧ W.cell? (ad.add j) = some (.slice r.A r.n r.c) ∧ Rd W w.heap.size 1 r.A r.n (u8s r.bs)) := hide (fun W hb j hj => by
        have h1 := HRS.out.below (hb.mono HBS.out.size)
        obtain ⟨ad, r, e1, e2, e3⟩ := h1.cell hj
        exact ⟨ad, r, e1, e3, (h1.inner r (List.mem_of_getElem? e2)).1⟩)
      clear hq hb2 hSl HBX HRS HH
      generalize w1.heap.size = xb at *
      go_wp2_with fail
      go_loopw [12, 13] (fun u q wr => ∃ (k : Nat) (A : Option Addr) (c : Nat) (L : List QR) (gs : List QR), k ≤ m ∧ q = .int .i64 k ∧ gs.length ≤ k ∧ gs.length ≤ n ∧ AQ wr wS.heap.size b true sz n A c L u gs (gs.map QR.bs) ∧ Below wS.heap.size wS wr) (fun _ q _ => m - (intOf q).toNat)
      case atStart => exact ⟨0, _, _, _, _, Nat.zero_le _, rfl, Nat.le_refl _, Nat.zero_le _, HQ0.out, HB2.out⟩
      case round =>
        obtain ⟨k, A, c, L, gs, hk, rfl, hgk, hgn, hAQ, hbw⟩ := hrel
        have hlen : L.length = gs.length := by have := congrArg List.length hAQ.same; simpa using this
        obtain ⟨va, vc, rfl, hrdv⟩ := hAQ.cut.slice
        obtain ⟨ql, hql⟩ : ∃ ql, gs.length = ql := ⟨_, rfl⟩
        rw [hql] at hgk hgn hlen hrdv hAQ ⊢
        have HQL := hide hql
        have HLN := hide hlen
        have HGK := hide hgk
        have HAQ := hide hAQ
        clear hql hlen hgk
        have HBW := hide hbw
        by_cases hlt : k < m
        · obtain ⟨x2, x3⟩ := HBOX.out wr hbw
          have k0 : (0 : Int) ≤ (k : Int) := by omega
          have k1 : (k : Int) < (m : Int) := by omega
          have k2 : (k : Int) ≤ 100 := by have := HM.out; omega
          have hz := fun W => zeros_made Try.underlying22 sz (by have := HS.out; omega) W
          have hz1 := hz wr
          obtain ⟨ad, r, hA0, hc0, hrd0⟩ := HROW.out (wr.alloc (.cells (u8s (List.replicate sz 0)).toArray 5)) (hbw.trans ((below1 _ _).mono hbw.size)) k hlt
          subst hA0
          have hrow0 : Hid ((wr.alloc (.cells (u8s (List.replicate sz 0)).toArray 5)).ownsRow 0 5 1 (.slice (some ⟨wr.heap.size, 0, none⟩) sz sz) sz (u8s (List.replicate sz 0))) := hide ⟨by simp [u8s], .inr ⟨wr.heap.size, sz, _, rfl, Nat.zero_le _, World.alloc_heap_new _ _, Nat.le_refl _, by have := HS.out; unfold maxLen; omega, by simp [u8s], by simp [u8s]⟩⟩
          have HRD0 := hide hrd0
          have HB5 := hide (below1 wr (.cells (u8s (List.replicate sz 0)).toArray 5))
          clear hAQ hbw hrdv hz hrd0
          go_wp2_with (with_reducible refine stop_copy ?_)
          show Hid _
          refine start_here ?_
          refine wpList_copy_head (e := 5) (n := sz) (xs := u8s (List.replicate sz 0)) rfl (.tmp 53) (.tmp 57) 22 22 rfl Try.underlying22 u8size wr.heap.size sz hrow0.out sz rfl w.heap.size r.A r.n r.c rfl (u8s r.bs) HRD0.out (u8s_one r.bs) ?_
          intro w3 ho3 hg3 hz3
          have hb3 : Below wr.heap.size wr w3 := HB5.out.grown hg3 (Nat.le_of_lt (by simp)) (fun k e => by cases e; exact Nat.le_refl _)
          obtain ⟨d, hd⟩ : ∃ d, d = splice (List.replicate sz 0) 0 (r.bs.take sz) := ⟨_, rfl⟩
          have HO3 : Hid (w3.ownsRow 0 5 1 (QR.sl sz ⟨wr.heap.size, sz, d⟩) sz (u8s d)) := hide (by
            rw [hd, u8s_splice]
            have : u8s (r.bs.take sz) = (u8s r.bs).take sz := by simp [u8s, List.map_take]
            rw [this]
            exact ho3)
          have HB3 := hide hb3
          have HAQ3 := hide (HAQ.out.later hb3)
          have HW3 := hide (HBW.out.trans (hb3.mono HBW.out.size))
          obtain ⟨x2', x3'⟩ := HBOX.out w3 HW3.out
          have HNQ : Hid (¬ OfQ b A L wr.heap.size) := hide (fun hq => by have := HAQ.out.que.lt _ hq; omega)
          have HRD3 : Hid (Rd w3 w3.heap.size 1 (some ⟨wr.heap.size, 0, none⟩) sz (u8s d)) := hide (Rd.of_own HO3.out)
          clear ho3 hg3 hz3 hb3 hd x2 x3 hc0 hz1 HB5 hrow0 HRD0
          obtain ⟨i0, hi, hz0, hz1, hz2⟩ := info_parts slInfo
          by_cases hfull : ql = n
          · subst hfull
            have HF := hide (push_full (some ⟨wr.heap.size, 0, none⟩) sz HAQ3.out.que HLN.out)
            obtain ⟨v1, hrun1, hcut1, hvb1⟩ := HAQ3.out.cut.drop1 (t := 39) Try.underlying39 slSize (by have := HQL.out; have := HN.out; omega)
            have HC1 := hide hcut1
            have HV1 := hide hvb1
            clear hcut1 hvb1
            go_wp2_with (go_at_call 7; refine stop_here ?_)
            show Hid _
            refine start_here ?_
            refine HF.out.mono ?_
            rintro e w4 ⟨rfl, hb4⟩
            have hr1 := hrun1 w4
            have HB4 := hide hb4
            have HAQ4 := hide (HAQ3.out.later hb4)
            have HP := hide (push_over ⟨wr.heap.size, 0, none⟩ sz w4.heap.size d HAQ4.out.que HLN.out ((HRD3.out.below hb4).mono hb4.size) (Nat.le_refl _) (fun g hg e => HNQ.out (by rw [show wr.heap.size = g from e]; exact hg)))
            clear hb4 hrun1
            go_wp2_with (go_at_call 7; refine stop_here ?_)
            show Hid _
            refine start_here ?_
            refine HP.out.mono ?_
            rintro e w5 ⟨rfl, A', c', r', hbs, hq5, hk5, hsub5⟩
            obtain ⟨hc6, hnext⟩ := HAQ4.out.ready (k := 1) (o := .cells #[.slice (some ⟨wr.heap.size, 0, none⟩) sz sz] 22) (owns_kept_below HO3.out HB4.out) HBW.out.size HNQ.out hbs hq5 hk5 hsub5 (HC1.out.kept (F := fun _ => True) (Kept.of_below HB4.out) (fun _ _ => trivial)) HV1.out
            have HC6 := hide hc6
            have HNX := hide hnext
            clear hbs hq5 hk5 hsub5 hc6 hnext hr1
            go_wp2_with (at_builtin; refine stop_here ?_)
            show Hid _
            refine start_here ?_
            refine wpList_append_cut rfl _ _ _ rfl i0 _ 24 Try.underlying39 hi hz0 hz1 hz2 rfl HC6.out rfl ⟨w5.heap.size, 0, none⟩ 1 (QR.sl sz ⟨wr.heap.size, sz, d⟩) rfl ((blk_cell (World.alloc_heap_new w5 _) 0).trans rfl) rfl (by rw [List.length_drop]; have := HQL.out; have := HN.out; unfold maxLen; omega) (by rw [List.length_drop]; have := HQL.out; have := HN.out; omega) ?_
            intro v2 w6 hg6
            obtain ⟨hA6, hB6⟩ := HNX.out v2 w6 hg6
            have HA6 := hide hA6
            have HB6 := hide ((HW3.out.trans (HB4.out.mono HW3.out.size)).trans hB6)
            clear hg6 hA6 hB6
            go_wp2_with fail
            go_roundw
            case rel => exact ⟨k + 1, A', c', L.drop 1 ++ [r'], gs.drop 1 ++ [⟨wr.heap.size, sz, d⟩], by omega, by go_num, by rw [List.length_append, List.length_drop]; have := HQL.out; have := HGK.out; have := HN.out; simp; omega, by rw [List.length_append, List.length_drop]; have := HQL.out; have := HN.out; simp; omega, HA6.out, HB6.out⟩
            case measure => simp [intOf]; omega
          · have HLT : Hid (L.length < n) := hide (by have := HLN.out; omega)
            have d1 : ((ql : Int) == (n : Int)) = false := by simp; omega
            have d2 : (ql == n) = false := by simpa using hfull
            have HP := hide (push_room ⟨wr.heap.size, 0, none⟩ sz w3.heap.size d 2 HAQ3.out.que HLT.out HRD3.out (Nat.le_refl _) (.inr rfl))
            go_wp2_with (go_at_call 7; refine stop_here ?_)
            show Hid _
            refine start_here ?_
            refine HP.out.mono ?_
            rintro e w5 ⟨rfl, A', c', r', hbs, hq5, hk5, hsub5⟩
            obtain ⟨hc6, hnext⟩ := HAQ3.out.ready (k := 0) (o := .cells #[.slice (some ⟨wr.heap.size, 0, none⟩) sz sz] 22) HO3.out HBW.out.size HNQ.out hbs hq5 hk5 hsub5 HAQ3.out.cut rfl
            have HC6 := hide hc6
            have HNX := hide hnext
            clear hbs hq5 hk5 hsub5 hc6 hnext
            go_wp2_with (at_builtin; refine stop_here ?_)
            show Hid _
            refine start_here ?_
            refine wpList_append_cut rfl _ _ _ rfl i0 _ 24 Try.underlying39 hi hz0 hz1 hz2 rfl HC6.out rfl ⟨w5.heap.size, 0, none⟩ 1 (QR.sl sz ⟨wr.heap.size, sz, d⟩) rfl ((blk_cell (World.alloc_heap_new w5 _) 0).trans rfl) rfl (by rw [List.length_drop]; have := HQL.out; have := HN.out; unfold maxLen; omega) (by rw [List.length_drop]; have := HQL.out; have := HN.out; omega) ?_
            intro v2 w6 hg6
            obtain ⟨hA6, hB6⟩ := HNX.out v2 w6 hg6
            have HA6 := hide hA6
            have HB6 := hide (HW3.out.trans hB6)
            clear hg6 hA6 hB6
            go_wp2_with fail
            go_roundw
            case rel => exact ⟨k + 1, A', c', L.drop 0 ++ [r'], gs.drop 0 ++ [⟨wr.heap.size, sz, d⟩], by omega, by go_num, by rw [List.length_append, List.length_drop]; have := HQL.out; have := HGK.out; have := HN.out; simp; omega, by rw [List.length_append, List.length_drop]; have := HQL.out; have := HN.out; simp; omega, HA6.out, HB6.out⟩
            case measure => simp [intOf]; omega
        · obtain rfl : k = m := by omega
          have q3 : (ql : Int) ≤ 110 := by have := HN.out; omega
          have q4 : (0 : Int) ≤ (ql : Int) := by omega
          have HL0 : Hid (AQ wr wS.heap.size b true sz n A c L (.slice va ql vc) gs (restI true gs 0)) := hide (by rw [restI_zero]; exact HAQ.out)
          clear hAQ hbw hrdv hlt hk
          go_wp2_with fail
          go_loopw [15] (fun q wq => ∃ (i : Nat) (L2 : List QR), i ≤ ql ∧ q = .int .i64 i ∧ AQ wq wS.heap.size b true sz n A c L2 (.slice va ql vc) gs (restI true gs i) ∧ Below wS.heap.size wS wq) (fun q _ => ql - (intOf q).toNat)
          case atStart => exact ⟨0, L, Nat.zero_le _, rfl, HL0.out, HBW.out⟩
          case round =>
            obtain ⟨i, L2, hi, rfl, hA2, hb2⟩ := hrel
            have HA2 := hide hA2
            have HW2 := hide hb2
            clear hA2 hb2 HL0 HAQ
            by_cases hil : i < ql
            · obtain ⟨hlen2, r, s, hr, hs, hbs, her⟩ := rest_at (st := true) (i := i) (L := L2) (gs := gs) (by have := HQL.out; omega) HA2.out.same
              rw [HQL.out] at hlen2 hs
              obtain ⟨j, hj⟩ : ∃ j : Nat, (ql : Int) - 1 - (i : Int) = (j : Int) := ⟨ql - 1 - i, by omega⟩
              have hmemr := List.mem_of_getElem? hr
              have hmems := List.mem_of_getElem? hs
              have HG : Hid (∀ W, AQ W wS.heap.size b true sz n A c L2 (.slice va ql vc) gs (restI true gs i) → ∃ (ad : Addr) (si sj : QR), va = some ad ∧ gs[i]? = some si ∧ gs[j]? = some sj ∧ W.cell? (ad.add i) = some (.slice (some ⟨si.g, 0, none⟩) sz si.c) ∧ W.cell? (ad.add j) = some (.slice (some ⟨sj.g, 0, none⟩) sz sj.c)) := hide (fun W hA => by
                obtain ⟨va', vc', e1, hrd⟩ := hA.cut.slice
                injection e1 with e1 e2 e3
                subst e1
                obtain ⟨ad, e4, _, hc⟩ := hrd.2 (by have := HQL.out; omega)
                have g1 : gs[i]? = some (gs[i]'(by have := HQL.out; omega)) := List.getElem?_eq_getElem _
                have g2 : gs[j]? = some (gs[j]'(by have := HQL.out; omega)) := List.getElem?_eq_getElem _
                exact ⟨ad, _, _, e4, g1, g2, hc i _ (by rw [List.getElem?_map, g1]; rfl), hc j _ (by rw [List.getElem?_map, g2]; rfl)⟩)
              obtain ⟨ad, si, sj, rfl, hsi, hsj, ci, cj⟩ := HG.out _ HA2.out
              have hww : sj = s := by
                have e : wantI true ql i = j := (show ql - 1 - i = j by omega)
                rw [e, hsj] at hs
                injection hs
              have i0 : (0 : Int) ≤ (i : Int) := by omega
              have i1 : (i : Int) < (ql : Int) := by omega
              have i2 : (i : Int) ≤ 110 := by omega
              have j0 : (0 : Int) ≤ (j : Int) := by omega
              have j1 : (j : Int) < (ql : Int) := by omega
              have HPK := hide (peek_some HA2.out.que (by omega))
              have HR := hide hr
              have HE := hide her
              have HL2 := hide hlen2
              have HJ := hide hj
              have HMR := hide hmemr
              have HMS := hide hmems
              have HBS := hide hbs
              clear hr hs hbs her hlen2 hmemr hmems hsi hsj HG
              subst hww
              go_wp2_with (go_at_call 6; refine stop_here ?_)
              show Hid _
              refine start_here ?_
              refine HPK.out.mono ?_
              rintro e w3 ⟨r', pg, pc, hr', rfl, hpo, hpg, hb3⟩
              obtain rfl : r = r' := by have := HR.out; rw [hr'] at this; injection this with this; exact this.symm
              have HA3 := hide (HA2.out.later hb3)
              have HB3 := hide hb3
              have HPO := hide hpo
              have HPG := hide hpg
              have HPP := hide (pop_some HA3.out.que (by have := HL2.out; omega))
              clear hr' hpo hpg hb3 ci cj HPK
              go_wp2_with (go_at_call 5; refine stop_here ?_)
              show Hid _
              refine start_here ?_
              refine HPP.out.mono ?_
              rintro e w4 ⟨r', hr', rfl, hrem⟩
              obtain rfl : r = r' := by have := HR.out; rw [hr'] at this; injection this with this; exact this.symm
              obtain ⟨hA4, hrows⟩ := HA3.out.popped hrem
              have hB4 : Below wS.heap.size w3 w4 := HA3.out.low hrem.2
              have HPO4 : Hid (w4.ownsRow 0 5 1 (.slice (some ⟨pg, 0, none⟩) sz pc) sz (u8s r.bs)) := hide (owns_kept HPO.out hrem.2 (fun g hg => by
                have e : pg = g := by simpa [Value.ownBlock] using hg
                subst e
                have hlq := HA2.out.que.lt
                have := HPG.out
                exact ⟨fun e => by have := hlq b (.inl rfl); omega, fun e => by have := hlq pg (.inr (.inl e)); omega⟩))
              have HPR4 := hide (hrows r HMR.out)
              have HW4 := hide ((HW2.out.trans (HB3.out.mono HW2.out.size)).trans hB4)
              have hrow4 := hA4.row _ HMS.out
              rw [← HBS.out] at hrow4
              have HS1 := hide (sameBytes_yes (some ⟨pg, 0, none⟩) (some ⟨sj.g, 0, none⟩) sz pc sj.c w4.heap.size r.bs w4 (Rd.of_own HPO4.out) (Rd.of_own hrow4) (Nat.le_refl _) (by have := HS.out; omega))
              have HS2 : Hid (∀ W, Below w4.heap.size w4 W → _) := hide (fun W hb => sameBytes_yes (some ⟨r.g, 0, none⟩) (some ⟨sj.g, 0, none⟩) sz r.c sj.c W.heap.size r.bs W (Rd.of_own (owns_kept_below HPR4.out hb)) (Rd.of_own (owns_kept_below hrow4 hb)) (Nat.le_refl _) (by have := HS.out; omega))
              have HA4 := hide hA4
              have HLN2 : Hid (((L2.eraseIdx (atI true L2.length)).length : Int) = (j : Int)) := hide (by
                rw [List.length_eraseIdx_of_lt (List.getElem?_eq_some_iff.1 HR.out).1]
                have := HL2.out
                have := HJ.out
                omega)
              clear hr' hrem hA4 hrows hrow4 hB4 HPP
              go_wp2_with (first
                | (go_at_call 12; ((with_reducible refine HS1.out.mono ?_)); rintro e w5 ⟨rfl, hb5⟩; have HB5 := hide hb5; have HS2b := hide (HS2.out w5 hb5); clear hb5)
                | (go_at_call 12; ((with_reducible refine HS2b.out.mono ?_)); rintro e w6 ⟨rfl, hb6⟩; have HB6 := hide (HB5.out.trans (hb6.mono HB5.out.size)); have HMN := hide (manyQ_yes (HA4.out.later HB6.out).que); rw [HLN2.out] at HMN; clear hb6)
                | (go_at_call 8; refine HMN.out.mono ?_; rintro e w' ⟨rfl, rfl⟩))
              go_roundw
              case rel => exact ⟨i + 1, L2.eraseIdx (atI true L2.length), by omega, by go_num, by rw [← HE.out]; exact HA4.out.later HB6.out, HW4.out.trans (HB6.out.mono HW4.out.size)⟩
              case measure => simp [intOf]; omega
            · obtain rfl : i = ql := by omega
              have h0 : L2.length = 0 := by
                have := congrArg List.length HA2.out.same
                rw [List.length_map, restI_len, HQL.out] at this
                omega
              have HPN := hide (pop_none HA2.out.que h0)
              have HL2 := hide h0
              clear h0
              go_wp2_with (first
                | (go_at_call 5; refine HPN.out.mono ?_; rintro e w3 ⟨rfl, hb3⟩; have HB3 := hide hb3; have HMN := hide (manyQ_yes (HA2.out.later hb3).que); rw [HL2.out] at HMN; clear hb3)
                | (go_at_call 8; refine HMN.out.mono ?_; rintro e w' ⟨rfl, rfl⟩))
              go_ret
              exact ⟨rfl, HBS.out.trans ((HW2.out.trans (HB3.out.mono HW2.out.size)).mono HBS.out.size)⟩
end Go.Proofs.Ytflpifelamkagaa
