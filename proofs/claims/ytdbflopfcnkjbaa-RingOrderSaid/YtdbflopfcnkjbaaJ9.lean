/-
  Records are taken in the order in which they were put: RingOrder's walk.
-/
import Derived.Test.YtdbflopfcnkjbaaJ8
import Derived.Test.YtdbflopfcnkjbaaK2
namespace Go.Proofs.Ytdbflopfcnkjbaa
open Go.RowKit
set_option linter.unusedVariables false

set_option maxRecDepth 100000 in
set_option maxHeartbeats 8000000 in
theorem law_ringOrder (room : Int) (A0 : Option Addr) (m cc : Nat) (ds : List ADo) (w : World) (hv : -9223372036854775808 ≤ room ∧ room ≤ 9223372036854775807) (h : ADos w w.heap.size A0 m ds) (hm : m ≤ 140737488351232) :
    Calls Try.prog 5 #[.int .i64 room, .slice A0 m cc] w fun e w' => e = .returned (.bool true) ∧ Below w.heap.size w w' := by
  have HA := hide (awake_any w)
  have HH := hide h
  have hp1 := pickN_lt room 1000 (by omega)
  have HP1 : Hid (∀ W, Calls Try.prog 21 #[.int .i64 room, .int .i64 1000] W fun e w' => e = .returned (.int .i64 (pickN room 1000 : Nat)) ∧ W = w') := hide (fun W => pick_is room 1000 W (by omega) (by omega) hv.1 hv.2)
  generalize pickN room 1000 = p1 at *
  obtain ⟨sz, hsz⟩ : ∃ sz : Nat, (16 : Int) + (p1 : Int) = (sz : Int) := ⟨16 + p1, by omega⟩
  have HS : Hid (16 ≤ sz ∧ sz ≤ 1016) := hide (by omega)
  have b1 : (p1 : Int) ≤ 1000 := by omega
  have b3 : (0 : Int) ≤ (p1 : Int) := by omega
  clear h hv hp1
  go_enter Try.func5, Try.ntmps5
  go_wp2_with (go_at_call 7; refine stop_here ?_)
  show Hid _
  refine start_here ?_
  refine HA.out.mono ?_
  rintro e w1 ⟨rfl, hb⟩
  have HB1 := hide hb
  have HH1 := hide (HH.out.below hb)
  have HG := hide (great_any A0 m cc w.heap.size ds w1 HH1.out hm)
  clear hb HA HH
  go_wp2_with (go_at_call 6; refine stop_here ?_)
  show Hid _
  refine start_here ?_
  refine HG.out.mono ?_
  rintro e w' ⟨g, rfl, rfl, hg⟩
  cases g
  case true =>
    go_wp2
    go_ret
    exact ⟨rfl, HB1.out⟩
  case false =>
    have HM := hide (hg rfl)
    clear hg HG
    go_wp2_with (first
      | (go_at_call 21; refine (HP1.out _).mono ?_; rintro e w' ⟨rfl, rfl⟩)
      | (go_at_call 8; refine stop_here ?_))
    show Hid _
    refine start_here ?_
    clear hsz b1 b3 HP1
    refine (new_yes sz w1 (by have := HS.out; omega)).mono ?_
    rintro e w2 ⟨b, bx, rfl, hq, hb2⟩
    have HQ0 : Hid (AO w2 w1.heap.size b bx sz [] (.slice none 0 0) []) := hide ⟨hq, CutRow.nil _ _, nofun, nofun, nofun⟩
    have HB2 := hide hb2
    have HROW : Hid (∀ W, Below w1.heap.size w1 W → ∀ j, j < m → ∃ (ad : Addr) (d : ADo), A0 = some ad ∧ ds[j]? = some d ∧ W.cell? (ad.add (j * 2)) = some (.bool d.take) ∧ W.cell? ⟨(ad.add (j * 2)).block, (ad.add (j * 2)).off + 1, none⟩ = some (.slice d.b.A d.b.n d.b.c) ∧ InB W w.heap.size d.b ∧ d.b.n ≤ 30100) := hide (fun W hb j hj => by
      have h1 := HH1.out.below (hb.mono HB1.out.size)
      obtain ⟨ad, d, e1, e2, _, e3⟩ := h1.cell hj
      have c0 := e3 0 _ rfl
      have c1 := e3 1 _ rfl
      rw [add_parts ad _ 1 (by decide)] at c1
      exact ⟨ad, d, e1, e2, c0, c1, (h1.inner d (List.mem_of_getElem? e2)).b, HM.out.2 d (List.mem_of_getElem? e2)⟩)
    clear hq hb2 HH1
    go_wp2_with fail
    go_loopw [8, 9, 10] (fun u lv q wr => ∃ (k : Nat) (L : List RK) (gs : List ARow), k ≤ m ∧ q = .int .i64 k ∧ lv = .int .i64 (sz - sumR L : Nat) ∧ gs.length ≤ k ∧ AO wr w1.heap.size b bx sz L u gs ∧ L.map RK.bs = gs.map ARow.bs ∧ Below w1.heap.size w1 wr) (fun _ _ q _ => m - (intOf q).toNat)
    case atStart => exact ⟨0, [], [], Nat.zero_le _, rfl, by simp [sumR], Nat.le_refl _, HQ0.out, rfl, HB2.out⟩
    case round =>
      obtain ⟨k, L, gs, hk, rfl, rfl, hgk, hAO, hsame, hbw⟩ := hrel
      obtain ⟨va, vc, hva, hrdv⟩ := hAO.cut.slice
      subst hva
      have HAO := hide hAO
      have HRDV := hide hrdv
      clear hrdv
      have HSM := hide hsame
      have HBW := hide hbw
      have HGK := hide hgk
      have hm300 := HM.out.1
      by_cases hlt : k < m
      · obtain ⟨ad, d, rfl, hd, x0, x1, hin, hn⟩ := HROW.out wr hbw k hlt
        have k0 : (0 : Int) ≤ (k : Int) := by omega
        have k1 : (k : Int) < (m : Int) := by omega
        have HIN := hide hin
        have HD := hide hd
        have hbig := hAO.rng.big
        have hszs := HS.out
        cases htk : d.take
        · rw [htk] at x0
          have hl := hin.len
          clear hAO hsame hbw hgk hd hin htk
          by_cases hroom : 8 + d.b.n + sumR L ≤ sz
          · have d1 : decide ((d.b.n : Int) + 8 ≤ ((sz - sumR L : Nat) : Int)) = true := decide_eq_true (by omega)
            have d2 : decide (d.b.n + 8 ≤ sz - sumR L) = true := decide_eq_true (by omega)
            have HP := hide (put_room d.b.A d.b.n d.b.c w.heap.size d.b.bs HAO.out.rng HIN.out.rd (Nat.le_trans HB1.out.size HBW.out.size) HIN.out.nil hroom)
            obtain ⟨i0, hi, hz0, hz1, hz2⟩ := info_parts slInfo
            go_wp2_with (go_at_call 14; refine stop_here ?_)
            show Hid _
            refine start_here ?_
            refine HP.out.mono ?_
            rintro e w3 ⟨rfl, r, hrb, hr3, hk3, hs3⟩
            have hB3 := HAO.out.rng.low2 hk3
            have HA3 := hide (HAO.out.turn hr3 hk3 (off_or b bx L) hs3 hB3)
            have HRB := hide hrb
            have hW3 := HBW.out.trans hB3
            obtain ⟨ad', d', e1, e2, y0, y1, hin3, _⟩ := HROW.out w3 hW3 k hlt
            obtain ⟨ad4, d4, e3, e4, z0, z1, _, _⟩ := HROW.out (w3.alloc (.cells #[.slice d.b.A d.b.n d.b.c] 36)) (hW3.trans ((below1 _ _).mono hW3.size)) k hlt
            rw [HD.out] at e2 e4
            cases e2
            cases e4
            cases e1
            cases e3
            have HW3 := hide hW3
            have HIN3 := hide (hin3.mono HB1.out.size)
            have HCUT := hide (HA3.out.cut.kept (F := fun _ => True) (Kept.of_below (below1 w3 (.cells #[.slice d.b.A d.b.n d.b.c] 36))) (fun _ _ => trivial))
            have hsum : sumR (L ++ [r]) = sumR L + (8 + d.b.n) := by rw [sumR_append]; simp [sumR, HRB.out, hl]
            have hleft : ((sz - sumR L : Nat) : Int) - 8 - (d.b.n : Int) = ((sz - sumR (L ++ [r]) : Nat) : Int) := by rw [hsum]; omega
            have s1 : ((sz - sumR L : Nat) : Int) ≤ 1016 := by omega
            have s2 : (8 : Int) + (d.b.n : Int) ≤ ((sz - sumR L : Nat) : Int) := by omega
            have HLEFT := hide hleft
            have hlen := sum_same HSM.out
            have HSL := hide (show gs.length ≤ 300 by have := HGK.out; omega)
            have hsame3 : (L ++ [r]).map RK.bs = (gs ++ [d.b]).map ARow.bs := by rw [List.map_append, List.map_append, HSM.out, List.map_singleton, List.map_singleton, HRB.out]
            have HS3 := hide hsame3
            have HGL : Hid ((gs ++ [d.b]).length ≤ k + 1) := hide (by rw [List.length_append]; have := HGK.out; simp; omega)
            have hgg : ∀ v', (Value.slice none 0 0 = v') → True := fun _ _ => trivial
            clear hrb hr3 hk3 hs3 hin3 hB3 hW3 hsum hleft hlen hsame3 HP hgg hbig
            generalize hsv : sz - sumR L = s at *
            clear hsv
            go_wp2_with (at_builtin; refine stop_here ?_)
            show Hid _
            refine start_here ?_
            refine wpList_append_cut rfl _ _ _ rfl i0 _ 24 Try.underlying35 hi hz0 hz1 hz2 rfl HCUT.out rfl ⟨w3.heap.size, 0, none⟩ 1 (ARow.sl d.b) rfl ((blk_cell (World.alloc_heap_new w3 _) 0).trans rfl) rfl (by have := HSL.out; unfold maxLen; omega) (by have := HSL.out; omega) ?_
            intro v2 w6 hg6
            obtain ⟨hA6, hB6⟩ := HA3.out.beside HIN3.out hg6
            have HA6 := hide hA6
            have hW6 := HW3.out.trans hB6
            obtain ⟨ad6, d6, e5, e6, t0, t1, _, _⟩ := HROW.out w6 hW6 k hlt
            rw [HD.out] at e6
            cases e6
            cases e5
            have HB6 := hide hW6
            clear hg6 hA6 hB6 hW6
            go_wp2_with fail
            go_roundw
            case rel => exact ⟨k + 1, L ++ [r], gs ++ [d.b], by omega, by go_num, by rw [← HLEFT.out], HGL.out, HA6.out, HS3.out, HB6.out⟩
            case measure => simp [intOf]; omega
          · have d1 : decide ((d.b.n : Int) + 8 ≤ ((sz - sumR L : Nat) : Int)) = false := decide_eq_false (by omega)
            have d2 : decide (d.b.n + 8 ≤ sz - sumR L) = false := decide_eq_false (by omega)
            have HP := hide (put_full d.b.A d.b.n d.b.c HAO.out.rng (by omega) (by omega))
            go_wp2_with (go_at_call 14; refine stop_here ?_)
            show Hid _
            refine start_here ?_
            refine HP.out.mono ?_
            rintro e w3 ⟨rfl, hb3⟩
            have hW3 := HBW.out.trans (hb3.mono HBW.out.size)
            have HA3 := hide (HAO.out.later hb3)
            obtain ⟨ad', d', e1, e2, y0, y1, hin3, _⟩ := HROW.out w3 hW3 k hlt
            rw [HD.out] at e2
            cases e2
            cases e1
            have HW3 := hide hW3
            clear hb3 hW3 hin3 hbig HP
            generalize hsv : sz - sumR L = s at *
            go_wp2_with fail
            go_roundw
            case rel => exact ⟨k + 1, L, gs, by omega, by go_num, by rw [hsv], by have := HGK.out; omega, HA3.out, HSM.out, HW3.out⟩
            case measure => simp [intOf]; omega
        · rw [htk] at x0
          clear hsame hbw hgk hd hin htk x1
          cases gs with
          | nil =>
            obtain rfl : L = [] := by have := HSM.out; simpa using this
            have HP := hide (take_none HAO.out.rng)
            clear hAO hbig
            go_wp2_with (go_at_call 11; refine stop_here ?_)
            show Hid _
            refine start_here ?_
            refine HP.out.mono ?_
            rintro e w' ⟨rfl, rfl⟩
            go_wp2_with fail
            go_roundw
            case rel => exact ⟨k + 1, [], [], by omega, by go_num, rfl, Nat.zero_le _, HAO.out, rfl, HBW.out⟩
            case measure => simp [intOf]; omega
          | cons s gs =>
            obtain ⟨r, L, rfl, hrs, hsm⟩ := first_same HSM.out
            have HP := hide (take_some HAO.out.rng)
            have HRW := hide (HAO.out.rng.row r (by simp))
            have HNB := hide (HAO.out.rng.row_b (r := r) (by simp))
            have hsi := HAO.out.inn s (by simp)
            have hrn : r.bs.length = s.n := by rw [hrs]; exact hsi.len
            have hsum : sumR (r :: L) = 8 + s.n + sumR L := by simp [sumR, hrn]
            have hleft : ((sz - sumR (r :: L) : Nat) : Int) + 8 + (s.n : Int) = ((sz - sumR L : Nat) : Int) := by omega
            have HLEFT := hide hleft
            have s1 : ((sz - sumR (r :: L) : Nat) : Int) ≤ 1016 := by omega
            have s2 : ((sz - sumR (r :: L) : Nat) : Int) + 8 + (s.n : Int) ≤ 1016 := by omega
            have HRS := hide hrs
            have HRN := hide hrn
            have HS2 := hide hsm
            have hgl : gs.length + 1 ≤ k := by have := HGK.out; simpa using this
            have HGL := hide hgl
            clear hAO hbig hrs hsm hsum hleft hsi
            unfold RK.sl at HP
            rw [hrn] at HP
            clear hrn
            go_wp2_with (go_at_call 11; refine stop_here ?_)
            show Hid _
            refine start_here ?_
            refine HP.out.mono ?_
            rintro e w3 ⟨rfl, hr3, hk3⟩
            have hB3 := HAO.out.rng.low1 hk3
            have ha3 := HAO.out.turn hr3 hk3 (b_or b bx (r :: L)) (fun g hg => .inl hg.tail) hB3
            have hrd3 := Rd.of_own (owns_kept HRW.out hk3 (fun g hg e => by subst e; exact HNB.out hg))
            rw [HRN.out] at hrd3
            have hsd3 := ((ha3.inn s (by simp)).rd.mono ha3.rng.B_le)
            rw [← HRS.out] at hsd3
            have hs16 : s.n ≤ 16384 := by have := HAO.out.rng.rec_le (r := r) (by simp); have := HRN.out; omega
            obtain ⟨ad0, c0, hva2, y0⟩ := ha3.first
            injection hva2 with hva2 hvb hvc
            subst hva2
            subst hvc
            have HSB := hide (sameBytes_yes r.A s.A s.n r.c s.c w3.heap.size r.bs w3 hrd3 hsd3 (Nat.le_refl _) (by omega))
            have ha4 := ha3.tail
            have HA4 := hide ha4
            have HW3 := hide (HBW.out.trans hB3)
            clear hr3 hk3 hB3 ha3 hrd3 hsd3 ha4 hvb
            generalize hsv : sz - sumR (r :: L) = q at *
            go_wp2_with (go_at_call 13; refine HSB.out.mono ?_; rintro e w4 ⟨rfl, hb4⟩; have HA5 := hide (HA4.out.later hb4); have HW4 := hide (HW3.out.trans (hb4.mono HW3.out.size)); clear hb4)
            go_roundw
            case rel => exact ⟨k + 1, L, gs, by omega, by go_num, by rw [← HLEFT.out], by have := HGL.out; omega, HA5.out, HS2.out, HW4.out⟩
            case measure => simp [intOf]; omega
      · obtain rfl : k = m := by omega
        clear hAO hsame hbw hgk hlt
        have HLT := hide (show L.length ≤ 300 by have := sum_same HSM.out; have := HGK.out; omega)
        have hgl300 : gs.length ≤ 300 := by have := HGK.out; omega
        have hA0 := HAO.out
        clear HROW
        go_wp2_with fail
        go_loopw [14] (fun p wx => ∃ (i : Nat) (K : List RK), i ≤ gs.length ∧ p = .int .i64 i ∧ AO wx w1.heap.size b bx sz K (.slice va gs.length vc) gs ∧ K.map RK.bs = (gs.drop i).map ARow.bs ∧ Below w1.heap.size w1 wx) (fun p _ => gs.length - (intOf p).toNat)
        case atStart => exact ⟨0, L, Nat.zero_le _, rfl, hA0, by rw [List.drop_zero]; exact HSM.out, HBW.out⟩
        case round =>
          obtain ⟨i, K, hi, rfl, hAK, hsk, hbk⟩ := hrel
          have HAK := hide hAK
          have HBK := hide hbk
          clear hA0
          by_cases hil : i < gs.length
          · have hg : gs[i]? = some gs[i] := List.getElem?_eq_getElem (hil)
            obtain ⟨s, hs⟩ : ∃ s, s = gs[i]'(hil) := ⟨_, rfl⟩
            rw [← hs] at hg
            have hdrop : gs.drop i = s :: gs.drop (i + 1) := by rw [hs]; exact List.drop_eq_getElem_cons (hil)
            rw [hdrop] at hsk
            obtain ⟨r, K, rfl, hrs, hsm⟩ := first_same hsk
            have HG := hide hg
            have HP := hide (take_some HAK.out.rng)
            have HRW := hide (HAK.out.rng.row r (by simp))
            have HNB := hide (HAK.out.rng.row_b (r := r) (by simp))
            have hsi := HAK.out.inn s (List.mem_of_getElem? hg)
            have hrn : r.bs.length = s.n := by rw [hrs]; exact hsi.len
            have HRS := hide hrs
            have HRN := hide hrn
            have HS2 := hide hsm
            have i0 : (0 : Int) ≤ (i : Int) := by omega
            have i1 : (i : Int) < (gs.length : Int) := by omega
            clear hAK hrs hsm hsi hbk hsk hs hdrop hg
            unfold RK.sl at HP
            rw [hrn] at HP
            clear hrn
            go_wp2_with (go_at_call 11; refine stop_here ?_)
            show Hid _
            refine start_here ?_
            refine HP.out.mono ?_
            rintro e w3 ⟨rfl, hr3, hk3⟩
            have hB3 := HAK.out.rng.low1 hk3
            have ha3 := HAK.out.turn hr3 hk3 (b_or b bx (r :: K)) (fun g hg => .inl hg.tail) hB3
            have hrd3 := Rd.of_own (owns_kept HRW.out hk3 (fun g hg e => by subst e; exact HNB.out hg))
            rw [HRN.out] at hrd3
            have hsd3 := ((ha3.inn s (List.mem_of_getElem? HG.out)).rd.mono ha3.rng.B_le)
            rw [← HRS.out] at hsd3
            have hs16 : s.n ≤ 16384 := by have := HAK.out.rng.rec_le (r := r) (by simp); have := HRN.out; omega
            obtain ⟨A', c', e', hrdv⟩ := ha3.cut.slice
            injection e' with e1 e2 e3
            subst e1
            subst e3
            obtain ⟨ad0, e4, _, hcc⟩ := hrdv.2 (by omega)
            subst e4
            have y0 : w3.cell? (ad0.add i) = some (.slice s.A s.n s.c) := hcc i s.sl (by rw [List.getElem?_map, HG.out]; rfl)
            have HSB := hide (sameBytes_yes r.A s.A s.n r.c s.c w3.heap.size r.bs w3 hrd3 hsd3 (Nat.le_refl _) (by omega))
            have HA4 := hide ha3
            have HW3 := hide (HBK.out.trans hB3)
            clear hr3 hk3 hB3 ha3 hrd3 hsd3 hrdv hcc
            go_wp2_with (go_at_call 13; refine HSB.out.mono ?_; rintro e w4 ⟨rfl, hb4⟩; have HA5 := hide (HA4.out.later hb4); have HW4 := hide (HW3.out.trans (hb4.mono HW3.out.size)); clear hb4)
            go_roundw
            case rel => exact ⟨i + 1, K, by omega, by go_num, HA5.out, HS2.out, HW4.out⟩
            case measure => simp [intOf]; omega
          · obtain rfl : i = gs.length := by omega
            obtain rfl : K = [] := by
              rw [List.drop_length] at hsk
              simpa using hsk
            have HR := hide (room_ex sz HAK.out.rng (by simp [sumR]))
            have HW1 := hide HB1.out
            clear hAK hbk hsk hil
            go_wp2_with (go_at_call 18; refine HR.out.mono ?_; rintro e w3 ⟨rfl, _, hb3⟩; have HB3 := hide hb3; clear hb3)
            go_ret
            exact ⟨rfl, HW1.out.trans ((HBK.out.trans (HB3.out.mono HBK.out.size)).mono HW1.out.size)⟩
end Go.Proofs.Ytdbflopfcnkjbaa
