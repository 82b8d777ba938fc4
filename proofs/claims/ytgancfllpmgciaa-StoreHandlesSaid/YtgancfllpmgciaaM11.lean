/-
  StoreHandles: no handle is given twice; those that are told are just those of maps that are there.
-/
import Derived.Test.YtgancfllpmgciaaM10
namespace Go.Proofs.Ytgancfllpmgciaa
open Go.RowKit Go.Maps
set_option linter.unusedVariables false

/-- A store, and a row of the handles that are there. -/
def HandI (w W : World) (b last : Nat) (L : List SE) (tv : Value) : Prop := ∃ A c, Sto W w.heap.size b last A c L ∧ W.ownsRow 0 3 1 tv L.length (hands L) ∧ (∀ g, tv.ownBlock = some g → w.heap.size ≤ g ∧ g ≠ b ∧ ¬ blkOf A g) ∧ Below w.heap.size w W
section
variable {w W W' : World} {b last : Nat} {L : List SE} {tv : Value}
theorem HandI.below (h : HandI w W b last L tv) (hb : Below W.heap.size W W') : HandI w W' b last L tv := by
  obtain ⟨A, c, h1, h2, h3, h4⟩ := h
  exact ⟨A, c, h1.below hb, owns_kept_below h2 hb, h3, h4.trans (hb.mono h4.size)⟩
theorem HandI.many (h : HandI w W b last L tv) : L.length ≤ 32 := by
  obtain ⟨A, c, h1, _⟩ := h
  exact h1.many.1
/-- Make: it is there. -/
theorem HandI.make (h : HandI w W b last L tv) (hn : L.length < 32) (hl : last < 1000000) : Calls Try.prog 7 #[.pointer (some ⟨b, 0, none⟩), .agg #[.int .u8 5, .int .i64 0, .int .i64 1, .int .i64 1]] W fun e w' => e = .returned (.tuple #[.int .i64 ((last : Int) + 1), .int .i64 0]) ∧
    ∃ r A c, r.h = last + 1 ∧ Sto w' w.heap.size b (last + 1) A c (L ++ [r]) ∧ w'.ownsRow 0 3 1 tv L.length (hands L) ∧ (∀ g, tv.ownBlock = some g → w.heap.size ≤ g ∧ g ≠ b ∧ ¬ blkOf A g) ∧ Below w.heap.size w w' := by
  obtain ⟨A, c, h1, h2, h3, h4⟩ := h
  refine (make_yes h1 (k := 5) (key := 0) (val := 1) (ent := 1) (by omega) (by decide) hn hl new_que).mono ?_
  rintro e w' ⟨rfl, v, A', c', k1, k2, k3⟩
  refine ⟨rfl, _, A', c', rfl, k1, owns_kept h2 k2 (fun g hg => ⟨(h3 g hg).2.1, (h3 g hg).2.2⟩), fun g hg => ⟨(h3 g hg).1, (h3 g hg).2.1, fun e => ?_⟩, h4.trans (h1.low_below k2)⟩
  rcases k3 g e with h8 | h8
  · exact (h3 g hg).2.2 h8
  · have := (h2.lt g hg).2
    omega
theorem HandI.full (h : HandI w W b last L tv) (hn : L.length = 32) : Calls Try.prog 7 #[.pointer (some ⟨b, 0, none⟩), .agg #[.int .u8 5, .int .i64 0, .int .i64 1, .int .i64 1]] W fun e w' => e = .returned (.tuple #[.int .i64 0, .int .i64 8]) ∧ HandI w w' b last L tv := by
  have hh := h
  obtain ⟨A, c, h1, h2, h3, h4⟩ := h
  refine (make_full h1 (k := 5) (key := 0) (val := 1) (ent := 1) (by omega) (by decide) hn).mono ?_
  rintro e w' ⟨rfl, hb⟩
  exact ⟨rfl, hh.below hb⟩
/-- Free: it is there no more; the row stands as it was. -/
theorem HandI.free {i : Nat} {r : SE} (x : Int) (h : HandI w W b last L tv) (hr : L[i]? = some r) (hx : x = r.h) : Calls Try.prog 9 #[.pointer (some ⟨b, 0, none⟩), .int .i64 x] W fun e w' => e = .returned (.int .i64 0) ∧
    ∃ A c, Sto w' w.heap.size b last A c (L.eraseIdx i) ∧ isAt (L.eraseIdx i) x = false ∧ w'.ownsRow 0 3 1 tv L.length (hands L) ∧ (∀ g, tv.ownBlock = some g → w.heap.size ≤ g ∧ g ≠ b ∧ ¬ blkOf A g) ∧ Below w.heap.size w w' := by
  obtain ⟨A, c, h1, h2, h3, h4⟩ := h
  refine (free_yes x h1 hr hx).mono ?_
  rintro e w' ⟨rfl, k1, k2⟩
  refine ⟨rfl, A, c, k1, isAt_no (fun s hs e => ?_), owns_kept h2 k2 (fun g hg => ⟨(h3 g hg).2.1, (h3 g hg).2.2⟩), h3, h4.trans (h1.low_below k2)⟩
  obtain ⟨j, hj, hji⟩ := List.mem_eraseIdx_iff_getElem?.1 hs
  exact hj (h1.uniq hji hr (by omega))
theorem HandI.append {W4 : World} {A' : Option Addr} {c' : Nat} {r : SE} {v' : Value} (hS : Sto W w.heap.size b (last + 1) A' c' (L ++ [r])) (ho : W.ownsRow 0 3 1 tv L.length (hands L)) (hg : ∀ g, tv.ownBlock = some g → w.heap.size ≤ g ∧ g ≠ b ∧ ¬ blkOf A' g) (hb : Below w.heap.size w W) (hr : r.h = last + 1)
    (hl : Longer (W.alloc (.cells #[.int .i64 ((last : Int) + 1)] 3)) W4 3 1 tv v' (L.length + 1) (hands L ++ [.int .i64 ((last : Int) + 1)])) : HandI w W4 b (last + 1) (L ++ [r]) v' := by
  obtain ⟨hl1, hl2, hl3⟩ := hl
  have hb2 := below1 W (.cells #[.int .i64 ((last : Int) + 1)] 3)
  have hK : Kept (fun g => tv.ownBlock ≠ some g) W W4 := (Kept.of_below hb2).grown hl2 (fun g e _ hF => hF e)
  have hbl := at_lt hS.blk
  refine ⟨A', c', hS.kept hK (fun e => (hg b e).2.1 rfl) (fun g hA e => (hg g e).2.2 hA), ?_, fun g hg' => ?_, (hb.trans (hb2.mono hb.size)).grown hl2 (Nat.le_trans hb.size hb2.size) (fun g e => (hg g e).1)⟩
  · rw [List.length_append, show hands (L ++ [r]) = hands L ++ [.int .i64 ((last : Int) + 1)] by simp [hands, hr]]
    exact hl1
  · rcases hl3 with e | e
    · exact hg g (e.symm.trans hg')
    · rw [hg'] at e
      injection e with e
      simp at e
      subst e
      exact ⟨Nat.le_trans hb.size (Nat.le_succ _), by omega, fun h8 => by have := hS.lt h8; omega⟩
/-- What Handles tells is the row. -/
theorem HandI.check {A : Option Addr} {c : Nat} (h : HandI w W b last L (.slice A L.length c)) : Calls Try.prog 11 #[.pointer (some ⟨b, 0, none⟩)] W fun e w' => ∃ A2 c2, e = .returned (.slice A2 L.length c2) ∧
    Calls Try.prog 12 #[.slice A2 L.length c2, .slice A L.length c] w' fun e w'' => e = .returned (.bool true) ∧ HandI w w'' b last L (.slice A L.length c) := by
  have hm := h.many
  have hh := h
  obtain ⟨A1, c1, h1, h2, h3, h4⟩ := h
  refine (handles_any h1).mono ?_
  rintro e w' ⟨v, rfl, ho, hv, hb⟩
  obtain ⟨A2, c2, rfl, _⟩ := owns_slice ho
  have hr1 := Rd.of_own ho
  have hr2 := Rd.of_own (owns_kept_below h2 hb)
  rw [hands_i64] at hr1 hr2
  refine ⟨A2, c2, rfl, (sameInts_yes A2 A L.length c2 c w'.heap.size _ w' hr1 hr2 (Nat.le_refl _) (by omega)).mono ?_⟩
  rintro e w'' ⟨rfl, hb2⟩
  exact ⟨rfl, (hh.below hb).below hb2⟩
end
set_option maxRecDepth 100000 in
set_option maxHeartbeats 8000000 in
theorem law_storeHandles (A0 A1 : Option Addr) (n0 n1 c0 c1 : Nat) (lb : List Bool) (li : List Int) (w : World) (h0 : Rd w w.heap.size 1 A0 n0 (lb.map Value.bool)) (h1 : AIs w w.heap.size A1 n1 li) :
    Calls Try.prog 4 #[.slice A0 n0 c0, .slice A1 n1 c1] w fun e w' => e = .returned (.bool true) ∧ Below w.heap.size w w' := by
  obtain ⟨i0, hi, hz0', hz1, hz2⟩ := info_parts intInfo
  have H0 := hide h0
  have H1 := hide h1
  clear h0 h1
  by_cases hbig : 100 < n0
  · go_enter Try.func4, Try.ntmps4
    go_wp2_with (go_at_call 5; refine (awake_any w).mono ?_; rintro e w1 ⟨rfl, hb⟩; have HB1 := hide hb; clear hb)
    go_ret
    exact ⟨rfl, HB1.out⟩
  by_cases hless : n1 < n0
  · go_enter Try.func4, Try.ntmps4
    go_wp2_with (go_at_call 5; refine (awake_any w).mono ?_; rintro e w1 ⟨rfl, hb⟩; have HB1 := hide hb; clear hb)
    go_ret
    exact ⟨rfl, HB1.out⟩
  have q0 : (n0 : Int) ≤ 100 := by omega
  have q1 : (n0 : Int) ≤ (n1 : Int) := by omega
  go_enter Try.func4, Try.ntmps4
  go_wp2_with fail
  refine (awake_any w).mono ?_
  rintro e w1 ⟨rfl, hb⟩
  have HB1 := hide hb
  clear hb
  go_wp2_with fail
  refine (new_any w1).mono ?_
  rintro e w2 ⟨b, rfl, ha, hb⟩
  have HF0 : Hid (HandI w w2 b 0 [] (.slice none 0 0)) := hide ⟨none, 0, ha.from HB1.out.size, owns_nil _ _ _, (fun g hg => by cases hg), HB1.out.trans (hb.mono HB1.out.size)⟩
  clear ha hb HB1
  go_wp2_with fail
  go_loopg [6, 7, 8] n0 (fun kx s6 s7 s8 wr => ∃ (k last : Nat) (L : List SE) (A : Option Addr) (c : Nat), s6 = .slice A L.length c ∧ s7 = .int .i64 last ∧ s8 = .int .i64 k ∧ k ≤ n0 ∧ last ≤ k ∧ n0 - k ≤ kx ∧ Hid (HandI w wr b last L (.slice A L.length c)))
  case atStart => exact ⟨0, 0, [], none, 0, rfl, rfl, rfl, Nat.zero_le _, Nat.zero_le _, by omega, HF0⟩
  case round =>
    clear HF0
    obtain ⟨k, last, L, A, c, rfl, rfl, rfl, hk, hlk, hkx, HI⟩ := hrel
    have hmany := HI.out.many
    by_cases hlt : k < n0
    · have hbw : Below w.heap.size w wr := by obtain ⟨_, _, _, _, _, h⟩ := HI.out; exact h
      obtain ⟨ad0, x0, e0, hx0, hc0⟩ : ∃ ad x, A0 = some ad ∧ lb[k]? = some x ∧ wr.cell? (ad.add k) = some (.bool x) := by
        obtain ⟨ad, e, _, hc⟩ := (H0.out.below hbw).2 (by omega)
        have hl : lb.length = n0 := by have := H0.out.1; simpa using this
        have hr : lb[k]? = some lb[k] := List.getElem?_eq_getElem (by omega)
        exact ⟨ad, lb[k], e, hr, hc k _ (by rw [List.getElem?_map, hr]; rfl)⟩
      subst e0
      have q2 : (k : Int) < (n0 : Int) := by omega
      have q3 : (0 : Int) ≤ (k : Int) := by omega
      have q4 : (k : Int) ≤ 100 := by omega
      cases x0 with
      | true =>
        by_cases hn : L.length < 32
        · have HM := hide (HI.out.make hn (by omega))
          have q5 : (L.length : Int) < 32 := by omega
          have q6 : ((last : Int) + 1 ≤ (last : Int)) = False := by simp; omega
          clear hbw hx0
          go_wp2_with (first
            | (go_at_call 7; refine HM.out.mono ?_; rintro e w3 ⟨rfl, r, A', c', hr, hS, ho, hg, hb⟩; have HS := hide hS; have HO := hide ho; have HG := hide hg; have HB := hide hb; have HRR := hide hr; clear hS ho hg hb hr)
            | (at_builtin; refine stop_here ?_))
          show Hid _
          refine start_here ?_
          refine wpList_append_rd _ rfl (.tmp 59) (.tmp 61) _ rfl 3 i0 _ 1 8 Try.underlying35 hi hz0' hz1 hz2 rfl (by decide) (.slice A L.length c) L.length (hands L) rfl (owns_kept_below HO.out (below1 w3 (.cells #[.int .i64 ((last : Int) + 1)] 3))) (w3.heap.size + 1) (some ⟨w3.heap.size, 0, none⟩) 1 1 [.int .i64 ((last : Int) + 1)] rfl (cells_rd w3 [.int .i64 ((last : Int) + 1)] 3 1 1 rfl) (fun e => by cases e) (fun u hu => by simp at hu; subst hu; rfl) (by unfold maxLen; omega) (by omega) ?_
          intro v' w4 hl
          obtain ⟨A3, c3, rfl, _⟩ := owns_slice hl.1
          have HI4 : Hid (HandI w w4 b (last + 1) (L ++ [r]) (.slice A3 (L ++ [r]).length c3)) := by
            rw [List.length_append]
            exact HandI.append HS.out HO.out HG.out HB.out HRR.out hl
          have HL4 : Hid (L.length + 1 = (L ++ [r]).length) := hide (by simp)
          generalize L ++ [r] = L4 at HI4 HL4
          have HC := hide (HandI.check HI4.out)
          rw [HL4.out]
          clear hl HS HO HG HB HRR HM HI HL4
          go_wp2_with (first
            | (go_at_call 11; refine HC.out.mono ?_; rintro e w5 ⟨A2, c2, rfl, hsm⟩; have HSM := hide hsm; clear hsm)
            | (go_at_call 12; refine HSM.out.mono ?_; rintro e w6 ⟨rfl, hI6⟩; have HI6 := hide hI6; clear hI6))
          go_roundg (n0 - (k + 1))
          case measure => omega
          case rel => exact ⟨k + 1, last + 1, L4, A3, c3, rfl, rfl, by go_num, by omega, by omega, Nat.le_refl _, HI6⟩
        · obtain ⟨hn2⟩ : Nonempty (L.length = 32) := ⟨by omega⟩
          have HM := hide (HI.out.full hn2)
          have q5 : ((L.length : Int) < 32) = False := by simp; omega
          have HL := hide hn2
          clear hbw hx0 hn2 HI
          go_wp2_with (first
            | (go_at_call 7; refine HM.out.mono ?_; rintro e w3 ⟨rfl, hI3⟩; have HI3 := hide hI3; have HC := hide (HandI.check hI3); clear hI3)
            | (go_at_call 11; refine HC.out.mono ?_; rintro e w5 ⟨A2, c2, rfl, hsm⟩; have HSM := hide hsm; clear hsm)
            | (go_at_call 12; refine HSM.out.mono ?_; rintro e w6 ⟨rfl, hI6⟩; have HI6 := hide hI6; clear hI6))
          go_roundg (n0 - (k + 1))
          case measure => omega
          case rel => exact ⟨k + 1, last, L, A, c, rfl, rfl, by go_num, by omega, by omega, Nat.le_refl _, HI6⟩
      | false =>
        by_cases h0 : L.length = 0
        · obtain rfl := List.eq_nil_of_length_eq_zero h0
          have HC := hide (HandI.check HI.out)
          simp only [List.length_nil] at HC
          clear hbw hx0 h0 HI
          go_wp2_with (first
            | (go_at_call 11; refine HC.out.mono ?_; rintro e w5 ⟨A2, c2, rfl, hsm⟩; have HSM := hide hsm; clear hsm)
            | (go_at_call 12; refine HSM.out.mono ?_; rintro e w6 ⟨rfl, hI6⟩; have HI6 := hide hI6; clear hI6))
          go_roundg (n0 - (k + 1))
          case measure => omega
          case rel => exact ⟨k + 1, last, [], A, c, rfl, rfl, by go_num, by omega, by omega, Nat.le_refl _, HI6⟩
        · obtain ⟨ad1, x1, e1, hx1, hi1, hc1⟩ := (H1.out.below hbw).cell (j := k) (by omega)
          subst e1
          have q5 : (0 : Int) < (L.length : Int) := by omega
          have q6 : (k : Int) < (n1 : Int) := by omega
          clear hbw hx0
          go_wp2_with fail
          refine (pick_any x1 L.length wr (by omega) (by omega) hi1.1 hi1.2).mono ?_
          rintro e w3 ⟨m, hm, rfl, rfl⟩
          have hr : L[m]? = some L[m] := List.getElem?_eq_getElem hm
          generalize L[m] = r at hr
          obtain ⟨g, rfl, hc2⟩ : ∃ g, A = some ⟨g, 0, none⟩ ∧ wr.cell? ⟨g, m, none⟩ = some (.int .i64 r.h) := by
            obtain ⟨_, _, _, ho, _, _⟩ := HI.out
            rcases ho.2 with ⟨_, h9⟩ | ⟨g, cap, cur, hv, _⟩
            · omega
            · injection hv with hv
              subst hv
              have := ho.cells (g := g) rfl m (.int .i64 r.h) (by simp [hands, hr])
              rw [own_add, Nat.zero_add] at this
              exact ⟨g, rfl, this⟩
          have HF := hide (HI.out.free (r.h : Int) hr rfl)
          have q7 : (m : Int) < (L.length : Int) := by omega
          have q8 : (0 : Int) ≤ (m : Int) := by omega
          have q9 : (m : Int) ≤ 1000 := by omega
          have HRM := hide hr
          clear hr h0 hi1 HI
          go_wp2_with fail
          refine HF.out.mono ?_
          rintro e w4 ⟨rfl, A', c', hS, hat, ho, hg, hb⟩
          have hc3 : w4.cell? ⟨g, m, none⟩ = some (.int .i64 r.h) := by
            have := ho.cells (g := g) rfl m (.int .i64 r.h) (by simp [hands, HRM.out])
            rw [own_add, Nat.zero_add] at this
            exact this
          have HS := hide hS
          have HAT := hide hat
          have HO := hide ho
          have HG := hide hg
          have HB := hide hb
          clear hS hat ho hg hb HF hc2
          go_wp2_with fail
          refine (free_no (r.h : Int) HS.out HAT.out).mono ?_
          rintro e w5 ⟨rfl, hb⟩
          have HS5 := hide (HS.out.below hb)
          have HO5 := hide (owns_kept_below HO.out hb)
          have HB5 := hide (HB.out.trans (hb.mono HB.out.size))
          clear hb HS HAT HO HB hc3
          obtain ⟨B2, B1, b1, B3, b3, v1, v2, hB2, hrun1, hrun2, ho3, hf3, hb3⟩ := cut_out HO5.out hm (by omega) (fun u hu => by obtain ⟨s, _, rfl⟩ := List.mem_map.1 hu; rfl)
          have hcap : L.length ≤ c := by
            rcases HO5.out.2 with ⟨h9, _⟩ | ⟨g', cap', cur, hv, _, _, hnc, _⟩
            · cases h9
            · cases hv; exact hnc
          have f1 : (m : Int) ≤ (c : Int) := by omega
          have f2 : (m : Int) + 1 ≤ (L.length : Int) := by omega
          have f3 : (L.length : Int) ≤ (c : Int) := by omega
          have f5 : m ≤ c := by omega
          have f6 : m + 1 ≤ c := by omega
          have f7 : m + 1 ≤ L.length := by omega
          have f10 : (0 : Int) ≤ (m : Int) + 1 := by omega
          have f11 : IntKind.i64.wrap ((m : Int) + 1) = ((m + 1 : Nat) : Int) := by rw [IntWalk.i64_in _ (by omega)]; rfl
          have f12 : ((m + 1 : Nat) : Int) ≤ (L.length : Int) := by omega
          have f13 : ((m + 1 : Nat) : Int) ≤ (c : Int) := by omega
          have HE6 : Hid (L.length - 1 = (L.eraseIdx m).length) := hide (List.length_eraseIdx_of_lt hm).symm
          have HI6 : Hid (HandI w v2 b last (L.eraseIdx m) (.slice B3 (L.length - 1) b3)) := by
            refine ⟨A', c', HS5.out.below (hb3.mono (Nat.le_refl _)), ?_, fun g' hg' => ?_, HB5.out.trans (hb3.mono HB5.out.size)⟩
            · rw [← HE6.out, show hands (L.eraseIdx m) = (hands L).take m ++ (hands L).drop (m + 1) by simp [hands, List.eraseIdx_eq_take_drop_succ, List.map_append, List.map_take, List.map_drop]]
              exact ho3
            · have h8 := hf3 g' (own_of_slice.trans hg')
              have hbl := at_lt HS5.out.blk
              exact ⟨Nat.le_trans HB5.out.size h8, by omega, fun h9 => by have := HS5.out.lt h9; omega⟩
          rw [HE6.out] at HI6
          generalize L.eraseIdx m = L6 at HI6 HE6
          have HC := hide (HandI.check HI6.out)
          clear ho3 hf3 hb3 HS5 HO5 HB5 HG HRM
          go_wp2_with fail
          go_region_law (first
            | (refine step_append_run _ v1 (by rfl) (.tmp 89) (.tmp 92) 35 (by rfl) _ _ _ (by rfl) (by rfl) hrun1 ?_)
            | (refine step_append_run _ v2 (by rfl) (.tmp 93) (.tmp 97) 35 (by rfl) _ _ _ (by rfl) (by rfl) hrun2 ?_))
          all_goals
            rw [HE6.out]
            go_wp2_with (first
              | (go_at_call 11; refine HC.out.mono ?_; rintro e w6 ⟨A2, c2, rfl, hsm⟩; have HSM := hide hsm; clear hsm)
              | (go_at_call 12; refine HSM.out.mono ?_; rintro e w7 ⟨rfl, hI7⟩; have HI7 := hide hI7; clear hI7))
            go_roundg (n0 - (k + 1))
            case measure => omega
            case rel => exact ⟨k + 1, last, L6, B3, b3, rfl, rfl, by go_num, by omega, by omega, Nat.le_refl _, HI7⟩
    · obtain rfl : k = n0 := by omega
      have hbw : Below w.heap.size w wr := by obtain ⟨_, _, _, _, _, h⟩ := HI.out; exact h
      have HBW := hide hbw
      clear hbw
      go_wp2
      go_ret
      exact ⟨rfl, HBW.out⟩
end Go.Proofs.Ytgancfllpmgciaa
