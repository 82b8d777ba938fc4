/-
  What is written into a region is read there: RegionKeeps' walk.
-/
import Derived.Test.YtbllnjkagleenaaPK
namespace Go.Proofs.Ytbllnjkagleenaa
open Go.RowKit
set_option linter.unusedVariables false

/-- The first j regions are what came in. -/
structure Built (L : List (Option PRow)) (rs : List ARow) (j : Nat) : Prop where
  len : L.length = j
  row : ∀ (i : Nat) (a : ARow), i < j → rs[i]? = some a → ∃ r : PRow, L[i]? = some (some r) ∧ r.k = 1 + (i : Int) % 5 ∧ r.n = a.n ∧ r.bs = a.bs ∧ a.n ≤ 4096
theorem Built.next {L : List (Option PRow)} {rs : List ARow} {k : Nat} {r : ARow} {x : PRow} (h : Built L rs k) (hr : rs[k]? = some r) (h1 : x.k = 1 + (k : Int) % 5) (h2 : x.n = r.n) (h3 : x.bs = r.bs) (h4 : r.n ≤ 4096) : Built (L ++ [some x]) rs (k + 1) := by
  refine ⟨by simp [h.len], fun i a hi ha => ?_⟩
  have hl := h.len
  by_cases hik : i < k
  · rw [List.getElem?_append_left (by omega)]
    exact h.row i a hik ha
  · have e : i = k := by omega
    subst e
    rw [hr] at ha
    injection ha with ha
    subst ha
    exact ⟨x, by rw [List.getElem?_append_right (by omega)]; simp [hl], h1, h2, h3, h4⟩
theorem rowAt_of {L : List (Option PRow)} {i : Nat} {r : PRow} (h : L[i]? = some (some r)) : rowAt L ((i : Int) + 1) = some r := by
  unfold rowAt
  rw [if_pos (by omega), show ((i : Int) + 1 - 1).toNat = i by omega, h]
  rfl
/-- Bytes were written into region i, or not. -/
structure Wrote (L L2 : List (Option PRow)) (i : Nat) (F : Bool) (off : Int) (d : List Int) : Prop where
  len : L2.length = L.length
  row : ∀ (t : Nat) (x : PRow), L[t]? = some (some x) → ∃ y : PRow, L2[t]? = some (some y) ∧ y.k = x.k ∧ y.n = x.n ∧ y.bs = if t = i ∧ F = true then splice x.bs off.toNat d else x.bs
theorem write_all {w : World} {B b mm : Nat} {L : List (Option PRow)} {i : Nat} {r : PRow} (h : Mem w B b mm L) (hr : rowAt L ((i : Int) + 1) = some r) (hi : i ≤ 1000000) (off : Int) (q : Nat) (S : Option Addr) (sc C : Nat) (d : List Int) (ho1 : -9223372036854775808 ≤ off) (ho2 : off ≤ 9223372036854775807) (hd : Rd w C 1 S q (u8s d)) (hC : C ≤ w.heap.size) (hq : q ≤ 1000000000)
    (F : Bool) (E : Int) (hF : fitsB r.n off q = F) (hE : E = if F = true then 0 else 32) :
    Calls Try.prog 19 #[.pointer (some ⟨b, 0, none⟩), .int .i64 ((i : Int) + 1), .int .i64 off, .slice S q sc] w fun e w' => e = .returned (.int .i64 E) ∧ ∃ L2, Mem w' B b mm L2 ∧ Wrote L L2 i F off d ∧ Kept (fun g => ¬ OfM b mm L g) w w' := by
  have hw : wfI ((i : Int) + 1) := by exact wf_nat (k := i + 1) (by omega)
  have hwo : wfI off := WalkArith.wf_i64 ⟨ho1, ho2⟩
  have hgi := (rowAt_get hr).2
  rw [show ((i : Int) + 1 - 1).toNat = i by omega] at hgi
  cases F with
  | true =>
    subst hE
    have hof : 0 ≤ off ∧ off + q ≤ r.n := by
      unfold fitsB at hF
      simp at hF
      omega
    obtain ⟨o, rfl⟩ : ∃ o : Nat, off = o := ⟨off.toNat, by omega⟩
    refine (write_M h hw hr o q S sc C d hd hC (by omega)).mono ?_
    rintro e w' ⟨he, hm, hk⟩
    rw [show ((i : Int) + 1 - 1).toNat = i by omega] at hm
    refine ⟨he, _, hm, ⟨by simp, fun t x hx => ?_⟩, hk⟩
    by_cases e : t = i
    · subst e
      rw [hgi] at hx
      injection hx with hx
      injection hx with hx
      subst hx
      exact ⟨_, List.getElem?_set_self (List.getElem?_eq_some_iff.1 hgi).1, rfl, rfl, by simp⟩
    · exact ⟨x, by rw [List.getElem?_set_ne (fun e' => e e'.symm)]; exact hx, rfl, rfl, by simp [e]⟩
  | false =>
    subst hE
    refine (write_not (some ⟨b, 0, none⟩) _ off 0 none 0 0 32 S q sc w (h.badM hw hwo hr hF) (by omega)).mono ?_
    rintro e w' ⟨he, hb⟩
    exact ⟨he, L, h.below hb, ⟨rfl, fun t x hx => ⟨x, hx, rfl, rfl, by simp⟩⟩, Kept.of_below hb⟩
theorem free_at {w : World} {B b mm : Nat} {L : List (Option PRow)} {i : Int} {r : PRow} (h : Mem w B b mm L) (hw : wfI i) (hr : rowAt L i = some r) :
    Calls Try.prog 17 #[.pointer (some ⟨b, 0, none⟩), .int .i64 i] w fun e w' => e = .returned (.int .i64 0) ∧ ∃ L3, Mem w' B b mm L3 ∧ L3.length = L.length ∧ rowAt L3 i = none ∧ Kept (fun g => ¬ OfM b mm L g) w w' :=
  (free_M h hw hr).mono fun e w' ⟨h1, h2, h3⟩ => ⟨h1, _, h2, by rw [List.length_set], (rowAt_set hr none i).trans (if_pos rfl), h3⟩
theorem rd_take {w : World} {B n k : Nat} {A : Option Addr} {l : List Int} (h : Rd w B 1 A n (u8s l)) (hk : k ≤ n) : Rd w B 1 A k (u8s (l.take k)) := by
  have hl : l.length = n := by have := h.1; simpa [u8s] using this
  refine ⟨by simp [u8s, hl]; omega, fun hp => ?_⟩
  obtain ⟨ad, e, hb, hc⟩ := h.2 (by omega)
  refine ⟨ad, e, hb, fun j u hu => hc j u ?_⟩
  have hj : j < k := by
    have := (List.getElem?_eq_some_iff.1 hu).1
    simp [u8s] at this; omega
  simpa [u8s, List.getElem?_take, hj] using hu
theorem gone_free {w : World} {B b mm : Nat} {L : List (Option PRow)} {i : Int} (h : Mem w B b mm L) (hw : wfI i) (hr : rowAt L i = none) : Calls Try.prog 17 #[.pointer (some ⟨b, 0, none⟩), .int .i64 i] w fun e w' => e = .returned (.int .i64 6) ∧ Below w.heap.size w w' := free_not _ i 0 none 0 0 6 w (h.none_ hw hr none 0 0) (by decide)
theorem gone_write {w : World} {B b mm : Nat} {L : List (Option PRow)} {i : Int} (h : Mem w B b mm L) (hw : wfI i) (hr : rowAt L i = none) : Calls Try.prog 19 #[.pointer (some ⟨b, 0, none⟩), .int .i64 i, .int .i64 0, .slice none 0 0] w fun e w' => e = .returned (.int .i64 6) ∧ Below w.heap.size w w' := write_not _ i 0 0 none 0 0 6 none 0 0 w (h.noneM hw hr) (by decide)
theorem gone_kind {w : World} {B b mm : Nat} {L : List (Option PRow)} {i : Int} (h : Mem w B b mm L) (hw : wfI i) (hr : rowAt L i = none) : Calls Try.prog 22 #[.pointer (some ⟨b, 0, none⟩), .int .i64 i] w fun e w' => e = .returned (.int .u8 0) ∧ Below w.heap.size w w' := kind_any _ i 0 none 0 0 6 w (h.none_ hw hr none 0 0)
theorem gone_size {w : World} {B b mm : Nat} {L : List (Option PRow)} {i : Int} (h : Mem w B b mm L) (hw : wfI i) (hr : rowAt L i = none) : Calls Try.prog 24 #[.pointer (some ⟨b, 0, none⟩), .int .i64 i] w fun e w' => e = .returned (.int .i64 0) ∧ Below w.heap.size w w' := size_any _ i 0 none 0 0 6 w (h.none_ hw hr none 0 0)
theorem Built.last {L L2 : List (Option PRow)} {rs : List ARow} {k i t : Nat} {F : Bool} {off : Int} {d : List Int} {a : ARow} (h : Built L rs k) (h2 : Wrote L L2 i F off d) (ht : t < k) (ha : rs[t]? = some a) : ∃ y : PRow, rowAt L2 ((t : Int) + 1) = some y ∧ y.k = 1 + (t : Int) % 5 ∧ y.n = a.n ∧ y.bs = (if t = i ∧ F = true then splice a.bs off.toNat d else a.bs) ∧ a.n ≤ 4096 := by
  obtain ⟨x, hx, h3, h4, h5, h6⟩ := h.row t a ht ha
  obtain ⟨y, hy, h7, h8, h9⟩ := h2.row t x hx
  exact ⟨y, rowAt_of hy, h7.trans h3, h8.trans h4, by rw [h9, h5], h6⟩
theorem size_of {w : World} {B b mm : Nat} {L : List (Option PRow)} {i : Int} {r : PRow} {n : Nat} (h : Mem w B b mm L) (hw : wfI i) (hr : rowAt L i = some r) (hn : r.n = n) : Calls Try.prog 24 #[.pointer (some ⟨b, 0, none⟩), .int .i64 i] w fun e w' => e = .returned (.int .i64 n) ∧ Below w.heap.size w w' := by
  subst hn
  exact size_any _ i r.k r.A r.n r.c 0 w (h.some_ hw hr)
theorem kind_of {w : World} {B b mm : Nat} {L : List (Option PRow)} {i : Int} {r : PRow} {k : Int} (h : Mem w B b mm L) (hw : wfI i) (hr : rowAt L i = some r) (hk : k = r.k) : Calls Try.prog 22 #[.pointer (some ⟨b, 0, none⟩), .int .i64 i] w fun e w' => e = .returned (.int .u8 k) ∧ Below w.heap.size w w' := by
  subst hk
  exact kind_any _ i r.k r.A r.n r.c 0 w (h.some_ hw hr)
set_option maxRecDepth 100000 in
set_option maxHeartbeats 4000000 in
theorem law_regionKeeps (A0 : Option Addr) (m c0 B : Nat) (rs : List ARow) (which off : Int) (S : Option Addr) (q sc : Nat) (d : List Int) (w : World) (hR : ARows w B A0 m rs) (hd : Rd w B 1 S q (u8s d)) (hS : S = none → q = 0) (hqs : q ≤ sc) (hB : B ≤ w.heap.size)
    (hm : m ≤ 140737488351232) (hq : q ≤ 140737488351232) (hw1 : -9223372036854775808 ≤ which) (hw2 : which ≤ 9223372036854775807) (ho1 : -9223372036854775808 ≤ off) (ho2 : off ≤ 9223372036854775807) :
    Calls Try.prog 5 #[.slice A0 m c0, .int .i64 which, .int .i64 off, .slice S q sc] w fun e w' => e = .returned (.bool true) ∧ Below w.heap.size w w' := by
  have HR := hide hR
  have HD := hide hd
  have HS := hide hS
  clear hR hd hS
  go_enter Try.func5, Try.ntmps5
  go_wp2_with (go_at_call 7; refine (awake_any _).mono ?_; rintro e w1 ⟨rfl, hb⟩; have HB1 := hide hb; clear hb)
  go_loopw [9, 10] (fun a b wr => ∃ j nn : Nat, j ≤ m ∧ q ≤ nn ∧ nn ≤ 281474976710656 ∧ a = .int .i64 nn ∧ b = .int .i64 j ∧ wr = w1) (fun _ b _ => m - (intOf b).toNat)
  case atStart => exact ⟨0, q, Nat.zero_le _, Nat.le_refl _, by omega, rfl, rfl, rfl⟩
  case round =>
    obtain ⟨j, nn, hj, hqn, hnn, rfl, rfl, rfl⟩ := hrel
    by_cases hgo : j < m ∧ nn ≤ 20000
    · obtain ⟨hjm, hn2⟩ := hgo
      obtain ⟨ad, r, rfl, hr, c1⟩ := (HR.out.below (HB1.out.mono hB)).cell hjm
      have hrn := ((HR.out.below (HB1.out.mono hB)).inner r (List.mem_of_getElem? hr)).2.2
      clear hr
      go_wp2
      go_roundw
      case rel => exact ⟨j + 1, nn + r.n, by omega, by omega, by omega, by go_num, by go_num, trivial⟩
      case measure => simp [intOf]; omega
    · by_cases hbig : 20000 < nn
      · by_cases hjm : j < m
        · clear hgo
          go_wp2
          go_ret
          exact ⟨rfl, HB1.out⟩
        · have hjm2 : j = m := by omega
          subst hjm2
          clear hgo
          go_wp2
          go_ret
          exact ⟨rfl, HB1.out⟩
      · have hjm2 : j = m := by omega
        subst hjm2
        clear hgo
        by_cases h20 : 20 < j
        · go_wp2
          go_ret
          exact ⟨rfl, HB1.out⟩
        · by_cases h0 : j = 0
          · subst h0
            go_wp2
            all_goals
              go_ret
              exact ⟨rfl, HB1.out⟩
          · have hpos : 0 < j := by omega
            have hz : ((j : Int) == 0) = false := by simp; omega
            have hn2 : nn ≤ 20000 := by omega
            have hq2 : q ≤ 20000 := by omega
            clear hbig hj hnn
            go_wp2_with fail
            refine (new_M wr).mono ?_
            rintro e w2 ⟨b, mm, rfl, hmem, hb⟩
            have HM2 := hide hmem
            have HB2 := hide (HB1.out.trans (hb.mono HB1.out.size))
            have HBM : Hid (w.heap.size ≤ wr.heap.size) := HB1.out.size
            have hbs := hb.size
            clear hmem hb HB1
            go_wp2_with fail
            have hj31 : j ≤ 20 := by omega
            obtain ⟨B1, hB1⟩ : ∃ B1, B1 = wr.heap.size := ⟨_, rfl⟩
            rw [← hB1] at HM2 HBM hbs
            have hbs := hide hbs
            clear hB1 h20 h0
            go_loopw [12] (fun u wx => ∃ (k : Nat) (L : List (Option PRow)), k ≤ j ∧ u = .int .i64 k ∧ Mem wx B1 b mm L ∧ Built L rs k ∧ Below w.heap.size w wx ∧ B1 ≤ wx.heap.size) (fun u _ => j - (intOf u).toNat)
            case atStart => exact ⟨0, [], by omega, rfl, HM2.out, ⟨rfl, fun i a hi => by omega⟩, HB2.out, hbs.out⟩
            case round =>
              obtain ⟨k, L, hk, rfl, hm2, hbu, hbx, hbs2⟩ := hrel
              have HMx := hide hm2
              have HBU := hide hbu
              have HBx := hide hbx
              have HSx := hide hbs2
              clear hm2 hbu hbx hbs2 HM2 HB2
              by_cases hkj : k < j
              · obtain ⟨ad, r, rfl, hr, c1⟩ := (HR.out.below (HBx.out.mono hB)).cell hkj
                obtain ⟨g1, g2, g3⟩ := (HR.out.below (HBx.out.mono hB)).inner r (List.mem_of_getElem? hr)
                have HR1 := hide g1
                have HR2 := hide g2
                have HR3 := hide hr
                clear hr g1 g2
                by_cases hbig : 4096 < r.n
                · go_wp2
                  go_ret
                  exact ⟨rfl, HBx.out⟩
                · have hlen := HBU.out.len
                  go_wp2_with fail
                  refine (make_M HMx.out (by omega) (1 + (k : Int) % 5) r.A r.n r.c B r.bs (by omega) (by omega) (by omega) HR1.out HR2.out (Nat.le_trans hB HBx.out.size) HSx.out).mono ?_
                  rintro e w3 ⟨x, rfl, hxk, hxn, hxb, _, hm3, hk3⟩
                  have HB3 := hide (HBx.out.trans ((HMx.out.low_ hk3 HSx.out).mono HBM.out))
                  have HS3 := hide (Nat.le_trans HSx.out hk3.size)
                  have HM3 := hide hm3
                  have HBU3 : Hid (Built (L ++ [some x]) rs (k + 1)) := HBU.out.next HR3.out hxk hxn hxb (by omega)
                  rw [hlen]
                  clear hm3 hk3 hxk hxn hxb hlen HMx HBx HSx
                  go_wp2
                  go_roundw
                  case rel => exact ⟨k + 1, L ++ [some x], by omega, by go_num, HM3.out, HBU3.out, HB3.out, HS3.out⟩
                  case measure => simp [intOf]; omega
              · have hkj2 : k = j := by omega
                subst hkj2
                clear hkj hk
                go_wp2_with fail
                refine (pick_any which k _ hpos (by omega) hw1 hw2).mono ?_
                rintro e w4 ⟨i, hik, rfl, rfl⟩
                obtain ⟨ad, r, rfl, hr, c1⟩ := (HR.out.below (HBx.out.mono hB)).cell hik
                obtain ⟨x, hx, hx1, hx2, hx3, hx4⟩ := HBU.out.row i r hik hr
                have HW := hide (fun F E (hF : fitsB x.n off q = F) (hE : E = if F = true then 0 else 32) => write_all HMx.out (rowAt_of hx) (by have := HBU.out.len; omega) off q S sc B d ho1 ho2 (HD.out.below (HBx.out.mono hB)) (Nat.le_trans hB HBx.out.size) (by omega) F E hF hE)
                rw [hx2] at HW
                have HI := hide hr
                have HLT : Hid ((ad.add i).block < B) := by
                  show (ad.add i).block < B
                  rw [block_add]
                  obtain ⟨ad', e1, h1, _⟩ := HR.out.outer.2 (by omega)
                  cases e1
                  exact h1
                clear hr hx hx1 hx2 hx3
                have hways : (0 ≤ off ∧ off + q ≤ r.n) ∨ off < 0 ∨ (0 ≤ off ∧ r.n < off) ∨ (0 ≤ off ∧ off ≤ r.n ∧ r.n < off + q) := by omega
                rcases hways with ⟨v1, v2⟩ | v1 | ⟨v1, v2⟩ | ⟨v1, v2, v3⟩
                · have HW2 := hide (HW.out true 0 (by simp [fitsB]; omega) rfl)
                  clear HW
                  obtain ⟨o, rfl⟩ : ∃ o : Nat, off = o := ⟨off.toNat, by omega⟩
                  have v3 : o ≤ r.n := by omega
                  have v5 : decide ((q : Int) ≤ (r.n : Int) - (o : Int)) = true := by simp; omega
                  go_wp2_with fail
                  refine HW2.out.mono ?_
                  rintro e w5 ⟨rfl, L2, hm5, hwr, hk5⟩
                  have HM5 := hide hm5
                  have HWR := hide hwr
                  have HB5 := hide (HBx.out.trans ((HMx.out.low_ hk5 HSx.out).mono HBM.out))
                  have HS5 := hide (Nat.le_trans HSx.out hk5.size)
                  have c2 := (HB5.out.mono hB).cell (p := ad.add i) HLT.out |>.trans (((HBx.out.mono hB).cell (p := ad.add i) HLT.out).symm.trans c1)
                  clear hm5 hwr hk5 HMx HBx HSx HW2 c1
                  go_wp2_with fail
                  clear c2
                  go_loopw [18] (fun u wx => ∃ t : Nat, t ≤ k ∧ u = .int .i64 t ∧ Mem wx B1 b mm L2 ∧ Below w.heap.size w wx ∧ B1 ≤ wx.heap.size) (fun u _ => k - (intOf u).toNat)
                  case atStart => exact ⟨0, by omega, rfl, HM5.out, HB5.out, HS5.out⟩
                  case round =>
                    obtain ⟨t, ht, rfl, hmy, hby, hsy⟩ := hrel
                    obtain ⟨wy, hwy⟩ : ∃ wy, wy = wr := ⟨_, rfl⟩
                    rw [← hwy] at hmy hby hsy ⊢
                    clear hwy
                    have HMy := hide hmy
                    have HBy := hide hby
                    have HSy := hide hsy
                    clear hmy hby hsy HM5 HB5 HS5
                    by_cases htk : t < k
                    · obtain ⟨ad2, r2, e2, hr2, c5⟩ := (HR.out.below (HBy.out.mono hB)).cell htk
                      cases e2
                      obtain ⟨g1, g2, _⟩ := (HR.out.below (HBy.out.mono hB)).inner r2 (List.mem_of_getElem? hr2)
                      obtain ⟨y, hy, hy1, hy2, hy3, hy4⟩ := HBU.out.last HWR.out htk hr2
                      have HR1 := hide g1
                      have HR2 := hide g2
                      have HT2 := hide hr2
                      clear hr2 g1 g2
                      go_wp2_with fail
                      refine (copyBytes_any r2.A r2.n r2.c B r2.bs wy HR1.out HR2.out (Nat.le_trans hB HBy.out.size) (by omega)).mono ?_
                      rintro e w7 ⟨v, rfl, hv, hb7⟩
                      obtain ⟨A2, c2, rfl, _⟩ := owns_slice hv.1
                      have HV := hide hv
                      have HM7 := hide (HMy.out.below hb7)
                      have HB7 := hide (HBy.out.trans (hb7.mono HBy.out.size))
                      have HS7 := hide (Nat.le_trans HSy.out hb7.size)
                      clear hb7 hv c5
                      by_cases hti : t = i
                      · subst hti
                        have hio : o + q ≤ r2.n := by
                          have hh := HI.out.symm.trans HT2.out
                          injection hh with hh
                          rw [← hh]
                          omega
                        obtain ⟨A3, c3, hcut, hg3⟩ := cut_rest (P := Try.prog) Try.underlying31 u8size HV.out.1 o (by omega)
                        have HG3 := hide hg3
                        have hcw := hcut w7
                        clear hcut hg3
                        go_wp2_with (with_reducible refine stop_copy ?_)
                        show Hid _
                        refine start_here ?_
                        refine wpList_copy_owns (e := 5) (n := r2.n) (xs := u8s r2.bs) rfl (.tmp 157) (.tmp 158) 31 31 rfl Try.underlying31 u8size A2 c2 HV.out.1 o A3 (r2.n - o) c3 rfl HG3.out B S q sc rfl (u8s d) (HD.out.below (HB7.out.mono hB)) (u8s_one d) (by omega) (by omega) ?_
                        intro w8 ho8 hg8 hz8
                        have hk8 : Kept (fun g => g < wy.heap.size) w7 w8 := (Kept.refl _ w7).grown hg8 (fun g e _ hh => by have := HV.out.2 g e.symm.symm; omega)
                        have HV8 : Hid (w8.ownsRow 0 5 1 (.slice A2 r2.n c2) r2.n (u8s (splice r2.bs o d))) := by
                          have e : u8s (splice r2.bs o d) = splice (u8s r2.bs) o (u8s d) := by simp [u8s, splice, List.map_take, List.map_drop]
                          show w8.ownsRow 0 5 1 (.slice A2 r2.n c2) r2.n (u8s (splice r2.bs o d))
                          rw [e]
                          exact ho8
                        have HM8 := hide (HM7.out.kept hk8 (fun g hg => Nat.lt_of_lt_of_le (HMy.out.lt g hg) (Nat.le_refl _)))
                        have HB8 := hide (HB7.out.trans (hk8.to_below (B := w.heap.size) (fun g hg => Nat.lt_of_lt_of_le hg HBy.out.size) HB7.out.size))
                        have HS8 := hide (show B1 ≤ w8.heap.size by rw [hz8]; exact HS7.out)
                        clear ho8 hg8 hz8 hk8
                        clear hcw
                        have hyl : y.bs.length = r2.n := by
                          have := (HM8.out.at_ hy).1.1
                          simp [u8s] at this
                          omega
                        have hyb : splice r2.bs o d = y.bs := by rw [hy3]; simp
                        go_wp2_with fail
                        refine (read_yes _ ((t : Int) + 1) y.k 0 r2.n y.A r2.n y.c y.bs w8 (by have := HM8.out.fitM (off := ((0 : Nat) : Int)) (size := (r2.n : Int)) (wf_nat (k := t + 1) (by omega)) (wf_nat (k := 0) (by omega)) hy (by rw [hy2]; simp [fitsB]); rw [hy2] at this; exact this) (by have := (HM8.out.at_ hy).1; rw [hy2] at this; exact this) (by omega) (by omega)).mono ?_
                        rintro e w9 ⟨vg, rfl, hvg, hb9⟩
                        have hty : (y.bs.drop 0).take r2.n = y.bs := by rw [List.drop_zero]; exact List.take_of_length_le (by omega)
                        rw [hty] at hvg
                        obtain ⟨A4, c4, rfl, _⟩ := owns_slice hvg.1
                        have HS9 := hide (sameBytes_yes A4 A2 r2.n c4 c2 _ y.bs w9 (Rd.of_own hvg.1) (by have := Rd.of_own (owns_kept_below HV8.out hb9); rw [hyb] at this; exact this) (Nat.le_refl _) (by omega))
                        have HM9 := hide (HM8.out.below hb9)
                        have HB9 := hide (HB8.out.trans (hb9.mono HB8.out.size))
                        have HZ9 := hide (Nat.le_trans HS8.out hb9.size)
                        have hkk : (1 + (t : Int) % 5) = y.k := hy1.symm
                        have HKK := hide hkk
                        have HY2 := hide hy2
                        have HYY := hide hy
                        clear hvg hb9 hty hyl hyb hy1 hy2 hy3 hy HV8 HM8 HB8 HS8 hkk
                        go_wp2_with (first
                          | (go_at_call 16; refine HS9.out.mono ?_; rintro e w10 ⟨rfl, hb10⟩; have HM10 := hide (HM9.out.below hb10); have HB10 := hide (HB9.out.trans (hb10.mono HB9.out.size)); have HZ10 := hide (Nat.le_trans HZ9.out hb10.size); clear hb10)
                          | (go_at_call 24; refine (size_of HM10.out (wf_nat (k := t + 1) (by omega)) HYY.out HY2.out).mono ?_; rintro e w11 ⟨rfl, hb11⟩; have HM11 := hide (HM10.out.below hb11); have HB11 := hide (HB10.out.trans (hb11.mono HB10.out.size)); have HZ11 := hide (Nat.le_trans HZ10.out hb11.size); clear hb11)
                          | (go_at_call 22; refine (kind_of HM11.out (wf_nat (k := t + 1) (by omega)) HYY.out HKK.out).mono ?_; rintro e w12 ⟨rfl, hb12⟩; have HM12 := hide (HM11.out.below hb12); have HB12 := hide (HB11.out.trans (hb12.mono HB11.out.size)); have HZ12 := hide (Nat.le_trans HZ11.out hb12.size); clear hb12))
                        go_roundw
                        case rel => exact ⟨t + 1, by omega, by go_num, HM12.out, HB12.out, HZ12.out⟩
                        case measure => simp [intOf]; omega
                      · have HV8 := hide HV.out.1
                        have HM8 := hide HM7.out
                        have HB8 := hide HB7.out
                        have HS8 := hide HS7.out
                        obtain ⟨w8, rfl⟩ : ∃ w8, w8 = w7 := ⟨_, rfl⟩
                        have hyl : y.bs.length = r2.n := by
                          have := (HM8.out.at_ hy).1.1
                          simp [u8s] at this
                          omega
                        have hyb : r2.bs = y.bs := by rw [hy3]; simp [hti]
                        go_wp2_with fail
                        refine (read_yes _ ((t : Int) + 1) y.k 0 r2.n y.A r2.n y.c y.bs w8 (by have := HM8.out.fitM (off := ((0 : Nat) : Int)) (size := (r2.n : Int)) (wf_nat (k := t + 1) (by omega)) (wf_nat (k := 0) (by omega)) hy (by rw [hy2]; simp [fitsB]); rw [hy2] at this; exact this) (by have := (HM8.out.at_ hy).1; rw [hy2] at this; exact this) (by omega) (by omega)).mono ?_
                        rintro e w9 ⟨vg, rfl, hvg, hb9⟩
                        have hty : (y.bs.drop 0).take r2.n = y.bs := by rw [List.drop_zero]; exact List.take_of_length_le (by omega)
                        rw [hty] at hvg
                        obtain ⟨A4, c4, rfl, _⟩ := owns_slice hvg.1
                        have HS9 := hide (sameBytes_yes A4 A2 r2.n c4 c2 _ y.bs w9 (Rd.of_own hvg.1) (by have := Rd.of_own (owns_kept_below HV8.out hb9); rw [hyb] at this; exact this) (Nat.le_refl _) (by omega))
                        have HM9 := hide (HM8.out.below hb9)
                        have HB9 := hide (HB8.out.trans (hb9.mono HB8.out.size))
                        have HZ9 := hide (Nat.le_trans HS8.out hb9.size)
                        have hkk : (1 + (t : Int) % 5) = y.k := hy1.symm
                        have HKK := hide hkk
                        have HY2 := hide hy2
                        have HYY := hide hy
                        clear hvg hb9 hty hyl hyb hy1 hy2 hy3 hy HV8 HM8 HB8 HS8 hkk
                        go_wp2_with (first
                          | (go_at_call 16; refine HS9.out.mono ?_; rintro e w10 ⟨rfl, hb10⟩; have HM10 := hide (HM9.out.below hb10); have HB10 := hide (HB9.out.trans (hb10.mono HB9.out.size)); have HZ10 := hide (Nat.le_trans HZ9.out hb10.size); clear hb10)
                          | (go_at_call 24; refine (size_of HM10.out (wf_nat (k := t + 1) (by omega)) HYY.out HY2.out).mono ?_; rintro e w11 ⟨rfl, hb11⟩; have HM11 := hide (HM10.out.below hb11); have HB11 := hide (HB10.out.trans (hb11.mono HB10.out.size)); have HZ11 := hide (Nat.le_trans HZ10.out hb11.size); clear hb11)
                          | (go_at_call 22; refine (kind_of HM11.out (wf_nat (k := t + 1) (by omega)) HYY.out HKK.out).mono ?_; rintro e w12 ⟨rfl, hb12⟩; have HM12 := hide (HM11.out.below hb12); have HB12 := hide (HB11.out.trans (hb12.mono HB11.out.size)); have HZ12 := hide (Nat.le_trans HZ11.out hb12.size); clear hb12))
                        go_roundw
                        case rel => exact ⟨t + 1, by omega, by go_num, HM12.out, HB12.out, HZ12.out⟩
                        case measure => simp [intOf]; omega
                    · have htk2 : t = k := by omega
                      subst htk2
                      clear htk ht
                      have hmm0 : True := trivial
                      have HMt := hide HMy.out
                      obtain ⟨y, hy, hy1, hy2, hy3, hy4⟩ := HBU.out.last HWR.out hik HI.out
                      have HY := hide hy
                      have HL2 : Hid (L2.length = t) := HWR.out.len.trans HBU.out.len
                      clear hy hy1 hy2 hy3 hy4 hmm0
                      go_wp2_with fail
                      refine (free_at HMt.out (wf_nat (k := i + 1) (by omega)) HY.out).mono ?_
                      rintro e w6 ⟨rfl, L3, hm6, hl6, hn6, hk6⟩
                      have HN6 : Hid (rowAt L3 ((i : Int) + 1) = none) := hn6
                      have HL3 : Hid (L3.length = t) := hl6.trans HL2.out
                      have HM6 := hide hm6
                      have HB6 := hide (HBy.out.trans ((HMt.out.low_ hk6 HSy.out).mono HBM.out))
                      have HS6 := hide (Nat.le_trans HSy.out hk6.size)
                      clear hm6 hl6 hn6 hk6 HMy HBy HSy HMt
                      go_wp2_with fail
                      refine (gone_free HM6.out (wf_nat (k := i + 1) (by omega)) HN6.out).mono ?_
                      rintro e w7 ⟨rfl, hb7⟩
                      have HM7 := hide (HM6.out.below hb7)
                      have HB7 := hide (HB6.out.trans (hb7.mono HB6.out.size))
                      have HS7 := hide (Nat.le_trans HS6.out hb7.size)
                      clear hb7 HM6 HB6 HS6
                      go_wp2_with fail
                      refine (gone_write HM7.out (wf_nat (k := i + 1) (by omega)) HN6.out).mono ?_
                      rintro e w8 ⟨rfl, hb8⟩
                      have HM8 := hide (HM7.out.below hb8)
                      have HB8 := hide (HB7.out.trans (hb8.mono HB7.out.size))
                      have HS8 := hide (Nat.le_trans HS7.out hb8.size)
                      clear hb8 HM7 HB7 HS7
                      go_wp2_with fail
                      refine (gone_kind HM8.out (wf_nat (k := i + 1) (by omega)) HN6.out).mono ?_
                      rintro e w9 ⟨rfl, hb9⟩
                      have HM9 := hide (HM8.out.below hb9)
                      have HB9 := hide (HB8.out.trans (hb9.mono HB8.out.size))
                      have HS9 := hide (Nat.le_trans HS8.out hb9.size)
                      clear hb9 HM8 HB8 HS8
                      go_wp2_with fail
                      refine (gone_size HM9.out (wf_nat (k := i + 1) (by omega)) HN6.out).mono ?_
                      rintro e w10 ⟨rfl, hb10⟩
                      have HM10 := hide (HM9.out.below hb10)
                      have HB10 := hide (HB9.out.trans (hb10.mono HB9.out.size))
                      have HS10 := hide (Nat.le_trans HS9.out hb10.size)
                      clear hb10 HM9 HB9 HS9
                      by_cases hq4 : q ≤ 4096
                      · have hcut := cut_head S q sc q hqs w10
                        have hmin : min (q : Int) 4096 = q := by omega
                        go_wp2_with fail
                        refine (make_M HM10.out (by have := HL3.out; omega) 4 S q sc B d (by omega) (by omega) hq4 (HD.out.below (HB10.out.mono hB)) HS.out (Nat.le_trans hB HB10.out.size) HS10.out).mono ?_
                        rintro e w11 ⟨x3, rfl, _, _, _, _, hm11, hk11⟩
                        have HB11 := hide (HB10.out.trans ((HM10.out.low_ hk11 HS10.out).mono HBM.out))
                        rw [HL3.out]
                        clear hm11 hk11 hcut hmin
                        go_wp2
                        go_ret
                        exact ⟨rfl, HB11.out⟩
                      · exfalso; omega
                · have HW2 := hide (HW.out false 32 (by simp [fitsB]; omega) rfl)
                  clear HW
                  go_wp2_with fail
                  refine HW2.out.mono ?_
                  rintro e w5 ⟨rfl, L2, hm5, hwr, hk5⟩
                  have HM5 := hide hm5
                  have HWR := hide hwr
                  have HB5 := hide (HBx.out.trans ((HMx.out.low_ hk5 HSx.out).mono HBM.out))
                  have HS5 := hide (Nat.le_trans HSx.out hk5.size)
                  have c2 := (HB5.out.mono hB).cell (p := ad.add i) HLT.out |>.trans (((HBx.out.mono hB).cell (p := ad.add i) HLT.out).symm.trans c1)
                  clear hm5 hwr hk5 HMx HBx HSx HW2 c1
                  go_wp2_with fail
                  clear c2
                  go_loopw [18] (fun u wx => ∃ t : Nat, t ≤ k ∧ u = .int .i64 t ∧ Mem wx B1 b mm L2 ∧ Below w.heap.size w wx ∧ B1 ≤ wx.heap.size) (fun u _ => k - (intOf u).toNat)
                  case atStart => exact ⟨0, by omega, rfl, HM5.out, HB5.out, HS5.out⟩
                  case round =>
                    obtain ⟨t, ht, rfl, hmy, hby, hsy⟩ := hrel
                    obtain ⟨wy, hwy⟩ : ∃ wy, wy = wr := ⟨_, rfl⟩
                    rw [← hwy] at hmy hby hsy ⊢
                    clear hwy
                    have HMy := hide hmy
                    have HBy := hide hby
                    have HSy := hide hsy
                    clear hmy hby hsy HM5 HB5 HS5
                    by_cases htk : t < k
                    · obtain ⟨ad2, r2, e2, hr2, c5⟩ := (HR.out.below (HBy.out.mono hB)).cell htk
                      cases e2
                      obtain ⟨g1, g2, _⟩ := (HR.out.below (HBy.out.mono hB)).inner r2 (List.mem_of_getElem? hr2)
                      obtain ⟨y, hy, hy1, hy2, hy3, hy4⟩ := HBU.out.last HWR.out htk hr2
                      have HR1 := hide g1
                      have HR2 := hide g2
                      have HT2 := hide hr2
                      clear hr2 g1 g2
                      go_wp2_with fail
                      refine (copyBytes_any r2.A r2.n r2.c B r2.bs wy HR1.out HR2.out (Nat.le_trans hB HBy.out.size) (by omega)).mono ?_
                      rintro e w7 ⟨v, rfl, hv, hb7⟩
                      obtain ⟨A2, c2, rfl, _⟩ := owns_slice hv.1
                      have HV := hide hv
                      have HM7 := hide (HMy.out.below hb7)
                      have HB7 := hide (HBy.out.trans (hb7.mono HBy.out.size))
                      have HS7 := hide (Nat.le_trans HSy.out hb7.size)
                      clear hb7 hv c5
                      by_cases hti : t = i
                      · subst hti
                        have HV8 := hide HV.out.1
                        have HM8 := hide HM7.out
                        have HB8 := hide HB7.out
                        have HS8 := hide HS7.out
                        obtain ⟨w8, rfl⟩ : ∃ w8, w8 = w7 := ⟨_, rfl⟩
                        have hyl : y.bs.length = r2.n := by
                          have := (HM8.out.at_ hy).1.1
                          simp [u8s] at this
                          omega
                        have hyb : r2.bs = y.bs := by rw [hy3]; simp
                        go_wp2_with fail
                        refine (read_yes _ ((t : Int) + 1) y.k 0 r2.n y.A r2.n y.c y.bs w8 (by have := HM8.out.fitM (off := ((0 : Nat) : Int)) (size := (r2.n : Int)) (wf_nat (k := t + 1) (by omega)) (wf_nat (k := 0) (by omega)) hy (by rw [hy2]; simp [fitsB]); rw [hy2] at this; exact this) (by have := (HM8.out.at_ hy).1; rw [hy2] at this; exact this) (by omega) (by omega)).mono ?_
                        rintro e w9 ⟨vg, rfl, hvg, hb9⟩
                        have hty : (y.bs.drop 0).take r2.n = y.bs := by rw [List.drop_zero]; exact List.take_of_length_le (by omega)
                        rw [hty] at hvg
                        obtain ⟨A4, c4, rfl, _⟩ := owns_slice hvg.1
                        have HS9 := hide (sameBytes_yes A4 A2 r2.n c4 c2 _ y.bs w9 (Rd.of_own hvg.1) (by have := Rd.of_own (owns_kept_below HV8.out hb9); rw [hyb] at this; exact this) (Nat.le_refl _) (by omega))
                        have HM9 := hide (HM8.out.below hb9)
                        have HB9 := hide (HB8.out.trans (hb9.mono HB8.out.size))
                        have HZ9 := hide (Nat.le_trans HS8.out hb9.size)
                        have hkk : (1 + (t : Int) % 5) = y.k := hy1.symm
                        have HKK := hide hkk
                        have HY2 := hide hy2
                        have HYY := hide hy
                        clear hvg hb9 hty hyl hyb hy1 hy2 hy3 hy HV8 HM8 HB8 HS8 hkk
                        go_wp2_with (first
                          | (go_at_call 16; refine HS9.out.mono ?_; rintro e w10 ⟨rfl, hb10⟩; have HM10 := hide (HM9.out.below hb10); have HB10 := hide (HB9.out.trans (hb10.mono HB9.out.size)); have HZ10 := hide (Nat.le_trans HZ9.out hb10.size); clear hb10)
                          | (go_at_call 24; refine (size_of HM10.out (wf_nat (k := t + 1) (by omega)) HYY.out HY2.out).mono ?_; rintro e w11 ⟨rfl, hb11⟩; have HM11 := hide (HM10.out.below hb11); have HB11 := hide (HB10.out.trans (hb11.mono HB10.out.size)); have HZ11 := hide (Nat.le_trans HZ10.out hb11.size); clear hb11)
                          | (go_at_call 22; refine (kind_of HM11.out (wf_nat (k := t + 1) (by omega)) HYY.out HKK.out).mono ?_; rintro e w12 ⟨rfl, hb12⟩; have HM12 := hide (HM11.out.below hb12); have HB12 := hide (HB11.out.trans (hb12.mono HB11.out.size)); have HZ12 := hide (Nat.le_trans HZ11.out hb12.size); clear hb12))
                        go_roundw
                        case rel => exact ⟨t + 1, by omega, by go_num, HM12.out, HB12.out, HZ12.out⟩
                        case measure => simp [intOf]; omega
                      · have HV8 := hide HV.out.1
                        have HM8 := hide HM7.out
                        have HB8 := hide HB7.out
                        have HS8 := hide HS7.out
                        obtain ⟨w8, rfl⟩ : ∃ w8, w8 = w7 := ⟨_, rfl⟩
                        have hyl : y.bs.length = r2.n := by
                          have := (HM8.out.at_ hy).1.1
                          simp [u8s] at this
                          omega
                        have hyb : r2.bs = y.bs := by rw [hy3]; simp [hti]
                        go_wp2_with fail
                        refine (read_yes _ ((t : Int) + 1) y.k 0 r2.n y.A r2.n y.c y.bs w8 (by have := HM8.out.fitM (off := ((0 : Nat) : Int)) (size := (r2.n : Int)) (wf_nat (k := t + 1) (by omega)) (wf_nat (k := 0) (by omega)) hy (by rw [hy2]; simp [fitsB]); rw [hy2] at this; exact this) (by have := (HM8.out.at_ hy).1; rw [hy2] at this; exact this) (by omega) (by omega)).mono ?_
                        rintro e w9 ⟨vg, rfl, hvg, hb9⟩
                        have hty : (y.bs.drop 0).take r2.n = y.bs := by rw [List.drop_zero]; exact List.take_of_length_le (by omega)
                        rw [hty] at hvg
                        obtain ⟨A4, c4, rfl, _⟩ := owns_slice hvg.1
                        have HS9 := hide (sameBytes_yes A4 A2 r2.n c4 c2 _ y.bs w9 (Rd.of_own hvg.1) (by have := Rd.of_own (owns_kept_below HV8.out hb9); rw [hyb] at this; exact this) (Nat.le_refl _) (by omega))
                        have HM9 := hide (HM8.out.below hb9)
                        have HB9 := hide (HB8.out.trans (hb9.mono HB8.out.size))
                        have HZ9 := hide (Nat.le_trans HS8.out hb9.size)
                        have hkk : (1 + (t : Int) % 5) = y.k := hy1.symm
                        have HKK := hide hkk
                        have HY2 := hide hy2
                        have HYY := hide hy
                        clear hvg hb9 hty hyl hyb hy1 hy2 hy3 hy HV8 HM8 HB8 HS8 hkk
                        go_wp2_with (first
                          | (go_at_call 16; refine HS9.out.mono ?_; rintro e w10 ⟨rfl, hb10⟩; have HM10 := hide (HM9.out.below hb10); have HB10 := hide (HB9.out.trans (hb10.mono HB9.out.size)); have HZ10 := hide (Nat.le_trans HZ9.out hb10.size); clear hb10)
                          | (go_at_call 24; refine (size_of HM10.out (wf_nat (k := t + 1) (by omega)) HYY.out HY2.out).mono ?_; rintro e w11 ⟨rfl, hb11⟩; have HM11 := hide (HM10.out.below hb11); have HB11 := hide (HB10.out.trans (hb11.mono HB10.out.size)); have HZ11 := hide (Nat.le_trans HZ10.out hb11.size); clear hb11)
                          | (go_at_call 22; refine (kind_of HM11.out (wf_nat (k := t + 1) (by omega)) HYY.out HKK.out).mono ?_; rintro e w12 ⟨rfl, hb12⟩; have HM12 := hide (HM11.out.below hb12); have HB12 := hide (HB11.out.trans (hb12.mono HB11.out.size)); have HZ12 := hide (Nat.le_trans HZ11.out hb12.size); clear hb12))
                        go_roundw
                        case rel => exact ⟨t + 1, by omega, by go_num, HM12.out, HB12.out, HZ12.out⟩
                        case measure => simp [intOf]; omega
                    · have htk2 : t = k := by omega
                      subst htk2
                      clear htk ht
                      have hmm0 : True := trivial
                      have HMt := hide HMy.out
                      obtain ⟨y, hy, hy1, hy2, hy3, hy4⟩ := HBU.out.last HWR.out hik HI.out
                      have HY := hide hy
                      have HL2 : Hid (L2.length = t) := HWR.out.len.trans HBU.out.len
                      clear hy hy1 hy2 hy3 hy4 hmm0
                      go_wp2_with fail
                      refine (free_at HMt.out (wf_nat (k := i + 1) (by omega)) HY.out).mono ?_
                      rintro e w6 ⟨rfl, L3, hm6, hl6, hn6, hk6⟩
                      have HN6 : Hid (rowAt L3 ((i : Int) + 1) = none) := hn6
                      have HL3 : Hid (L3.length = t) := hl6.trans HL2.out
                      have HM6 := hide hm6
                      have HB6 := hide (HBy.out.trans ((HMt.out.low_ hk6 HSy.out).mono HBM.out))
                      have HS6 := hide (Nat.le_trans HSy.out hk6.size)
                      clear hm6 hl6 hn6 hk6 HMy HBy HSy HMt
                      go_wp2_with fail
                      refine (gone_free HM6.out (wf_nat (k := i + 1) (by omega)) HN6.out).mono ?_
                      rintro e w7 ⟨rfl, hb7⟩
                      have HM7 := hide (HM6.out.below hb7)
                      have HB7 := hide (HB6.out.trans (hb7.mono HB6.out.size))
                      have HS7 := hide (Nat.le_trans HS6.out hb7.size)
                      clear hb7 HM6 HB6 HS6
                      go_wp2_with fail
                      refine (gone_write HM7.out (wf_nat (k := i + 1) (by omega)) HN6.out).mono ?_
                      rintro e w8 ⟨rfl, hb8⟩
                      have HM8 := hide (HM7.out.below hb8)
                      have HB8 := hide (HB7.out.trans (hb8.mono HB7.out.size))
                      have HS8 := hide (Nat.le_trans HS7.out hb8.size)
                      clear hb8 HM7 HB7 HS7
                      go_wp2_with fail
                      refine (gone_kind HM8.out (wf_nat (k := i + 1) (by omega)) HN6.out).mono ?_
                      rintro e w9 ⟨rfl, hb9⟩
                      have HM9 := hide (HM8.out.below hb9)
                      have HB9 := hide (HB8.out.trans (hb9.mono HB8.out.size))
                      have HS9 := hide (Nat.le_trans HS8.out hb9.size)
                      clear hb9 HM8 HB8 HS8
                      go_wp2_with fail
                      refine (gone_size HM9.out (wf_nat (k := i + 1) (by omega)) HN6.out).mono ?_
                      rintro e w10 ⟨rfl, hb10⟩
                      have HM10 := hide (HM9.out.below hb10)
                      have HB10 := hide (HB9.out.trans (hb10.mono HB9.out.size))
                      have HS10 := hide (Nat.le_trans HS9.out hb10.size)
                      clear hb10 HM9 HB9 HS9
                      by_cases hq4 : q ≤ 4096
                      · have hcut := cut_head S q sc q hqs w10
                        have hmin : min (q : Int) 4096 = q := by omega
                        go_wp2_with fail
                        refine (make_M HM10.out (by have := HL3.out; omega) 4 S q sc B d (by omega) (by omega) hq4 (HD.out.below (HB10.out.mono hB)) HS.out (Nat.le_trans hB HB10.out.size) HS10.out).mono ?_
                        rintro e w11 ⟨x3, rfl, _, _, _, _, hm11, hk11⟩
                        have HB11 := hide (HB10.out.trans ((HM10.out.low_ hk11 HS10.out).mono HBM.out))
                        rw [HL3.out]
                        clear hm11 hk11 hcut hmin
                        go_wp2
                        go_ret
                        exact ⟨rfl, HB11.out⟩
                      · have hcut : (Instr.slice 31 (.slice S q sc) none (some (.int .i64 4096)) none).run Try.prog w10 = .ok (.slice S 4096 sc) w10 := cut_head S q sc 4096 (by omega) w10
                        have hmin : min (q : Int) 4096 = 4096 := by omega
                        have HDT : Hid (Rd w B 1 S 4096 (u8s (d.take 4096))) := rd_take HD.out (by omega)
                        go_wp2_with fail
                        refine (make_M HM10.out (by have := HL3.out; omega) 4 S 4096 sc B (d.take 4096) (by omega) (by omega) (by omega) (HDT.out.below (HB10.out.mono hB)) (fun h => by have := HS.out h; omega) (Nat.le_trans hB HB10.out.size) HS10.out).mono ?_
                        rintro e w11 ⟨x3, rfl, _, _, _, _, hm11, hk11⟩
                        have HB11 := hide (HB10.out.trans ((HM10.out.low_ hk11 HS10.out).mono HBM.out))
                        rw [HL3.out]
                        clear hm11 hk11 hcut hmin
                        go_wp2
                        go_ret
                        exact ⟨rfl, HB11.out⟩
                · have HW2 := hide (HW.out false 32 (by simp [fitsB]; omega) rfl)
                  clear HW
                  obtain ⟨o, rfl⟩ : ∃ o : Nat, off = o := ⟨off.toNat, by omega⟩
                  have v3 : ¬ o ≤ r.n := by omega
                  go_wp2_with fail
                  refine HW2.out.mono ?_
                  rintro e w5 ⟨rfl, L2, hm5, hwr, hk5⟩
                  have HM5 := hide hm5
                  have HWR := hide hwr
                  have HB5 := hide (HBx.out.trans ((HMx.out.low_ hk5 HSx.out).mono HBM.out))
                  have HS5 := hide (Nat.le_trans HSx.out hk5.size)
                  have c2 := (HB5.out.mono hB).cell (p := ad.add i) HLT.out |>.trans (((HBx.out.mono hB).cell (p := ad.add i) HLT.out).symm.trans c1)
                  clear hm5 hwr hk5 HMx HBx HSx HW2 c1
                  go_wp2_with fail
                  clear c2
                  go_loopw [18] (fun u wx => ∃ t : Nat, t ≤ k ∧ u = .int .i64 t ∧ Mem wx B1 b mm L2 ∧ Below w.heap.size w wx ∧ B1 ≤ wx.heap.size) (fun u _ => k - (intOf u).toNat)
                  case atStart => exact ⟨0, by omega, rfl, HM5.out, HB5.out, HS5.out⟩
                  case round =>
                    obtain ⟨t, ht, rfl, hmy, hby, hsy⟩ := hrel
                    obtain ⟨wy, hwy⟩ : ∃ wy, wy = wr := ⟨_, rfl⟩
                    rw [← hwy] at hmy hby hsy ⊢
                    clear hwy
                    have HMy := hide hmy
                    have HBy := hide hby
                    have HSy := hide hsy
                    clear hmy hby hsy HM5 HB5 HS5
                    by_cases htk : t < k
                    · obtain ⟨ad2, r2, e2, hr2, c5⟩ := (HR.out.below (HBy.out.mono hB)).cell htk
                      cases e2
                      obtain ⟨g1, g2, _⟩ := (HR.out.below (HBy.out.mono hB)).inner r2 (List.mem_of_getElem? hr2)
                      obtain ⟨y, hy, hy1, hy2, hy3, hy4⟩ := HBU.out.last HWR.out htk hr2
                      have HR1 := hide g1
                      have HR2 := hide g2
                      have HT2 := hide hr2
                      clear hr2 g1 g2
                      go_wp2_with fail
                      refine (copyBytes_any r2.A r2.n r2.c B r2.bs wy HR1.out HR2.out (Nat.le_trans hB HBy.out.size) (by omega)).mono ?_
                      rintro e w7 ⟨v, rfl, hv, hb7⟩
                      obtain ⟨A2, c2, rfl, _⟩ := owns_slice hv.1
                      have HV := hide hv
                      have HM7 := hide (HMy.out.below hb7)
                      have HB7 := hide (HBy.out.trans (hb7.mono HBy.out.size))
                      have HS7 := hide (Nat.le_trans HSy.out hb7.size)
                      clear hb7 hv c5
                      by_cases hti : t = i
                      · subst hti
                        have HV8 := hide HV.out.1
                        have HM8 := hide HM7.out
                        have HB8 := hide HB7.out
                        have HS8 := hide HS7.out
                        obtain ⟨w8, rfl⟩ : ∃ w8, w8 = w7 := ⟨_, rfl⟩
                        have hyl : y.bs.length = r2.n := by
                          have := (HM8.out.at_ hy).1.1
                          simp [u8s] at this
                          omega
                        have hyb : r2.bs = y.bs := by rw [hy3]; simp
                        go_wp2_with fail
                        refine (read_yes _ ((t : Int) + 1) y.k 0 r2.n y.A r2.n y.c y.bs w8 (by have := HM8.out.fitM (off := ((0 : Nat) : Int)) (size := (r2.n : Int)) (wf_nat (k := t + 1) (by omega)) (wf_nat (k := 0) (by omega)) hy (by rw [hy2]; simp [fitsB]); rw [hy2] at this; exact this) (by have := (HM8.out.at_ hy).1; rw [hy2] at this; exact this) (by omega) (by omega)).mono ?_
                        rintro e w9 ⟨vg, rfl, hvg, hb9⟩
                        have hty : (y.bs.drop 0).take r2.n = y.bs := by rw [List.drop_zero]; exact List.take_of_length_le (by omega)
                        rw [hty] at hvg
                        obtain ⟨A4, c4, rfl, _⟩ := owns_slice hvg.1
                        have HS9 := hide (sameBytes_yes A4 A2 r2.n c4 c2 _ y.bs w9 (Rd.of_own hvg.1) (by have := Rd.of_own (owns_kept_below HV8.out hb9); rw [hyb] at this; exact this) (Nat.le_refl _) (by omega))
                        have HM9 := hide (HM8.out.below hb9)
                        have HB9 := hide (HB8.out.trans (hb9.mono HB8.out.size))
                        have HZ9 := hide (Nat.le_trans HS8.out hb9.size)
                        have hkk : (1 + (t : Int) % 5) = y.k := hy1.symm
                        have HKK := hide hkk
                        have HY2 := hide hy2
                        have HYY := hide hy
                        clear hvg hb9 hty hyl hyb hy1 hy2 hy3 hy HV8 HM8 HB8 HS8 hkk
                        go_wp2_with (first
                          | (go_at_call 16; refine HS9.out.mono ?_; rintro e w10 ⟨rfl, hb10⟩; have HM10 := hide (HM9.out.below hb10); have HB10 := hide (HB9.out.trans (hb10.mono HB9.out.size)); have HZ10 := hide (Nat.le_trans HZ9.out hb10.size); clear hb10)
                          | (go_at_call 24; refine (size_of HM10.out (wf_nat (k := t + 1) (by omega)) HYY.out HY2.out).mono ?_; rintro e w11 ⟨rfl, hb11⟩; have HM11 := hide (HM10.out.below hb11); have HB11 := hide (HB10.out.trans (hb11.mono HB10.out.size)); have HZ11 := hide (Nat.le_trans HZ10.out hb11.size); clear hb11)
                          | (go_at_call 22; refine (kind_of HM11.out (wf_nat (k := t + 1) (by omega)) HYY.out HKK.out).mono ?_; rintro e w12 ⟨rfl, hb12⟩; have HM12 := hide (HM11.out.below hb12); have HB12 := hide (HB11.out.trans (hb12.mono HB11.out.size)); have HZ12 := hide (Nat.le_trans HZ11.out hb12.size); clear hb12))
                        go_roundw
                        case rel => exact ⟨t + 1, by omega, by go_num, HM12.out, HB12.out, HZ12.out⟩
                        case measure => simp [intOf]; omega
                      · have HV8 := hide HV.out.1
                        have HM8 := hide HM7.out
                        have HB8 := hide HB7.out
                        have HS8 := hide HS7.out
                        obtain ⟨w8, rfl⟩ : ∃ w8, w8 = w7 := ⟨_, rfl⟩
                        have hyl : y.bs.length = r2.n := by
                          have := (HM8.out.at_ hy).1.1
                          simp [u8s] at this
                          omega
                        have hyb : r2.bs = y.bs := by rw [hy3]; simp [hti]
                        go_wp2_with fail
                        refine (read_yes _ ((t : Int) + 1) y.k 0 r2.n y.A r2.n y.c y.bs w8 (by have := HM8.out.fitM (off := ((0 : Nat) : Int)) (size := (r2.n : Int)) (wf_nat (k := t + 1) (by omega)) (wf_nat (k := 0) (by omega)) hy (by rw [hy2]; simp [fitsB]); rw [hy2] at this; exact this) (by have := (HM8.out.at_ hy).1; rw [hy2] at this; exact this) (by omega) (by omega)).mono ?_
                        rintro e w9 ⟨vg, rfl, hvg, hb9⟩
                        have hty : (y.bs.drop 0).take r2.n = y.bs := by rw [List.drop_zero]; exact List.take_of_length_le (by omega)
                        rw [hty] at hvg
                        obtain ⟨A4, c4, rfl, _⟩ := owns_slice hvg.1
                        have HS9 := hide (sameBytes_yes A4 A2 r2.n c4 c2 _ y.bs w9 (Rd.of_own hvg.1) (by have := Rd.of_own (owns_kept_below HV8.out hb9); rw [hyb] at this; exact this) (Nat.le_refl _) (by omega))
                        have HM9 := hide (HM8.out.below hb9)
                        have HB9 := hide (HB8.out.trans (hb9.mono HB8.out.size))
                        have HZ9 := hide (Nat.le_trans HS8.out hb9.size)
                        have hkk : (1 + (t : Int) % 5) = y.k := hy1.symm
                        have HKK := hide hkk
                        have HY2 := hide hy2
                        have HYY := hide hy
                        clear hvg hb9 hty hyl hyb hy1 hy2 hy3 hy HV8 HM8 HB8 HS8 hkk
                        go_wp2_with (first
                          | (go_at_call 16; refine HS9.out.mono ?_; rintro e w10 ⟨rfl, hb10⟩; have HM10 := hide (HM9.out.below hb10); have HB10 := hide (HB9.out.trans (hb10.mono HB9.out.size)); have HZ10 := hide (Nat.le_trans HZ9.out hb10.size); clear hb10)
                          | (go_at_call 24; refine (size_of HM10.out (wf_nat (k := t + 1) (by omega)) HYY.out HY2.out).mono ?_; rintro e w11 ⟨rfl, hb11⟩; have HM11 := hide (HM10.out.below hb11); have HB11 := hide (HB10.out.trans (hb11.mono HB10.out.size)); have HZ11 := hide (Nat.le_trans HZ10.out hb11.size); clear hb11)
                          | (go_at_call 22; refine (kind_of HM11.out (wf_nat (k := t + 1) (by omega)) HYY.out HKK.out).mono ?_; rintro e w12 ⟨rfl, hb12⟩; have HM12 := hide (HM11.out.below hb12); have HB12 := hide (HB11.out.trans (hb12.mono HB11.out.size)); have HZ12 := hide (Nat.le_trans HZ11.out hb12.size); clear hb12))
                        go_roundw
                        case rel => exact ⟨t + 1, by omega, by go_num, HM12.out, HB12.out, HZ12.out⟩
                        case measure => simp [intOf]; omega
                    · have htk2 : t = k := by omega
                      subst htk2
                      clear htk ht
                      have hmm0 : True := trivial
                      have HMt := hide HMy.out
                      obtain ⟨y, hy, hy1, hy2, hy3, hy4⟩ := HBU.out.last HWR.out hik HI.out
                      have HY := hide hy
                      have HL2 : Hid (L2.length = t) := HWR.out.len.trans HBU.out.len
                      clear hy hy1 hy2 hy3 hy4 hmm0
                      go_wp2_with fail
                      refine (free_at HMt.out (wf_nat (k := i + 1) (by omega)) HY.out).mono ?_
                      rintro e w6 ⟨rfl, L3, hm6, hl6, hn6, hk6⟩
                      have HN6 : Hid (rowAt L3 ((i : Int) + 1) = none) := hn6
                      have HL3 : Hid (L3.length = t) := hl6.trans HL2.out
                      have HM6 := hide hm6
                      have HB6 := hide (HBy.out.trans ((HMt.out.low_ hk6 HSy.out).mono HBM.out))
                      have HS6 := hide (Nat.le_trans HSy.out hk6.size)
                      clear hm6 hl6 hn6 hk6 HMy HBy HSy HMt
                      go_wp2_with fail
                      refine (gone_free HM6.out (wf_nat (k := i + 1) (by omega)) HN6.out).mono ?_
                      rintro e w7 ⟨rfl, hb7⟩
                      have HM7 := hide (HM6.out.below hb7)
                      have HB7 := hide (HB6.out.trans (hb7.mono HB6.out.size))
                      have HS7 := hide (Nat.le_trans HS6.out hb7.size)
                      clear hb7 HM6 HB6 HS6
                      go_wp2_with fail
                      refine (gone_write HM7.out (wf_nat (k := i + 1) (by omega)) HN6.out).mono ?_
                      rintro e w8 ⟨rfl, hb8⟩
                      have HM8 := hide (HM7.out.below hb8)
                      have HB8 := hide (HB7.out.trans (hb8.mono HB7.out.size))
                      have HS8 := hide (Nat.le_trans HS7.out hb8.size)
                      clear hb8 HM7 HB7 HS7
                      go_wp2_with fail
                      refine (gone_kind HM8.out (wf_nat (k := i + 1) (by omega)) HN6.out).mono ?_
                      rintro e w9 ⟨rfl, hb9⟩
                      have HM9 := hide (HM8.out.below hb9)
                      have HB9 := hide (HB8.out.trans (hb9.mono HB8.out.size))
                      have HS9 := hide (Nat.le_trans HS8.out hb9.size)
                      clear hb9 HM8 HB8 HS8
                      go_wp2_with fail
                      refine (gone_size HM9.out (wf_nat (k := i + 1) (by omega)) HN6.out).mono ?_
                      rintro e w10 ⟨rfl, hb10⟩
                      have HM10 := hide (HM9.out.below hb10)
                      have HB10 := hide (HB9.out.trans (hb10.mono HB9.out.size))
                      have HS10 := hide (Nat.le_trans HS9.out hb10.size)
                      clear hb10 HM9 HB9 HS9
                      by_cases hq4 : q ≤ 4096
                      · have hcut := cut_head S q sc q hqs w10
                        have hmin : min (q : Int) 4096 = q := by omega
                        go_wp2_with fail
                        refine (make_M HM10.out (by have := HL3.out; omega) 4 S q sc B d (by omega) (by omega) hq4 (HD.out.below (HB10.out.mono hB)) HS.out (Nat.le_trans hB HB10.out.size) HS10.out).mono ?_
                        rintro e w11 ⟨x3, rfl, _, _, _, _, hm11, hk11⟩
                        have HB11 := hide (HB10.out.trans ((HM10.out.low_ hk11 HS10.out).mono HBM.out))
                        rw [HL3.out]
                        clear hm11 hk11 hcut hmin
                        go_wp2
                        go_ret
                        exact ⟨rfl, HB11.out⟩
                      · have hcut : (Instr.slice 31 (.slice S q sc) none (some (.int .i64 4096)) none).run Try.prog w10 = .ok (.slice S 4096 sc) w10 := cut_head S q sc 4096 (by omega) w10
                        have hmin : min (q : Int) 4096 = 4096 := by omega
                        have HDT : Hid (Rd w B 1 S 4096 (u8s (d.take 4096))) := rd_take HD.out (by omega)
                        go_wp2_with fail
                        refine (make_M HM10.out (by have := HL3.out; omega) 4 S 4096 sc B (d.take 4096) (by omega) (by omega) (by omega) (HDT.out.below (HB10.out.mono hB)) (fun h => by have := HS.out h; omega) (Nat.le_trans hB HB10.out.size) HS10.out).mono ?_
                        rintro e w11 ⟨x3, rfl, _, _, _, _, hm11, hk11⟩
                        have HB11 := hide (HB10.out.trans ((HM10.out.low_ hk11 HS10.out).mono HBM.out))
                        rw [HL3.out]
                        clear hm11 hk11 hcut hmin
                        go_wp2
                        go_ret
                        exact ⟨rfl, HB11.out⟩
                · have HW2 := hide (HW.out false 32 (by simp [fitsB]; omega) rfl)
                  clear HW
                  obtain ⟨o, rfl⟩ : ∃ o : Nat, off = o := ⟨off.toNat, by omega⟩
                  have v4 : o ≤ r.n := by omega
                  have v5 : decide ((q : Int) ≤ (r.n : Int) - (o : Int)) = false := by simp; omega
                  go_wp2_with fail
                  refine HW2.out.mono ?_
                  rintro e w5 ⟨rfl, L2, hm5, hwr, hk5⟩
                  have HM5 := hide hm5
                  have HWR := hide hwr
                  have HB5 := hide (HBx.out.trans ((HMx.out.low_ hk5 HSx.out).mono HBM.out))
                  have HS5 := hide (Nat.le_trans HSx.out hk5.size)
                  have c2 := (HB5.out.mono hB).cell (p := ad.add i) HLT.out |>.trans (((HBx.out.mono hB).cell (p := ad.add i) HLT.out).symm.trans c1)
                  clear hm5 hwr hk5 HMx HBx HSx HW2 c1
                  go_wp2_with fail
                  clear c2
                  go_loopw [18] (fun u wx => ∃ t : Nat, t ≤ k ∧ u = .int .i64 t ∧ Mem wx B1 b mm L2 ∧ Below w.heap.size w wx ∧ B1 ≤ wx.heap.size) (fun u _ => k - (intOf u).toNat)
                  case atStart => exact ⟨0, by omega, rfl, HM5.out, HB5.out, HS5.out⟩
                  case round =>
                    obtain ⟨t, ht, rfl, hmy, hby, hsy⟩ := hrel
                    obtain ⟨wy, hwy⟩ : ∃ wy, wy = wr := ⟨_, rfl⟩
                    rw [← hwy] at hmy hby hsy ⊢
                    clear hwy
                    have HMy := hide hmy
                    have HBy := hide hby
                    have HSy := hide hsy
                    clear hmy hby hsy HM5 HB5 HS5
                    by_cases htk : t < k
                    · obtain ⟨ad2, r2, e2, hr2, c5⟩ := (HR.out.below (HBy.out.mono hB)).cell htk
                      cases e2
                      obtain ⟨g1, g2, _⟩ := (HR.out.below (HBy.out.mono hB)).inner r2 (List.mem_of_getElem? hr2)
                      obtain ⟨y, hy, hy1, hy2, hy3, hy4⟩ := HBU.out.last HWR.out htk hr2
                      have HR1 := hide g1
                      have HR2 := hide g2
                      have HT2 := hide hr2
                      clear hr2 g1 g2
                      go_wp2_with fail
                      refine (copyBytes_any r2.A r2.n r2.c B r2.bs wy HR1.out HR2.out (Nat.le_trans hB HBy.out.size) (by omega)).mono ?_
                      rintro e w7 ⟨v, rfl, hv, hb7⟩
                      obtain ⟨A2, c2, rfl, _⟩ := owns_slice hv.1
                      have HV := hide hv
                      have HM7 := hide (HMy.out.below hb7)
                      have HB7 := hide (HBy.out.trans (hb7.mono HBy.out.size))
                      have HS7 := hide (Nat.le_trans HSy.out hb7.size)
                      clear hb7 hv c5
                      by_cases hti : t = i
                      · subst hti
                        have HV8 := hide HV.out.1
                        have HM8 := hide HM7.out
                        have HB8 := hide HB7.out
                        have HS8 := hide HS7.out
                        obtain ⟨w8, rfl⟩ : ∃ w8, w8 = w7 := ⟨_, rfl⟩
                        have hyl : y.bs.length = r2.n := by
                          have := (HM8.out.at_ hy).1.1
                          simp [u8s] at this
                          omega
                        have hyb : r2.bs = y.bs := by rw [hy3]; simp
                        go_wp2_with fail
                        refine (read_yes _ ((t : Int) + 1) y.k 0 r2.n y.A r2.n y.c y.bs w8 (by have := HM8.out.fitM (off := ((0 : Nat) : Int)) (size := (r2.n : Int)) (wf_nat (k := t + 1) (by omega)) (wf_nat (k := 0) (by omega)) hy (by rw [hy2]; simp [fitsB]); rw [hy2] at this; exact this) (by have := (HM8.out.at_ hy).1; rw [hy2] at this; exact this) (by omega) (by omega)).mono ?_
                        rintro e w9 ⟨vg, rfl, hvg, hb9⟩
                        have hty : (y.bs.drop 0).take r2.n = y.bs := by rw [List.drop_zero]; exact List.take_of_length_le (by omega)
                        rw [hty] at hvg
                        obtain ⟨A4, c4, rfl, _⟩ := owns_slice hvg.1
                        have HS9 := hide (sameBytes_yes A4 A2 r2.n c4 c2 _ y.bs w9 (Rd.of_own hvg.1) (by have := Rd.of_own (owns_kept_below HV8.out hb9); rw [hyb] at this; exact this) (Nat.le_refl _) (by omega))
                        have HM9 := hide (HM8.out.below hb9)
                        have HB9 := hide (HB8.out.trans (hb9.mono HB8.out.size))
                        have HZ9 := hide (Nat.le_trans HS8.out hb9.size)
                        have hkk : (1 + (t : Int) % 5) = y.k := hy1.symm
                        have HKK := hide hkk
                        have HY2 := hide hy2
                        have HYY := hide hy
                        clear hvg hb9 hty hyl hyb hy1 hy2 hy3 hy HV8 HM8 HB8 HS8 hkk
                        go_wp2_with (first
                          | (go_at_call 16; refine HS9.out.mono ?_; rintro e w10 ⟨rfl, hb10⟩; have HM10 := hide (HM9.out.below hb10); have HB10 := hide (HB9.out.trans (hb10.mono HB9.out.size)); have HZ10 := hide (Nat.le_trans HZ9.out hb10.size); clear hb10)
                          | (go_at_call 24; refine (size_of HM10.out (wf_nat (k := t + 1) (by omega)) HYY.out HY2.out).mono ?_; rintro e w11 ⟨rfl, hb11⟩; have HM11 := hide (HM10.out.below hb11); have HB11 := hide (HB10.out.trans (hb11.mono HB10.out.size)); have HZ11 := hide (Nat.le_trans HZ10.out hb11.size); clear hb11)
                          | (go_at_call 22; refine (kind_of HM11.out (wf_nat (k := t + 1) (by omega)) HYY.out HKK.out).mono ?_; rintro e w12 ⟨rfl, hb12⟩; have HM12 := hide (HM11.out.below hb12); have HB12 := hide (HB11.out.trans (hb12.mono HB11.out.size)); have HZ12 := hide (Nat.le_trans HZ11.out hb12.size); clear hb12))
                        go_roundw
                        case rel => exact ⟨t + 1, by omega, by go_num, HM12.out, HB12.out, HZ12.out⟩
                        case measure => simp [intOf]; omega
                      · have HV8 := hide HV.out.1
                        have HM8 := hide HM7.out
                        have HB8 := hide HB7.out
                        have HS8 := hide HS7.out
                        obtain ⟨w8, rfl⟩ : ∃ w8, w8 = w7 := ⟨_, rfl⟩
                        have hyl : y.bs.length = r2.n := by
                          have := (HM8.out.at_ hy).1.1
                          simp [u8s] at this
                          omega
                        have hyb : r2.bs = y.bs := by rw [hy3]; simp [hti]
                        go_wp2_with fail
                        refine (read_yes _ ((t : Int) + 1) y.k 0 r2.n y.A r2.n y.c y.bs w8 (by have := HM8.out.fitM (off := ((0 : Nat) : Int)) (size := (r2.n : Int)) (wf_nat (k := t + 1) (by omega)) (wf_nat (k := 0) (by omega)) hy (by rw [hy2]; simp [fitsB]); rw [hy2] at this; exact this) (by have := (HM8.out.at_ hy).1; rw [hy2] at this; exact this) (by omega) (by omega)).mono ?_
                        rintro e w9 ⟨vg, rfl, hvg, hb9⟩
                        have hty : (y.bs.drop 0).take r2.n = y.bs := by rw [List.drop_zero]; exact List.take_of_length_le (by omega)
                        rw [hty] at hvg
                        obtain ⟨A4, c4, rfl, _⟩ := owns_slice hvg.1
                        have HS9 := hide (sameBytes_yes A4 A2 r2.n c4 c2 _ y.bs w9 (Rd.of_own hvg.1) (by have := Rd.of_own (owns_kept_below HV8.out hb9); rw [hyb] at this; exact this) (Nat.le_refl _) (by omega))
                        have HM9 := hide (HM8.out.below hb9)
                        have HB9 := hide (HB8.out.trans (hb9.mono HB8.out.size))
                        have HZ9 := hide (Nat.le_trans HS8.out hb9.size)
                        have hkk : (1 + (t : Int) % 5) = y.k := hy1.symm
                        have HKK := hide hkk
                        have HY2 := hide hy2
                        have HYY := hide hy
                        clear hvg hb9 hty hyl hyb hy1 hy2 hy3 hy HV8 HM8 HB8 HS8 hkk
                        go_wp2_with (first
                          | (go_at_call 16; refine HS9.out.mono ?_; rintro e w10 ⟨rfl, hb10⟩; have HM10 := hide (HM9.out.below hb10); have HB10 := hide (HB9.out.trans (hb10.mono HB9.out.size)); have HZ10 := hide (Nat.le_trans HZ9.out hb10.size); clear hb10)
                          | (go_at_call 24; refine (size_of HM10.out (wf_nat (k := t + 1) (by omega)) HYY.out HY2.out).mono ?_; rintro e w11 ⟨rfl, hb11⟩; have HM11 := hide (HM10.out.below hb11); have HB11 := hide (HB10.out.trans (hb11.mono HB10.out.size)); have HZ11 := hide (Nat.le_trans HZ10.out hb11.size); clear hb11)
                          | (go_at_call 22; refine (kind_of HM11.out (wf_nat (k := t + 1) (by omega)) HYY.out HKK.out).mono ?_; rintro e w12 ⟨rfl, hb12⟩; have HM12 := hide (HM11.out.below hb12); have HB12 := hide (HB11.out.trans (hb12.mono HB11.out.size)); have HZ12 := hide (Nat.le_trans HZ11.out hb12.size); clear hb12))
                        go_roundw
                        case rel => exact ⟨t + 1, by omega, by go_num, HM12.out, HB12.out, HZ12.out⟩
                        case measure => simp [intOf]; omega
                    · have htk2 : t = k := by omega
                      subst htk2
                      clear htk ht
                      have hmm0 : True := trivial
                      have HMt := hide HMy.out
                      obtain ⟨y, hy, hy1, hy2, hy3, hy4⟩ := HBU.out.last HWR.out hik HI.out
                      have HY := hide hy
                      have HL2 : Hid (L2.length = t) := HWR.out.len.trans HBU.out.len
                      clear hy hy1 hy2 hy3 hy4 hmm0
                      go_wp2_with fail
                      refine (free_at HMt.out (wf_nat (k := i + 1) (by omega)) HY.out).mono ?_
                      rintro e w6 ⟨rfl, L3, hm6, hl6, hn6, hk6⟩
                      have HN6 : Hid (rowAt L3 ((i : Int) + 1) = none) := hn6
                      have HL3 : Hid (L3.length = t) := hl6.trans HL2.out
                      have HM6 := hide hm6
                      have HB6 := hide (HBy.out.trans ((HMt.out.low_ hk6 HSy.out).mono HBM.out))
                      have HS6 := hide (Nat.le_trans HSy.out hk6.size)
                      clear hm6 hl6 hn6 hk6 HMy HBy HSy HMt
                      go_wp2_with fail
                      refine (gone_free HM6.out (wf_nat (k := i + 1) (by omega)) HN6.out).mono ?_
                      rintro e w7 ⟨rfl, hb7⟩
                      have HM7 := hide (HM6.out.below hb7)
                      have HB7 := hide (HB6.out.trans (hb7.mono HB6.out.size))
                      have HS7 := hide (Nat.le_trans HS6.out hb7.size)
                      clear hb7 HM6 HB6 HS6
                      go_wp2_with fail
                      refine (gone_write HM7.out (wf_nat (k := i + 1) (by omega)) HN6.out).mono ?_
                      rintro e w8 ⟨rfl, hb8⟩
                      have HM8 := hide (HM7.out.below hb8)
                      have HB8 := hide (HB7.out.trans (hb8.mono HB7.out.size))
                      have HS8 := hide (Nat.le_trans HS7.out hb8.size)
                      clear hb8 HM7 HB7 HS7
                      go_wp2_with fail
                      refine (gone_kind HM8.out (wf_nat (k := i + 1) (by omega)) HN6.out).mono ?_
                      rintro e w9 ⟨rfl, hb9⟩
                      have HM9 := hide (HM8.out.below hb9)
                      have HB9 := hide (HB8.out.trans (hb9.mono HB8.out.size))
                      have HS9 := hide (Nat.le_trans HS8.out hb9.size)
                      clear hb9 HM8 HB8 HS8
                      go_wp2_with fail
                      refine (gone_size HM9.out (wf_nat (k := i + 1) (by omega)) HN6.out).mono ?_
                      rintro e w10 ⟨rfl, hb10⟩
                      have HM10 := hide (HM9.out.below hb10)
                      have HB10 := hide (HB9.out.trans (hb10.mono HB9.out.size))
                      have HS10 := hide (Nat.le_trans HS9.out hb10.size)
                      clear hb10 HM9 HB9 HS9
                      by_cases hq4 : q ≤ 4096
                      · have hcut := cut_head S q sc q hqs w10
                        have hmin : min (q : Int) 4096 = q := by omega
                        go_wp2_with fail
                        refine (make_M HM10.out (by have := HL3.out; omega) 4 S q sc B d (by omega) (by omega) hq4 (HD.out.below (HB10.out.mono hB)) HS.out (Nat.le_trans hB HB10.out.size) HS10.out).mono ?_
                        rintro e w11 ⟨x3, rfl, _, _, _, _, hm11, hk11⟩
                        have HB11 := hide (HB10.out.trans ((HM10.out.low_ hk11 HS10.out).mono HBM.out))
                        rw [HL3.out]
                        clear hm11 hk11 hcut hmin
                        go_wp2
                        go_ret
                        exact ⟨rfl, HB11.out⟩
                      · have hcut : (Instr.slice 31 (.slice S q sc) none (some (.int .i64 4096)) none).run Try.prog w10 = .ok (.slice S 4096 sc) w10 := cut_head S q sc 4096 (by omega) w10
                        have hmin : min (q : Int) 4096 = 4096 := by omega
                        have HDT : Hid (Rd w B 1 S 4096 (u8s (d.take 4096))) := rd_take HD.out (by omega)
                        go_wp2_with fail
                        refine (make_M HM10.out (by have := HL3.out; omega) 4 S 4096 sc B (d.take 4096) (by omega) (by omega) (by omega) (HDT.out.below (HB10.out.mono hB)) (fun h => by have := HS.out h; omega) (Nat.le_trans hB HB10.out.size) HS10.out).mono ?_
                        rintro e w11 ⟨x3, rfl, _, _, _, _, hm11, hk11⟩
                        have HB11 := hide (HB10.out.trans ((HM10.out.low_ hk11 HS10.out).mono HBM.out))
                        rw [HL3.out]
                        clear hm11 hk11 hcut hmin
                        go_wp2
                        go_ret
                        exact ⟨rfl, HB11.out⟩
end Go.Proofs.Ytbllnjkagleenaa
