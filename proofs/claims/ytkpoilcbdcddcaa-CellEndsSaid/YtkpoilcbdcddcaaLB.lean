/-
  What is written is read, and loaded: CellBytes' walk.
-/
import Derived.Test.YtkpoilcbdcddcaaK2
namespace Go.Proofs.Ytkpoilcbdcddcaa
open Go.RowKit
set_option linter.unusedVariables false
set_option linter.unusedSimpArgs false

theorem put_got {A : AS} {o k n : Nat} {l : List Int} (h : k + n ≤ l.length) : (A.put o l).got (o + k) n = some ((l.drop k).take n) := by
  rw [AS.got_iff]
  refine ⟨by rw [List.length_take, List.length_drop]; omega, fun i hi => ?_⟩
  rw [AS.put_pl, if_pos (by omega), List.getElem?_take_of_lt hi, List.getElem?_drop]
  exact congrArg (l[·]?) (by omega)
theorem put_none_wh (o : Nat) (l : List Int) (g : Nat) : ((AS.none.put o l).wh g).k = 0 := by
  rw [AS.put_wh]
  split <;> rfl
theorem placed_nat {o q k n : Nat} (h : o + q ≤ 512) (hk : k + n ≤ q) : placedB ((o + k : Nat) : Int) (n : Int) = true := by
  unfold placedB
  simp only [Bool.and_eq_true, decide_eq_true_eq]
  omega
set_option maxRecDepth 100000 in
/-- The word of the last bytes, highest first. -/
theorem word_shift (x : Nat) (b : Nat) (hb : b < 256) (hx : x * 256 + b < 18446744073709551616) : bits .or .u64 (IntKind.u64.wrap ((x : Int) * 2 ^ 8)) (IntKind.u64.wrap (b : Int)) = ((x * 256 + b : Nat) : Int) := by
  have g1 : x * 256 < 18446744073709551616 := by omega
  have g2 : b < 18446744073709551616 := by omega
  have h1 : IntKind.u64.wrap ((x : Int) * 2 ^ 8) = ((x * 256 : Nat) : Int) := by simp [IntKind.wrap, IntKind.bits, IntKind.signed]; omega
  have h2 : IntKind.u64.wrap (b : Int) = (b : Int) := by simp [IntKind.wrap, IntKind.bits, IntKind.signed]; omega
  rw [h1, h2, u64_or_nat (x * 256) b g1 g2]
  have h3 := Nat.two_pow_add_eq_or_of_lt (i := 8) (show b < 2 ^ 8 from hb) x
  have h4 : (2 : Nat) ^ 8 = 256 := rfl
  rw [h4, Nat.mul_comm 256 x] at h3
  rw [← h3]
theorem wordM_cons (l : List Int) (i : Nat) (x : Int) (h : l[i]? = some x) : wordM (l.drop i) = x + 256 * wordM (l.drop (i + 1)) := by
  obtain ⟨hi, rfl⟩ := List.getElem?_eq_some_iff.1 h
  rw [List.drop_eq_getElem_cons hi, wordM]
theorem load_at {b o i n : Nat} {A : AS} {l : List Int} (hok : A.Ok) (hg : A.got (o + i) n = some l) (hn : sizedB n = true) (hp : placedB ((o + i : Nat) : Int) n = true) (hw : ∀ g, (A.wh g).k = 0) (W : World) (h : PS W b A) :
    Calls Try.prog 12 #[.pointer (some ⟨b, 0, none⟩), .int .i64 ((o : Int) + (i : Int)), .int .i64 n] W fun e w' => e = .returned (.tuple #[.agg #[.int .u8 1, .int .u64 (wordM l), .int .i64 0, .int .i64 0], .int .i64 0]) ∧ Below W.heap.size W w' := by
  have h5 := (placed_of hp).2
  have := load_any b A ((o + i : Nat) : Int) n W h hok (by omega)
  rw [loadM_at A (o + i) n hn hp (by rw [hw]; simp), hg] at this
  rw [Int.natCast_add] at this
  exact this
set_option maxRecDepth 100000 in
set_option maxHeartbeats 4000000 in
theorem law_cellBytes (off at_ : Int) (S : Option Addr) (q sc : Nat) (l : List Int) (w : World) (hs : Rd w w.heap.size 1 S q (u8s l)) (hc : q ≤ sc) (hby : ∀ x ∈ l, 0 ≤ x ∧ x < 256) (ho : off ≤ 9223372036854775807) (ha1 : -9223372036854775808 ≤ at_) (ha2 : at_ ≤ 9223372036854775807) :
    Calls Try.prog 7 #[.int .i64 off, .slice S q sc, .int .i64 at_] w fun e w' => e = .returned (.bool true) ∧ Below w.heap.size w w' := by
  have hll : l.length = q := by have := hs.1; simpa [u8s] using this
  go_enter Try.func7, Try.ntmps7
  go_wp2_with fail
  refine (awake_any _).mono ?_
  rintro e w1 ⟨rfl, hb⟩
  have HB1 := hide hb
  clear hb
  by_cases hq : 600 < q
  · have hd : decide (600 < (q : Int)) = true := decide_eq_true (by omega)
    clear hs
    go_wp2
    go_ret
    exact ⟨rfl, HB1.out⟩
  have hd : decide (600 < (q : Int)) = false := decide_eq_false (by omega)
  have HSr := hide hs
  clear hs
  go_wp2_with fail
  refine (new_any w1).mono ?_
  rintro e w2 ⟨rfl, hp, hb⟩
  have HP2 := hide hp
  have HB2 := hide (HB1.out.trans (hb.mono HB1.out.size))
  have hz := HB1.out.size
  obtain ⟨b, hbe⟩ : ∃ b, b = w1.heap.size := ⟨_, rfl⟩
  rw [← hbe] at HP2 hz ⊢
  have hsrc : Src w2 b S q l := (HSr.out.below HB2.out).src hz HB2.out.size
  have hw := write_any b AS.none off S q sc l w2 HP2.out hsrc hc ho
  clear hp hb hsrc hbe
  by_cases h5 : 512 < q
  · have e5 : decide (512 < (q : Int)) = true := decide_eq_true (by omega)
    rw [show writeM AS.none off l = (2, AS.none) by simp [writeM, hll, h5]] at hw
    have HW := hide hw
    clear hw
    go_wp2_with (go_at_call 19; refine (HW.out).mono ?_; rintro e w3 ⟨rfl, hp, ht⟩; have HB3 := hide (ht.below HB2.out hz (Nat.le_refl _)); clear hp ht)
    go_ret
    exact ⟨rfl, HB3.out⟩
  have e5 : decide (512 < (q : Int)) = false := decide_eq_false (by omega)
  by_cases h6 : placedB off q = false
  · rw [show writeM AS.none off l = (32, AS.none) by simp [writeM, hll, h5, h6]] at hw
    have HW := hide hw
    clear hw
    go_wp2_with (go_at_call 19; refine (HW.out).mono ?_; rintro e w3 ⟨rfl, hp, ht⟩; have HB3 := hide (ht.below HB2.out hz (Nat.le_refl _)); clear hp ht)
    go_ret
    exact ⟨rfl, HB3.out⟩
  have h6' : placedB off q = true := by simpa using h6
  obtain ⟨h7, h8⟩ := placed_of h6'
  obtain ⟨o, rfl⟩ : ∃ o : Nat, off = o := ⟨off.toNat, by omega⟩
  rw [show writeM AS.none o l = (0, AS.none.put o l) by simp [writeM, hll, h5, h6']] at hw
  have HW := hide hw
  clear hw h6
  go_wp2_with (first
    | (go_at_call 19; refine (HW.out).mono ?_; rintro e w3 ⟨rfl, hp, ht⟩; have HP3 := hide hp; have HB3 := hide (ht.below HB2.out hz (Nat.le_refl _)); clear hp ht)
    | fail)
  refine (read_any b (AS.none.put o l) o q w3 HP3.out ho).mono ?_
  rw [readM_at _ o q (by omega) h6', show (AS.none.put o l).got o q = some l from by have := put_got (A := AS.none) (o := o) (k := 0) (n := q) (l := l) (by omega); rw [Nat.add_zero, List.drop_zero, List.take_of_length_le (by omega)] at this; exact this]
  rintro e w4 ⟨v, rfl, hv, hb4⟩
  have hv2 : OwnB w4 w3.heap.size v q l := by
    rcases hv with ⟨h, _⟩ | ⟨l', h, h2⟩
    · cases h
    · cases h; exact h2
  obtain ⟨A4, c4, rfl, hrd4⟩ := owns_slice hv2.1
  have HP4 := hide (HP3.out.below hb4)
  have HB4 := hide (HB3.out.trans (hb4.mono HB3.out.size))
  have HSm := hide (sameBytes_yes S A4 q sc c4 w4.heap.size l w4 ((HSr.out.below HB4.out).mono HB4.out.size) hrd4 (Nat.le_refl _) (by omega))
  clear hv hv2 hb4 hrd4
  go_wp2_with (first
    | (go_at_call 16; refine (HSm.out).mono ?_; rintro e w5 ⟨rfl, hb⟩; have HP5 := hide (HP4.out.below hb); have HB5 := hide (HB4.out.trans (hb.mono HB4.out.size)); clear hb)
    | fail)
  have HOK := hide (AS.Ok.none.put o l hby)
  have HWH := hide (put_none_wh o l)
  obtain ⟨A1, hA1⟩ : ∃ A1, A1 = AS.none.put o l := ⟨_, rfl⟩
  have HGOT := hide (fun k n (h : k + n ≤ l.length) => put_got (A := AS.none) (o := o) h)
  rw [← hA1] at HP5 HOK HWH HGOT
  clear HW HP3 HB3 HP4 HB4 HSm HB1 HP2 hA1
  have hBw : Hid (∀ X, Below w.heap.size w X → Rd X w.heap.size 1 S q (u8s l)) := fun X hX => HSr.out.below hX
  go_loopw [11] (fun a wr => ∃ i : Nat, i ≤ q ∧ a = .int .i64 i ∧ PS wr b A1 ∧ Below w.heap.size w wr) (fun a _ => q - (intOf a).toNat)
  case atStart => exact ⟨0, Nat.zero_le _, rfl, HP5.out, HB5.out⟩
  case round =>
    obtain ⟨i, hi, rfl, hp, hb⟩ := hrel
    have HPi := hide hp
    have HBi := hide hb
    clear hp hb HP5 HB5
    by_cases hiq : i < q
    · obtain ⟨ad, x, rfl, hx, cx⟩ := (hBw.out wr HBi.out).byte hiq
      obtain ⟨ad2, e2, hadb, _⟩ := (hBw.out wr HBi.out).2 (by omega)
      cases e2
      have hxb := hby x (List.mem_of_getElem? hx)
      have hgx : A1.got (o + i) 1 = some [x] := by
        rw [HGOT.out i 1 (by omega), List.drop_eq_getElem_cons (by omega)]
        obtain ⟨_, rfl⟩ := List.getElem?_eq_some_iff.1 hx
        rfl
      have hl1 := load_at (b := b) HOK.out hgx rfl (placed_nat (show o + l.length ≤ 512 by omega) (by omega)) HWH.out wr HPi.out
      have hwx : wordM [x] = x := by simp [wordM]
      rw [hwx] at hl1
      have HL1 := hide hl1
      clear hgx hl1 hwx
      go_wp2_with (first
        | (go_at_call 12; refine (HL1.out).mono ?_; rintro e w6 ⟨rfl, hb6⟩; have HP6 := hide (HPi.out.below hb6); have HB6 := hide (HBi.out.trans (hb6.mono HBi.out.size)); clear hb6)
        | fail)
      have hx7 := World.alloc_heap_new w6 (.cells #[.int .u8 1, .int .u64 x, .int .i64 0, .int .i64 0] 33)
      have hw7 := below1 w6 (.cells #[.int .u8 1, .int .u64 x, .int .i64 0, .int .i64 0] 33)
      generalize w6.alloc (.cells _ 33) = w7 at hx7 hw7 ⊢
      have HB7 := hide (HB6.out.trans (hw7.mono HB6.out.size))
      have HP7 := hide (HP6.out.below hw7)
      obtain ⟨l0, l1, l2, l3⟩ := later4 hx7
      have lx : ∀ y : Later w7, y.w.cell? (ad.add i) = some (.int .u8 x) := Later.cell ((HB7.out.cell (p := ad.add i) (by rw [block_add]; exact hadb)).trans ((HBi.out.cell (p := ad.add i) (by rw [block_add]; exact hadb)).symm.trans cx))
      have hcv : IntKind.u64.wrap x = x := by simp [IntKind.wrap, IntKind.bits, IntKind.signed]; omega
      have hne := fun W => neq33 W 1 x 0 0 1 x 0 0
      simp only [beq_self_eq_true, Bool.and_self, Bool.not_true] at hne
      have HWD : Hid (∀ w, Calls Try.prog 24 #[.int .u64 x] w fun e w' => e = .returned (.agg #[.int .u8 1, .int .u64 x, .int .i64 0, .int .i64 0]) ∧ Below w.heap.size w w') := fun w => word_any x w
      clear hx7 hw7 HP6 HB6 HL1 cx
      refine wp_region_later (by kernel_rfl) (by kernel_rfl) ?_
      repeat (go_big_quiet_step ((exact Later.calls _ HWD.out)))
      refine wpQuiet_nil ?_
      rintro _ ⟨y, rfl⟩
      have HB8 := hide (HB7.out.trans (y.below.mono HB7.out.size))
      have HP8 := hide (HP7.out.below y.below)
      clear l0 l1 l2 l3 lx
      go_wp2
      go_roundw
      case rel => exact ⟨i + 1, by omega, by go_num, HP8.out, HB8.out⟩
      case measure => simp [intOf]; omega
    · have hie : i = q := by omega
      subst hie
      clear hi hiq
      by_cases h8q : i < 8
      · have hd8 : decide ((i : Int) < 8) = true := decide_eq_true (by omega)
        go_wp2
        go_ret
        exact ⟨rfl, HBi.out⟩
      have hd8 : decide ((i : Int) < 8) = false := decide_eq_false (by omega)
      have HPk : Hid (∀ w, Calls Try.prog 11 #[.int .i64 at_, .int .i64 ((i : Int) - 7)] w fun e w' => e = .returned (.int .i64 (at_ % ((i - 7 : Nat) : Int))) ∧ w = w') := fun w => by
        have := pick_any at_ (i - 7) w (by omega) (by omega) ha1 ha2
        rw [show (((i - 7 : Nat) : Int)) = (i : Int) - 7 by omega] at this ⊢
        exact this
      obtain ⟨k, hk, hke⟩ : ∃ k : Nat, k < i - 7 ∧ at_ % ((i - 7 : Nat) : Int) = (k : Int) := by
        have h1 := Int.emod_nonneg at_ (b := ((i - 7 : Nat) : Int)) (by omega)
        have h2 := Int.emod_lt_of_pos at_ (b := ((i - 7 : Nat) : Int)) (by omega)
        exact ⟨(at_ % ((i - 7 : Nat) : Int)).toNat, by omega, by omega⟩
      rw [hke] at HPk
      go_wp2_with (go_at_call 11; refine (HPk.out _).mono ?_; rintro e w6 ⟨rfl, rfl⟩)
      obtain ⟨bs, hbs⟩ : ∃ bs, bs = (l.drop k).take 8 := ⟨_, rfl⟩
      have hbl : bs.length = 8 := by rw [hbs, List.length_take, List.length_drop]; omega
      have hbat : ∀ j, j < 8 → bs[j]? = l[k + j]? := fun j hj => by rw [hbs, List.getElem?_take_of_lt hj, List.getElem?_drop]
      have hbb : ∀ x ∈ bs, 0 ≤ x ∧ x < 256 := fun x hx => hby x (List.mem_of_mem_drop (List.mem_of_mem_take (hbs ▸ hx)))
      have hg8 : A1.got (o + k) 8 = some bs := by rw [HGOT.out k 8 (by omega), hbs]
      have HL8 := hide (fun W h => load_at (b := b) HOK.out hg8 rfl (placed_nat (show o + l.length ≤ 512 by omega) (by omega)) HWH.out W h)
      clear hbs hg8 hke HPk
      obtain ⟨wq, hwq⟩ : ∃ wq, wq = wr := ⟨_, rfl⟩
      rw [← hwq] at HPi HBi ⊢
      clear hwq
      go_loopw [15, 16] (fun a c wr => wr = wq ∧ ((c = .int .i64 (-1) ∧ a = .int .u64 (wordM bs)) ∨ ∃ j : Nat, j < 8 ∧ c = .int .i64 j ∧ a = .int .u64 (wordM (bs.drop (j + 1))))) (fun _ c _ => (intOf c + 1).toNat)
      case atStart => exact ⟨rfl, .inr ⟨7, by omega, rfl, by rw [List.drop_eq_nil_of_le (by omega)]; rfl⟩⟩
      case round =>
        obtain ⟨rfl, ⟨rfl, rfl⟩ | ⟨j, hj, rfl, rfl⟩⟩ := hrel
        · go_wp2_with (go_at_call 12; refine (HL8.out _ HPi.out).mono ?_; rintro e w6 ⟨rfl, hb6⟩; have HB6 := hide (HBi.out.trans (hb6.mono HBi.out.size)); clear hb6)
          have hx7 := World.alloc_heap_new w6 (.cells #[.int .u8 1, .int .u64 (wordM bs), .int .i64 0, .int .i64 0] 33)
          have hw7 := below1 w6 (.cells #[.int .u8 1, .int .u64 (wordM bs), .int .i64 0, .int .i64 0] 33)
          generalize w6.alloc (.cells _ 33) = w7 at hx7 hw7 ⊢
          have HB7 := hide (HB6.out.trans (hw7.mono HB6.out.size))
          obtain ⟨l0, l1, l2, l3⟩ := later4 hx7
          have hne := fun W => eq33 W 1 (wordM bs) 0 0 1 (wordM bs) 0 0
          simp only [beq_self_eq_true, Bool.and_self] at hne
          have HWD : Hid (∀ w, Calls Try.prog 24 #[.int .u64 (wordM bs)] w fun e w' => e = .returned (.agg #[.int .u8 1, .int .u64 (wordM bs), .int .i64 0, .int .i64 0]) ∧ Below w.heap.size w w') := fun w => word_any (wordM bs) w
          clear hx7 hw7 HB6 HL8
          refine wp_region_later (by kernel_rfl) (by kernel_rfl) ?_
          repeat (go_big_quiet_step ((exact Later.calls _ HWD.out)))
          refine wpQuiet_nil ?_
          rintro _ ⟨y, rfl⟩
          have HB8 := hide (HB7.out.trans (y.below.mono HB7.out.size))
          clear l0 l1 l2 l3
          go_wp2
          go_ret
          exact ⟨rfl, HB8.out⟩
        · obtain ⟨ad, x, e1, hx, cx⟩ := (hBw.out wr HBi.out).byte (show k + j < i by omega)
          subst e1
          have hxb := hby x (List.mem_of_getElem? hx)
          have hst : bits .or .u64 (IntKind.u64.wrap (wordM (bs.drop (j + 1)) * 256)) x = wordM (bs.drop j) := by
            rw [wordM_cons bs j x (by rw [hbat j hj]; exact hx)]
            have hr := wordM_range (bs.drop (j + 1)) (fun y hy => hbb y (List.mem_of_mem_drop hy))
            obtain ⟨a, ha⟩ : ∃ a : Nat, wordM (bs.drop (j + 1)) = a := ⟨(wordM (bs.drop (j + 1))).toNat, by omega⟩
            obtain ⟨c, hc'⟩ : ∃ c : Nat, x = c := ⟨x.toNat, by omega⟩
            have hlen : (bs.drop (j + 1)).length ≤ 7 := by rw [List.length_drop]; omega
            have hpow : (256 : Int) ^ (bs.drop (j + 1)).length ≤ 72057594037927936 := by
              generalize (bs.drop (j + 1)).length = n at hlen ⊢
              have hn : n = 0 ∨ n = 1 ∨ n = 2 ∨ n = 3 ∨ n = 4 ∨ n = 5 ∨ n = 6 ∨ n = 7 := by omega
              rcases hn with rfl | rfl | rfl | rfl | rfl | rfl | rfl | rfl <;> decide
            rw [ha] at hr ⊢
            rw [hc'] at hxb ⊢
            have hw := word_shift a c (by omega) (by omega)
            have h8w : IntKind.u64.wrap (c : Int) = (c : Int) := by simp [IntKind.wrap, IntKind.bits, IntKind.signed]; omega
            rw [h8w, show (2 : Int) ^ 8 = 256 from rfl] at hw
            rw [hw]
            omega
          have HST := hide hst
          clear hst
          go_wp2
          refine ⟨⟨trivial, ?_⟩, by simp [intOf]⟩
          rw [HST.out]
          by_cases j0 : j = 0
          · subst j0
            exact .inl ⟨by simp, by rw [List.drop_zero]⟩
          · exact .inr ⟨j - 1, by omega, congrArg (Value.int .i64) (by omega), by rw [show j - 1 + 1 = j by omega]⟩
end Go.Proofs.Ytkpoilcbdcddcaa
