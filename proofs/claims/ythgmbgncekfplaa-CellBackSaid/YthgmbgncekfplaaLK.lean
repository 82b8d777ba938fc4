/-
  What is stored is loaded, whatever is done that touches none of its bytes: CellBack's walk.
-/
import Derived.Test.YthgmbgncekfplaaLK0
import Derived.Test.YthgmbgncekfplaaLB
namespace Go.Proofs.Ythgmbgncekfplaa
open Go.RowKit
set_option linter.unusedVariables false
set_option linter.unusedSimpArgs false

theorem ADeeds.parts {w : World} {B : Nat} {A : Option Addr} {m j : Nat} {ds : List ADeed} (h : ADeeds w B A m ds) (hj : j < m) : ∃ ad d, A = some ad ∧ ds[j]? = some d ∧ ad.block < B ∧ d.Is w B ∧
    w.cell? (ad.add (j * 8)) = some (.int .i64 d.what) ∧ w.cell? { block := (ad.add (j * 8)).block, off := (ad.add (j * 8)).off + 1 } = some (.int .i64 d.off) ∧ w.cell? { block := (ad.add (j * 8)).block, off := (ad.add (j * 8)).off + 2 } = some (.int .i64 d.size) ∧
    w.cell? { block := (ad.add (j * 8)).block, off := (ad.add (j * 8)).off + 3 } = some (.int .u8 d.c.k) ∧ w.cell? { block := (ad.add (j * 8)).block, off := (ad.add (j * 8)).off + 4 } = some (.int .u64 d.c.wd) ∧
    w.cell? { block := (ad.add (j * 8)).block, off := (ad.add (j * 8)).off + 5 } = some (.int .i64 d.c.rg) ∧ w.cell? { block := (ad.add (j * 8)).block, off := (ad.add (j * 8)).off + 6 } = some (.int .i64 d.c.of) ∧
    w.cell? { block := (ad.add (j * 8)).block, off := (ad.add (j * 8)).off + 7 } = some (.slice d.b.A d.b.n d.b.c) := by
  obtain ⟨ad, d, e, hd, hb, hc⟩ := h.cell hj
  have hp := fun t (ht : 0 < t) u (hu : d.cells[t]? = some u) => by
    have := hc t u hu
    rw [add_parts ad _ t ht] at this
    exact this
  exact ⟨ad, d, e, hd, hb, h.inner d (List.mem_of_getElem? hd), hc 0 _ rfl, hp 1 (by decide) _ rfl, hp 2 (by decide) _ rfl, hp 3 (by decide) _ rfl, hp 4 (by decide) _ rfl, hp 5 (by decide) _ rfl, hp 6 (by decide) _ rfl, hp 7 (by decide) _ rfl⟩
theorem pick8 (x : Int) (h1 : -9223372036854775808 ≤ x) (h2 : x ≤ 9223372036854775807) (w : World) : Calls Try.prog 11 #[.int .i64 x, .int .i64 8] w fun e w' => e = .returned (.int .i64 (x % 8)) ∧ w = w' := pick_any x 8 w (by omega) (by omega) h1 h2
theorem add0 (a : Addr) : a.add 0 = a := by unfold Addr.add; simp
theorem read_held {b o q : Nat} {A : AS} {wd : Int} (hrd : readM A o q = (some (bytesM q wd), 0)) (hq : 0 < q) (ho : (o : Int) ≤ 9223372036854775807) (W : World) (h : PS W b A) :
    Calls Try.prog 14 #[.pointer (some ⟨b, 0, none⟩), .int .i64 o, .int .i64 q] W fun e w' => ∃ (ad : Addr) (c : Nat), e = .returned (.tuple #[.slice (some ad) q c, .int .i64 0]) ∧ w'.cell? ad = some (.int .u8 (wd % 256)) ∧ Below W.heap.size W w' := by
  refine (read_any b A o q W h ho).mono ?_
  rw [hrd]
  rintro e w4 ⟨v, rfl, hv, hb4⟩
  have hv2 : OwnB w4 W.heap.size v q (bytesM q wd) := by
    rcases hv with ⟨h, _⟩ | ⟨l', h, h2⟩
    · cases h
    · cases h; exact h2
  obtain ⟨A4, c4, rfl, hrd4⟩ := owns_slice hv2.1
  obtain ⟨ad, x, rfl, hx, hc⟩ := hrd4.byte hq
  rw [bytesM_at q wd 0 hq] at hx
  simp at hx
  subst hx
  rw [add0] at hc
  exact ⟨ad, c4, rfl, hc, hb4⟩
theorem read_unset {b o q : Nat} {A : AS} (hrd : readM A o q = (.none, 30)) (ho : (o : Int) ≤ 9223372036854775807) (W : World) (h : PS W b A) :
    Calls Try.prog 14 #[.pointer (some ⟨b, 0, none⟩), .int .i64 o, .int .i64 q] W fun e w' => e = .returned (.tuple #[.slice none 0 0, .int .i64 30]) ∧ Below W.heap.size W w' := by
  refine (read_any b A o q W h ho).mono ?_
  rw [hrd]
  rintro e w4 ⟨v, rfl, hv, hb4⟩
  rcases hv with ⟨_, rfl⟩ | ⟨l', h, h2⟩
  · exact ⟨rfl, hb4⟩
  · cases h
set_option maxRecDepth 8000 in
set_option maxHeartbeats 16000000 in
theorem law_cellBack (off n : Int) (c : C4) (A0 : Option Addr) (m c0_ : Nat) (ds : List ADeed) (w : World) (hD : ADeeds w w.heap.size A0 m ds) (hm : m ≤ 140737488351232) (hf : c.Fits) (ho1 : -9223372036854775808 ≤ off) (ho : off ≤ 9223372036854775807) (hn1 : -9223372036854775808 ≤ n) (hn : n ≤ 9223372036854775807) :
    Calls Try.prog 6 #[.int .i64 off, .int .i64 n, c.val, .slice A0 m c0_] w fun e w' => e = .returned (.bool true) ∧ Below w.heap.size w w' := by
  have HFits := hide hf
  have HD := hide hD
  have hst0 := fun b W h => store_any b AS.none off n c W h ho hf.k hf.wd
  obtain ⟨k, wd, rg, of⟩ := c
  have hx0 := World.alloc_heap_new w (.cells #[.int .u8 k, .int .u64 wd, .int .i64 rg, .int .i64 of] 33)
  have hb0 := below1 w (.cells #[.int .u8 k, .int .u64 wd, .int .i64 rg, .int .i64 of] 33)
  simp only [C4.val] at hst0 ⊢
  have HST0 := hide hst0
  clear hf hD hst0
  go_enter Try.func6, Try.ntmps6
  go_wp2_with fail
  generalize w.alloc (.cells _ 33) = w0 at hx0 hb0 ⊢
  have HX0 := hide hx0
  have HB0 := hide hb0
  clear hx0 hb0
  refine (awake_any _).mono ?_
  rintro e w1 ⟨rfl, hb⟩
  have HX1 := hide ((hb.block _ (at_lt HX0.out)).trans HX0.out)
  have HB1 := hide (HB0.out.trans (hb.mono HB0.out.size))
  clear hb
  go_wp2_with fail
  refine (light_any A0 m c0_ w.heap.size ds w1 (HD.out.below HB1.out) hm).mono ?_
  rintro e w1' ⟨g, rfl, rfl, hg⟩
  cases g with
  | false =>
    clear hg
    go_wp2
    go_ret
    exact ⟨rfl, HB1.out⟩
  | true =>
  obtain ⟨hm60, hsm⟩ := hg rfl
  have HSM := hide hsm
  clear hg hsm
  go_wp2_with fail
  refine (new_any w1).mono ?_
  rintro e w2 ⟨rfl, hp, hb⟩
  have HP2 := hide hp
  have HB2 := hide (HB1.out.trans (hb.mono HB1.out.size))
  have hx2 := (hb.block _ (at_lt HX1.out)).trans HX1.out
  have HX2 := hide hx2
  have hz := HB1.out.size
  have hzb : w.heap.size < w1.heap.size := at_lt HX1.out
  obtain ⟨b, hbe⟩ : ∃ b, b = w1.heap.size := ⟨_, rfl⟩
  rw [← hbe] at HP2 hz hzb ⊢
  have x0 := blk_cell hx2 0
  have x1 := blk_cell hx2 1
  have x2 := blk_cell hx2 2
  have x3 := blk_cell hx2 3
  simp at x0 x1 x2 x3
  have hlx2 := at_lt hx2
  clear hp hb hx2 hbe
  by_cases hbad : (storeM AS.none off n ⟨k, wd, rg, of⟩).1 ≠ 0
  · have hA := store_bad hbad
    have HS := HST0.out b w2 HP2.out
    rw [hA] at HS
    have HS' := hide HS
    have hne : ((storeM AS.none off n ⟨k, wd, rg, of⟩).1 == 0) = false := by simpa using hbad
    have hne2 : ((storeM AS.none off n ⟨k, wd, rg, of⟩).1 != 0) = true := by simpa using hbad
    clear HS hA
    generalize (storeM AS.none off n ⟨k, wd, rg, of⟩).1 = E at HS' hne hne2 hbad
    go_wp2_with (first
      | (go_at_call 22; refine (HS'.out).mono ?_; rintro e w3 ⟨rfl, hp, ht⟩; have HP3 := hide hp; have HB3 := hide (ht.below HB2.out hz (Nat.le_refl _)); clear hp ht)
      | fail)
    have hl := load_none off n
    have hl2 : ((loadM AS.none off n).2 != 0) = true := by simpa using hl
    have HL := load_any b AS.none off n w3 HP3.out AS.Ok.none ho
    generalize loadM AS.none off n = r at HL hl2 hl
    obtain ⟨⟨r0, r1, r2, r3⟩, re⟩ := r
    simp only [C4.val] at HL
    have HL' := hide HL
    simp only at hl2
    clear HL hl
    go_wp2_with (first
      | (go_at_call 12; refine (HL'.out).mono ?_; rintro e w4 ⟨rfl, hb⟩; have HB4 := hide (HB3.out.trans (hb.mono HB3.out.size)); clear hb)
      | fail)
    go_ret
    exact ⟨by simp [hl2], HB4.out.alloc HB4.out.size _⟩
  have h0 : (storeM AS.none off n ⟨k, wd, rg, of⟩).1 = 0 := by omega
  obtain ⟨hheld, hstood, hop, hsz, hpl, hkw⟩ := store_begins h0
  obtain ⟨o, rfl⟩ : ∃ o : Nat, off = o := ⟨off.toNat, by omega⟩
  have hn4 := sized_of hsz
  obtain ⟨q, rfl⟩ : ∃ q : Nat, n = q := ⟨n.toNat, by omega⟩
  simp only [Int.toNat_natCast] at hheld hstood
  have hok0 := storeM_ok AS.Ok.none o q ⟨k, wd, rg, of⟩
  have HS := HST0.out b w2 HP2.out
  rw [h0] at HS
  generalize (storeM AS.none o q ⟨k, wd, rg, of⟩).2 = A1 at HS hstood hok0
  have HS' := hide HS
  have HHeld := hide hheld
  have HStood := hide hstood
  have HOk := hide hok0
  have hfit := hheld.fit
  clear HS hheld hstood hok0 hbad h0 HST0 ho1 hn1
  go_wp2_with (first
    | (go_at_call 22; refine (HS'.out).mono ?_; rintro e w3 ⟨rfl, hp, ht⟩; have HP3 := hide hp; have HB3 := hide (ht.below HB2.out hz (Nat.le_refl _)); have HX3 := hide ((ht.block _ (at_lt HX2.out) (fun e => by cases e; omega)).trans HX2.out); clear hp ht)
    | fail)
  clear HS' HP2 HB2 HX2 HB1 HX1 HB0 HX0 x0 x1 x2 x3 hlx2
  go_loopw [12] (fun a wr => ∃ (j : Nat) (A : AS), j ≤ m ∧ a = .int .i64 j ∧ PS wr b A ∧ A.Ok ∧ Stood A o q ⟨k, wd, rg, of⟩ ∧ Below w.heap.size w wr ∧ wr.heap[w.heap.size]? = some (.cells #[.int .u8 k, .int .u64 wd, .int .i64 rg, .int .i64 of] 33 (0, 0)) ∧ b < wr.heap.size) (fun a _ => m - (intOf a).toNat)
  case atStart => exact ⟨0, A1, Nat.zero_le _, rfl, HP3.out, HOk.out, HStood.out, HB3.out, HX3.out, HP3.out.lt⟩
  case round =>
    obtain ⟨j, A, hj, rfl, hp, hok, hsto, hb, hxr, hbl⟩ := hrel
    have HP := hide hp
    have HOK := hide hok
    have HSto := hide hsto
    have HB := hide hb
    have HXR := hide hxr
    clear hp hok hsto hb hxr HP3 HB3 HX3 HOk HStood
    by_cases hjm : j < m
    · obtain ⟨ad, d, rfl, hd, hadb, his, k0, k1, k2, k3, k4, k5, k6, k7⟩ := (HD.out.below HB.out).parts hjm
      have e1 : decide ((j : Int) < (m : Int)) = true := decide_eq_true (by omega)
      have hsm := HSM.out d (List.mem_of_getElem? hd)
      have HIs := hide his
      have hdo := his.off
      have hds := his.size
      have hdw := his.what
      have HPk := hide (pick8 d.what hdw.1 hdw.2)
      have hpm := Int.emod_nonneg d.what (b := 8) (by omega)
      have hpm2 := Int.emod_lt_of_pos d.what (b := 8) (by omega)
      obtain ⟨pk, hpk⟩ : ∃ pk, pk = d.what % 8 := ⟨_, rfl⟩
      rw [← hpk] at HPk hpm hpm2
      clear hd his hpk
      obtain ⟨dw, doff, dsz, ⟨dk, dwd, drg, dof⟩, ⟨bA, bn, bc, bbs⟩⟩ := d
      simp only at k0 k1 k2 k3 k4 k5 k6 k7 hdo hds hdw HPk hsm
      have hbx := below1 wr (.cells #[.int .i64 dw, .int .i64 doff, .int .i64 dsz, .int .u8 dk, .int .u64 dwd, .int .i64 drg, .int .i64 dof, .slice bA bn bc] 39)
      have HBX := hide hbx
      clear hbx
      by_cases h4 : 4 ≤ pk
      · have e4 : decide (4 ≤ pk) = true := decide_eq_true h4
        have hcond : (doff < 1099511627776 ∧ -1099511627776 < doff ∧ (bn : Int) < 1099511627776 ∧ doff < (o : Int) + (q : Int) ∧ (o : Int) < doff + (bn : Int)) ∨ ¬ doff < 1099511627776 ∨ (doff < 1099511627776 ∧ ¬ -1099511627776 < doff) ∨ (doff < 1099511627776 ∧ -1099511627776 < doff ∧ ¬ (bn : Int) < 1099511627776) ∨ (doff < 1099511627776 ∧ -1099511627776 < doff ∧ (bn : Int) < 1099511627776 ∧ ¬ doff < (o : Int) + (q : Int)) ∨ (doff < 1099511627776 ∧ -1099511627776 < doff ∧ (bn : Int) < 1099511627776 ∧ doff < (o : Int) + (q : Int) ∧ ¬ (o : Int) < doff + (bn : Int)) := by omega
        rcases hcond with ⟨g1, g2, g3, g4, g5⟩ | hrest
        · have f1 := decide_eq_true g1
          have f2 := decide_eq_true g2
          have f3 := decide_eq_true g3
          have f4 := decide_eq_true g4
          have f5 := decide_eq_true g5
          go_wp2_with (first
            | (go_at_call 11; refine (HPk.out _).mono ?_; rintro e w4 ⟨rfl, rfl⟩)
            | fail)
          go_roundw
          case rel => exact ⟨j + 1, A, by omega, by go_num, HP.out.below HBX.out, HOK.out, HSto.out, HB.out.trans (HBX.out.mono HB.out.size), (HBX.out.block _ (at_lt HXR.out)).trans HXR.out, Nat.lt_of_lt_of_le hbl HBX.out.size⟩
          case measure => simp [intOf]; omega
        · have hkeep : Hid (placedB doff bn = true → doff + bn ≤ o ∨ (o : Int) + q ≤ doff ∨ bn = 0) := fun hpb => by
            obtain ⟨z1, z2⟩ := placed_of hpb
            omega
          rcases hrest with g1 | ⟨g1, g2⟩ | ⟨g1, g2, g3⟩ | ⟨g1, g2, g3, g4⟩ | ⟨g1, g2, g3, g4, g5⟩
          · have f1 := decide_eq_false g1
            go_wp2_with (first
              | (go_at_call 11; refine (HPk.out _).mono ?_; rintro e w4 ⟨rfl, rfl⟩)
              | fail)
            refine (write_any b A doff bA bn bc bbs _ (HP.out.below HBX.out) (((HIs.out.rd.below (Below.refl _ _)).below (HBX.out.mono HB.out.size)).src hz (Nat.le_trans HB.out.size HBX.out.size)) HIs.out.le hdo.2).mono ?_
            rintro e w5 ⟨rfl, hp, ht⟩
            have HP5 := hide hp
            have HT5 := hide ht
            have HOK5 := hide (writeM_ok HOK.out doff bbs HIs.out.byte)
            have hbl6 : bbs.length = bn := by have := HIs.out.rd.1; simpa [u8s] using this
            have hkp := hkeep.out
            rw [← hbl6] at hkp
            have HSto5 := hide (write_stood HSto.out HHeld.out (off := doff) (d := bbs) hkp)
            have HXR5 := hide ((ht.block _ (Nat.lt_of_lt_of_le (at_lt HXR.out) HBX.out.size) (fun e => by cases e; omega)).trans ((HBX.out.block _ (at_lt HXR.out)).trans HXR.out))
            have HB5 := hide (ht.below (HB.out.trans (HBX.out.mono HB.out.size)) hz (Nat.le_refl _))
            have hbl5 := Nat.lt_of_lt_of_le hbl (Nat.le_trans HBX.out.size ht.size)
            clear hp ht
            go_wp2
            go_roundw
            case rel => exact ⟨j + 1, _, by omega, by go_num, HP5.out, HOK5.out, HSto5.out, HB5.out, HXR5.out, hbl5⟩
            case measure => simp [intOf]; omega
          · have f2 := decide_eq_false g2
            have f1 := decide_eq_true g1
            go_wp2_with (first
              | (go_at_call 11; refine (HPk.out _).mono ?_; rintro e w4 ⟨rfl, rfl⟩)
              | fail)
            refine (write_any b A doff bA bn bc bbs _ (HP.out.below HBX.out) (((HIs.out.rd.below (Below.refl _ _)).below (HBX.out.mono HB.out.size)).src hz (Nat.le_trans HB.out.size HBX.out.size)) HIs.out.le hdo.2).mono ?_
            rintro e w5 ⟨rfl, hp, ht⟩
            have HP5 := hide hp
            have HT5 := hide ht
            have HOK5 := hide (writeM_ok HOK.out doff bbs HIs.out.byte)
            have hbl6 : bbs.length = bn := by have := HIs.out.rd.1; simpa [u8s] using this
            have hkp := hkeep.out
            rw [← hbl6] at hkp
            have HSto5 := hide (write_stood HSto.out HHeld.out (off := doff) (d := bbs) hkp)
            have HXR5 := hide ((ht.block _ (Nat.lt_of_lt_of_le (at_lt HXR.out) HBX.out.size) (fun e => by cases e; omega)).trans ((HBX.out.block _ (at_lt HXR.out)).trans HXR.out))
            have HB5 := hide (ht.below (HB.out.trans (HBX.out.mono HB.out.size)) hz (Nat.le_refl _))
            have hbl5 := Nat.lt_of_lt_of_le hbl (Nat.le_trans HBX.out.size ht.size)
            clear hp ht
            go_wp2
            go_roundw
            case rel => exact ⟨j + 1, _, by omega, by go_num, HP5.out, HOK5.out, HSto5.out, HB5.out, HXR5.out, hbl5⟩
            case measure => simp [intOf]; omega
          · exact absurd (by omega) g3
          · have f4 := decide_eq_false g4
            have f1 := decide_eq_true g1
            have f2 := decide_eq_true g2
            have f3 := decide_eq_true g3
            go_wp2_with (first
              | (go_at_call 11; refine (HPk.out _).mono ?_; rintro e w4 ⟨rfl, rfl⟩)
              | fail)
            refine (write_any b A doff bA bn bc bbs _ (HP.out.below HBX.out) (((HIs.out.rd.below (Below.refl _ _)).below (HBX.out.mono HB.out.size)).src hz (Nat.le_trans HB.out.size HBX.out.size)) HIs.out.le hdo.2).mono ?_
            rintro e w5 ⟨rfl, hp, ht⟩
            have HP5 := hide hp
            have HT5 := hide ht
            have HOK5 := hide (writeM_ok HOK.out doff bbs HIs.out.byte)
            have hbl6 : bbs.length = bn := by have := HIs.out.rd.1; simpa [u8s] using this
            have hkp := hkeep.out
            rw [← hbl6] at hkp
            have HSto5 := hide (write_stood HSto.out HHeld.out (off := doff) (d := bbs) hkp)
            have HXR5 := hide ((ht.block _ (Nat.lt_of_lt_of_le (at_lt HXR.out) HBX.out.size) (fun e => by cases e; omega)).trans ((HBX.out.block _ (at_lt HXR.out)).trans HXR.out))
            have HB5 := hide (ht.below (HB.out.trans (HBX.out.mono HB.out.size)) hz (Nat.le_refl _))
            have hbl5 := Nat.lt_of_lt_of_le hbl (Nat.le_trans HBX.out.size ht.size)
            clear hp ht
            go_wp2
            go_roundw
            case rel => exact ⟨j + 1, _, by omega, by go_num, HP5.out, HOK5.out, HSto5.out, HB5.out, HXR5.out, hbl5⟩
            case measure => simp [intOf]; omega
          · have f5 := decide_eq_false g5
            have f1 := decide_eq_true g1
            have f2 := decide_eq_true g2
            have f3 := decide_eq_true g3
            have f4 := decide_eq_true g4
            go_wp2_with (first
              | (go_at_call 11; refine (HPk.out _).mono ?_; rintro e w4 ⟨rfl, rfl⟩)
              | fail)
            refine (write_any b A doff bA bn bc bbs _ (HP.out.below HBX.out) (((HIs.out.rd.below (Below.refl _ _)).below (HBX.out.mono HB.out.size)).src hz (Nat.le_trans HB.out.size HBX.out.size)) HIs.out.le hdo.2).mono ?_
            rintro e w5 ⟨rfl, hp, ht⟩
            have HP5 := hide hp
            have HT5 := hide ht
            have HOK5 := hide (writeM_ok HOK.out doff bbs HIs.out.byte)
            have hbl6 : bbs.length = bn := by have := HIs.out.rd.1; simpa [u8s] using this
            have hkp := hkeep.out
            rw [← hbl6] at hkp
            have HSto5 := hide (write_stood HSto.out HHeld.out (off := doff) (d := bbs) hkp)
            have HXR5 := hide ((ht.block _ (Nat.lt_of_lt_of_le (at_lt HXR.out) HBX.out.size) (fun e => by cases e; omega)).trans ((HBX.out.block _ (at_lt HXR.out)).trans HXR.out))
            have HB5 := hide (ht.below (HB.out.trans (HBX.out.mono HB.out.size)) hz (Nat.le_refl _))
            have hbl5 := Nat.lt_of_lt_of_le hbl (Nat.le_trans HBX.out.size ht.size)
            clear hp ht
            go_wp2
            go_roundw
            case rel => exact ⟨j + 1, _, by omega, by go_num, HP5.out, HOK5.out, HSto5.out, HB5.out, HXR5.out, hbl5⟩
            case measure => simp [intOf]; omega
      · have e4 : decide (4 ≤ pk) = false := decide_eq_false h4
        have hcond : (doff < 1099511627776 ∧ -1099511627776 < doff ∧ dsz < 1099511627776 ∧ doff < (o : Int) + (q : Int) ∧ (o : Int) < wrap64 (doff + dsz)) ∨ ¬ doff < 1099511627776 ∨ (doff < 1099511627776 ∧ ¬ -1099511627776 < doff) ∨ (doff < 1099511627776 ∧ -1099511627776 < doff ∧ ¬ dsz < 1099511627776) ∨ (doff < 1099511627776 ∧ -1099511627776 < doff ∧ dsz < 1099511627776 ∧ ¬ doff < (o : Int) + (q : Int)) ∨ (doff < 1099511627776 ∧ -1099511627776 < doff ∧ dsz < 1099511627776 ∧ doff < (o : Int) + (q : Int) ∧ ¬ (o : Int) < wrap64 (doff + dsz)) := by omega
        rcases hcond with ⟨g1, g2, g3, g4, g5⟩ | hrest
        · have f1 := decide_eq_true g1
          have f2 := decide_eq_true g2
          have f3 := decide_eq_true g3
          have f4 := decide_eq_true g4
          have f5 := decide_eq_true g5
          go_wp2_with (first
            | (go_at_call 11; refine (HPk.out _).mono ?_; rintro e w4 ⟨rfl, rfl⟩)
            | fail)
          go_roundw
          case rel => exact ⟨j + 1, A, by omega, by go_num, HP.out.below HBX.out, HOK.out, HSto.out, HB.out.trans (HBX.out.mono HB.out.size), (HBX.out.block _ (at_lt HXR.out)).trans HXR.out, Nat.lt_of_lt_of_le hbl HBX.out.size⟩
          case measure => simp [intOf]; omega
        · have hkeep : Hid (placedB doff dsz = true → sizedB dsz = true → doff + dsz ≤ o ∨ (o : Int) + q ≤ doff) := fun hpb hsb => by
            obtain ⟨z1, z2⟩ := placed_of hpb
            have z3 := sized_of hsb
            have hwr : wrap64 (doff + dsz) = doff + dsz := IntWalk.wrap64_in _ (by omega)
            rw [hwr] at hrest
            omega
          rcases hrest with g1 | ⟨g1, g2⟩ | ⟨g1, g2, g3⟩ | ⟨g1, g2, g3, g4⟩ | ⟨g1, g2, g3, g4, g5⟩
          · have f1 := decide_eq_false g1
            go_wp2_with (first
              | (go_at_call 11; refine (HPk.out _).mono ?_; rintro e w4 ⟨rfl, rfl⟩)
              | fail)
            have HSA := store_any b A doff dsz ⟨dk, dwd, drg, dof⟩ _ (HP.out.below HBX.out) hdo.2 HIs.out.fits.k HIs.out.fits.wd
            simp only [C4.val] at HSA
            refine HSA.mono ?_
            clear HSA
            rintro e w5 ⟨rfl, hp, ht⟩
            have HP5 := hide hp
            have HOK5 := hide (storeM_ok HOK.out doff dsz ⟨dk, dwd, drg, dof⟩)
            have HSto5 := hide (store_stood HSto.out HHeld.out (e := ⟨dk, dwd, drg, dof⟩) hkeep.out)
            have HXR5 := hide ((ht.block _ (Nat.lt_of_lt_of_le (at_lt HXR.out) HBX.out.size) (fun e => by cases e; omega)).trans ((HBX.out.block _ (at_lt HXR.out)).trans HXR.out))
            have HB5 := hide (ht.below (HB.out.trans (HBX.out.mono HB.out.size)) hz (Nat.le_refl _))
            have hbl5 := Nat.lt_of_lt_of_le hbl (Nat.le_trans HBX.out.size ht.size)
            clear hp ht
            go_wp2
            go_roundw
            case rel => exact ⟨j + 1, _, by omega, by go_num, HP5.out, HOK5.out, HSto5.out, HB5.out, HXR5.out, hbl5⟩
            case measure => simp [intOf]; omega
          · have f2 := decide_eq_false g2
            have f1 := decide_eq_true g1
            go_wp2_with (first
              | (go_at_call 11; refine (HPk.out _).mono ?_; rintro e w4 ⟨rfl, rfl⟩)
              | fail)
            have HSA := store_any b A doff dsz ⟨dk, dwd, drg, dof⟩ _ (HP.out.below HBX.out) hdo.2 HIs.out.fits.k HIs.out.fits.wd
            simp only [C4.val] at HSA
            refine HSA.mono ?_
            clear HSA
            rintro e w5 ⟨rfl, hp, ht⟩
            have HP5 := hide hp
            have HOK5 := hide (storeM_ok HOK.out doff dsz ⟨dk, dwd, drg, dof⟩)
            have HSto5 := hide (store_stood HSto.out HHeld.out (e := ⟨dk, dwd, drg, dof⟩) hkeep.out)
            have HXR5 := hide ((ht.block _ (Nat.lt_of_lt_of_le (at_lt HXR.out) HBX.out.size) (fun e => by cases e; omega)).trans ((HBX.out.block _ (at_lt HXR.out)).trans HXR.out))
            have HB5 := hide (ht.below (HB.out.trans (HBX.out.mono HB.out.size)) hz (Nat.le_refl _))
            have hbl5 := Nat.lt_of_lt_of_le hbl (Nat.le_trans HBX.out.size ht.size)
            clear hp ht
            go_wp2
            go_roundw
            case rel => exact ⟨j + 1, _, by omega, by go_num, HP5.out, HOK5.out, HSto5.out, HB5.out, HXR5.out, hbl5⟩
            case measure => simp [intOf]; omega
          · have f3 := decide_eq_false g3
            have f1 := decide_eq_true g1
            have f2 := decide_eq_true g2
            go_wp2_with (first
              | (go_at_call 11; refine (HPk.out _).mono ?_; rintro e w4 ⟨rfl, rfl⟩)
              | fail)
            have HSA := store_any b A doff dsz ⟨dk, dwd, drg, dof⟩ _ (HP.out.below HBX.out) hdo.2 HIs.out.fits.k HIs.out.fits.wd
            simp only [C4.val] at HSA
            refine HSA.mono ?_
            clear HSA
            rintro e w5 ⟨rfl, hp, ht⟩
            have HP5 := hide hp
            have HOK5 := hide (storeM_ok HOK.out doff dsz ⟨dk, dwd, drg, dof⟩)
            have HSto5 := hide (store_stood HSto.out HHeld.out (e := ⟨dk, dwd, drg, dof⟩) hkeep.out)
            have HXR5 := hide ((ht.block _ (Nat.lt_of_lt_of_le (at_lt HXR.out) HBX.out.size) (fun e => by cases e; omega)).trans ((HBX.out.block _ (at_lt HXR.out)).trans HXR.out))
            have HB5 := hide (ht.below (HB.out.trans (HBX.out.mono HB.out.size)) hz (Nat.le_refl _))
            have hbl5 := Nat.lt_of_lt_of_le hbl (Nat.le_trans HBX.out.size ht.size)
            clear hp ht
            go_wp2
            go_roundw
            case rel => exact ⟨j + 1, _, by omega, by go_num, HP5.out, HOK5.out, HSto5.out, HB5.out, HXR5.out, hbl5⟩
            case measure => simp [intOf]; omega
          · have f4 := decide_eq_false g4
            have f1 := decide_eq_true g1
            have f2 := decide_eq_true g2
            have f3 := decide_eq_true g3
            go_wp2_with (first
              | (go_at_call 11; refine (HPk.out _).mono ?_; rintro e w4 ⟨rfl, rfl⟩)
              | fail)
            have HSA := store_any b A doff dsz ⟨dk, dwd, drg, dof⟩ _ (HP.out.below HBX.out) hdo.2 HIs.out.fits.k HIs.out.fits.wd
            simp only [C4.val] at HSA
            refine HSA.mono ?_
            clear HSA
            rintro e w5 ⟨rfl, hp, ht⟩
            have HP5 := hide hp
            have HOK5 := hide (storeM_ok HOK.out doff dsz ⟨dk, dwd, drg, dof⟩)
            have HSto5 := hide (store_stood HSto.out HHeld.out (e := ⟨dk, dwd, drg, dof⟩) hkeep.out)
            have HXR5 := hide ((ht.block _ (Nat.lt_of_lt_of_le (at_lt HXR.out) HBX.out.size) (fun e => by cases e; omega)).trans ((HBX.out.block _ (at_lt HXR.out)).trans HXR.out))
            have HB5 := hide (ht.below (HB.out.trans (HBX.out.mono HB.out.size)) hz (Nat.le_refl _))
            have hbl5 := Nat.lt_of_lt_of_le hbl (Nat.le_trans HBX.out.size ht.size)
            clear hp ht
            go_wp2
            go_roundw
            case rel => exact ⟨j + 1, _, by omega, by go_num, HP5.out, HOK5.out, HSto5.out, HB5.out, HXR5.out, hbl5⟩
            case measure => simp [intOf]; omega
          · have f5 := decide_eq_false g5
            have f1 := decide_eq_true g1
            have f2 := decide_eq_true g2
            have f3 := decide_eq_true g3
            have f4 := decide_eq_true g4
            go_wp2_with (first
              | (go_at_call 11; refine (HPk.out _).mono ?_; rintro e w4 ⟨rfl, rfl⟩)
              | fail)
            have HSA := store_any b A doff dsz ⟨dk, dwd, drg, dof⟩ _ (HP.out.below HBX.out) hdo.2 HIs.out.fits.k HIs.out.fits.wd
            simp only [C4.val] at HSA
            refine HSA.mono ?_
            clear HSA
            rintro e w5 ⟨rfl, hp, ht⟩
            have HP5 := hide hp
            have HOK5 := hide (storeM_ok HOK.out doff dsz ⟨dk, dwd, drg, dof⟩)
            have HSto5 := hide (store_stood HSto.out HHeld.out (e := ⟨dk, dwd, drg, dof⟩) hkeep.out)
            have HXR5 := hide ((ht.block _ (Nat.lt_of_lt_of_le (at_lt HXR.out) HBX.out.size) (fun e => by cases e; omega)).trans ((HBX.out.block _ (at_lt HXR.out)).trans HXR.out))
            have HB5 := hide (ht.below (HB.out.trans (HBX.out.mono HB.out.size)) hz (Nat.le_refl _))
            have hbl5 := Nat.lt_of_lt_of_le hbl (Nat.le_trans HBX.out.size ht.size)
            clear hp ht
            go_wp2
            go_roundw
            case rel => exact ⟨j + 1, _, by omega, by go_num, HP5.out, HOK5.out, HSto5.out, HB5.out, HXR5.out, hbl5⟩
            case measure => simp [intOf]; omega
    · have hje : j = m := by omega
      subst hje
      clear hj hjm
      have hq0 : 0 < q := HHeld.out.pos
      by_cases hk1 : k = 1
      · subst hk1
        have hst : ∀ i, i < q → A.pl (o + i) = (bytesM q wd)[i]? := by
          have := HSto.out
          unfold Stood at this
          rwa [if_pos rfl] at this
        have hgot : A.got o q = some (bytesM q wd) := (A.got_iff o q _).2 ⟨bytesM_length q wd, hst⟩
        have hp0 : A.pl o = some (wd % 256) := by
          have := hst 0 hq0
          rw [Nat.add_zero, bytesM_at q wd 0 hq0] at this
          simpa using this
        have hld : loadM A o q = (wordC (wd % 256 ^ q), 0) := by
          rw [loadM_at A o q hsz hpl ?_, hgot]
          · show (wordC (wordM (bytesM q wd)), (0 : Int)) = _
            rw [wordM_bytes]
          · by_cases hz : (A.wh (o / 8)).k = 0
            · simp [hz]
            · have := HOK.out.apart (o / 8) hz o rfl
              rw [hp0] at this
              cases this
        have HRD := hide (show readM A o q = (some (bytesM q wd), 0) by rw [readM_at A o q (by omega) hpl, hgot]; rfl)
        have HL := load_any b A o q wr HP.out HOK.out ho
        rw [hld] at HL
        obtain ⟨X, hX⟩ : ∃ X, X = wd % 256 ^ q := ⟨_, rfl⟩
        rw [← hX] at HL
        simp only [wordC, C4.val] at HL
        have HL' := hide HL
        have HXe := hide hX
        clear HL hst hgot hp0 hld hX
        go_upto_region 21 with (go_at_call 12; refine (HL'.out).mono ?_; rintro e w4 ⟨rfl, hb⟩; have HP4 := hide (HP.out.below hb); have HB4 := hide (HB.out.trans (hb.mono HB.out.size)); have HX4 := hide ((hb.block _ (at_lt HXR.out)).trans HXR.out); clear hb)
        have hx5 := World.alloc_heap_new w4 (.cells #[.int .u8 1, .int .u64 X, .int .i64 0, .int .i64 0] 33)
        have hw5 := below1 w4 (.cells #[.int .u8 1, .int .u64 X, .int .i64 0, .int .i64 0] 33)
        generalize w4.alloc (.cells _ 33) = w5 at hx5 hw5 ⊢
        obtain ⟨b15, hb15⟩ : ∃ b15, b15 = w4.heap.size := ⟨_, rfl⟩
        rw [← hb15] at hx5 ⊢
        have HP5 := hide (HP4.out.below hw5)
        have HB5 := hide (HB4.out.trans (hw5.mono HB4.out.size))
        have hx := (hw5.block _ (at_lt HX4.out)).trans HX4.out
        have HC5 := hide hx
        have H15 := hide hx5
        have x0 := blk_cell hx 0
        have x1 := blk_cell hx 1
        have x2 := blk_cell hx 2
        have x3 := blk_cell hx 3
        simp at x0 x1 x2 x3
        have hlx := at_lt hx
        have hwd : 0 ≤ wd ∧ wd < 18446744073709551616 := HFits.out.wd
        have hrdc := fun W h => read_held (b := b) HRD.out hq0 ho W h
        have hcv : IntKind.u8.wrap wd = wd % 256 := by simp [IntKind.wrap, IntKind.bits, IntKind.signed]
        clear hx hx5 hw5 hb15 HRD HP4 HB4 HX4 HL' HXR HP HB
        have hq4 : q = 1 ∨ q = 2 ∨ q = 4 ∨ q = 8 := by omega
        rcases hq4 with rfl | rfl | rfl | rfl
        · simp only [Int.cast_ofNat_Int] at hrdc ⊢
          have HRDc := hide hrdc
          have hV : wd.tmod 256 = X := by rw [HXe.out, Int.tmod_eq_emod_of_nonneg hwd.1]; rfl
          clear hrdc
          go_upto_region 25 with fail
          go_upto_region 26 with (go_at_call 14; refine (HRDc.out _ HP5.out).mono ?_; rintro e w6 ⟨ad, c6, rfl, hc, hb⟩; have HB6 := hide (HB5.out.trans (hb.mono HB5.out.size)); have HC6 := hide ((hb.block _ (at_lt HC5.out)).trans HC5.out); have H156 := hide ((hb.block _ (at_lt H15.out)).trans H15.out); clear hb)
          have lb := Later.cell hc
          obtain ⟨l0, l1, l2, l3⟩ := later4 HC6.out
          clear hc x0 x1 x2 x3
          refine wp_region_later (by kernel_rfl) (by kernel_rfl) ?_
          repeat (go_big_quiet_step (fail))
          refine wpQuiet_nil ?_
          rintro _ ⟨y, rfl⟩
          have HB7 := hide (HB6.out.trans (y.below.mono HB6.out.size))
          have H157 := hide ((y.below.block _ (at_lt H156.out)).trans H156.out)
          clear lb l0 l1 l2 l3
          go_upto_region 28 with fail
          generalize y.w = w8 at HB7 H157 ⊢
          obtain ⟨l0, l1, l2, l3⟩ := later4 H157.out
          have hne := fun W => eq33 W 1 X 0 0 1 X 0 0
          skip
          simp only [beq_self_eq_true, Bool.and_self] at hne
          have HWD : Hid (∀ w, Calls Try.prog 24 #[.int .u64 X] w fun e w' => e = .returned (.agg #[.int .u8 1, .int .u64 X, .int .i64 0, .int .i64 0]) ∧ Below w.heap.size w w') := fun w => word_any X w
          skip
          refine wp_region_later (by kernel_rfl) (by kernel_rfl) ?_
          repeat (go_big_quiet_step ((exact Later.calls _ HWD.out)))
          refine wpQuiet_nil ?_
          rintro _ ⟨z, rfl⟩
          have HB9 := hide (HB7.out.trans (z.below.mono HB7.out.size))
          clear l0 l1 l2 l3
          go_wp2
          go_ret
          exact ⟨rfl, HB9.out⟩
        · simp only [Int.cast_ofNat_Int] at hrdc ⊢
          have HRDc := hide hrdc
          have hV : wd.tmod 65536 = X := by rw [HXe.out, Int.tmod_eq_emod_of_nonneg hwd.1]; rfl
          clear hrdc
          go_upto_region 25 with fail
          go_upto_region 26 with (go_at_call 14; refine (HRDc.out _ HP5.out).mono ?_; rintro e w6 ⟨ad, c6, rfl, hc, hb⟩; have HB6 := hide (HB5.out.trans (hb.mono HB5.out.size)); have HC6 := hide ((hb.block _ (at_lt HC5.out)).trans HC5.out); have H156 := hide ((hb.block _ (at_lt H15.out)).trans H15.out); clear hb)
          have lb := Later.cell hc
          obtain ⟨l0, l1, l2, l3⟩ := later4 HC6.out
          clear hc x0 x1 x2 x3
          refine wp_region_later (by kernel_rfl) (by kernel_rfl) ?_
          repeat (go_big_quiet_step (fail))
          refine wpQuiet_nil ?_
          rintro _ ⟨y, rfl⟩
          have HB7 := hide (HB6.out.trans (y.below.mono HB6.out.size))
          have H157 := hide ((y.below.block _ (at_lt H156.out)).trans H156.out)
          clear lb l0 l1 l2 l3
          go_upto_region 28 with fail
          generalize y.w = w8 at HB7 H157 ⊢
          obtain ⟨l0, l1, l2, l3⟩ := later4 H157.out
          have hne := fun W => eq33 W 1 X 0 0 1 X 0 0
          skip
          simp only [beq_self_eq_true, Bool.and_self] at hne
          have HWD : Hid (∀ w, Calls Try.prog 24 #[.int .u64 X] w fun e w' => e = .returned (.agg #[.int .u8 1, .int .u64 X, .int .i64 0, .int .i64 0]) ∧ Below w.heap.size w w') := fun w => word_any X w
          skip
          refine wp_region_later (by kernel_rfl) (by kernel_rfl) ?_
          repeat (go_big_quiet_step ((exact Later.calls _ HWD.out)))
          refine wpQuiet_nil ?_
          rintro _ ⟨z, rfl⟩
          have HB9 := hide (HB7.out.trans (z.below.mono HB7.out.size))
          clear l0 l1 l2 l3
          go_wp2
          go_ret
          exact ⟨rfl, HB9.out⟩
        · simp only [Int.cast_ofNat_Int] at hrdc ⊢
          have HRDc := hide hrdc
          have hV : wd.tmod 4294967296 = X := by rw [HXe.out, Int.tmod_eq_emod_of_nonneg hwd.1]; rfl
          clear hrdc
          go_upto_region 25 with fail
          go_upto_region 26 with (go_at_call 14; refine (HRDc.out _ HP5.out).mono ?_; rintro e w6 ⟨ad, c6, rfl, hc, hb⟩; have HB6 := hide (HB5.out.trans (hb.mono HB5.out.size)); have HC6 := hide ((hb.block _ (at_lt HC5.out)).trans HC5.out); have H156 := hide ((hb.block _ (at_lt H15.out)).trans H15.out); clear hb)
          have lb := Later.cell hc
          obtain ⟨l0, l1, l2, l3⟩ := later4 HC6.out
          clear hc x0 x1 x2 x3
          refine wp_region_later (by kernel_rfl) (by kernel_rfl) ?_
          repeat (go_big_quiet_step (fail))
          refine wpQuiet_nil ?_
          rintro _ ⟨y, rfl⟩
          have HB7 := hide (HB6.out.trans (y.below.mono HB6.out.size))
          have H157 := hide ((y.below.block _ (at_lt H156.out)).trans H156.out)
          clear lb l0 l1 l2 l3
          go_upto_region 28 with fail
          generalize y.w = w8 at HB7 H157 ⊢
          obtain ⟨l0, l1, l2, l3⟩ := later4 H157.out
          have hne := fun W => eq33 W 1 X 0 0 1 X 0 0
          skip
          simp only [beq_self_eq_true, Bool.and_self] at hne
          have HWD : Hid (∀ w, Calls Try.prog 24 #[.int .u64 X] w fun e w' => e = .returned (.agg #[.int .u8 1, .int .u64 X, .int .i64 0, .int .i64 0]) ∧ Below w.heap.size w w') := fun w => word_any X w
          skip
          refine wp_region_later (by kernel_rfl) (by kernel_rfl) ?_
          repeat (go_big_quiet_step ((exact Later.calls _ HWD.out)))
          refine wpQuiet_nil ?_
          rintro _ ⟨z, rfl⟩
          have HB9 := hide (HB7.out.trans (z.below.mono HB7.out.size))
          clear l0 l1 l2 l3
          go_wp2
          go_ret
          exact ⟨rfl, HB9.out⟩
        · simp only [Int.cast_ofNat_Int] at hrdc ⊢
          have HRDc := hide hrdc
          have hV : wd = X := by rw [HXe.out]; omega
          subst hV
          clear hrdc
          go_upto_region 25 with fail
          go_upto_region 26 with (go_at_call 14; refine (HRDc.out _ HP5.out).mono ?_; rintro e w6 ⟨ad, c6, rfl, hc, hb⟩; have HB6 := hide (HB5.out.trans (hb.mono HB5.out.size)); have HC6 := hide ((hb.block _ (at_lt HC5.out)).trans HC5.out); have H156 := hide ((hb.block _ (at_lt H15.out)).trans H15.out); clear hb)
          have lb := Later.cell hc
          obtain ⟨l0, l1, l2, l3⟩ := later4 HC6.out
          clear hc x0 x1 x2 x3
          refine wp_region_later (by kernel_rfl) (by kernel_rfl) ?_
          repeat (go_big_quiet_step (fail))
          refine wpQuiet_nil ?_
          rintro _ ⟨y, rfl⟩
          have HB7 := hide (HB6.out.trans (y.below.mono HB6.out.size))
          have H157 := hide ((y.below.block _ (at_lt H156.out)).trans H156.out)
          clear lb l0 l1 l2 l3
          go_upto_region 28 with fail
          generalize y.w = w8 at HB7 H157 ⊢
          obtain ⟨l0, l1, l2, l3⟩ := later4 H157.out
          have hne := fun W => eq33 W 1 wd 0 0 1 wd 0 0
          simp only [beq_self_eq_true, Bool.and_self] at hne
          have HWD : Hid (∀ w, Calls Try.prog 24 #[.int .u64 wd] w fun e w' => e = .returned (.agg #[.int .u8 1, .int .u64 wd, .int .i64 0, .int .i64 0]) ∧ Below w.heap.size w w') := fun w => word_any wd w
          refine wp_region_later (by kernel_rfl) (by kernel_rfl) ?_
          repeat (go_big_quiet_step ((exact Later.calls _ HWD.out)))
          refine wpQuiet_nil ?_
          rintro _ ⟨z, rfl⟩
          have HB9 := hide (HB7.out.trans (z.below.mono HB7.out.size))
          clear l0 l1 l2 l3
          go_wp2
          go_ret
          exact ⟨rfl, HB9.out⟩
      · have hst : A.wh (o / 8) = ⟨k, wd, rg, of⟩ := by
          have := HSto.out
          unfold Stood at this
          rwa [if_neg hk1] at this
        obtain ⟨hq8, ho8⟩ := HHeld.out.whole hk1
        subst hq8
        have hkz : k ≠ 0 := HHeld.out.k
        have hnone : ∀ i, i < 8 → A.pl (o + i) = .none := fun i hi => HOK.out.apart (o / 8) (by rw [hst]; exact hkz) (o + i) (by omega)
        have hld : loadM A o (8 : Nat) = (⟨k, wd, rg, of⟩, 0) := by
          rw [loadM_whole A o 8 hsz hpl ?_, hst]
          rw [hst]
          have : (o : Int) % 8 = 0 := by omega
          simp [groupedB, hkz, this]
        have hld2 : loadM A ((o + 1 : Nat) : Int) (1 : Nat) = (c0, 30) := by
          rw [loadM_at A (o + 1) 1 rfl (placed_nat (k := 1) (n := 1) hfit (by omega)) (by simp [groupedB]), AS.got_none A (o + 1) 1 0 (by omega) (hnone 1 (by omega))]
          rfl
        have hrd : readM A o (8 : Nat) = (.none, 30) := by
          rw [readM_at A o 8 (by omega) hpl, AS.got_none A o 8 0 (by omega) (hnone 0 (by omega))]
          rfl
        have HL := load_any b A o (8 : Nat) wr HP.out HOK.out ho
        rw [hld] at HL
        have HL2 := fun W h => load_any b A ((o + 1 : Nat) : Int) (1 : Nat) W h HOK.out (by omega)
        rw [hld2] at HL2
        rw [Int.natCast_add] at HL2
        simp only [Int.cast_ofNat_Int, c0, C4.val] at HL HL2
        have HRD0 := fun W h => read_unset (b := b) hrd ho W h
        simp only [Int.cast_ofNat_Int] at HRD0 ⊢
        have HRD := hide HRD0
        have HL' := hide HL
        have HL2' := hide HL2
        have e5 : (k == 1) = false := by simpa using hk1
        have e6 : decide (k = 1) = false := decide_eq_false hk1
        clear HL HL2 HRD0 hnone hst hld hld2 hrd
        go_upto_region 21 with (go_at_call 12; refine (HL'.out).mono ?_; rintro e w4 ⟨rfl, hb⟩; have HP4 := hide (HP.out.below hb); have HB4 := hide (HB.out.trans (hb.mono HB.out.size)); have HX4 := hide ((hb.block _ (at_lt HXR.out)).trans HXR.out); clear hb)
        have hx5 := World.alloc_heap_new w4 (.cells #[.int .u8 k, .int .u64 wd, .int .i64 rg, .int .i64 of] 33)
        have hw5 := below1 w4 (.cells #[.int .u8 k, .int .u64 wd, .int .i64 rg, .int .i64 of] 33)
        generalize w4.alloc (.cells _ 33) = w5 at hx5 hw5 ⊢
        obtain ⟨b15, hb15⟩ : ∃ b15, b15 = w4.heap.size := ⟨_, rfl⟩
        rw [← hb15] at hx5 ⊢
        have HP5 := hide (HP4.out.below hw5)
        have HB5 := hide (HB4.out.trans (hw5.mono HB4.out.size))
        have hx := (hw5.block _ (at_lt HX4.out)).trans HX4.out
        have HC5 := hide hx
        have H15 := hide hx5
        have x0 := blk_cell hx 0
        have x1 := blk_cell hx 1
        have x2 := blk_cell hx 2
        have x3 := blk_cell hx 3
        simp at x0 x1 x2 x3
        have hlx := at_lt hx
        clear hx hx5 hw5 hb15 HP4 HB4 HX4 HL' HXR HP HB
        go_upto_region 30 with (go_at_call 12; refine (HL2'.out _ HP5.out).mono ?_; rintro e w6 ⟨rfl, hb⟩; have HP6 := hide (HP5.out.below hb); have HB6 := hide (HB5.out.trans (hb.mono HB5.out.size)); have HC6 := hide ((hb.block _ (at_lt HC5.out)).trans HC5.out); have H156 := hide ((hb.block _ (at_lt H15.out)).trans H15.out); clear hb)
        have hw7 := below1 w6 (.cells #[.int .u8 0, .int .u64 0, .int .i64 0, .int .i64 0] 33)
        generalize w6.alloc (.cells _ 33) = w7 at hw7 ⊢
        have HP7 := hide (HP6.out.below hw7)
        have HB7 := hide (HB6.out.trans (hw7.mono HB6.out.size))
        have HC7 := hide ((hw7.block _ (at_lt HC6.out)).trans HC6.out)
        have H157 := hide ((hw7.block _ (at_lt H156.out)).trans H156.out)
        clear hw7 x0 x1 x2 x3 hlx HP6 HB6 HC6 H156
        go_upto_region 31 with (go_at_call 14; refine (HRD.out _ HP7.out).mono ?_; rintro e w8 ⟨rfl, hb⟩; have HB8 := hide (HB7.out.trans (hb.mono HB7.out.size)); have HC8 := hide ((hb.block _ (at_lt HC7.out)).trans HC7.out); have H158 := hide ((hb.block _ (at_lt H157.out)).trans H157.out); clear hb)
        have x0 := blk_cell H158.out 0
        have x1 := blk_cell H158.out 1
        have x2 := blk_cell H158.out 2
        have x3 := blk_cell H158.out 3
        have y0 := blk_cell HC8.out 0
        have y1 := blk_cell HC8.out 1
        have y2 := blk_cell HC8.out 2
        have y3 := blk_cell HC8.out 3
        simp at x0 x1 x2 x3 y0 y1 y2 y3
        have hl15 := at_lt H158.out
        have hlc := at_lt HC8.out
        have hne := fun W => eq33 W k wd rg of k wd rg of
        simp only [beq_self_eq_true, Bool.and_self] at hne
        go_wp2
        go_ret
        exact ⟨rfl, HB8.out⟩
end Go.Proofs.Ythgmbgncekfplaa
