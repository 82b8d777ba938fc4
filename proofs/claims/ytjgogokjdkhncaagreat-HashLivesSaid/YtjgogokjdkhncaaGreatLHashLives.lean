/-
  'hatchwaylaw11.HashLives' is true of whatever make and deeds.
-/
import Derived.Test.YtjgogokjdkhncaaGreatMG
import Derived.Test.YtjgogokjdkhncaaGreatMI
import Derived.Test.YtjgogokjdkhncaaGreatRows
import Derived.Test.YtjgogokjdkhncaaGreatMD
import Derived.WalkKit
import Derived.ProofKit
import Derived.OpenShut
import Derived.Lib.SmallJoins
import Derived.ChangeMaps5

/-
  HashLives: the deeds, one after another, by both hashes.
-/
namespace Go.Proofs.YtjgogokjdkhncaaGreat
open Go.RowKit Go.Maps
set_option linter.unusedVariables false

theorem InB.up {w : World} {B B' : Nat} {r : ARow} (h : InB w B r) (hb : B ≤ B') : InB w B' r := ⟨h.rd.mono hb, h.nil, h.le, h.cap, h.byte⟩
theorem ADos.up {w : World} {B B' : Nat} {A : Option Addr} {m : Nat} {ds : List ADo} (h : ADos w B A m ds) (hb : B ≤ B') : ADos w B' A m ds :=
  ⟨h.outer.mono hb, fun d hd => by have h1 := h.inner d hd; exact ⟨h1.k.up hb, h1.v.up hb, h1.what, h1.fl, h1.pl, h1.of⟩⟩
theorem par_new {s sz n : Nat} {M : List HS} (hl : M.length = n) (hz : ∀ r ∈ M, r.key = none ∧ r.bs = List.replicate sz 0) : Par (zHSs s sz n) M := by
  unfold Par
  apply List.ext_getElem?
  intro i
  rw [List.getElem?_map, List.getElem?_map]
  by_cases hi : i < n
  · have h1 : i < (zHSs s sz n).length := by rw [zHSs_len]; exact hi
    have h2 : i < M.length := by omega
    rw [List.getElem?_eq_getElem h1, List.getElem?_eq_getElem h2]
    have e1 := (zHSs_at (List.getElem?_eq_getElem h1)).2
    obtain ⟨e2, e3⟩ := hz _ (List.getElem_mem h2)
    simp only [Option.map_some]
    rw [e1, e2, e3]
    rfl
  · rw [List.getElem?_eq_none (by rw [zHSs_len]; omega), List.getElem?_eq_none (by omega)]
theorem RHsh.lower {w : World} {B B' x y lc ks sz : Nat} {M : List HS} (h : RHsh w B x y lc ks sz M) (hB : B' ≤ B) : RHsh w B' x y lc ks sz M := { h with low := fun g hg => Nat.le_trans hB (h.low g hg) }
theorem both_new {w0 w1 w2 : World} {b cb mb s ks sz x y lc n : Nat} {M : List HS} (h0 : Below w0.heap.size w0 w1) (h1 : Hsh w1 w0.heap.size b cb mb ks sz (zHSs s sz n)) (hb : Below w1.heap.size w1 w2) (h2 : RHsh w2 w1.heap.size x y lc ks sz M) (hM : M.length = n) (hz : ∀ r ∈ M, r.key = none ∧ r.bs = List.replicate sz 0) : Both (fun _ => True) w0 w2 b cb mb ks sz (zHSs s sz n) x y lc := by
  have hs := h0.size
  refine ⟨h1.below hb, ⟨M, h2.lower hs, par_new hM hz, fun g hg => ⟨fun hc => ?_, trivial⟩⟩, fun g hg => trivial, h0.trans (hb.mono hs)⟩
  have h3 := h1.lt g hc
  have h4 := h2.low g hg
  omega
set_option maxRecDepth 100000 in
set_option maxHeartbeats 4000000 in
theorem law_hashLives (k key val ent : Int) (A : Option Addr) (m c : Nat) (ds : List ADo) (w : World) (hk : 0 ≤ k ∧ k < 256) (h : ADos w w.heap.size A m ds) (hmc : m ≤ c) (hm : c ≤ 140737488351232) :
    Calls Tryz.prog 3 #[.agg #[.int .u8 k, .int .i64 key, .int .i64 val, .int .i64 ent], .slice A m c] w fun e w' => e = .returned (.bool true) ∧ Below w.heap.size w w' := by
  have hx := World.alloc_heap_new w (.cells #[.int .u8 k, .int .i64 key, .int .i64 val, .int .i64 ent] 24)
  have hb1 := below1 w (.cells #[.int .u8 k, .int .i64 key, .int .i64 val, .int .i64 ent] 24)
  have hz := hb1.size
  have HX := hide hx
  have HB1 := hide hb1
  have HA := hide ((h.below hb1).up hz)
  clear h hx hb1
  go_enter Tryz.func3, Tryz.ntmps3
  go_wp2_with fail
  generalize w.alloc (.cells #[.int .u8 k, .int .i64 key, .int .i64 val, .int .i64 ent] 24) = W1 at *
  refine (great_any k key val ent A m c W1.heap.size ds W1 HA.out (Nat.le_refl _) (by omega)).mono ?_
  rintro e w1 ⟨g, rfl, hb, hg⟩
  have HB2 := hide hb
  have hx2 := (hb.block _ (at_lt HX.out)).trans HX.out
  have HX2 := hide hx2
  clear hb hx2
  cases g with
  | true =>
    go_wp2_with fail
    refine (awake_any w1).mono ?_
    rintro e w2 ⟨rfl, hb⟩
    have HB := hide (HB1.out.trans ((HB2.out.trans (hb.mono HB2.out.size)).mono hz))
    clear hb
    go_wp2
    go_ret
    exact ⟨rfl, HB.out⟩
  | false =>
    have HN := hide (hg rfl).1
    have HE := hide (hg rfl).2
    have x0 : w1.cell? ⟨w.heap.size, 0, none⟩ = some (.int .u8 k) := (blk_cell HX2.out 0).trans rfl
    have x1 : w1.cell? ⟨w.heap.size, 1, none⟩ = some (.int .i64 key) := (blk_cell HX2.out 1).trans rfl
    have x2 : w1.cell? ⟨w.heap.size, 2, none⟩ = some (.int .i64 val) := (blk_cell HX2.out 2).trans rfl
    have x3 : w1.cell? ⟨w.heap.size, 3, none⟩ = some (.int .i64 ent) := (blk_cell HX2.out 3).trans rfl
    clear hg
    by_cases he : newE k key val ent = 0
    · obtain ⟨rfl, hsp, hk1, hk2, hv1, hv2, hn1, hn2⟩ := newE_yes he
      obtain ⟨ks, rfl⟩ : ∃ s : Nat, key = s := ⟨key.toNat, by omega⟩
      obtain ⟨sz, rfl⟩ : ∃ s : Nat, val = s := ⟨val.toNat, by omega⟩
      obtain ⟨n, rfl⟩ : ∃ s : Nat, ent = s := ⟨ent.toNat, by omega⟩
      have HSP := hide hsp
      have hn40 : n ≤ 40 := by have := HE.out; omega
      clear he hsp HE
      go_wp2_with fail
      refine (new_yes n ks sz w1 HSP.out (by omega) (by omega) (by omega)).mono ?_
      rintro e w2 ⟨b, cb, mb, s, rfl, ha, hb⟩
      have HAr := hide (ha.lower HB2.out.size)
      have HB3 := hide (HB2.out.trans (hb.mono HB2.out.size))
      have hx3 := (hb.block _ (at_lt HX2.out)).trans HX2.out
      have x0 : w2.cell? ⟨w.heap.size, 0, none⟩ = some (.int .u8 2) := (blk_cell hx3 0).trans rfl
      have x1 : w2.cell? ⟨w.heap.size, 1, none⟩ = some (.int .i64 ks) := (blk_cell hx3 1).trans rfl
      have x2 : w2.cell? ⟨w.heap.size, 2, none⟩ = some (.int .i64 sz) := (blk_cell hx3 2).trans rfl
      have x3 : w2.cell? ⟨w.heap.size, 3, none⟩ = some (.int .i64 n) := (blk_cell hx3 3).trans rfl
      clear ha hb hx3
      go_wp2_with fail
      refine (rnew_yes n ks sz w2 HSP.out (by omega) (by omega) (by omega)).mono ?_
      rintro e w3 ⟨x, y, lc, M, rfl, hr, hMl, hMz, hb⟩
      have HS0 := hide (both_new HB3.out HAr.out hb hr hMl hMz)
      have HZ : Hid ((zHSs s sz n).length = n) := hide (zHSs_len s sz n)
      clear hr hb x0 x1 x2 x3 HAr HB3 hMl hMz
      generalize zHSs s sz n = L0 at *
      go_wp2_with fail
      go_loopw [9] (fun u wr => ∃ (j : Nat) (L : List HS), j ≤ m ∧ u = .int .i64 j ∧ L.length = n ∧ Both (fun _ => True) W1 wr b cb mb ks sz L x y lc) (fun u _ => m - (intOf u).toNat)
      case atStart => exact ⟨0, L0, Nat.zero_le _, rfl, HZ.out, HS0.out⟩
      case round =>
        obtain ⟨j, L, hj, rfl, hl, hB⟩ := hrel
        have HT := hide hB
        have HL := hide hl
        clear hB hl
        by_cases hjm : j < m
        · have hAr := HA.out.below HT.out.below
          obtain ⟨ad, d, rfl, hd, hadb, hc⟩ := hAr.cell hjm
          have HI := hide (HA.out.inner d (List.mem_of_getElem? hd))
          have HN1 := hide (HN.out d (List.mem_of_getElem? hd))
          have c0 : wr.cell? (ad.add (j * 6)) = some (.int .i64 d.what) := hc 0 _ rfl
          have c1 := hc 1 _ rfl
          have c2 := hc 2 _ rfl
          have c3 := hc 3 _ rfl
          have c4 := hc 4 _ rfl
          have c5 := hc 5 _ rfl
          rw [add_parts ad _ 1 (by decide)] at c1
          rw [add_parts ad _ 2 (by decide)] at c2
          rw [add_parts ad _ 3 (by decide)] at c3
          rw [add_parts ad _ 4 (by decide)] at c4
          rw [add_parts ad _ 5 (by decide)] at c5
          clear hc hAr hd
          go_wp2_with fail
          refine (step_any W1 wr b cb mb ks sz x y lc L d HT.out HI.out HN1.out.1 HN1.out.2).mono ?_
          rintro e w5 ⟨rfl, L', hl', hB'⟩
          have HS5 := hide hB'
          have HL5 := hide (hl'.trans HL.out)
          clear hB' hl' c0 c1 c2 c3 c4 c5
          go_wp2_with fail
          go_roundw
          case rel => exact ⟨j + 1, L', by omega, by go_num, HL5.out, HS5.out⟩
          case measure => simp [intOf]; omega
        · have hjq : j = m := by omega
          clear hjm hj
          subst hjq
          go_wp2_with fail
          go_loopw [10, 11, 12, 13, 14] (fun u a1 a2 a3 a4 wq => ∃ j : Nat, j ≤ n ∧ u = .int .i64 j ∧ Both (fun _ => True) W1 wq b cb mb ks sz L x y lc) (fun u _ _ _ _ _ => n - (intOf u).toNat)
          case atStart => exact ⟨0, Nat.zero_le _, rfl, HT.out⟩
          case round =>
            obtain ⟨j, hj, rfl, hB⟩ := hrel
            have k3 : wr.cell? ⟨w.heap.size, 3, none⟩ = some (.int .i64 n) := (blk_cell ((hB.below.block _ (at_lt HX.out)).trans HX.out) 3).trans rfl
            have HQ := hide hB
            clear hB HT
            by_cases hjn : j < n
            · go_wp2_with fail
              refine (value_any (i := (j : Int)) HQ.out.a).mono ?_
              rintro e wh ⟨A1, m1, c1, er, rfl, he1, hm1, ho1, hb⟩
              have HCh := hide (HQ.out.later hb)
              have HO1 := hide ho1
              have HM1 := hide hm1
              have hbg := HCh.out.a.big
              clear hb ho1 he1 hm1 k3
              go_wp2_with fail
              refine (HCh.out.rvalue (j : Int)).mono ?_
              rintro e wi ⟨A2, m2, c2, er2, rfl, he2, hm2, ho2, hb⟩
              obtain rfl : m2 = m1 := hm2.trans HM1.out.symm
              have hm20 : m2 ≤ 1000000 := by
                rw [hm2]
                exact Nat.le_trans (valM_le _ _ _) (by omega)
              have HCi := hide (HCh.out.later hb)
              have HR1 := hide (owns_kept_below HO1.out.1 hb)
              have HR2 := hide ho2.1
              clear hb ho2 he2 hm2 HO1 HM1
              go_wp2_with fail
              have hr1 := rd_of_slice HR1.out
              have hr2 := rd_of_slice HR2.out
              refine (sameBytes_yes A1 A2 m2 c1 c2 wi.heap.size _ wi hr1 hr2 (Nat.le_refl _) hm20).mono ?_
              rintro e wk ⟨rfl, hb⟩
              have HCk := hide (HCi.out.later hb)
              clear hb hr1 hr2
              go_wp2_with fail
              go_roundw
              case rel => exact ⟨j + 1, by omega, by go_num, HCk.out⟩
              case measure => simp [intOf]; omega
            · have hjq : j = n := by omega
              clear hjn hj
              subst hjq
              go_wp2_with fail
              have HQ2 := hide (HQ.out.mono (N' := fun g => g < wr.heap.size) (fun g hg _ => hg))
              have HLn : Hid (L.length ≤ 40) := hide (by rw [HL.out]; exact hn40)
              clear k3
              refine (keys_any W1.heap.size b cb mb ks sz L _ HQ2.out.a).mono ?_
              rintro e wa ⟨v1, rs1, rfl, ht1, hk1, hb⟩
              obtain ⟨A1, c1, rfl, _⟩ := owns_slice ht1.row
              have HC1 := hide (HQ2.out.later hb)
              have HT1 := hide ht1
              have HK1 := hide hk1
              have HS1 := hide hb.size
              clear hb ht1 hk1
              go_wp2_with fail
              refine (keys_any W1.heap.size b cb mb ks sz L _ HC1.out.a).mono ?_
              rintro e wb ⟨v2, rs2, rfl, ht2, hk2, hb⟩
              obtain ⟨A2, c2, rfl, _⟩ := owns_slice ht2.row
              have HC2 := hide (HC1.out.later hb)
              have HT1b := hide (HT1.out.below hb)
              have HT2 := hide ht2
              have HK2 := hide hk2
              have HLo := hide HT1.out.lo
              have HS2 := hide (Nat.le_trans HS1.out hb.size)
              have HB0 := hide HQ.out.below.size
              clear hb ht2 hk2 HT1
              go_wp2_with fail
              refine (keys_apart HLn.out HT1b.out HT2.out HLo.out HS1.out HK1.out HK2.out HC2.out.a.keys_len HS2.out).mono ?_
              rintro e wc ⟨rfl, hb⟩
              have HC3 := hide (HC2.out.over hb (fun g _ h => h) HB0.out)
              clear hb HT1b HT2 HC1 HC2
              go_wp2_with fail
              refine (keys_any W1.heap.size b cb mb ks sz L _ HC3.out.a).mono ?_
              rintro e wd ⟨v4, rs4, rfl, ht4, hk4, hb⟩
              obtain ⟨A4, c4, rfl, _⟩ := owns_slice ht4.row
              have HCm := hide (HC3.out.later hb)
              have HT4 := hide ht4
              have HK4 := hide hk4
              clear hb ht4 hk4 HC3
              go_wp2_with fail
              refine HCm.out.rkeys.mono ?_
              rintro e we ⟨v5, rs5, rfl, ht5, hk5, hb⟩
              obtain ⟨A5, c5, rfl, _⟩ := owns_slice ht5.row
              have HCn := hide (HCm.out.later hb)
              have HT4n := hide (HT4.out.below hb)
              have HT5 := hide ht5
              have HK5 := hide hk5
              clear hb ht5 hk5 HT4 HCm
              go_wp2_with fail
              refine (same_keys (by have := HCn.out.a.many.2; omega) HT4n.out HT5.out HK4.out HK5.out HCn.out.a.keys_len).mono ?_
              rintro e wf ⟨rfl, hb⟩
              have HCo := hide (HCn.out.later hb)
              clear hb HT4n HT5 HCn
              go_wp2_with fail
              refine (awake_any _).mono ?_
              rintro e w4 ⟨rfl, hb⟩
              have HB := hide (HB1.out.trans ((HCo.out.below.trans (hb.mono HCo.out.below.size)).mono hz))
              clear hb
              go_wp2
              go_ret
              exact ⟨rfl, HB.out⟩
    · obtain ⟨r, hr⟩ : ∃ r, r = newE k key val ent := ⟨_, rfl⟩
      have hn := new_no k key val ent w1 hk he
      have hrn := fun W => rnew_no k key val ent W hk he
      rw [← hr] at hn
      simp only [← hr] at hrn he
      have HRN := hide hrn
      have HNN := hide hn
      have HHr := hide hr
      clear hr hrn hn
      go_wp2_with fail
      refine HNN.out.mono ?_
      rintro e w2 ⟨rfl, hb⟩
      have HB3 := hide (HB2.out.trans (hb.mono HB2.out.size))
      have hx3 := (hb.block _ (at_lt HX2.out)).trans HX2.out
      have x0 : w2.cell? ⟨w.heap.size, 0, none⟩ = some (.int .u8 k) := (blk_cell hx3 0).trans rfl
      have x1 : w2.cell? ⟨w.heap.size, 1, none⟩ = some (.int .i64 key) := (blk_cell hx3 1).trans rfl
      have x2 : w2.cell? ⟨w.heap.size, 2, none⟩ = some (.int .i64 val) := (blk_cell hx3 2).trans rfl
      have x3 : w2.cell? ⟨w.heap.size, 3, none⟩ = some (.int .i64 ent) := (blk_cell hx3 3).trans rfl
      clear hb hx3
      go_wp2_with fail
      refine (HRN.out w2).mono ?_
      rintro e w3 ⟨rfl, hb⟩
      have HB4 := hide (HB3.out.trans (hb.mono HB3.out.size))
      clear hb x0 x1 x2 x3
      go_wp2_with fail
      refine (awake_any w3).mono ?_
      rintro e w4 ⟨rfl, hb⟩
      have HB := hide (HB1.out.trans ((HB4.out.trans (hb.mono HB4.out.size)).mono hz))
      clear hb
      go_wp2
      go_ret
      exact ⟨rfl, HB.out⟩
end Go.Proofs.YtjgogokjdkhncaaGreat

namespace Go.Proofs.YtjgogokjdkhncaaGreat.hashLives
open Go.ChangeShapes Go.WideShapes Go.ChangeAt Go.RowKit Go.Joins
set_option linter.unusedVariables false

theorem own : ownKnob Tryz.prog.godebug = none := by kernel_rfl
theorem laidOut : laidOutB Tryz.prog = true := by kernel_rfl

set_option maxRecDepth 100000 in
theorem lifted (os : Os) (started : os.Started) (H : Type) (enc : TypeId × Value → H) :
    ReturnsInHanded {} Tryz.checked os 3 .any (Rows.hashLivesSpec.pre6 enc Tryz.prog Tryz.f3 Rows.hashLivesRow.domain false) (Rows.hashLivesSpec.post enc Tryz.prog Tryz.f3 false true false false) := by
  refine returnsInHanded_of_change_sized (C := Tryz.checked) own started (by kernel_rfl) Tryz.func3
    (ChangeSpec.witness6 (enc := enc) (C := Tryz.checked) false ⟨#[], #[.agg #[.int .u8 0, .int .i64 0, .int .i64 0, .int .i64 0], .slice none 0 0], []⟩ 8 (by kernel_rfl) (by kernel_rfl) (by kernel_rfl) (by kernel_rfl)) ?_
  intro W base args ds gs before hval0 hW _ hsz0 _
  have hsz : (DataW.weightsEach Tryz.prog (Tryz.f3.params.toList ++ Rows.hashLivesSpec.plain.varTypes Tryz.prog) (ds ++ gs)).all (· ≤ reachBytes) = true := hsz0
  clear hsz0
  have hval : ∀ (j : Nat) t v, Tryz.f3.params[j]? = some t → args[j]? = some v → Value.okWide Tryz.prog W .any base t v := hval0
  have hW' := hW
  obtain ⟨p, q, hA0, hV, rfl, _, _⟩ := hW
  have hA : DataW.TrodAll enc Tryz.prog W 0 (fun _ => true) true Tryz.f3.params.toList args.toList ds p := hA0
  rw [Tryz.params3] at hA hval hsz
  obtain ⟨v0, vs0, d0, ds0, p0, q0, hargs, rfl, rfl, h0, r0⟩ := trodAll_cons hA
  obtain ⟨v1, vs1, d1, ds1, p1, q1, rfl, rfl, rfl, h1, r1⟩ := trodAll_cons r0
  obtain ⟨rfl, rfl, rfl⟩ := trodAll_nil r1
  obtain rfl : args = #[v0, v1] := by cases args; simp_all
  obtain ⟨rfl, rfl⟩ := trodVars_none hV
  have k0 := h0
  obtain ⟨cs0, rfl, _⟩ := okWide_struct Tryz.underlying24 (hval 0 24 v0 rfl rfl)
  obtain ⟨fu0, hf0⟩ := h0
  have z0 : Szd 24 d0 := fun n hn => by
    have := List.all_eq_true.1 hsz n (DataW.weights_mem_each (j := 0) (t := 24) (d := d0) rfl rfl n hn)
    simpa using this
  obtain ⟨y0, is0, e0⟩ := view_spec z0 hf0
  have g0 : cs0 = y0.cells.toArray := by
    have e0 : cs0.toList = y0.cells := e0
    rw [← e0]
  subst g0
  have k1 := h1
  obtain ⟨a1, n1, c1, rfl⟩ := okWide_slice Tryz.underlying25 (hval 1 25 v1 rfl rfl)
  obtain ⟨fu1, hf1⟩ := h1
  have z1 : Szd 25 d1 := fun n hn => by
    have := List.all_eq_true.1 hsz n (DataW.weights_mem_each (j := 1) (t := 25) (d := d1) rfl rfl n hn)
    simpa using this
  obtain ⟨A1, m1, cc1, l1, e1, is1, le1, lc1⟩ := view_dos z1 hf1
  simp [Value.cells] at e1
  obtain ⟨rfl, rfl, rfl⟩ := e1
  clear hA0 hval0
  simp only [List.append_nil] at hW'
  have hlt : ∀ x ∈ p0 ++ (p1), x.block < W.heap.size := fun x hx => by simpa using hW'.lt x (by simpa using hx)
  refine (law_hashLives y0.k y0.key y0.val y0.ent a1 n1 c1 l1 W is0.k is1 le1 lc1).mono fun e W' ⟨he, hb⟩ => ?_
  subst he
  exact ⟨_, rfl, post_new hW' (fun _ _ _ => (trodAll_cons_mk (shut_bool Tryz.underlying4 _) trodAll_mk0)) (fun sp hsp => (trodAll_cons_mk (Below.reads laidOut (by kernel_rfl) (of_decide_eq_true (by kernel_rfl)) k0 hb (fun x hx => hlt x (by simp [hx])) sp (fun x hx => hsp x (by simp [hx]))) (trodAll_cons_mk (Below.reads laidOut (by kernel_rfl) (of_decide_eq_true (by kernel_rfl)) k1 hb (fun x hx => hlt x (by simp [hx])) sp (fun x hx => hsp x (by simp [hx]))) trodAll_mk0))) (fun _ _ => rfl) (by simp) hb (ok_one (by kernel_rfl) rfl (okWide_bool_mk Tryz.underlying4 _))⟩

theorem over : Rows.hashLivesRow.holds Tryz.pinned (OpenSpec.ofChange Rows.hashLivesSpec) :=
  OpenClaim.holds_of_wide 3 Tryz.f3 rfl rfl rfl rfl rfl rfl rfl ⟨rfl, rfl, rfl, rfl, rfl⟩ rfl rfl rfl rfl rfl (by kernel_rfl) Tryz.func3 (by kernel_rfl)
    (of_decide_eq_true (by kernel_rfl)) (by unfold Func.isWrapper; first | (rw [if_pos (by decide +kernel)]; kernel_rfl) | (rw [if_neg (by decide +kernel)]; exact ⟨rfl, rfl⟩))
    (fun os started H enc _ => lifted os started H enc)

/-- The given statement. -/
theorem proved : Rows.HashLivesSaid :=
  over
#print axioms proved
end Go.Proofs.YtjgogokjdkhncaaGreat.hashLives
