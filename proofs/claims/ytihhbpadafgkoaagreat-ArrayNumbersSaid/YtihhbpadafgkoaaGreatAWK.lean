/-
  The chapter's example holds.
-/
import Derived.Test.YtihhbpadafgkoaaGreatAR12
import Derived.Test.YtihhbpadafgkoaaGreatAK
import Derived.Lib.SmallJoins
import Derived.Laws.IdiomStrings
namespace Go.Proofs.YtihhbpadafgkoaaGreat
open Go.RowKit
set_option linter.unusedVariables false

theorem conv_rd {W : World} {B n c : Nat} {A : Option Addr} (l : List UInt8) (hn : l.length = n) (h0 : 0 < n) (h : Rd W B 1 A n (u8s (l.map fun x => (x.toNat : Int)))) : (convert 34 9 (.slice A n c)).run Tryz.prog W = .ok (.string ⟨l.toArray⟩) W := by
  subst hn
  obtain ⟨ad, rfl, _, hc⟩ := h.2 h0
  refine run_convert_bytes_back W 34 9 5 ad c l Tryz.underlying34 Tryz.underlying5 Tryz.underlying9 (fun j hj => hc j _ ?_)
  simp [u8s, hj]
theorem below1m (w : World) (l : List Value) (fr : Nat × Nat) : Below w.heap.size w (w.alloc (.cells l.toArray 5 fr)) := (Below.refl _ _).alloc (Nat.le_refl _) _
theorem spec_3 : specM 1 4 2 3 = 0 := by decide
theorem Arr.low_ {w w' : World} {B b cb sz : Nat} {L : List AR} (h : Arr w B b cb sz L) (hk : Kept (fun g => ¬ OfA b cb sz L g) w w') (hB : B ≤ w.heap.size) : Below B w w' := hk.to_below (fun g hg ho => by have := h.low g ho; omega) hB
theorem zARs_bs (s : Nat) : (zARs s 2 3).length = 3 ∧ (zARs s 2 3)[1]? = some (zAR 2 (s + 1)) := ⟨by simp [zARs], by simp [zARs]⟩
set_option maxRecDepth 100000 in
set_option maxHeartbeats 2000000 in
theorem awake_any (w : World) : Calls Tryz.prog 11 #[] w fun e w' => e = .returned (.bool true) ∧ Below w.heap.size w w' := by
  go_enter Tryz.func11, Tryz.ntmps11
  go_wp2_with fail
  refine (new_yes 3 2 w spec_3 (by omega) (by omega)).mono ?_
  rintro e w1 ⟨b, cb, s, rfl, ha, hb⟩
  obtain ⟨hL, hr⟩ := zARs_bs s
  generalize zARs s 2 3 = L at ha hL hr
  have HA1 := hide ha
  have HB1 := hide hb
  have HL := hide hL
  have HR := hide hr
  clear ha hb hL hr
  go_wp2_with fail
  refine (key_any 2 w1).mono ?_
  rintro e w2 ⟨rfl, rfl⟩
  have hb2 := below1 w1 (.cells (u8s (keyB 2)).toArray 5)
  have HA2 := hide (HA1.out.below hb2)
  have HB2 := hide (HB1.out.trans (hb2.mono HB1.out.size))
  have hlk := lookup_any _ b cb 2 L _ 4 4 _ (keyB 2) _ HA2.out (rd_new w1 (keyB 2) 4 rfl) (by simp) (keyB_byte 2)
  rw [HL.out, show lookV 4 (keyB 2) 3 = (2, 0) by decide] at hlk
  have HK := hide hlk
  clear hlk hb2 HA1 HB1
  go_wp2_with fail
  refine HK.out.mono ?_
  rintro e w3 ⟨rfl, hb3⟩
  have HA3 := hide (HA2.out.below hb3)
  have HB3 := hide (HB2.out.trans (hb3.mono HB2.out.size))
  clear hb3 HA2 HB2 HK
  go_wp2_with fail
  refine (key_any 3 w3).mono ?_
  rintro e w2 ⟨rfl, rfl⟩
  have hb2 := below1 w3 (.cells (u8s (keyB 3)).toArray 5)
  have HA4 := hide (HA3.out.below hb2)
  have HB4 := hide (HB3.out.trans (hb2.mono HB3.out.size))
  have hlk := lookup_any _ b cb 2 L _ 4 4 _ (keyB 3) _ HA4.out (rd_new w3 (keyB 3) 4 rfl) (by simp) (keyB_byte 3)
  rw [HL.out, show lookV 4 (keyB 3) 3 = (0, 6) by decide] at hlk
  have HK := hide hlk
  clear hlk hb2 HA3 HB3
  go_wp2_with fail
  refine HK.out.mono ?_
  rintro e w5 ⟨rfl, hb5⟩
  have HA5 := hide (HA4.out.below hb5)
  have HB5 := hide (HB4.out.trans (hb5.mono HB4.out.size))
  clear hb5 HA4 HB4 HK
  go_wp2_with fail
  refine (key_any 1 w5).mono ?_
  rintro e w6 ⟨rfl, rfl⟩
  have hcv := Joins.run_convert_bytes_const_at (P := Tryz.prog) (w5.alloc (.cells (u8s (keyB 1)).toArray 5)) 34 5 #[.int .u8 97, .int .u8 98] 2 2 (w5.heap.size + 1) (by simp) Tryz.underlying34 Tryz.underlying5
  have hb2 := below2 w5 (.cells (u8s (keyB 1)).toArray 5) (.cells (u8s [97, 98]).toArray 5 (2, 3))
  have HA6 := hide (HA5.out.below hb2)
  have HB6 := hide (HB5.out.trans (hb2.mono HB5.out.size))
  have hkr := (rd_new w5 (keyB 1) 4 rfl).below ((below1 (w5.alloc (.cells (u8s (keyB 1)).toArray 5)) (.cells (u8s [97, 98]).toArray 5 (2, 3))).mono (by simp))
  have hvr := rd_mark (w5.alloc (.cells (u8s (keyB 1)).toArray 5)) [97, 98] 2 rfl (2, 3)
  simp only [World.size_alloc] at hvr
  have hup := upd_yes _ b cb 2 L _ _ 4 4 _ 2 2 _ 0 (keyB 1) [97, 98] _ HA6.out hkr (by simp) (keyB_byte 1) hvr (by simp) (by rw [HL.out]; decide)
  rw [show keyV (keyB 1) = 1 by decide, putL_some HR.out] at hup
  have HU := hide hup
  clear hup hkr hvr hb2 HA5 HB5
  go_wp2_with fail
  refine HU.out.mono ?_
  rintro e w7 ⟨rfl, ha7, hk7⟩
  have HB7 := hide (HB6.out.trans (HA6.out.low_ hk7 HB6.out.size))
  obtain ⟨r1, hr1⟩ : ∃ r1, r1 = ({ zAR 2 (s + 1) with bs := splice (zAR 2 (s + 1)).bs 0 [97, 98] } : AR) := ⟨_, rfl⟩
  have hbs1 : r1.bs = [97, 98] := by rw [hr1]; rfl
  rw [← hr1] at ha7
  have hL7 : (L.set 1 r1).length = 3 := by rw [List.length_set]; exact HL.out
  have hR7 : (L.set 1 r1)[1]? = some r1 := List.getElem?_set_self (by rw [HL.out]; omega)
  generalize L.set 1 r1 = L7 at ha7 hL7 hR7
  have HA7 := hide ha7
  have HL7 := hide hL7
  have HR7 := hide hR7
  have HS1 := hide hbs1
  clear hr1 hbs1 ha7 hk7 hL7 hR7 HU HA6 HB6 hcv
  have hv := value_yes _ b cb 2 1 L7 r1 w7 HA7.out HR7.out
  rw [HS1.out] at hv
  have HV := hide hv
  clear hv
  go_wp2_with fail
  refine HV.out.mono ?_
  rintro e w8 ⟨v1, rfl, ho1, hb8⟩
  obtain ⟨A1, c1, rfl, _⟩ := owns_slice ho1.1
  have HA8 := hide (HA7.out.below hb8)
  have HB8 := hide (HB7.out.trans (hb8.mono HB7.out.size))
  have HO8 := hide ho1
  have HF1 : Hid (∀ g, (Value.slice A1 2 c1).ownBlock = some g → ¬ OfA b cb 2 L7 g) := hide (fun g hg ho => by have h1 := ho1.2 g hg; have h2 := HA7.out.lt g ho; omega)
  clear ho1 hb8 HV HA7 HB7
  have hcv := Joins.run_convert_bytes_const_at (P := Tryz.prog) w8 34 5 #[.int .u8 99] 1 1 w8.heap.size rfl Tryz.underlying34 Tryz.underlying5
  have hb9 := below1m w8 (u8s [99]) (1, 2)
  have HA9 := hide (HA8.out.below hb9)
  have HB9 := hide (HB8.out.trans (hb9.mono HB8.out.size))
  have HO9 := hide (owns_kept_below HO8.out.1 hb9)
  have hst := set_yes _ b cb 2 1 1 _ L7 r1 _ 1 1 [99] _ HA9.out HR7.out (rd_mark w8 [99] 1 rfl (1, 2)) (by simp) (by omega)
  rw [putL_some HR7.out] at hst
  have HST := hide hst
  clear hst hb9
  go_wp2_with fail
  refine HST.out.mono ?_
  rintro e w10 ⟨rfl, ha10, hk10⟩
  have HB10 := hide (HB9.out.trans (HA9.out.low_ hk10 HB9.out.size))
  have HO10 := hide (owns_kept HO9.out hk10 HF1.out)
  obtain ⟨r2, hr2⟩ : ∃ r2, r2 = ({ r1 with bs := splice r1.bs 1 [99] } : AR) := ⟨_, rfl⟩
  have hbs2 : r2.bs = [97, 99] := by rw [hr2]; show splice r1.bs 1 [99] = _; rw [HS1.out]; rfl
  rw [← hr2] at ha10
  have hL10 : (L7.set 1 r2).length = 3 := by rw [List.length_set]; exact HL7.out
  have hR10 : (L7.set 1 r2)[1]? = some r2 := List.getElem?_set_self (by rw [HL7.out]; omega)
  generalize L7.set 1 r2 = L10 at ha10 hL10 hR10
  have HA10 := hide ha10
  have HL10 := hide hL10
  have HR10 := hide hR10
  have HS2 := hide hbs2
  clear hr2 hbs2 ha10 hk10 hL10 hR10 HST HA9 HB9 hcv HA8 HB8 HO9 HO8
  have hv := value_yes _ b cb 2 1 L10 r2 w10 HA10.out HR10.out
  rw [HS2.out] at hv
  have HV := hide hv
  clear hv
  go_wp2_with fail
  refine HV.out.mono ?_
  rintro e w11 ⟨v2, rfl, ho2, hb11⟩
  obtain ⟨A2, c2, rfl, _⟩ := owns_slice ho2.1
  have HA11 := hide (HA10.out.below hb11)
  have HB11 := hide (HB10.out.trans (hb11.mono HB10.out.size))
  have HO11 := hide (owns_kept_below HO10.out hb11)
  have HO12 := hide ho2.1
  clear ho2 hb11 HV HA10 HB10 HO10
  have hc1 := conv_rd (n := 2) (c := c1) [97, 98] rfl (by decide) (Rd.of_own HO11.out)
  have hc2 := conv_rd (n := 2) (c := c2) [97, 99] rfl (by decide) (Rd.of_own HO12.out)
  go_wp2_with fail
  refine (key_any 1 w11).mono ?_
  rintro e w12 ⟨rfl, rfl⟩
  clear hc1 hc2
  have hcv := Joins.run_convert_bytes_const_at (P := Tryz.prog) (w11.alloc (.cells (u8s (keyB 1)).toArray 5)) 34 5 #[.int .u8 120, .int .u8 121] 2 2 (w11.heap.size + 1) (by simp) Tryz.underlying34 Tryz.underlying5
  have hb2 := below2 w11 (.cells (u8s (keyB 1)).toArray 5) (.cells (u8s [120, 121]).toArray 5 (2, 3))
  have HA13 := hide (HA11.out.below hb2)
  have HB13 := hide (HB11.out.trans (hb2.mono HB11.out.size))
  have hkr := (rd_new w11 (keyB 1) 4 rfl).below ((below1 (w11.alloc (.cells (u8s (keyB 1)).toArray 5)) (.cells (u8s [120, 121]).toArray 5 (2, 3))).mono (by simp))
  have hup := upd_no _ b cb 2 L10 _ (some ⟨w11.heap.size + 1, 0, none⟩) 4 4 _ 2 2 1 (keyB 1) _ HA13.out hkr (by simp) (keyB_byte 1) (by rw [HL10.out]; decide)
  rw [HL10.out, show updE 3 2 4 (keyB 1) 2 1 = 7 by decide] at hup
  have HU := hide hup
  clear hup hkr hb2 HA11 HB11
  go_wp2_with fail
  refine HU.out.mono ?_
  rintro e w14 ⟨rfl, hb14⟩
  have HA14 := hide (HA13.out.below hb14)
  have HB14 := hide (HB13.out.trans (hb14.mono HB13.out.size))
  clear hb14 hcv HU HA13 HB13
  go_wp2_with fail
  refine (key_any 1 w14).mono ?_
  rintro e w15 ⟨rfl, rfl⟩
  have hb2 := below1 w14 (.cells (u8s (keyB 1)).toArray 5)
  have HA15 := hide (HA14.out.below hb2)
  have HB15 := hide (HB14.out.trans (hb2.mono HB14.out.size))
  have HD := hide (delete_of (some ⟨b, 0, none⟩) (some ⟨w14.heap.size, 0, none⟩) 4 4 9 _ (fun W q hb hc => delIn_yes b q W hc (by rw [blk_cell (HA15.out.below hb).blk]; rfl)))
  clear hb2
  go_wp2_with (go_at_call 37; refine HD.out.mono ?_; rintro e w16 ⟨rfl, hb⟩; have HB16 := hide (HB15.out.trans (hb.mono HB15.out.size)); clear hb)
  go_ret
  exact ⟨rfl, HB16.out⟩
end Go.Proofs.YtihhbpadafgkoaaGreat
