/-
  The chapter's example holds.
-/
import Derived.Test.YtbllnjkagleenaaGreatP7
import Derived.Test.YtbllnjkagleenaaGreatK2
import Derived.Lib.SmallJoins
namespace Go.Proofs.YtbllnjkagleenaaGreat
open Go.RowKit
set_option linter.unusedVariables false

theorem four_made (w : World) : (Instr.makeSlice 26 (.int .i64 4) (.int .i64 4)).run Tryz.prog w = .ok (.slice (some ⟨w.heap.size, 0, none⟩) 4 4) (w.alloc (.cells (u8s [0, 0, 0, 0]).toArray 5)) := by
  obtain ⟨i0, hi, hz0, hz1, hz2⟩ := info_parts u8info
  have := run_make (P := Tryz.prog) w 26 5 i0 _ Tryz.underlying26 hi hz0 .i64 .i64 4 4 (by omega) (by omega) (by rw [hz2]; omega) (by omega)
  rw [hz1] at this
  have e : madeCells (Value.int IntKind.u8 0).cells (Int.toNat 4 * 1) = (u8s [0, 0, 0, 0]).toArray := by kernel_rfl
  rw [e] at this
  exact this
theorem Mem.low_ {w w' : World} {B b mm : Nat} {L : List (Option PRow)} (h : Mem w B b mm L) (hk : Kept (fun g => ¬ OfM b mm L g) w w') (hB : B ≤ w.heap.size) : Below B w w' := hk.to_below (fun g hg ho => by have := h.low g ho; omega) hB
theorem Mem.at1 {r : PRow} : rowAt [some r] 1 = some r := rfl
theorem rd_new (w : World) (l : List Int) (n : Nat) (hn : l.length = n) : Rd (w.alloc (.cells (u8s l).toArray 5)) (w.heap.size + 1) 1 (some ⟨w.heap.size, 0, none⟩) n (u8s l) := cells_rd w (u8s l) 5 1 n (by simp [u8s, hn])
theorem rd_mark (w : World) (l : List Int) (n : Nat) (hn : l.length = n) (fr : Nat × Nat) : Rd (w.alloc (.cells (u8s l).toArray 5 fr)) (w.heap.size + 1) 1 (some ⟨w.heap.size, 0, none⟩) n (u8s l) := by
  refine ⟨by simp [u8s, hn], fun _ => ⟨_, rfl, Nat.lt_succ_self _, fun j u hu => ?_⟩⟩
  rw [add_own, Joins.cell_alloc_mark_at w _ 5 fr _ j rfl]
  simpa using hu
set_option maxRecDepth 100000 in
set_option maxHeartbeats 1000000 in
theorem awake_any (w : World) : Calls Tryz.prog 9 #[] w fun e w' => e = .returned (.bool true) ∧ Below w.heap.size w w' := by
  go_enter Tryz.func9, Tryz.ntmps9
  go_wp2_with fail
  refine (new_M w).mono ?_
  rintro e w1 ⟨b, mm, rfl, hm, hb⟩
  have HM := hide hm
  have HB := hide hb
  clear hm hb
  have h4 := four_made w1
  go_wp2_with fail
  refine (make_M (HM.out.below (below1 w1 _)) (by simp) 2 _ 4 4 _ [0, 0, 0, 0] (by omega) (by omega) (by omega) (rd_new w1 [0, 0, 0, 0] 4 rfl) (fun h => nomatch h) (by simp) (Nat.le_trans HB.out.size (below1 w1 _).size)).mono ?_
  rintro e w2 ⟨⟨k, A, n, c, bs⟩, rfl, rfl, rfl, rfl, hnew, hm, hkk⟩
  have HB1 := hide (HB.out.alloc HB.out.size (.cells (u8s [0, 0, 0, 0]).toArray 5))
  have HB2 := hide (HB1.out.trans ((HM.out.below (below1 w1 _)).low_ hkk HB1.out.size))
  have HM2 : Hid (Mem w2 w.heap.size b mm [some ⟨2, A, 4, c, [0, 0, 0, 0]⟩]) := hm
  clear hnew hm hkk h4 HM HB HB1
  have hcv := Joins.run_convert_bytes_const_at (P := Tryz.prog) w2 26 5 #[.int .u8 97, .int .u8 98] 2 2 w2.heap.size rfl Tryz.underlying26 Tryz.underlying5
  have hb3 := HB2.out.alloc HB2.out.size (.cells (u8s [97, 98]).toArray 5 (2, 3))
  have hrd := rd_mark w2 [97, 98] 2 rfl (2, 3)
  go_wp2_with fail
  refine (write_M (HM2.out.below (below1 w2 _)) (wf_nat (k := 1) (by omega)) Mem.at1 2 2 _ _ _ [97, 98] hrd (by simp) (by simp)).mono ?_
  rintro e w3 ⟨rfl, hm, hk⟩
  clear hcv hrd
  have HB3 := hide (hb3.trans ((HM2.out.below (below1 w2 _)).low_ hk hb3.size))
  have HM3 : Hid (Mem w3 w.heap.size b mm [some ⟨2, A, 4, c, [0, 0, 97, 98]⟩]) := hm
  clear hm hk HM2 HB2 hb3
  go_wp2_with fail
  refine (read_yes _ 1 2 1 3 A 4 c [0, 0, 97, 98] w3 (HM3.out.fitM (r := ⟨2, A, 4, c, [0, 0, 97, 98]⟩) (wf_nat (k := 1) (by omega)) (wf_nat (k := 1) (by omega)) Mem.at1 rfl) (HM3.out.at_ (i := 1) Mem.at1).1 (by omega) (by omega)).mono ?_
  rintro e w4 ⟨v, rfl, hv, hb⟩
  obtain ⟨A2, c2, rfl, _⟩ := owns_slice hv.1
  have HV4 : Hid (OwnB w4 w3.heap.size (.slice A2 3 c2) 3 [0, 97, 98]) := hv
  have HB4 := hide (HB3.out.trans (hb.mono HB3.out.size))
  have HM4 := hide (HM3.out.below hb)
  have HM3L : Hid (∀ g, OfM b mm [some ⟨2, A, 4, c, [0, 0, 97, 98]⟩] g → g < w3.heap.size) := HM3.out.lt
  clear hv hb HM3 HB3
  go_wp2_with fail
  refine (read_not _ 1 2 3 0 none 0 0 32 w4 (HM4.out.badM (r := ⟨2, A, 4, c, [0, 0, 97, 98]⟩) (wf_nat (k := 1) (by omega)) (wf_nat (k := 2) (by omega)) Mem.at1 rfl) (by omega)).mono ?_
  rintro e w5 ⟨rfl, hb⟩
  have HV5 := hide (owns_kept_below HV4.out.1 hb)
  have HB5 := hide (HB4.out.trans (hb.mono HB4.out.size))
  have HM5 := hide (HM4.out.below hb)
  clear hb HM4 HB4
  go_wp2_with fail
  refine (free_M HM5.out (i := 1) (wf_nat (k := 1) (by omega)) Mem.at1).mono ?_
  rintro e w6 ⟨rfl, hm, hk⟩
  have hx : ∀ g, (Value.slice A2 3 c2).ownBlock = some g → ¬ OfM b mm [some ⟨2, A, 4, c, [0, 0, 97, 98]⟩] g := fun g hg ho => by
    have h1 := HV4.out.2 g hg
    have h2 := HM5.out.lt g ho
    have h3 := HM3L.out g ho
    omega
  have HV6 := hide (owns_kept HV5.out hk hx)
  have HB6 := hide (HB5.out.trans (HM5.out.low_ hk HB5.out.size))
  have HM6 : Hid (Mem w6 w.heap.size b mm [none]) := hm
  clear hm hk hx HM5 HB5 HV5
  go_wp2_with fail
  refine (read_not _ 1 0 0 0 none 0 0 6 w6 (HM6.out.noneM (wf_nat (k := 1) (by omega)) rfl) (by omega)).mono ?_
  rintro e w7 ⟨rfl, hb⟩
  have HV7 := hide (owns_kept_below HV6.out hb)
  have HB7 := hide (HB6.out.trans (hb.mono HB6.out.size))
  have HM7 := hide (HM6.out.below hb)
  clear hb HM6 HB6 HV6
  go_wp2_with fail
  refine (make_M HM7.out (by simp) 1 none 0 0 0 [] (by omega) (by omega) (by omega) Rd.nil (fun _ => rfl) (by omega) HB7.out.size).mono ?_
  rintro e w8 ⟨r, rfl, _, _, _, _, hm, hk⟩
  have hx : ∀ g, (Value.slice A2 3 c2).ownBlock = some g → ¬ OfM b mm [none] g := fun g hg ho => by
    have h1 := HV4.out.2 g hg
    rcases ho with rfl | rfl | ⟨r, hr, x, rfl, _⟩
    · have h3 := HM3L.out _ (.inl rfl)
      omega
    · have h3 := HM3L.out _ (.inr (.inl rfl))
      omega
    · simp at hr
  have HV8 := hide (owns_kept HV7.out hk hx)
  have HB8 := hide (HB7.out.trans (HM7.out.low_ hk HB7.out.size))
  clear hm hk hx HM7 HB7 HV7 HV4 HM3L
  have hb9 := below1 w8 (.cells (u8s [0, 97, 98]).toArray 5)
  have HS := hide (sameBytes_yes A2 (some ⟨w8.heap.size, 0, none⟩) 3 c2 3 _ [0, 97, 98] _ ((Rd.of_own HV8.out).below hb9 |>.mono hb9.size) ((rd_new w8 [0, 97, 98] 3 rfl).mono (by simp)) (Nat.le_refl _) (by omega))
  have HB9 := hide (HB8.out.trans (hb9.mono HB8.out.size))
  clear hb9
  go_wp2_with (go_at_call 17; refine (HS.out).mono ?_; rintro e w9 ⟨rfl, hb⟩; have HB10 := hide (HB9.out.trans (hb.mono HB9.out.size)); clear hb)
  go_ret
  exact ⟨rfl, HB10.out⟩
end Go.Proofs.YtbllnjkagleenaaGreat
