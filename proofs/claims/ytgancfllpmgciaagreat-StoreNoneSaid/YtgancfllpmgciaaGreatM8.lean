/-
  The chapter's example holds.
-/
import Derived.Test.YtgancfllpmgciaaGreatM7
namespace Go.Proofs.YtgancfllpmgciaaGreat
open Go.RowKit Go.Maps
set_option linter.unusedVariables false

section
variable {w w' : World} {B b last c : Nat} {A : Option Addr} {L : List SE}
theorem Sto.low_below (h : Sto w B b last A c L) (hk : Kept (fun g => g ≠ b ∧ ¬ blkOf A g) w w') : Below B w w' :=
  hk.to_below (fun g hg => ⟨fun e => by have := h.low.1; omega, fun e => by have := h.low.2 g e; omega⟩) h.B_le
theorem make_ex {k key val ent : Int} {t : TypeId} (h : Sto w B b last A c L) (hk : 0 ≤ k ∧ k < 256) (hsp : specM k key val ent = 0) (hn : L.length < 32) (hm : last < 1000000) (hN : NewMap k key val ent t) (n : Int) (e : (last : Int) + 1 = n) :
    Calls Tryz.prog 6 #[.pointer (some ⟨b, 0, none⟩), .agg #[.int .u8 k, .int .i64 key, .int .i64 val, .int .i64 ent]] w fun e w' => e = .returned (.tuple #[.int .i64 n, .int .i64 0]) ∧ ∃ v A' c', Sto w' B b (last + 1) A' c' (L ++ [⟨last + 1, k, key, val, ent, t, v⟩]) ∧ Below B w w' := by
  subst e
  refine (make_yes h hk hsp hn hm hN).mono ?_
  rintro e w' ⟨rfl, v, A', c', h1, h2, _⟩
  exact ⟨rfl, v, A', c', h1, h.low_below h2⟩
theorem free_ex {r : SE} {i : Nat} (x : Int) (h : Sto w B b last A c L) (hr : L[i]? = some r) (hx : x = r.h) :
    Calls Tryz.prog 13 #[.pointer (some ⟨b, 0, none⟩), .int .i64 x] w fun e w' => e = .returned (.int .i64 0) ∧ Sto w' B b last A c (L.eraseIdx i) ∧ Below B w w' := by
  refine (free_yes x h hr hx).mono ?_
  rintro e w' ⟨rfl, h1, h2⟩
  exact ⟨rfl, h1, h.low_below h2⟩
end
theorem new_arr : NewMap 1 4 1 1 97 := fun w => map_arr 1 1 w (by decide) (by omega) (by omega)
theorem new_que : NewMap 5 0 1 1 109 := fun w => map_que 1 1 w (by omega) (by omega)
theorem new_rng : NewMap 7 0 0 16 112 := fun w => map_rng 16 w (by omega)
set_option maxRecDepth 100000 in
set_option maxHeartbeats 8000000 in
theorem awake_any (w : World) : Calls Tryz.prog 4 #[] w fun e w' => e = .returned (.bool true) ∧ Below w.heap.size w w' := by
  go_enter Tryz.func4, Tryz.ntmps4
  go_wp2_with fail
  refine (new_any w).mono ?_
  rintro e w1 ⟨b, rfl, ha, hb⟩
  have HA := hide ha
  have HB1 := hide hb
  clear ha hb
  go_wp2_with fail
  refine (make_ex HA.out (k := 1) (key := 4) (val := 1) (ent := 1) (by omega) (by decide) (by simp) (by omega) new_arr 1 rfl).mono ?_
  rintro e w2 ⟨rfl, v1, A1, c1, ha, hb⟩
  have HA2 := hide ha
  have HB2 := hide (HB1.out.trans hb)
  clear ha hb HA HB1
  go_wp2_with fail
  refine (make_ex HA2.out (k := 5) (key := 0) (val := 1) (ent := 1) (by omega) (by decide) (by simp) (by omega) new_que 2 rfl).mono ?_
  rintro e w3 ⟨rfl, v2, A2, c2, ha, hb⟩
  have HA3 := hide ha
  have HB3 := hide (HB2.out.trans hb)
  clear ha hb HA2 HB2
  go_wp2_with fail
  have hb4 := below1 w3 (.cells #[.int .u8 1] 5)
  refine (push_kind (i := 0) (r := ⟨1, 1, 4, 1, 1, 97, v1⟩) 1 _ _ (HA3.out.below hb4) rfl rfl rfl).mono ?_
  rintro e w4 ⟨rfl, hb⟩
  have HA4 := hide ((HA3.out.below hb4).below hb)
  have HB4 := hide (HB3.out.trans (hb4.mono HB3.out.size) |>.trans (hb.mono (Nat.le_trans HB3.out.size hb4.size)))
  clear hb4 hb HA3 HB3
  go_wp2_with fail
  have hb5 := below1 w4 (.cells #[.int .u8 1] 5)
  refine (push_stale 3 _ _ (HA4.out.below hb5) (isAt_no (fun r hr => by simp at hr; rcases hr with rfl | rfl <;> simp))).mono ?_
  rintro e w5 ⟨rfl, hb⟩
  have HA5 := hide ((HA4.out.below hb5).below hb)
  have HB5 := hide (HB4.out.trans (hb5.mono HB4.out.size) |>.trans (hb.mono (Nat.le_trans HB4.out.size hb5.size)))
  clear hb5 hb HA4 HB4
  go_wp2_with fail
  refine (free_ex (i := 0) (r := ⟨1, 1, 4, 1, 1, 97, v1⟩) 1 HA5.out rfl rfl).mono ?_
  rintro e w6 ⟨rfl, ha, hb⟩
  have HA6 := hide ha
  have HB6 := hide (HB5.out.trans hb)
  clear ha hb HA5 HB5
  go_wp2_with fail
  refine (make_ex HA6.out (k := 7) (key := 0) (val := 0) (ent := 16) (by omega) (by decide) (by simp) (by omega) new_rng 3 rfl).mono ?_
  rintro e w7 ⟨rfl, v3, A3, c3, ha, hb⟩
  have HB7 := hide (HB6.out.trans hb)
  clear ha hb HA6 HB6
  go_wp2
  go_ret
  exact ⟨rfl, HB7.out⟩
end Go.Proofs.YtgancfllpmgciaaGreat
