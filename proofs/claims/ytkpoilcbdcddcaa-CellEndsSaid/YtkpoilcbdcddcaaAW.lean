/-
  The chapter's example holds.
-/
import Derived.Test.YtkpoilcbdcddcaaST3
import Derived.Test.YtkpoilcbdcddcaaEQ
import Derived.Test.YtkpoilcbdcddcaaQL
import Derived.Lib.SmallJoins
namespace Go.Proofs.Ytkpoilcbdcddcaa
open Go.RowKit
set_option linter.unusedVariables false
set_option linter.unusedSimpArgs false

def awA : AS := AS.none.hold 0 ⟨2, 0, 3, 4⟩
theorem aw1 : storeM AS.none 0 8 ⟨2, 0, 3, 4⟩ = (0, awA) := rfl
theorem aw2 : storeM awA 2 1 (wordC 7) = (0, awA.put 2 [7]) := rfl
theorem aw3 : loadM (awA.put 2 [7]) 2 1 = (wordC 7, 0) := rfl
theorem aw4 : loadM (awA.put 2 [7]) 0 8 = (c0, 30) := rfl
theorem awOk : awA.Ok := AS.Ok.none.hold 0 (by decide)
set_option maxRecDepth 100000 in
set_option maxHeartbeats 1000000 in
theorem awake_any (w : World) : Calls Try.prog 8 #[] w fun e w' => e = .returned (.bool true) ∧ Below w.heap.size w w' := by
  go_enter Try.func8, Try.ntmps8
  go_wp2_with fail
  refine (new_any w).mono ?_
  rintro e w1 ⟨rfl, hp, hb⟩
  have HP1 := hide hp
  have HB1 := hide hb
  clear hp hb
  go_wp2_with fail
  refine (store_any w.heap.size AS.none 0 8 ⟨2, 0, 3, 4⟩ w1 HP1.out (by decide) (by decide) (by decide)).mono ?_
  rintro e w2 ⟨rfl, hp, ht⟩
  rw [aw1] at hp ⊢
  have HP2 := hide hp
  have HB2 := hide (ht.below HB1.out (Nat.le_refl _) (Nat.le_refl _))
  clear hp ht HP1 HB1
  go_wp2_with (go_at_call 24; refine (word_any 7 _).mono ?_; rintro e w3 ⟨rfl, hb⟩; have HP3 := hide (HP2.out.below hb); have HB3 := hide (HB2.out.trans (hb.mono HB2.out.size)); clear hb)
  refine (store_any w.heap.size awA 2 1 (wordC 7) w3 HP3.out (by decide) (by decide) (by decide)).mono ?_
  rintro e w4 ⟨rfl, hp, ht⟩
  rw [aw2] at hp ⊢
  have HP4 := hide hp
  have HB4 := hide (ht.below HB3.out (Nat.le_refl _) (Nat.le_refl _))
  clear hp ht HP2 HB2 HP3 HB3
  have hok : (awA.put 2 [7]).Ok := awOk.put 2 [7] (by decide)
  go_wp2_with fail
  refine (load_any w.heap.size _ 2 1 w4 HP4.out hok (by decide)).mono ?_
  rintro e w5 ⟨rfl, hb⟩
  rw [aw3]
  have HP5 := hide (HP4.out.below hb)
  have HB5 := hide (HB4.out.trans (hb.mono HB4.out.size))
  clear hb HP4 HB4
  simp only [C4.val, wordC]
  go_wp2_with fail
  refine (load_any w.heap.size _ 0 8 _ (HP5.out.below (below1 w5 _)) hok (by decide)).mono ?_
  rintro e w6 ⟨rfl, hb⟩
  rw [aw4]
  have hx6 := (hb.block _ (by simp)).trans (World.alloc_heap_new w5 (.cells #[.int .u8 1, .int .u64 7, .int .i64 0, .int .i64 0] 33))
  have HB6 := hide ((HB5.out.trans ((below1 w5 _).mono HB5.out.size)).trans (hb.mono (Nat.le_trans HB5.out.size (below1 w5 _).size)))
  have HX6 := hide hx6
  clear hb HP5 hx6
  simp only [C4.val, c0]
  go_wp2_with fail
  have hw7 : Below w6.heap.size w6 (w6.alloc (.cells #[.int .u8 0, .int .u64 0, .int .i64 0, .int .i64 0] 33)) := below1 w6 _
  have HB7 := hide (HB6.out.trans (hw7.mono HB6.out.size))
  have hx7 := (hw7.block _ (at_lt HX6.out)).trans HX6.out
  generalize w6.alloc (.cells _ 33) = w7 at hw7 HB7 hx7 ⊢
  obtain ⟨l0, l1, l2, l3⟩ := later4 hx7
  have he := fun W => eq33 W 1 7 0 0 1 7 0 0
  have hwd : ∀ w, Calls Try.prog 24 #[.int .u64 7] w fun e w' => e = .returned (.agg #[.int .u8 1, .int .u64 7, .int .i64 0, .int .i64 0]) ∧ Below w.heap.size w w' := fun w => word_any 7 w
  have HWD := hide hwd
  clear hx7 hw7 HX6 HB6 HB5 hwd
  refine wp_region_later (by kernel_rfl) (by kernel_rfl) ?_
  repeat (go_big_quiet_step ((exact Later.calls _ HWD.out)))
  refine wpQuiet_nil ?_
  rintro _ ⟨x, rfl⟩
  have HE := hide (HB7.out.trans (x.below.mono HB7.out.size))
  clear l0 l1 l2 l3
  go_wp2
  go_ret
  exact ⟨rfl, HE.out⟩
end Go.Proofs.Ytkpoilcbdcddcaa
