/-
  What all these laws begin with: the document's examples hold; and an operation that there is.
-/
import Derived.Test.YtmlkbpmchcdldaaGreatAlu
import Derived.Test.YtmlkbpmchcdldaaGreatSw
import Derived.Test.YtmlkbpmchcdldaaGreatCmp
import Derived.ChangeSame
namespace Go.Proofs.YtmlkbpmchcdldaaGreat
open Go.RowKit Go.Maps
set_option linter.unusedVariables false

theorem from_w {f : FuncId} {args : Array Value} {W0 W : World} {R : Ending → Prop} (h0 : Below W0.heap.size W0 W)
    (h : Calls Tryz.prog f args W fun e w' => R e ∧ Below W.heap.size W w') : Calls Tryz.prog f args W fun e w' => R e ∧ Below W0.heap.size W0 w' :=
  h.mono fun e w' ⟨he, hb⟩ => ⟨he, h0.trans (hb.mono h0.size)⟩

theorem ex1 : alu 16 0 true 3#64 5#64 = (18446744073709551614#64, true) := by kernel_rfl
theorem ex2 : alu 16 0 false 3#64 5#64 = (4294967294#64, true) := by kernel_rfl
theorem ex3 : alu 48 0 true 7#64 0#64 = (0#64, true) := by kernel_rfl
theorem ex4 : alu 192 0 true 9223372036854775808#64 1#64 = (13835058055282163712#64, true) := by kernel_rfl
theorem ex5 : swap 1 16 4660#64 = (13330#64, true) := by kernel_rfl
theorem ca1 (W : World) : Calls Tryz.prog 7 #[.int .u8 16, .int .i16 0, .bool true, .int .u64 3, .int .u64 5] W fun e w' => e = .returned (.tuple #[.int .u64 18446744073709551614, .bool true]) ∧ Below W.heap.size W w' := by
  have := alu_any 16 0 (by decide) (by decide) true 3#64 5#64 W
  rw [ex1] at this
  exact this
theorem ca2 (W : World) : Calls Tryz.prog 7 #[.int .u8 16, .int .i16 0, .bool false, .int .u64 3, .int .u64 5] W fun e w' => e = .returned (.tuple #[.int .u64 4294967294, .bool true]) ∧ Below W.heap.size W w' := by
  have := alu_any 16 0 (by decide) (by decide) false 3#64 5#64 W
  rw [ex2] at this
  exact this
theorem ca3 (W : World) : Calls Tryz.prog 7 #[.int .u8 48, .int .i16 0, .bool true, .int .u64 7, .int .u64 0] W fun e w' => e = .returned (.tuple #[.int .u64 0, .bool true]) ∧ Below W.heap.size W w' := by
  have := alu_any 48 0 (by decide) (by decide) true 7#64 0#64 W
  rw [ex3] at this
  exact this
theorem ca4 (W : World) : Calls Tryz.prog 7 #[.int .u8 192, .int .i16 0, .bool true, .int .u64 9223372036854775808, .int .u64 1] W fun e w' => e = .returned (.tuple #[.int .u64 13835058055282163712, .bool true]) ∧ Below W.heap.size W w' := by
  have := alu_any 192 0 (by decide) (by decide) true 9223372036854775808#64 1#64 W
  rw [ex4] at this
  exact this
theorem ca5 (W : World) : Calls Tryz.prog 8 #[.int .i64 1, .int .i64 16, .int .u64 4660] W fun e w' => e = .returned (.tuple #[.int .u64 13330, .bool true]) ∧ W = w' := by
  have := swap_any 1 16 4660#64 W
  rw [ex5] at this
  exact this

set_option maxRecDepth 100000 in
set_option maxHeartbeats 1000000 in
theorem awake_any (w : World) : Calls Tryz.prog 4 #[] w fun e w' => e = .returned (.bool true) ∧ Below w.heap.size w w' := by
  have HB := put_by (Below.refl w.heap.size w)
  go_enter Tryz.func4, Tryz.ntmps4
  go_wp2_with (first
    | (go_at_call 7; first
        | ((with_reducible refine (from_w HB.out (ca1 _)).mono ?_); clear HB; rintro e w' ⟨rfl, hb⟩; have HB := put_by hb; clear hb)
        | ((with_reducible refine (from_w HB.out (ca2 _)).mono ?_); clear HB; rintro e w' ⟨rfl, hb⟩; have HB := put_by hb; clear hb)
        | ((with_reducible refine (from_w HB.out (ca3 _)).mono ?_); clear HB; rintro e w' ⟨rfl, hb⟩; have HB := put_by hb; clear hb)
        | ((with_reducible refine (from_w HB.out (ca4 _)).mono ?_); clear HB; rintro e w' ⟨rfl, hb⟩; have HB := put_by hb; clear hb))
    | (go_at_call 8; refine (ca5 _).mono ?_; rintro e w' ⟨rfl, rfl⟩))
  go_ret
  exact ⟨rfl, HB.out⟩

/-! The same, said of numbers. -/
def W64 (a : Int) : Prop := (Lit.int .u64 a).wf = true
def bv (a : Int) : BitVec 64 := BitVec.ofInt 64 a
theorem bv_nat (x : BitVec 64) : bv (x.toNat : Int) = x := by unfold bv; simp
theorem nat_bv {a : Int} (h : W64 a) : ((bv a).toNat : Int) = a := by
  obtain ⟨x, rfl⟩ := of64 h
  rw [bv_nat]
theorem w64 (x : BitVec 64) : W64 (x.toNat : Int) := wf64 x
def aluI (op off : Int) (wide : Bool) (a b : Int) : Int := ((alu op off wide (bv a) (bv b)).1.toNat : Int)
theorem w_aluI (op off : Int) (wide : Bool) (a b : Int) : W64 (aluI op off wide a b) := w64 _
/-- There is an operation of that number and offset. -/
def okOp (op off : Int) (wide : Bool) : Bool := (Lit.int .u8 op).wf && (Lit.int .i16 off).wf && (alu op off wide 0 0).2
theorem alu_ok (op off : Int) (wide : Bool) (x y : BitVec 64) : (alu op off wide x y).2 = (alu op off wide 0 0).2 := by
  unfold alu
  cases wide
  · simp only [Bool.false_eq_true, if_false]
    split <;> rfl
  · simp only [if_true]
    split <;> rfl
def testI (op : Int) (wide : Bool) (a b : Int) : Bool := (test op wide (bv a) (bv b)).1
def okTest (op : Int) : Bool := (Lit.int .u8 op).wf && (test op true 0 0).2 && (test op false 0 0).2
def swapI (order k a : Int) : Int := ((swap order k (bv a)).1.toNat : Int)
def extI (a bytes : Int) (signed : Bool) : Int := ((extend (bv a) bytes signed).1.toNat : Int)
theorem w_swapI (order k a : Int) : W64 (swapI order k a) := w64 _
theorem w_extI (a bytes : Int) (signed : Bool) : W64 (extI a bytes signed) := w64 _

section
variable {H : Type} {enc : TypeId × Value → H} {P : Program}
/-- What is left behind a call that was handed plain data alone, and made new memory alone. -/
theorem post_plain {f : Func} {s : ChangeSpec} {apart fresh handsOn again : Bool} {W W' : World} {args : Array Value} {v : Value} {ds gs : List (DataW H)}
    (hW : DataW.Whole enc P f.params.toList s.vars apart W args.toList ds gs [])
    (hres : ∀ (b : Nat) (sp : Nat → Bool) (hd : Bool), DataW.TrodAll enc P W' b sp hd f.resultTypes.toList (v.resultList f.resultTypes.size) (s.fn H (ds ++ gs)).results [])
    (hargs : ∀ sp : Nat → Bool, DataW.TrodAll enc P W' 0 sp true f.params.toList args.toList (s.fn H (ds ++ gs)).args [])
    (hvars : ∀ sp : Nat → Bool, DataW.TrodVars enc P W' sp s.vars (s.fn H (ds ++ gs)).vars [])
    (hk : W.keptBut W' (fun _ => False))
    (hok : ∀ (j : Nat) (t : TypeId) (r : Value), f.resultTypes[j]? = some t → (v.resultList f.resultTypes.size)[j]? = some r → Value.okWide P W' .any 0 t r) :
    s.post enc P f apart fresh handsOn again W args v W' := by
  refine ⟨ds, gs, [], [], [], [], hW, hres _ _ _, hargs _, hvars _, World.keptBut_mono (fun _ h => h.elim) hk, fun _ => ?_⟩
  obtain ⟨_, _, _, _, _, hz, hn⟩ := hW
  exact ⟨hok, _, _, [], ⟨[], [], ChangeShapes.trodAll_append (hargs _) (hres _ _ _), hvars _, rfl, fun _ _ hp => absurd hp (by simp), hn⟩, fun p hp _ => hp⟩
end
end Go.Proofs.YtmlkbpmchcdldaaGreat
