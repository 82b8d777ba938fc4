/-
  What a table of operations tells at a key: what the operation makes of the two words, or that there is none.
-/
import Derived.Test.YtmlkbpmchcdldaaGreatOps
import Derived.Test.YtmlkbpmchcdldaaGreatFns
import Derived.Test.YtmlkbpmchcdldaaGreatBv
namespace Go.Proofs.YtmlkbpmchcdldaaGreat
open Go.RowKit Go.Maps
set_option linter.unusedVariables false

theorem alloc_cell {w : World} {p : Addr} {v : Value} (h : w.cell? p = some v) (hp : p.block < w.heap.size) (o : Obj) : (w.alloc o).cell? p = some v := by
  rw [← h]; exact World.cell?_of_block (w := w) (Below.heap_alloc w o p.block hp)

/-- The operations of words of 64 bits. -/
def fns64 : List ((Int × Int) × (BitVec 64 → BitVec 64 → BitVec 64)) := [((0, 0), fun x y => x + y), ((16, 0), fun x y => x - y), ((32, 0), fun x y => x * y), ((48, 0), fun x y => x / y), ((48, 1), fun x y => x.sdiv y), ((144, 0), fun x y => x % y), ((144, 1), fun x y => x.srem y), ((64, 0), fun x y => x ||| y), ((80, 0), fun x y => x &&& y), ((160, 0), fun x y => x ^^^ y), ((96, 0), fun x y => x <<< (y.toNat % 64)), ((112, 0), fun x y => x >>> (y.toNat % 64)), ((192, 0), fun x y => x.sshiftRight (y.toNat % 64)), ((128, 0), fun x y => -x), ((176, 0), fun x y => y), ((176, 8), fun x y => (y.setWidth 8).signExtend 64), ((176, 16), fun x y => (y.setWidth 16).signExtend 64), ((176, 32), fun x y => (y.setWidth 32).signExtend 64)]

set_option maxRecDepth 100000 in
set_option maxHeartbeats 400000 in
theorem tell64_hit (op off a b r : Int) (bm : Nat) (F : FuncId) (caps : Array Value) (w : World)
    (hlook : (Instr.lookup 52 (.map (some bm)) (.agg #[.int .u8 op, .int .i16 off]) true).run Tryz.prog (w.alloc (Obj.cells #[.int .u8 op, .int .i16 off] 38)) = .ok (.tuple #[.func (.func F) #[] caps, .bool true]) (w.alloc (Obj.cells #[.int .u8 op, .int .i16 off] 38)))
    (hF : ∀ (args : Array Value) (W : World), (callFunc F args).run Tryz.prog W = .ok (.enter F args) W)
    (hcall : Calls Tryz.prog F (#[.int .u64 a, .int .u64 b] ++ caps) (w.alloc (Obj.cells #[.int .u8 op, .int .i16 off] 38)) fun e w' => e = .returned (.int .u64 r) ∧ w.alloc (Obj.cells #[.int .u8 op, .int .i16 off] 38) = w') :
    Calls Tryz.prog 30 #[.map (some bm), .agg #[.int .u8 op, .int .i16 off], .int .u64 a, .int .u64 b] w fun e w' => e = .returned (.tuple #[.int .u64 r, .bool true]) ∧ w.alloc (Obj.cells #[.int .u8 op, .int .i16 off] 38) = w' := by
  have HC := put_by hcall
  clear hcall
  go_enter Tryz.func30, Tryz.ntmps30
  go_wp2_with (refine HC.out.mono ?_; rintro e w' ⟨rfl, rfl⟩)
  go_ret2
  exact ⟨rfl, rfl⟩
set_option maxHeartbeats 400000 in
theorem tell64_miss (op off a b : Int) (bm : Nat) (w : World)
    (hlook : (Instr.lookup 52 (.map (some bm)) (.agg #[.int .u8 op, .int .i16 off]) true).run Tryz.prog (w.alloc (Obj.cells #[.int .u8 op, .int .i16 off] 38)) = .ok (.tuple #[.nilFunc, .bool false]) (w.alloc (Obj.cells #[.int .u8 op, .int .i16 off] 38))) :
    Calls Tryz.prog 30 #[.map (some bm), .agg #[.int .u8 op, .int .i16 off], .int .u64 a, .int .u64 b] w fun e w' => e = .returned (.tuple #[.int .u64 0, .bool false]) ∧ w.alloc (Obj.cells #[.int .u8 op, .int .i16 off] 38) = w' := by
  go_enter Tryz.func30, Tryz.ntmps30
  go_wp2_with (fail)
  go_ret2
  exact ⟨rfl, rfl⟩

theorem all64_key (p : Addr) (q : Value × Value) (hq : q ∈ (pairs64 p ++ [(key 176 32, .func (.func 61) #[] #[])])) : ∃ l, keyOf Tryz.prog 38 q.1 = some l := by
  rcases List.mem_append.1 hq with hq | hq
  · exact pairs64_key p q hq
  · rw [List.mem_singleton] at hq
    subst hq
    exact laws43 _ _ (by decide) (by decide)

theorem tell64_key (op off : Int) (f : BitVec 64 → BitVec 64 → BitVec 64) (hf : ((op, off), f) ∈ fns64) (x y : BitVec 64) (w : World) (es : Array MapEntry) (clock bm : Nat) (p : Addr)
    (hb : w.heap[bm]? = some (.map es clock)) (hp : w.cell? p = some (.int .u64 64)) (hbm : bm < w.heap.size) (hpb : p.block < w.heap.size) (hj : HasJust es (pairs64 p ++ [(key 176 32, .func (.func 61) #[] #[])])) :
    Calls Tryz.prog 30 #[.map (some bm), .agg #[.int .u8 op, .int .i16 off], .int .u64 x.toNat, .int .u64 y.toNat] w fun e w' => e = .returned (.tuple #[.int .u64 (f x y).toNat, .bool true]) ∧ w.alloc (Obj.cells #[.int .u8 op, .int .i16 off] 38) = w' := by
  have hb' : ∀ o, (w.alloc o).heap[bm]? = some (.map es clock) := fun o => (Below.heap_alloc w o bm hbm).trans hb
  have hp' : ∀ o, (w.alloc o).cell? p = some (.int .u64 64) := fun o => alloc_cell hp hpb o
  simp only [fns64, List.mem_cons, List.not_mem_nil, or_false, Prod.mk.injEq] at hf
  rcases hf with ⟨⟨rfl, rfl⟩, rfl⟩ | ⟨⟨rfl, rfl⟩, rfl⟩ | ⟨⟨rfl, rfl⟩, rfl⟩ | ⟨⟨rfl, rfl⟩, rfl⟩ | ⟨⟨rfl, rfl⟩, rfl⟩ | ⟨⟨rfl, rfl⟩, rfl⟩ | ⟨⟨rfl, rfl⟩, rfl⟩ | ⟨⟨rfl, rfl⟩, rfl⟩ | ⟨⟨rfl, rfl⟩, rfl⟩ | ⟨⟨rfl, rfl⟩, rfl⟩ | ⟨⟨rfl, rfl⟩, rfl⟩ | ⟨⟨rfl, rfl⟩, rfl⟩ | ⟨⟨rfl, rfl⟩, rfl⟩ | ⟨⟨rfl, rfl⟩, rfl⟩ | ⟨⟨rfl, rfl⟩, rfl⟩ | ⟨⟨rfl, rfl⟩, rfl⟩ | ⟨⟨rfl, rfl⟩, rfl⟩ | ⟨⟨rfl, rfl⟩, rfl⟩
  · obtain ⟨kl, hkl⟩ := laws43 0 0 (by decide) (by decide)
    refine tell64_hit 0 0 _ _ _ bm 42 #[] w (run_look_there law43 Tryz.underlying52 (hb' _) hj (all64_key p) hkl (by simp [pairs64, key]) (fun v hv => by simpa [pairs64, key] using hv)) (fun args W => by kernel_rfl) ?_
    rw [← add64 x y]; exact (t46 _ _ _)
  · obtain ⟨kl, hkl⟩ := laws43 16 0 (by decide) (by decide)
    refine tell64_hit 16 0 _ _ _ bm 43 #[] w (run_look_there law43 Tryz.underlying52 (hb' _) hj (all64_key p) hkl (by simp [pairs64, key]) (fun v hv => by simpa [pairs64, key] using hv)) (fun args W => by kernel_rfl) ?_
    rw [← sub64 x y]; exact (t47 _ _ _)
  · obtain ⟨kl, hkl⟩ := laws43 32 0 (by decide) (by decide)
    refine tell64_hit 32 0 _ _ _ bm 44 #[] w (run_look_there law43 Tryz.underlying52 (hb' _) hj (all64_key p) hkl (by simp [pairs64, key]) (fun v hv => by simpa [pairs64, key] using hv)) (fun args W => by kernel_rfl) ?_
    rw [← mul64 x y]; exact (t48 _ _ _)
  · obtain ⟨kl, hkl⟩ := laws43 48 0 (by decide) (by decide)
    refine tell64_hit 48 0 _ _ _ bm 45 #[] w (run_look_there law43 Tryz.underlying52 (hb' _) hj (all64_key p) hkl (by simp [pairs64, key]) (fun v hv => by simpa [pairs64, key] using hv)) (fun args W => by kernel_rfl) ?_
    rw [← quo64 x y]; exact (t49 _ _ _)
  · obtain ⟨kl, hkl⟩ := laws43 48 1 (by decide) (by decide)
    refine tell64_hit 48 1 _ _ _ bm 46 #[] w (run_look_there law43 Tryz.underlying52 (hb' _) hj (all64_key p) hkl (by simp [pairs64, key]) (fun v hv => by simpa [pairs64, key] using hv)) (fun args W => by kernel_rfl) ?_
    rw [← sdiv64 x y]; exact (t50 _ _ _)
  · obtain ⟨kl, hkl⟩ := laws43 144 0 (by decide) (by decide)
    refine tell64_hit 144 0 _ _ _ bm 48 #[] w (run_look_there law43 Tryz.underlying52 (hb' _) hj (all64_key p) hkl (by simp [pairs64, key]) (fun v hv => by simpa [pairs64, key] using hv)) (fun args W => by kernel_rfl) ?_
    rw [← rem64 x y]; exact (t52 _ _ _)
  · obtain ⟨kl, hkl⟩ := laws43 144 1 (by decide) (by decide)
    refine tell64_hit 144 1 _ _ _ bm 49 #[] w (run_look_there law43 Tryz.underlying52 (hb' _) hj (all64_key p) hkl (by simp [pairs64, key]) (fun v hv => by simpa [pairs64, key] using hv)) (fun args W => by kernel_rfl) ?_
    rw [← smod64 x y]; exact (t53 _ _ _)
  · obtain ⟨kl, hkl⟩ := laws43 64 0 (by decide) (by decide)
    refine tell64_hit 64 0 _ _ _ bm 51 #[] w (run_look_there law43 Tryz.underlying52 (hb' _) hj (all64_key p) hkl (by simp [pairs64, key]) (fun v hv => by simpa [pairs64, key] using hv)) (fun args W => by kernel_rfl) ?_
    rw [← or64 x y]; exact (t55 _ _ _)
  · obtain ⟨kl, hkl⟩ := laws43 80 0 (by decide) (by decide)
    refine tell64_hit 80 0 _ _ _ bm 52 #[] w (run_look_there law43 Tryz.underlying52 (hb' _) hj (all64_key p) hkl (by simp [pairs64, key]) (fun v hv => by simpa [pairs64, key] using hv)) (fun args W => by kernel_rfl) ?_
    rw [← and64 x y]; exact (t56 _ _ _)
  · obtain ⟨kl, hkl⟩ := laws43 160 0 (by decide) (by decide)
    refine tell64_hit 160 0 _ _ _ bm 53 #[] w (run_look_there law43 Tryz.underlying52 (hb' _) hj (all64_key p) hkl (by simp [pairs64, key]) (fun v hv => by simpa [pairs64, key] using hv)) (fun args W => by kernel_rfl) ?_
    rw [← xor64 x y]; exact (t57 _ _ _)
  · obtain ⟨kl, hkl⟩ := laws43 96 0 (by decide) (by decide)
    refine tell64_hit 96 0 _ _ _ bm 54 #[.pointer (some p)] w (run_look_there law43 Tryz.underlying52 (hb' _) hj (all64_key p) hkl (by simp [pairs64, key]) (fun v hv => by simpa [pairs64, key] using hv)) (fun args W => by kernel_rfl) ?_
    rw [← shl64 x y]; exact (t58 _ _ _ p (hp' _) (by omega))
  · obtain ⟨kl, hkl⟩ := laws43 112 0 (by decide) (by decide)
    refine tell64_hit 112 0 _ _ _ bm 55 #[.pointer (some p)] w (run_look_there law43 Tryz.underlying52 (hb' _) hj (all64_key p) hkl (by simp [pairs64, key]) (fun v hv => by simpa [pairs64, key] using hv)) (fun args W => by kernel_rfl) ?_
    rw [← shr64 x y]; exact (t59 _ _ _ p (hp' _) (by omega))
  · obtain ⟨kl, hkl⟩ := laws43 192 0 (by decide) (by decide)
    refine tell64_hit 192 0 _ _ _ bm 56 #[.pointer (some p)] w (run_look_there law43 Tryz.underlying52 (hb' _) hj (all64_key p) hkl (by simp [pairs64, key]) (fun v hv => by simpa [pairs64, key] using hv)) (fun args W => by kernel_rfl) ?_
    rw [← sar64 x y]; exact (t60 _ _ _ p (hp' _) (by omega))
  · obtain ⟨kl, hkl⟩ := laws43 128 0 (by decide) (by decide)
    refine tell64_hit 128 0 _ _ _ bm 57 #[] w (run_look_there law43 Tryz.underlying52 (hb' _) hj (all64_key p) hkl (by simp [pairs64, key]) (fun v hv => by simpa [pairs64, key] using hv)) (fun args W => by kernel_rfl) ?_
    rw [← neg64 x]; exact (t61 _ _ _)
  · obtain ⟨kl, hkl⟩ := laws43 176 0 (by decide) (by decide)
    refine tell64_hit 176 0 _ _ _ bm 58 #[] w (run_look_there law43 Tryz.underlying52 (hb' _) hj (all64_key p) hkl (by simp [pairs64, key]) (fun v hv => by simpa [pairs64, key] using hv)) (fun args W => by kernel_rfl) ?_
    exact (t62 _ _ _)
  · obtain ⟨kl, hkl⟩ := laws43 176 8 (by decide) (by decide)
    refine tell64_hit 176 8 _ _ _ bm 59 #[] w (run_look_there law43 Tryz.underlying52 (hb' _) hj (all64_key p) hkl (by simp [pairs64, key]) (fun v hv => by simpa [pairs64, key] using hv)) (fun args W => by kernel_rfl) ?_
    rw [← m864 y]; exact (t63 _ _ _)
  · obtain ⟨kl, hkl⟩ := laws43 176 16 (by decide) (by decide)
    refine tell64_hit 176 16 _ _ _ bm 60 #[] w (run_look_there law43 Tryz.underlying52 (hb' _) hj (all64_key p) hkl (by simp [pairs64, key]) (fun v hv => by simpa [pairs64, key] using hv)) (fun args W => by kernel_rfl) ?_
    rw [← m1664 y]; exact (t64 _ _ _)
  · obtain ⟨kl, hkl⟩ := laws43 176 32 (by decide) (by decide)
    refine tell64_hit 176 32 _ _ _ bm 61 #[] w (run_look_there law43 Tryz.underlying52 (hb' _) hj (all64_key p) hkl (by simp [pairs64, key]) (fun v hv => by simpa [pairs64, key] using hv)) (fun args W => by kernel_rfl) ?_
    rw [← m32_64 y]; exact (t65 _ _ _)

set_option maxHeartbeats 1000000 in
theorem tell64_none (op off : Int) (h1 : (Lit.int .u8 op).wf = true) (h2 : (Lit.int .i16 off).wf = true) (hf : ∀ q ∈ fns64, q.1 ≠ (op, off)) (x y : BitVec 64) (w : World) (es : Array MapEntry) (clock bm : Nat) (p : Addr)
    (hb : w.heap[bm]? = some (.map es clock)) (hbm : bm < w.heap.size) (hj : HasJust es (pairs64 p ++ [(key 176 32, .func (.func 61) #[] #[])])) :
    Calls Tryz.prog 30 #[.map (some bm), .agg #[.int .u8 op, .int .i16 off], .int .u64 x.toNat, .int .u64 y.toNat] w fun e w' => e = .returned (.tuple #[.int .u64 0, .bool false]) ∧ w.alloc (Obj.cells #[.int .u8 op, .int .i16 off] 38) = w' := by
  have hb' : ∀ o, (w.alloc o).heap[bm]? = some (.map es clock) := fun o => (Below.heap_alloc w o bm hbm).trans hb
  obtain ⟨kl, hkl⟩ := laws43 op off h1 h2
  refine tell64_miss op off _ _ bm w (run_look_none law43 Tryz.underlying52 (hb' _) hj (all64_key p) hkl (fun q hq => ?_) (by kernel_rfl))
  simp only [fns64, List.mem_cons, List.not_mem_nil, or_false, forall_eq_or_imp, forall_eq, ne_eq, Prod.mk.injEq, not_and] at hf
  simp only [pairs64, List.cons_append, List.nil_append, List.mem_cons, List.not_mem_nil, or_false] at hq
  rcases hq with rfl | rfl | rfl | rfl | rfl | rfl | rfl | rfl | rfl | rfl | rfl | rfl | rfl | rfl | rfl | rfl | rfl | rfl <;> (intro h; have := key_inj h; omega)

/-- The operations of words of 32 bits. -/
def fns32 : List ((Int × Int) × (BitVec 32 → BitVec 32 → BitVec 32)) := [((0, 0), fun x y => x + y), ((16, 0), fun x y => x - y), ((32, 0), fun x y => x * y), ((48, 0), fun x y => x / y), ((48, 1), fun x y => x.sdiv y), ((144, 0), fun x y => x % y), ((144, 1), fun x y => x.srem y), ((64, 0), fun x y => x ||| y), ((80, 0), fun x y => x &&& y), ((160, 0), fun x y => x ^^^ y), ((96, 0), fun x y => x <<< (y.toNat % 32)), ((112, 0), fun x y => x >>> (y.toNat % 32)), ((192, 0), fun x y => x.sshiftRight (y.toNat % 32)), ((128, 0), fun x y => -x), ((176, 0), fun x y => y), ((176, 8), fun x y => (y.setWidth 8).signExtend 32), ((176, 16), fun x y => (y.setWidth 16).signExtend 32)]

set_option maxRecDepth 100000 in
set_option maxHeartbeats 400000 in
theorem tell32_hit (op off a b r : Int) (bm : Nat) (F : FuncId) (caps : Array Value) (w : World)
    (hlook : (Instr.lookup 56 (.map (some bm)) (.agg #[.int .u8 op, .int .i16 off]) true).run Tryz.prog (w.alloc (Obj.cells #[.int .u8 op, .int .i16 off] 38)) = .ok (.tuple #[.func (.func F) #[] caps, .bool true]) (w.alloc (Obj.cells #[.int .u8 op, .int .i16 off] 38)))
    (hF : ∀ (args : Array Value) (W : World), (callFunc F args).run Tryz.prog W = .ok (.enter F args) W)
    (hcall : Calls Tryz.prog F (#[.int .u32 a, .int .u32 b] ++ caps) (w.alloc (Obj.cells #[.int .u8 op, .int .i16 off] 38)) fun e w' => e = .returned (.int .u32 r) ∧ w.alloc (Obj.cells #[.int .u8 op, .int .i16 off] 38) = w') :
    Calls Tryz.prog 32 #[.map (some bm), .agg #[.int .u8 op, .int .i16 off], .int .u32 a, .int .u32 b] w fun e w' => e = .returned (.tuple #[.int .u32 r, .bool true]) ∧ w.alloc (Obj.cells #[.int .u8 op, .int .i16 off] 38) = w' := by
  have HC := put_by hcall
  clear hcall
  go_enter Tryz.func32, Tryz.ntmps32
  go_wp2_with (refine HC.out.mono ?_; rintro e w' ⟨rfl, rfl⟩)
  go_ret2
  exact ⟨rfl, rfl⟩
set_option maxHeartbeats 400000 in
theorem tell32_miss (op off a b : Int) (bm : Nat) (w : World)
    (hlook : (Instr.lookup 56 (.map (some bm)) (.agg #[.int .u8 op, .int .i16 off]) true).run Tryz.prog (w.alloc (Obj.cells #[.int .u8 op, .int .i16 off] 38)) = .ok (.tuple #[.nilFunc, .bool false]) (w.alloc (Obj.cells #[.int .u8 op, .int .i16 off] 38))) :
    Calls Tryz.prog 32 #[.map (some bm), .agg #[.int .u8 op, .int .i16 off], .int .u32 a, .int .u32 b] w fun e w' => e = .returned (.tuple #[.int .u32 0, .bool false]) ∧ w.alloc (Obj.cells #[.int .u8 op, .int .i16 off] 38) = w' := by
  go_enter Tryz.func32, Tryz.ntmps32
  go_wp2_with (fail)
  go_ret2
  exact ⟨rfl, rfl⟩

theorem all32_key (p : Addr) (q : Value × Value) (hq : q ∈ (pairs32 p)) : ∃ l, keyOf Tryz.prog 38 q.1 = some l := by
  exact pairs32_key p q hq

theorem tell32_key (op off : Int) (f : BitVec 32 → BitVec 32 → BitVec 32) (hf : ((op, off), f) ∈ fns32) (x y : BitVec 32) (w : World) (es : Array MapEntry) (clock bm : Nat) (p : Addr)
    (hb : w.heap[bm]? = some (.map es clock)) (hp : w.cell? p = some (.int .u32 32)) (hbm : bm < w.heap.size) (hpb : p.block < w.heap.size) (hj : HasJust es (pairs32 p)) :
    Calls Tryz.prog 32 #[.map (some bm), .agg #[.int .u8 op, .int .i16 off], .int .u32 x.toNat, .int .u32 y.toNat] w fun e w' => e = .returned (.tuple #[.int .u32 (f x y).toNat, .bool true]) ∧ w.alloc (Obj.cells #[.int .u8 op, .int .i16 off] 38) = w' := by
  have hb' : ∀ o, (w.alloc o).heap[bm]? = some (.map es clock) := fun o => (Below.heap_alloc w o bm hbm).trans hb
  have hp' : ∀ o, (w.alloc o).cell? p = some (.int .u32 32) := fun o => alloc_cell hp hpb o
  simp only [fns32, List.mem_cons, List.not_mem_nil, or_false, Prod.mk.injEq] at hf
  rcases hf with ⟨⟨rfl, rfl⟩, rfl⟩ | ⟨⟨rfl, rfl⟩, rfl⟩ | ⟨⟨rfl, rfl⟩, rfl⟩ | ⟨⟨rfl, rfl⟩, rfl⟩ | ⟨⟨rfl, rfl⟩, rfl⟩ | ⟨⟨rfl, rfl⟩, rfl⟩ | ⟨⟨rfl, rfl⟩, rfl⟩ | ⟨⟨rfl, rfl⟩, rfl⟩ | ⟨⟨rfl, rfl⟩, rfl⟩ | ⟨⟨rfl, rfl⟩, rfl⟩ | ⟨⟨rfl, rfl⟩, rfl⟩ | ⟨⟨rfl, rfl⟩, rfl⟩ | ⟨⟨rfl, rfl⟩, rfl⟩ | ⟨⟨rfl, rfl⟩, rfl⟩ | ⟨⟨rfl, rfl⟩, rfl⟩ | ⟨⟨rfl, rfl⟩, rfl⟩ | ⟨⟨rfl, rfl⟩, rfl⟩
  · obtain ⟨kl, hkl⟩ := laws43 0 0 (by decide) (by decide)
    refine tell32_hit 0 0 _ _ _ bm 63 #[] w (run_look_there law43 Tryz.underlying56 (hb' _) hj (all32_key p) hkl (by simp [pairs32, key]) (fun v hv => by simpa [pairs32, key] using hv)) (fun args W => by kernel_rfl) ?_
    rw [← add32 x y]; exact (t67 _ _ _)
  · obtain ⟨kl, hkl⟩ := laws43 16 0 (by decide) (by decide)
    refine tell32_hit 16 0 _ _ _ bm 64 #[] w (run_look_there law43 Tryz.underlying56 (hb' _) hj (all32_key p) hkl (by simp [pairs32, key]) (fun v hv => by simpa [pairs32, key] using hv)) (fun args W => by kernel_rfl) ?_
    rw [← sub32 x y]; exact (t68 _ _ _)
  · obtain ⟨kl, hkl⟩ := laws43 32 0 (by decide) (by decide)
    refine tell32_hit 32 0 _ _ _ bm 65 #[] w (run_look_there law43 Tryz.underlying56 (hb' _) hj (all32_key p) hkl (by simp [pairs32, key]) (fun v hv => by simpa [pairs32, key] using hv)) (fun args W => by kernel_rfl) ?_
    rw [← mul32 x y]; exact (t69 _ _ _)
  · obtain ⟨kl, hkl⟩ := laws43 48 0 (by decide) (by decide)
    refine tell32_hit 48 0 _ _ _ bm 66 #[] w (run_look_there law43 Tryz.underlying56 (hb' _) hj (all32_key p) hkl (by simp [pairs32, key]) (fun v hv => by simpa [pairs32, key] using hv)) (fun args W => by kernel_rfl) ?_
    rw [← quo32 x y]; exact (t70 _ _ _)
  · obtain ⟨kl, hkl⟩ := laws43 48 1 (by decide) (by decide)
    refine tell32_hit 48 1 _ _ _ bm 67 #[] w (run_look_there law43 Tryz.underlying56 (hb' _) hj (all32_key p) hkl (by simp [pairs32, key]) (fun v hv => by simpa [pairs32, key] using hv)) (fun args W => by kernel_rfl) ?_
    rw [← sdiv32 x y]; exact (t71 _ _ _)
  · obtain ⟨kl, hkl⟩ := laws43 144 0 (by decide) (by decide)
    refine tell32_hit 144 0 _ _ _ bm 69 #[] w (run_look_there law43 Tryz.underlying56 (hb' _) hj (all32_key p) hkl (by simp [pairs32, key]) (fun v hv => by simpa [pairs32, key] using hv)) (fun args W => by kernel_rfl) ?_
    rw [← rem32 x y]; exact (t73 _ _ _)
  · obtain ⟨kl, hkl⟩ := laws43 144 1 (by decide) (by decide)
    refine tell32_hit 144 1 _ _ _ bm 70 #[] w (run_look_there law43 Tryz.underlying56 (hb' _) hj (all32_key p) hkl (by simp [pairs32, key]) (fun v hv => by simpa [pairs32, key] using hv)) (fun args W => by kernel_rfl) ?_
    rw [← smod32 x y]; exact (t74 _ _ _)
  · obtain ⟨kl, hkl⟩ := laws43 64 0 (by decide) (by decide)
    refine tell32_hit 64 0 _ _ _ bm 72 #[] w (run_look_there law43 Tryz.underlying56 (hb' _) hj (all32_key p) hkl (by simp [pairs32, key]) (fun v hv => by simpa [pairs32, key] using hv)) (fun args W => by kernel_rfl) ?_
    rw [← or32 x y]; exact (t76 _ _ _)
  · obtain ⟨kl, hkl⟩ := laws43 80 0 (by decide) (by decide)
    refine tell32_hit 80 0 _ _ _ bm 73 #[] w (run_look_there law43 Tryz.underlying56 (hb' _) hj (all32_key p) hkl (by simp [pairs32, key]) (fun v hv => by simpa [pairs32, key] using hv)) (fun args W => by kernel_rfl) ?_
    rw [← and32 x y]; exact (t77 _ _ _)
  · obtain ⟨kl, hkl⟩ := laws43 160 0 (by decide) (by decide)
    refine tell32_hit 160 0 _ _ _ bm 74 #[] w (run_look_there law43 Tryz.underlying56 (hb' _) hj (all32_key p) hkl (by simp [pairs32, key]) (fun v hv => by simpa [pairs32, key] using hv)) (fun args W => by kernel_rfl) ?_
    rw [← xor32 x y]; exact (t78 _ _ _)
  · obtain ⟨kl, hkl⟩ := laws43 96 0 (by decide) (by decide)
    refine tell32_hit 96 0 _ _ _ bm 75 #[.pointer (some p)] w (run_look_there law43 Tryz.underlying56 (hb' _) hj (all32_key p) hkl (by simp [pairs32, key]) (fun v hv => by simpa [pairs32, key] using hv)) (fun args W => by kernel_rfl) ?_
    rw [← shl32 x y]; exact (t79 _ _ _ p (hp' _) (by omega))
  · obtain ⟨kl, hkl⟩ := laws43 112 0 (by decide) (by decide)
    refine tell32_hit 112 0 _ _ _ bm 76 #[.pointer (some p)] w (run_look_there law43 Tryz.underlying56 (hb' _) hj (all32_key p) hkl (by simp [pairs32, key]) (fun v hv => by simpa [pairs32, key] using hv)) (fun args W => by kernel_rfl) ?_
    rw [← shr32 x y]; exact (t80 _ _ _ p (hp' _) (by omega))
  · obtain ⟨kl, hkl⟩ := laws43 192 0 (by decide) (by decide)
    refine tell32_hit 192 0 _ _ _ bm 77 #[.pointer (some p)] w (run_look_there law43 Tryz.underlying56 (hb' _) hj (all32_key p) hkl (by simp [pairs32, key]) (fun v hv => by simpa [pairs32, key] using hv)) (fun args W => by kernel_rfl) ?_
    rw [← sar32 x y]; exact (t81 _ _ _ p (hp' _) (by omega))
  · obtain ⟨kl, hkl⟩ := laws43 128 0 (by decide) (by decide)
    refine tell32_hit 128 0 _ _ _ bm 78 #[] w (run_look_there law43 Tryz.underlying56 (hb' _) hj (all32_key p) hkl (by simp [pairs32, key]) (fun v hv => by simpa [pairs32, key] using hv)) (fun args W => by kernel_rfl) ?_
    rw [← neg32 x]; exact (t82 _ _ _)
  · obtain ⟨kl, hkl⟩ := laws43 176 0 (by decide) (by decide)
    refine tell32_hit 176 0 _ _ _ bm 79 #[] w (run_look_there law43 Tryz.underlying56 (hb' _) hj (all32_key p) hkl (by simp [pairs32, key]) (fun v hv => by simpa [pairs32, key] using hv)) (fun args W => by kernel_rfl) ?_
    exact (t83 _ _ _)
  · obtain ⟨kl, hkl⟩ := laws43 176 8 (by decide) (by decide)
    refine tell32_hit 176 8 _ _ _ bm 80 #[] w (run_look_there law43 Tryz.underlying56 (hb' _) hj (all32_key p) hkl (by simp [pairs32, key]) (fun v hv => by simpa [pairs32, key] using hv)) (fun args W => by kernel_rfl) ?_
    rw [← m832 y]; exact (t84 _ _ _)
  · obtain ⟨kl, hkl⟩ := laws43 176 16 (by decide) (by decide)
    refine tell32_hit 176 16 _ _ _ bm 81 #[] w (run_look_there law43 Tryz.underlying56 (hb' _) hj (all32_key p) hkl (by simp [pairs32, key]) (fun v hv => by simpa [pairs32, key] using hv)) (fun args W => by kernel_rfl) ?_
    rw [← m1632 y]; exact (t85 _ _ _)

set_option maxHeartbeats 1000000 in
theorem tell32_none (op off : Int) (h1 : (Lit.int .u8 op).wf = true) (h2 : (Lit.int .i16 off).wf = true) (hf : ∀ q ∈ fns32, q.1 ≠ (op, off)) (x y : BitVec 32) (w : World) (es : Array MapEntry) (clock bm : Nat) (p : Addr)
    (hb : w.heap[bm]? = some (.map es clock)) (hbm : bm < w.heap.size) (hj : HasJust es (pairs32 p)) :
    Calls Tryz.prog 32 #[.map (some bm), .agg #[.int .u8 op, .int .i16 off], .int .u32 x.toNat, .int .u32 y.toNat] w fun e w' => e = .returned (.tuple #[.int .u32 0, .bool false]) ∧ w.alloc (Obj.cells #[.int .u8 op, .int .i16 off] 38) = w' := by
  have hb' : ∀ o, (w.alloc o).heap[bm]? = some (.map es clock) := fun o => (Below.heap_alloc w o bm hbm).trans hb
  obtain ⟨kl, hkl⟩ := laws43 op off h1 h2
  refine tell32_miss op off _ _ bm w (run_look_none law43 Tryz.underlying56 (hb' _) hj (all32_key p) hkl (fun q hq => ?_) (by kernel_rfl))
  simp only [fns32, List.mem_cons, List.not_mem_nil, or_false, forall_eq_or_imp, forall_eq, ne_eq, Prod.mk.injEq, not_and] at hf
  simp only [pairs32, List.mem_cons, List.not_mem_nil, or_false] at hq
  rcases hq with rfl | rfl | rfl | rfl | rfl | rfl | rfl | rfl | rfl | rfl | rfl | rfl | rfl | rfl | rfl | rfl | rfl <;> (intro h; have := key_inj h; omega)

end Go.Proofs.YtmlkbpmchcdldaaGreat
