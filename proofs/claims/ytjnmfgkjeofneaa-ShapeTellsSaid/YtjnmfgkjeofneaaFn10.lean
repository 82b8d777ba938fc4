/-
  The first error of one instruction.
-/
import Derived.Test.YtjnmfgkjeofneaaFn9
namespace Go.Proofs.Ytjnmfgkjeofneaa
open Go.RowKit Go.Maps
set_option linter.unusedVariables false

theorem Later.calls' {P : Program} {f : FuncId} {args : Array Value} {w0 : World} {v : Value} (x : Later w0) (h : ∀ y : Later w0, Calls P f args y.w fun e w' => e = .returned v ∧ Below y.w.heap.size y.w w') :
    Calls P f args x.w fun e w' => e = .returned v ∧ ∃ y : Later w0, w' = y.w :=
  (h x).mono fun e w' ⟨he, hb⟩ => ⟨he, ⟨w', x.below.trans (hb.mono x.below.size)⟩, rfl⟩
theorem class_eight : ∀ n : Fin 256, 0 ≤ bits .and .u8 (n.val : Int) 7 ∧ bits .and .u8 (n.val : Int) 7 < 8 := by decide +kernel
theorem class_of (op : Int) (h : 0 ≤ op ∧ op < 256) : 0 ≤ bits .and .u8 op 7 ∧ bits .and .u8 op 7 < 8 := by
  obtain ⟨n, rfl⟩ := Int.eq_ofNat_of_zero_le h.1
  exact class_eight ⟨n, by omega⟩
def faultE (i r f t : Bool) : Int := if i = false then 20 else if r = false then 21 else if f = false then 22 else if t = false then 23 else 0
/-- The error of the instruction at place k. -/
def faultM (n : Nat) (secs : List Int) (l : List Ins) (k : Nat) (s : Ins) : Int :=
  faultE (isB (bits .and .u8 s.op 7) s.op) (regsB s) (fitsB (bits .and .u8 s.op 7) s (behindM l k)) (staysB n secs k s)
theorem Rd.later {w : World} {B sz n : Nat} {A : Option Addr} {xs : List Value} (h : Rd w B sz A n xs) (hB : B ≤ w.heap.size) {W : World} (hb : Below w.heap.size w W) (y : Later W) : Rd y.w B sz A n xs :=
  h.below ((hb.mono hB).trans (y.below.mono (Nat.le_trans hB hb.size)))
theorem later3 {W : World} {b : Nat} {u v x : Value} {t : TypeId} (h : W.heap[b]? = some (.cells #[u, v, x] t (0, 0))) :
    (∀ y : Later W, y.w.cell? ⟨b, 0, none⟩ = some u) ∧ (∀ y : Later W, y.w.cell? ⟨b, 1, none⟩ = some v) ∧ (∀ y : Later W, y.w.cell? ⟨b, 2, none⟩ = some x) :=
  ⟨Later.cell (by rw [blk_cell h 0]; rfl), Later.cell (by rw [blk_cell h 1]; rfl), Later.cell (by rw [blk_cell h 2]; rfl)⟩

set_option maxRecDepth 100000 in
set_option maxHeartbeats 2000000 in
theorem fault0 (A : Option Addr) (n cc B k sb mb : Nat) (l : List Ins) (secs : List Int) (op dst src off imm : Int) (w : World) (h : Rd w B 5 A n (pcells l)) (hB : B ≤ w.heap.size) (hn : n ≤ 4096) (hk : k ≤ 4097) (hf : (⟨op, dst, src, off, imm⟩ : Ins).Fits)
    (hS : SetIs w sb secs) (hc : bits .and .u8 op 7 = 0) (i f : Bool)
    (hlook : ∀ W, Below w.heap.size w W → (Instr.lookup 50 (.map (some mb)) (.int .u8 0) false).run Try.prog W = .ok (.func (.func 39) #[] #[]) W)
    (hM : ∀ W, Below w.heap.size w W → Calls Try.prog 39 #[.agg #[.int .u8 op, .int .u8 dst, .int .u8 src, .int .i16 off, .int .i32 imm], .agg (behindM l k).cells.toArray] W fun e w' => e = .returned (.tuple #[.bool i, .bool f]) ∧ Below W.heap.size W w') :
    Calls Try.prog 25 #[.agg #[.slice A n cc, .map (some sb), .map (some mb)], .int .i64 k, .agg #[.int .u8 op, .int .u8 dst, .int .u8 src, .int .i16 off, .int .i32 imm]] w fun e w' =>
      e = .returned (.int .i64 (faultE i (regsB ⟨op, dst, src, off, imm⟩) f (staysB n secs k ⟨op, dst, src, off, imm⟩))) ∧ Below w.heap.size w w' := by
  obtain ⟨hx, hy⟩ := two_boxes w (.cells #[.slice A n cc, .map (some sb), .map (some mb)] 53) (.cells #[.int .u8 op, .int .u8 dst, .int .u8 src, .int .i16 off, .int .i32 imm] 42)
  obtain ⟨l0, l1, l2⟩ := later3 hx
  obtain ⟨c0, c1, c2, c3, c4⟩ := later5 hy
  clear hx hy
  have hlk : ∀ y : Later ((w.alloc (.cells #[.slice A n cc, .map (some sb), .map (some mb)] 53)).alloc (.cells #[.int .u8 op, .int .u8 dst, .int .u8 src, .int .i16 off, .int .i32 imm] 42)), (Instr.lookup 50 (.map (some mb)) (.int .u8 0) false).run Try.prog y.w = .ok (.func (.func 39) #[] #[]) y.w := fun y => hlook _ (below2c y.below)
  have HB := hide (fun (y : Later ((w.alloc (.cells #[.slice A n cc, .map (some sb), .map (some mb)] 53)).alloc (.cells #[.int .u8 op, .int .u8 dst, .int .u8 src, .int .i16 off, .int .i32 imm] 42))) => behind_any A n cc B k (some sb) (some mb) l y.w (h.later hB (below2 w _ _) y) (Nat.le_trans hB (below2c y.below).size) hn hk)
  have HM := hide (fun (y : Later ((w.alloc (.cells #[.slice A n cc, .map (some sb), .map (some mb)] 53)).alloc (.cells #[.int .u8 op, .int .u8 dst, .int .u8 src, .int .i16 off, .int .i32 imm] 42))) => hM y.w (below2c y.below))
  have HR := hide (fun w => regs_any op dst src off imm w)
  have HT := hide (fun (y : Later ((w.alloc (.cells #[.slice A n cc, .map (some sb), .map (some mb)] 53)).alloc (.cells #[.int .u8 op, .int .u8 dst, .int .u8 src, .int .i16 off, .int .i32 imm] 42))) => stays_any A n cc k sb (some mb) secs ⟨op, dst, src, off, imm⟩ y.w (hS.below (below2c y.below)) hn hk hf)
  generalize regsB ⟨op, dst, src, off, imm⟩ = r at HR ⊢
  generalize staysB n secs k ⟨op, dst, src, off, imm⟩ = t at HT ⊢
  simp only [Ins.cells] at HT HB HM
  generalize behindM l k = bh at HB HM
  obtain ⟨bo, bd, bs, bf, bi⟩ := bh
  simp only at HB HM
  clear hlook hM h hS hf
  go_enter Try.func25, Try.ntmps25
  go_wp2
  refine wp_region_later (by kernel_rfl) (by kernel_rfl) ?_
  repeat (go_big_quiet_step ((first | exact Later.calls' _ HB.out | exact Later.calls' _ HM.out)))
  refine wpQuiet_nil ?_
  rintro _ ⟨x, rfl⟩
  clear hlk HB HM
  cases i <;> cases r <;> cases f <;> cases t
  all_goals
    go_wp2_with (first | (go_at_call 50; refine (Later.calls _ HR.out).mono ?_; rintro e w2 ⟨rfl, y, rfl⟩) | (go_at_call 51; refine (Later.calls' _ HT.out).mono ?_; rintro e w3 ⟨rfl, z, rfl⟩))
    go_ret
    exact ⟨rfl, by first | exact below2c z.below | exact below2c y.below | exact below2c x.below⟩

set_option maxRecDepth 100000 in
set_option maxHeartbeats 2000000 in
theorem fault1 (A : Option Addr) (n cc B k sb mb : Nat) (l : List Ins) (secs : List Int) (op dst src off imm : Int) (w : World) (h : Rd w B 5 A n (pcells l)) (hB : B ≤ w.heap.size) (hn : n ≤ 4096) (hk : k ≤ 4097) (hf : (⟨op, dst, src, off, imm⟩ : Ins).Fits)
    (hS : SetIs w sb secs) (hc : bits .and .u8 op 7 = 1) (i f : Bool)
    (hlook : ∀ W, Below w.heap.size w W → (Instr.lookup 50 (.map (some mb)) (.int .u8 1) false).run Try.prog W = .ok (.func (.func 41) #[] #[]) W)
    (hM : ∀ W, Below w.heap.size w W → Calls Try.prog 41 #[.agg #[.int .u8 op, .int .u8 dst, .int .u8 src, .int .i16 off, .int .i32 imm], .agg (behindM l k).cells.toArray] W fun e w' => e = .returned (.tuple #[.bool i, .bool f]) ∧ Below W.heap.size W w') :
    Calls Try.prog 25 #[.agg #[.slice A n cc, .map (some sb), .map (some mb)], .int .i64 k, .agg #[.int .u8 op, .int .u8 dst, .int .u8 src, .int .i16 off, .int .i32 imm]] w fun e w' =>
      e = .returned (.int .i64 (faultE i (regsB ⟨op, dst, src, off, imm⟩) f (staysB n secs k ⟨op, dst, src, off, imm⟩))) ∧ Below w.heap.size w w' := by
  obtain ⟨hx, hy⟩ := two_boxes w (.cells #[.slice A n cc, .map (some sb), .map (some mb)] 53) (.cells #[.int .u8 op, .int .u8 dst, .int .u8 src, .int .i16 off, .int .i32 imm] 42)
  obtain ⟨l0, l1, l2⟩ := later3 hx
  obtain ⟨c0, c1, c2, c3, c4⟩ := later5 hy
  clear hx hy
  have hlk : ∀ y : Later ((w.alloc (.cells #[.slice A n cc, .map (some sb), .map (some mb)] 53)).alloc (.cells #[.int .u8 op, .int .u8 dst, .int .u8 src, .int .i16 off, .int .i32 imm] 42)), (Instr.lookup 50 (.map (some mb)) (.int .u8 1) false).run Try.prog y.w = .ok (.func (.func 41) #[] #[]) y.w := fun y => hlook _ (below2c y.below)
  have HB := hide (fun (y : Later ((w.alloc (.cells #[.slice A n cc, .map (some sb), .map (some mb)] 53)).alloc (.cells #[.int .u8 op, .int .u8 dst, .int .u8 src, .int .i16 off, .int .i32 imm] 42))) => behind_any A n cc B k (some sb) (some mb) l y.w (h.later hB (below2 w _ _) y) (Nat.le_trans hB (below2c y.below).size) hn hk)
  have HM := hide (fun (y : Later ((w.alloc (.cells #[.slice A n cc, .map (some sb), .map (some mb)] 53)).alloc (.cells #[.int .u8 op, .int .u8 dst, .int .u8 src, .int .i16 off, .int .i32 imm] 42))) => hM y.w (below2c y.below))
  have HR := hide (fun w => regs_any op dst src off imm w)
  have HT := hide (fun (y : Later ((w.alloc (.cells #[.slice A n cc, .map (some sb), .map (some mb)] 53)).alloc (.cells #[.int .u8 op, .int .u8 dst, .int .u8 src, .int .i16 off, .int .i32 imm] 42))) => stays_any A n cc k sb (some mb) secs ⟨op, dst, src, off, imm⟩ y.w (hS.below (below2c y.below)) hn hk hf)
  generalize regsB ⟨op, dst, src, off, imm⟩ = r at HR ⊢
  generalize staysB n secs k ⟨op, dst, src, off, imm⟩ = t at HT ⊢
  simp only [Ins.cells] at HT HB HM
  generalize behindM l k = bh at HB HM
  obtain ⟨bo, bd, bs, bf, bi⟩ := bh
  simp only at HB HM
  clear hlook hM h hS hf
  go_enter Try.func25, Try.ntmps25
  go_wp2
  refine wp_region_later (by kernel_rfl) (by kernel_rfl) ?_
  repeat (go_big_quiet_step ((first | exact Later.calls' _ HB.out | exact Later.calls' _ HM.out)))
  refine wpQuiet_nil ?_
  rintro _ ⟨x, rfl⟩
  clear hlk HB HM
  cases i <;> cases r <;> cases f <;> cases t
  all_goals
    go_wp2_with (first | (go_at_call 50; refine (Later.calls _ HR.out).mono ?_; rintro e w2 ⟨rfl, y, rfl⟩) | (go_at_call 51; refine (Later.calls' _ HT.out).mono ?_; rintro e w3 ⟨rfl, z, rfl⟩))
    go_ret
    exact ⟨rfl, by first | exact below2c z.below | exact below2c y.below | exact below2c x.below⟩

set_option maxRecDepth 100000 in
set_option maxHeartbeats 2000000 in
theorem fault2 (A : Option Addr) (n cc B k sb mb : Nat) (l : List Ins) (secs : List Int) (op dst src off imm : Int) (w : World) (h : Rd w B 5 A n (pcells l)) (hB : B ≤ w.heap.size) (hn : n ≤ 4096) (hk : k ≤ 4097) (hf : (⟨op, dst, src, off, imm⟩ : Ins).Fits)
    (hS : SetIs w sb secs) (hc : bits .and .u8 op 7 = 2) (i f : Bool)
    (hlook : ∀ W, Below w.heap.size w W → (Instr.lookup 50 (.map (some mb)) (.int .u8 2) false).run Try.prog W = .ok (.func (.func 44) #[] #[]) W)
    (hM : ∀ W, Below w.heap.size w W → Calls Try.prog 44 #[.agg #[.int .u8 op, .int .u8 dst, .int .u8 src, .int .i16 off, .int .i32 imm], .agg (behindM l k).cells.toArray] W fun e w' => e = .returned (.tuple #[.bool i, .bool f]) ∧ Below W.heap.size W w') :
    Calls Try.prog 25 #[.agg #[.slice A n cc, .map (some sb), .map (some mb)], .int .i64 k, .agg #[.int .u8 op, .int .u8 dst, .int .u8 src, .int .i16 off, .int .i32 imm]] w fun e w' =>
      e = .returned (.int .i64 (faultE i (regsB ⟨op, dst, src, off, imm⟩) f (staysB n secs k ⟨op, dst, src, off, imm⟩))) ∧ Below w.heap.size w w' := by
  obtain ⟨hx, hy⟩ := two_boxes w (.cells #[.slice A n cc, .map (some sb), .map (some mb)] 53) (.cells #[.int .u8 op, .int .u8 dst, .int .u8 src, .int .i16 off, .int .i32 imm] 42)
  obtain ⟨l0, l1, l2⟩ := later3 hx
  obtain ⟨c0, c1, c2, c3, c4⟩ := later5 hy
  clear hx hy
  have hlk : ∀ y : Later ((w.alloc (.cells #[.slice A n cc, .map (some sb), .map (some mb)] 53)).alloc (.cells #[.int .u8 op, .int .u8 dst, .int .u8 src, .int .i16 off, .int .i32 imm] 42)), (Instr.lookup 50 (.map (some mb)) (.int .u8 2) false).run Try.prog y.w = .ok (.func (.func 44) #[] #[]) y.w := fun y => hlook _ (below2c y.below)
  have HB := hide (fun (y : Later ((w.alloc (.cells #[.slice A n cc, .map (some sb), .map (some mb)] 53)).alloc (.cells #[.int .u8 op, .int .u8 dst, .int .u8 src, .int .i16 off, .int .i32 imm] 42))) => behind_any A n cc B k (some sb) (some mb) l y.w (h.later hB (below2 w _ _) y) (Nat.le_trans hB (below2c y.below).size) hn hk)
  have HM := hide (fun (y : Later ((w.alloc (.cells #[.slice A n cc, .map (some sb), .map (some mb)] 53)).alloc (.cells #[.int .u8 op, .int .u8 dst, .int .u8 src, .int .i16 off, .int .i32 imm] 42))) => hM y.w (below2c y.below))
  have HR := hide (fun w => regs_any op dst src off imm w)
  have HT := hide (fun (y : Later ((w.alloc (.cells #[.slice A n cc, .map (some sb), .map (some mb)] 53)).alloc (.cells #[.int .u8 op, .int .u8 dst, .int .u8 src, .int .i16 off, .int .i32 imm] 42))) => stays_any A n cc k sb (some mb) secs ⟨op, dst, src, off, imm⟩ y.w (hS.below (below2c y.below)) hn hk hf)
  generalize regsB ⟨op, dst, src, off, imm⟩ = r at HR ⊢
  generalize staysB n secs k ⟨op, dst, src, off, imm⟩ = t at HT ⊢
  simp only [Ins.cells] at HT HB HM
  generalize behindM l k = bh at HB HM
  obtain ⟨bo, bd, bs, bf, bi⟩ := bh
  simp only at HB HM
  clear hlook hM h hS hf
  go_enter Try.func25, Try.ntmps25
  go_wp2
  refine wp_region_later (by kernel_rfl) (by kernel_rfl) ?_
  repeat (go_big_quiet_step ((first | exact Later.calls' _ HB.out | exact Later.calls' _ HM.out)))
  refine wpQuiet_nil ?_
  rintro _ ⟨x, rfl⟩
  clear hlk HB HM
  cases i <;> cases r <;> cases f <;> cases t
  all_goals
    go_wp2_with (first | (go_at_call 50; refine (Later.calls _ HR.out).mono ?_; rintro e w2 ⟨rfl, y, rfl⟩) | (go_at_call 51; refine (Later.calls' _ HT.out).mono ?_; rintro e w3 ⟨rfl, z, rfl⟩))
    go_ret
    exact ⟨rfl, by first | exact below2c z.below | exact below2c y.below | exact below2c x.below⟩

set_option maxRecDepth 100000 in
set_option maxHeartbeats 2000000 in
theorem fault3 (A : Option Addr) (n cc B k sb mb : Nat) (l : List Ins) (secs : List Int) (op dst src off imm : Int) (w : World) (h : Rd w B 5 A n (pcells l)) (hB : B ≤ w.heap.size) (hn : n ≤ 4096) (hk : k ≤ 4097) (hf : (⟨op, dst, src, off, imm⟩ : Ins).Fits)
    (hS : SetIs w sb secs) (hc : bits .and .u8 op 7 = 3) (i f : Bool)
    (hlook : ∀ W, Below w.heap.size w W → (Instr.lookup 50 (.map (some mb)) (.int .u8 3) false).run Try.prog W = .ok (.func (.func 45) #[] #[]) W)
    (hM : ∀ W, Below w.heap.size w W → Calls Try.prog 45 #[.agg #[.int .u8 op, .int .u8 dst, .int .u8 src, .int .i16 off, .int .i32 imm], .agg (behindM l k).cells.toArray] W fun e w' => e = .returned (.tuple #[.bool i, .bool f]) ∧ Below W.heap.size W w') :
    Calls Try.prog 25 #[.agg #[.slice A n cc, .map (some sb), .map (some mb)], .int .i64 k, .agg #[.int .u8 op, .int .u8 dst, .int .u8 src, .int .i16 off, .int .i32 imm]] w fun e w' =>
      e = .returned (.int .i64 (faultE i (regsB ⟨op, dst, src, off, imm⟩) f (staysB n secs k ⟨op, dst, src, off, imm⟩))) ∧ Below w.heap.size w w' := by
  obtain ⟨hx, hy⟩ := two_boxes w (.cells #[.slice A n cc, .map (some sb), .map (some mb)] 53) (.cells #[.int .u8 op, .int .u8 dst, .int .u8 src, .int .i16 off, .int .i32 imm] 42)
  obtain ⟨l0, l1, l2⟩ := later3 hx
  obtain ⟨c0, c1, c2, c3, c4⟩ := later5 hy
  clear hx hy
  have hlk : ∀ y : Later ((w.alloc (.cells #[.slice A n cc, .map (some sb), .map (some mb)] 53)).alloc (.cells #[.int .u8 op, .int .u8 dst, .int .u8 src, .int .i16 off, .int .i32 imm] 42)), (Instr.lookup 50 (.map (some mb)) (.int .u8 3) false).run Try.prog y.w = .ok (.func (.func 45) #[] #[]) y.w := fun y => hlook _ (below2c y.below)
  have HB := hide (fun (y : Later ((w.alloc (.cells #[.slice A n cc, .map (some sb), .map (some mb)] 53)).alloc (.cells #[.int .u8 op, .int .u8 dst, .int .u8 src, .int .i16 off, .int .i32 imm] 42))) => behind_any A n cc B k (some sb) (some mb) l y.w (h.later hB (below2 w _ _) y) (Nat.le_trans hB (below2c y.below).size) hn hk)
  have HM := hide (fun (y : Later ((w.alloc (.cells #[.slice A n cc, .map (some sb), .map (some mb)] 53)).alloc (.cells #[.int .u8 op, .int .u8 dst, .int .u8 src, .int .i16 off, .int .i32 imm] 42))) => hM y.w (below2c y.below))
  have HR := hide (fun w => regs_any op dst src off imm w)
  have HT := hide (fun (y : Later ((w.alloc (.cells #[.slice A n cc, .map (some sb), .map (some mb)] 53)).alloc (.cells #[.int .u8 op, .int .u8 dst, .int .u8 src, .int .i16 off, .int .i32 imm] 42))) => stays_any A n cc k sb (some mb) secs ⟨op, dst, src, off, imm⟩ y.w (hS.below (below2c y.below)) hn hk hf)
  generalize regsB ⟨op, dst, src, off, imm⟩ = r at HR ⊢
  generalize staysB n secs k ⟨op, dst, src, off, imm⟩ = t at HT ⊢
  simp only [Ins.cells] at HT HB HM
  generalize behindM l k = bh at HB HM
  obtain ⟨bo, bd, bs, bf, bi⟩ := bh
  simp only at HB HM
  clear hlook hM h hS hf
  go_enter Try.func25, Try.ntmps25
  go_wp2
  refine wp_region_later (by kernel_rfl) (by kernel_rfl) ?_
  repeat (go_big_quiet_step ((first | exact Later.calls' _ HB.out | exact Later.calls' _ HM.out)))
  refine wpQuiet_nil ?_
  rintro _ ⟨x, rfl⟩
  clear hlk HB HM
  cases i <;> cases r <;> cases f <;> cases t
  all_goals
    go_wp2_with (first | (go_at_call 50; refine (Later.calls _ HR.out).mono ?_; rintro e w2 ⟨rfl, y, rfl⟩) | (go_at_call 51; refine (Later.calls' _ HT.out).mono ?_; rintro e w3 ⟨rfl, z, rfl⟩))
    go_ret
    exact ⟨rfl, by first | exact below2c z.below | exact below2c y.below | exact below2c x.below⟩

set_option maxRecDepth 100000 in
set_option maxHeartbeats 2000000 in
theorem fault4 (A : Option Addr) (n cc B k sb mb Bx : Nat) (l : List Ins) (secs : List Int) (op dst src off imm : Int) (w : World) (h : Rd w B 5 A n (pcells l)) (hB : B ≤ w.heap.size) (hn : n ≤ 4096) (hk : k ≤ 4097) (hf : (⟨op, dst, src, off, imm⟩ : Ins).Fits)
    (hS : SetIs w sb secs) (hc : bits .and .u8 op 7 = 4) (i f : Bool)
    (hlook : ∀ W, Below w.heap.size w W → (Instr.lookup 50 (.map (some mb)) (.int .u8 4) false).run Try.prog W = .ok (.func (.func 60) #[] #[.pointer (some ⟨Bx, 0, none⟩)]) W)
    (hM : ∀ W, Below w.heap.size w W → Calls Try.prog 60 #[.agg #[.int .u8 op, .int .u8 dst, .int .u8 src, .int .i16 off, .int .i32 imm], .agg (behindM l k).cells.toArray, .pointer (some ⟨Bx, 0, none⟩)] W fun e w' => e = .returned (.tuple #[.bool i, .bool f]) ∧ Below W.heap.size W w') :
    Calls Try.prog 25 #[.agg #[.slice A n cc, .map (some sb), .map (some mb)], .int .i64 k, .agg #[.int .u8 op, .int .u8 dst, .int .u8 src, .int .i16 off, .int .i32 imm]] w fun e w' =>
      e = .returned (.int .i64 (faultE i (regsB ⟨op, dst, src, off, imm⟩) f (staysB n secs k ⟨op, dst, src, off, imm⟩))) ∧ Below w.heap.size w w' := by
  obtain ⟨hx, hy⟩ := two_boxes w (.cells #[.slice A n cc, .map (some sb), .map (some mb)] 53) (.cells #[.int .u8 op, .int .u8 dst, .int .u8 src, .int .i16 off, .int .i32 imm] 42)
  obtain ⟨l0, l1, l2⟩ := later3 hx
  obtain ⟨c0, c1, c2, c3, c4⟩ := later5 hy
  clear hx hy
  have hlk : ∀ y : Later ((w.alloc (.cells #[.slice A n cc, .map (some sb), .map (some mb)] 53)).alloc (.cells #[.int .u8 op, .int .u8 dst, .int .u8 src, .int .i16 off, .int .i32 imm] 42)), (Instr.lookup 50 (.map (some mb)) (.int .u8 4) false).run Try.prog y.w = .ok (.func (.func 60) #[] #[.pointer (some ⟨Bx, 0, none⟩)]) y.w := fun y => hlook _ (below2c y.below)
  have HB := hide (fun (y : Later ((w.alloc (.cells #[.slice A n cc, .map (some sb), .map (some mb)] 53)).alloc (.cells #[.int .u8 op, .int .u8 dst, .int .u8 src, .int .i16 off, .int .i32 imm] 42))) => behind_any A n cc B k (some sb) (some mb) l y.w (h.later hB (below2 w _ _) y) (Nat.le_trans hB (below2c y.below).size) hn hk)
  have HM := hide (fun (y : Later ((w.alloc (.cells #[.slice A n cc, .map (some sb), .map (some mb)] 53)).alloc (.cells #[.int .u8 op, .int .u8 dst, .int .u8 src, .int .i16 off, .int .i32 imm] 42))) => hM y.w (below2c y.below))
  have HR := hide (fun w => regs_any op dst src off imm w)
  have HT := hide (fun (y : Later ((w.alloc (.cells #[.slice A n cc, .map (some sb), .map (some mb)] 53)).alloc (.cells #[.int .u8 op, .int .u8 dst, .int .u8 src, .int .i16 off, .int .i32 imm] 42))) => stays_any A n cc k sb (some mb) secs ⟨op, dst, src, off, imm⟩ y.w (hS.below (below2c y.below)) hn hk hf)
  generalize regsB ⟨op, dst, src, off, imm⟩ = r at HR ⊢
  generalize staysB n secs k ⟨op, dst, src, off, imm⟩ = t at HT ⊢
  simp only [Ins.cells] at HT HB HM
  generalize behindM l k = bh at HB HM
  obtain ⟨bo, bd, bs, bf, bi⟩ := bh
  simp only at HB HM
  clear hlook hM h hS hf
  go_enter Try.func25, Try.ntmps25
  go_wp2
  refine wp_region_later (by kernel_rfl) (by kernel_rfl) ?_
  repeat (go_big_quiet_step ((first | exact Later.calls' _ HB.out | exact Later.calls' _ HM.out)))
  refine wpQuiet_nil ?_
  rintro _ ⟨x, rfl⟩
  clear hlk HB HM
  cases i <;> cases r <;> cases f <;> cases t
  all_goals
    go_wp2_with (first | (go_at_call 50; refine (Later.calls _ HR.out).mono ?_; rintro e w2 ⟨rfl, y, rfl⟩) | (go_at_call 51; refine (Later.calls' _ HT.out).mono ?_; rintro e w3 ⟨rfl, z, rfl⟩))
    go_ret
    exact ⟨rfl, by first | exact below2c z.below | exact below2c y.below | exact below2c x.below⟩

set_option maxRecDepth 100000 in
set_option maxHeartbeats 2000000 in
theorem fault7 (A : Option Addr) (n cc B k sb mb Bx : Nat) (l : List Ins) (secs : List Int) (op dst src off imm : Int) (w : World) (h : Rd w B 5 A n (pcells l)) (hB : B ≤ w.heap.size) (hn : n ≤ 4096) (hk : k ≤ 4097) (hf : (⟨op, dst, src, off, imm⟩ : Ins).Fits)
    (hS : SetIs w sb secs) (hc : bits .and .u8 op 7 = 7) (i f : Bool)
    (hlook : ∀ W, Below w.heap.size w W → (Instr.lookup 50 (.map (some mb)) (.int .u8 7) false).run Try.prog W = .ok (.func (.func 60) #[] #[.pointer (some ⟨Bx, 0, none⟩)]) W)
    (hM : ∀ W, Below w.heap.size w W → Calls Try.prog 60 #[.agg #[.int .u8 op, .int .u8 dst, .int .u8 src, .int .i16 off, .int .i32 imm], .agg (behindM l k).cells.toArray, .pointer (some ⟨Bx, 0, none⟩)] W fun e w' => e = .returned (.tuple #[.bool i, .bool f]) ∧ Below W.heap.size W w') :
    Calls Try.prog 25 #[.agg #[.slice A n cc, .map (some sb), .map (some mb)], .int .i64 k, .agg #[.int .u8 op, .int .u8 dst, .int .u8 src, .int .i16 off, .int .i32 imm]] w fun e w' =>
      e = .returned (.int .i64 (faultE i (regsB ⟨op, dst, src, off, imm⟩) f (staysB n secs k ⟨op, dst, src, off, imm⟩))) ∧ Below w.heap.size w w' := by
  obtain ⟨hx, hy⟩ := two_boxes w (.cells #[.slice A n cc, .map (some sb), .map (some mb)] 53) (.cells #[.int .u8 op, .int .u8 dst, .int .u8 src, .int .i16 off, .int .i32 imm] 42)
  obtain ⟨l0, l1, l2⟩ := later3 hx
  obtain ⟨c0, c1, c2, c3, c4⟩ := later5 hy
  clear hx hy
  have hlk : ∀ y : Later ((w.alloc (.cells #[.slice A n cc, .map (some sb), .map (some mb)] 53)).alloc (.cells #[.int .u8 op, .int .u8 dst, .int .u8 src, .int .i16 off, .int .i32 imm] 42)), (Instr.lookup 50 (.map (some mb)) (.int .u8 7) false).run Try.prog y.w = .ok (.func (.func 60) #[] #[.pointer (some ⟨Bx, 0, none⟩)]) y.w := fun y => hlook _ (below2c y.below)
  have HB := hide (fun (y : Later ((w.alloc (.cells #[.slice A n cc, .map (some sb), .map (some mb)] 53)).alloc (.cells #[.int .u8 op, .int .u8 dst, .int .u8 src, .int .i16 off, .int .i32 imm] 42))) => behind_any A n cc B k (some sb) (some mb) l y.w (h.later hB (below2 w _ _) y) (Nat.le_trans hB (below2c y.below).size) hn hk)
  have HM := hide (fun (y : Later ((w.alloc (.cells #[.slice A n cc, .map (some sb), .map (some mb)] 53)).alloc (.cells #[.int .u8 op, .int .u8 dst, .int .u8 src, .int .i16 off, .int .i32 imm] 42))) => hM y.w (below2c y.below))
  have HR := hide (fun w => regs_any op dst src off imm w)
  have HT := hide (fun (y : Later ((w.alloc (.cells #[.slice A n cc, .map (some sb), .map (some mb)] 53)).alloc (.cells #[.int .u8 op, .int .u8 dst, .int .u8 src, .int .i16 off, .int .i32 imm] 42))) => stays_any A n cc k sb (some mb) secs ⟨op, dst, src, off, imm⟩ y.w (hS.below (below2c y.below)) hn hk hf)
  generalize regsB ⟨op, dst, src, off, imm⟩ = r at HR ⊢
  generalize staysB n secs k ⟨op, dst, src, off, imm⟩ = t at HT ⊢
  simp only [Ins.cells] at HT HB HM
  generalize behindM l k = bh at HB HM
  obtain ⟨bo, bd, bs, bf, bi⟩ := bh
  simp only at HB HM
  clear hlook hM h hS hf
  go_enter Try.func25, Try.ntmps25
  go_wp2
  refine wp_region_later (by kernel_rfl) (by kernel_rfl) ?_
  repeat (go_big_quiet_step ((first | exact Later.calls' _ HB.out | exact Later.calls' _ HM.out)))
  refine wpQuiet_nil ?_
  rintro _ ⟨x, rfl⟩
  clear hlk HB HM
  cases i <;> cases r <;> cases f <;> cases t
  all_goals
    go_wp2_with (first | (go_at_call 50; refine (Later.calls _ HR.out).mono ?_; rintro e w2 ⟨rfl, y, rfl⟩) | (go_at_call 51; refine (Later.calls' _ HT.out).mono ?_; rintro e w3 ⟨rfl, z, rfl⟩))
    go_ret
    exact ⟨rfl, by first | exact below2c z.below | exact below2c y.below | exact below2c x.below⟩

set_option maxRecDepth 100000 in
set_option maxHeartbeats 2000000 in
theorem fault5 (A : Option Addr) (n cc B k sb mb Bx : Nat) (l : List Ins) (secs : List Int) (op dst src off imm : Int) (w : World) (h : Rd w B 5 A n (pcells l)) (hB : B ≤ w.heap.size) (hn : n ≤ 4096) (hk : k ≤ 4097) (hf : (⟨op, dst, src, off, imm⟩ : Ins).Fits)
    (hS : SetIs w sb secs) (hc : bits .and .u8 op 7 = 5) (i f : Bool)
    (hlook : ∀ W, Below w.heap.size w W → (Instr.lookup 50 (.map (some mb)) (.int .u8 5) false).run Try.prog W = .ok (.func (.func 65) #[] #[.pointer (some ⟨Bx, 0, none⟩)]) W)
    (hM : ∀ W, Below w.heap.size w W → Calls Try.prog 65 #[.agg #[.int .u8 op, .int .u8 dst, .int .u8 src, .int .i16 off, .int .i32 imm], .agg (behindM l k).cells.toArray, .pointer (some ⟨Bx, 0, none⟩)] W fun e w' => e = .returned (.tuple #[.bool i, .bool f]) ∧ Below W.heap.size W w') :
    Calls Try.prog 25 #[.agg #[.slice A n cc, .map (some sb), .map (some mb)], .int .i64 k, .agg #[.int .u8 op, .int .u8 dst, .int .u8 src, .int .i16 off, .int .i32 imm]] w fun e w' =>
      e = .returned (.int .i64 (faultE i (regsB ⟨op, dst, src, off, imm⟩) f (staysB n secs k ⟨op, dst, src, off, imm⟩))) ∧ Below w.heap.size w w' := by
  obtain ⟨hx, hy⟩ := two_boxes w (.cells #[.slice A n cc, .map (some sb), .map (some mb)] 53) (.cells #[.int .u8 op, .int .u8 dst, .int .u8 src, .int .i16 off, .int .i32 imm] 42)
  obtain ⟨l0, l1, l2⟩ := later3 hx
  obtain ⟨c0, c1, c2, c3, c4⟩ := later5 hy
  clear hx hy
  have hlk : ∀ y : Later ((w.alloc (.cells #[.slice A n cc, .map (some sb), .map (some mb)] 53)).alloc (.cells #[.int .u8 op, .int .u8 dst, .int .u8 src, .int .i16 off, .int .i32 imm] 42)), (Instr.lookup 50 (.map (some mb)) (.int .u8 5) false).run Try.prog y.w = .ok (.func (.func 65) #[] #[.pointer (some ⟨Bx, 0, none⟩)]) y.w := fun y => hlook _ (below2c y.below)
  have HB := hide (fun (y : Later ((w.alloc (.cells #[.slice A n cc, .map (some sb), .map (some mb)] 53)).alloc (.cells #[.int .u8 op, .int .u8 dst, .int .u8 src, .int .i16 off, .int .i32 imm] 42))) => behind_any A n cc B k (some sb) (some mb) l y.w (h.later hB (below2 w _ _) y) (Nat.le_trans hB (below2c y.below).size) hn hk)
  have HM := hide (fun (y : Later ((w.alloc (.cells #[.slice A n cc, .map (some sb), .map (some mb)] 53)).alloc (.cells #[.int .u8 op, .int .u8 dst, .int .u8 src, .int .i16 off, .int .i32 imm] 42))) => hM y.w (below2c y.below))
  have HR := hide (fun w => regs_any op dst src off imm w)
  have HT := hide (fun (y : Later ((w.alloc (.cells #[.slice A n cc, .map (some sb), .map (some mb)] 53)).alloc (.cells #[.int .u8 op, .int .u8 dst, .int .u8 src, .int .i16 off, .int .i32 imm] 42))) => stays_any A n cc k sb (some mb) secs ⟨op, dst, src, off, imm⟩ y.w (hS.below (below2c y.below)) hn hk hf)
  generalize regsB ⟨op, dst, src, off, imm⟩ = r at HR ⊢
  generalize staysB n secs k ⟨op, dst, src, off, imm⟩ = t at HT ⊢
  simp only [Ins.cells] at HT HB HM
  generalize behindM l k = bh at HB HM
  obtain ⟨bo, bd, bs, bf, bi⟩ := bh
  simp only at HB HM
  clear hlook hM h hS hf
  go_enter Try.func25, Try.ntmps25
  go_wp2
  refine wp_region_later (by kernel_rfl) (by kernel_rfl) ?_
  repeat (go_big_quiet_step ((first | exact Later.calls' _ HB.out | exact Later.calls' _ HM.out)))
  refine wpQuiet_nil ?_
  rintro _ ⟨x, rfl⟩
  clear hlk HB HM
  cases i <;> cases r <;> cases f <;> cases t
  all_goals
    go_wp2_with (first | (go_at_call 50; refine (Later.calls _ HR.out).mono ?_; rintro e w2 ⟨rfl, y, rfl⟩) | (go_at_call 51; refine (Later.calls' _ HT.out).mono ?_; rintro e w3 ⟨rfl, z, rfl⟩))
    go_ret
    exact ⟨rfl, by first | exact below2c z.below | exact below2c y.below | exact below2c x.below⟩

set_option maxRecDepth 100000 in
set_option maxHeartbeats 2000000 in
theorem fault6 (A : Option Addr) (n cc B k sb mb Bx : Nat) (l : List Ins) (secs : List Int) (op dst src off imm : Int) (w : World) (h : Rd w B 5 A n (pcells l)) (hB : B ≤ w.heap.size) (hn : n ≤ 4096) (hk : k ≤ 4097) (hf : (⟨op, dst, src, off, imm⟩ : Ins).Fits)
    (hS : SetIs w sb secs) (hc : bits .and .u8 op 7 = 6) (i f : Bool)
    (hlook : ∀ W, Below w.heap.size w W → (Instr.lookup 50 (.map (some mb)) (.int .u8 6) false).run Try.prog W = .ok (.func (.func 65) #[] #[.pointer (some ⟨Bx, 0, none⟩)]) W)
    (hM : ∀ W, Below w.heap.size w W → Calls Try.prog 65 #[.agg #[.int .u8 op, .int .u8 dst, .int .u8 src, .int .i16 off, .int .i32 imm], .agg (behindM l k).cells.toArray, .pointer (some ⟨Bx, 0, none⟩)] W fun e w' => e = .returned (.tuple #[.bool i, .bool f]) ∧ Below W.heap.size W w') :
    Calls Try.prog 25 #[.agg #[.slice A n cc, .map (some sb), .map (some mb)], .int .i64 k, .agg #[.int .u8 op, .int .u8 dst, .int .u8 src, .int .i16 off, .int .i32 imm]] w fun e w' =>
      e = .returned (.int .i64 (faultE i (regsB ⟨op, dst, src, off, imm⟩) f (staysB n secs k ⟨op, dst, src, off, imm⟩))) ∧ Below w.heap.size w w' := by
  obtain ⟨hx, hy⟩ := two_boxes w (.cells #[.slice A n cc, .map (some sb), .map (some mb)] 53) (.cells #[.int .u8 op, .int .u8 dst, .int .u8 src, .int .i16 off, .int .i32 imm] 42)
  obtain ⟨l0, l1, l2⟩ := later3 hx
  obtain ⟨c0, c1, c2, c3, c4⟩ := later5 hy
  clear hx hy
  have hlk : ∀ y : Later ((w.alloc (.cells #[.slice A n cc, .map (some sb), .map (some mb)] 53)).alloc (.cells #[.int .u8 op, .int .u8 dst, .int .u8 src, .int .i16 off, .int .i32 imm] 42)), (Instr.lookup 50 (.map (some mb)) (.int .u8 6) false).run Try.prog y.w = .ok (.func (.func 65) #[] #[.pointer (some ⟨Bx, 0, none⟩)]) y.w := fun y => hlook _ (below2c y.below)
  have HB := hide (fun (y : Later ((w.alloc (.cells #[.slice A n cc, .map (some sb), .map (some mb)] 53)).alloc (.cells #[.int .u8 op, .int .u8 dst, .int .u8 src, .int .i16 off, .int .i32 imm] 42))) => behind_any A n cc B k (some sb) (some mb) l y.w (h.later hB (below2 w _ _) y) (Nat.le_trans hB (below2c y.below).size) hn hk)
  have HM := hide (fun (y : Later ((w.alloc (.cells #[.slice A n cc, .map (some sb), .map (some mb)] 53)).alloc (.cells #[.int .u8 op, .int .u8 dst, .int .u8 src, .int .i16 off, .int .i32 imm] 42))) => hM y.w (below2c y.below))
  have HR := hide (fun w => regs_any op dst src off imm w)
  have HT := hide (fun (y : Later ((w.alloc (.cells #[.slice A n cc, .map (some sb), .map (some mb)] 53)).alloc (.cells #[.int .u8 op, .int .u8 dst, .int .u8 src, .int .i16 off, .int .i32 imm] 42))) => stays_any A n cc k sb (some mb) secs ⟨op, dst, src, off, imm⟩ y.w (hS.below (below2c y.below)) hn hk hf)
  generalize regsB ⟨op, dst, src, off, imm⟩ = r at HR ⊢
  generalize staysB n secs k ⟨op, dst, src, off, imm⟩ = t at HT ⊢
  simp only [Ins.cells] at HT HB HM
  generalize behindM l k = bh at HB HM
  obtain ⟨bo, bd, bs, bf, bi⟩ := bh
  simp only at HB HM
  clear hlook hM h hS hf
  go_enter Try.func25, Try.ntmps25
  go_wp2
  refine wp_region_later (by kernel_rfl) (by kernel_rfl) ?_
  repeat (go_big_quiet_step ((first | exact Later.calls' _ HB.out | exact Later.calls' _ HM.out)))
  refine wpQuiet_nil ?_
  rintro _ ⟨x, rfl⟩
  clear hlk HB HM
  cases i <;> cases r <;> cases f <;> cases t
  all_goals
    go_wp2_with (first | (go_at_call 50; refine (Later.calls _ HR.out).mono ?_; rintro e w2 ⟨rfl, y, rfl⟩) | (go_at_call 51; refine (Later.calls' _ HT.out).mono ?_; rintro e w3 ⟨rfl, z, rfl⟩))
    go_ret
    exact ⟨rfl, by first | exact below2c z.below | exact below2c y.below | exact below2c x.below⟩

theorem fault_any (A : Option Addr) (n cc B k sb mb : Nat) (l : List Ins) (secs : List Int) (s : Ins) (w : World) (h : Rd w B 5 A n (pcells l)) (hB : B ≤ w.heap.size) (hn : n ≤ 4096) (hk : k ≤ 4097) (hf : s.Fits)
    (hS : SetIs w sb secs) (hM : Musts w mb) :
    Calls Try.prog 25 #[.agg #[.slice A n cc, .map (some sb), .map (some mb)], .int .i64 k, .agg s.cells.toArray] w fun e w' => e = .returned (.int .i64 (faultM n secs l k s)) ∧ Below w.heap.size w w' := by
  obtain ⟨op, dst, src, off, imm⟩ := s
  obtain ⟨B1, B2, B3, B4, es, clock, h1, h2, b1, b2, b3, b4⟩ := hM
  have hks : ∀ p ∈ entries B1 B2 B3 B4, ∃ m : Int, p.1 = .int .u8 m ∧ 0 ≤ m ∧ m < 256 := by
    intro p hp
    simp only [entries, List.mem_cons, List.not_mem_nil, or_false] at hp
    rcases hp with rfl | rfl | rfl | rfl | rfl | rfl | rfl | rfl <;> exact ⟨_, rfl, by omega, by omega⟩
  have hlk : ∀ (c : Int) (v : Value), (0 ≤ c ∧ c < 256) → (.int .u8 c, v) ∈ entries B1 B2 B3 B4 → (∀ v', (.int .u8 c, v') ∈ entries B1 B2 B3 B4 → v' = v) → ∀ W, Below w.heap.size w W → (Instr.lookup 50 (.map (some mb)) (.int .u8 c) false).run Try.prog W = .ok v W :=
    fun c v hc hm hu W hW => look_u8 ((hW.block mb (at_lt h1)).trans h1) h2 hks hc hm hu
  obtain ⟨g0, g8⟩ := class_of op hf.op
  unfold faultM
  simp only
  generalize hb : behindM l k = bh
  obtain ⟨bo, bd, bs, bf, bi⟩ := bh
  have hcs : bits .and .u8 op 7 = 0 ∨ bits .and .u8 op 7 = 1 ∨ bits .and .u8 op 7 = 2 ∨ bits .and .u8 op 7 = 3 ∨ bits .and .u8 op 7 = 4 ∨ bits .and .u8 op 7 = 5 ∨ bits .and .u8 op 7 = 6 ∨ bits .and .u8 op 7 = 7 := by omega
  rcases hcs with hc | hc | hc | hc | hc | hc | hc | hc <;> rw [hc]
  · exact fault0 A n cc B k sb mb l secs op dst src off imm w h hB hn hk hf hS hc _ _ (hlk 0 _ (by omega) (by simp [entries]) (by simp [entries])) (by rw [hb]; exact fun W hW => must0 op dst src off imm bo bd bs bf bi W)
  · exact fault1 A n cc B k sb mb l secs op dst src off imm w h hB hn hk hf hS hc _ _ (hlk 1 _ (by omega) (by simp [entries]) (by simp [entries])) (by rw [hb]; exact fun W hW => must1 op dst src off imm bo bd bs bf bi W)
  · exact fault2 A n cc B k sb mb l secs op dst src off imm w h hB hn hk hf hS hc _ _ (hlk 2 _ (by omega) (by simp [entries]) (by simp [entries])) (by rw [hb]; exact fun W hW => must2 op dst src off imm bo bd bs bf bi W)
  · exact fault3 A n cc B k sb mb l secs op dst src off imm w h hB hn hk hf hS hc _ _ (hlk 3 _ (by omega) (by simp [entries]) (by simp [entries])) (by rw [hb]; exact fun W hW => must3 op dst src off imm bo bd bs bf bi W)
  · exact fault4 A n cc B k sb mb B1 l secs op dst src off imm w h hB hn hk hf hS hc _ _ (hlk 4 _ (by omega) (by simp [entries]) (by simp [entries])) (by rw [hb]; exact fun W hW => alu_any op dst src off imm bo bd bs bf bi W _ _ ((hW.block _ b1.lt).trans b1))
  · exact fault5 A n cc B k sb mb B3 l secs op dst src off imm w h hB hn hk hf hS hc _ _ (hlk 5 _ (by omega) (by simp [entries]) (by simp [entries])) (by rw [hb]; exact fun W hW => jmp_any op dst src off imm bo bd bs bf bi W _ _ ((hW.block _ b3.lt).trans b3))
  · exact fault6 A n cc B k sb mb B4 l secs op dst src off imm w h hB hn hk hf hS hc _ _ (hlk 6 _ (by omega) (by simp [entries]) (by simp [entries])) (by rw [hb]; exact fun W hW => jmp_any op dst src off imm bo bd bs bf bi W _ _ ((hW.block _ b4.lt).trans b4))
  · exact fault7 A n cc B k sb mb B2 l secs op dst src off imm w h hB hn hk hf hS hc _ _ (hlk 7 _ (by omega) (by simp [entries]) (by simp [entries])) (by rw [hb]; exact fun W hW => alu_any op dst src off imm bo bd bs bf bi W _ _ ((hW.block _ b2.lt).trans b2))
end Go.Proofs.Ytjnmfgkjeofneaa
