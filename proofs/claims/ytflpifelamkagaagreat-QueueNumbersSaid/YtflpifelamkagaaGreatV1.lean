/-
  A queue that New made, in memory; its small functions.
-/
import Derived.Test.YtflpifelamkagaaGreatAA
namespace Go.Proofs.YtflpifelamkagaaGreat
open Go.RowKit
set_option linter.unusedVariables false

/-- A value that is in a queue: its own block. -/
structure QR where
  g : Nat
  c : Nat
  bs : List Int
def QR.sl (sz : Nat) (r : QR) : Value := .slice (some ⟨r.g, 0, none⟩) sz r.c
/-- What goes through the rows, the next one first. -/
def nx (st : Bool) : FuncId := if st then 25 else 24
/-- The blocks of a queue. -/
def OfQ (b : Nat) (A : Option Addr) (L : List QR) (g : Nat) : Prop := g = b ∨ (Value.slice A 0 0).ownBlock = some g ∨ ∃ r ∈ L, r.g = g
structure Que (w : World) (B b : Nat) (st : Bool) (sz n : Nat) (A : Option Addr) (c : Nat) (L : List QR) : Prop where
  blk : w.heap[b]? = some (.cells #[.pointer (some ⟨b, 0, none⟩), .int .i64 sz, .int .i64 n, .slice A L.length c, .func (.func (nx st)) #[] #[]] 62 (0, 0))
  out : w.ownsRow 0 63 1 (.slice A L.length c) L.length (L.map (QR.sl sz))
  row : ∀ r ∈ L, w.ownsRow 0 5 1 (QR.sl sz r) sz (u8s r.bs)
  low : ∀ g, OfQ b A L g → B ≤ g
  sep : (L.map QR.g).Nodup
  big : 1 ≤ sz ∧ sz ≤ 1024
  many : L.length ≤ n ∧ 1 ≤ n ∧ n ≤ 1024
section
variable {w w' : World} {B b sz n c : Nat} {st : Bool} {A : Option Addr} {L : List QR}
theorem own_of_slice {A : Option Addr} {n c n' c' : Nat} : (Value.slice A n c).ownBlock = (Value.slice A n' c').ownBlock := by cases A <;> rfl
theorem Que.lt (h : Que w B b st sz n A c L) : ∀ g, OfQ b A L g → g < w.heap.size := by
  rintro g (rfl | hg | ⟨r, hr, rfl⟩)
  · exact at_lt h.blk
  · exact (h.out.lt g (own_of_slice.trans hg)).2
  · exact ((h.row r hr).lt r.g rfl).2
theorem Que.kept {F : Nat → Prop} (h : Que w B b st sz n A c L) (hk : Kept F w w') (hF : ∀ g, OfQ b A L g → F g) : Que w' B b st sz n A c L :=
  ⟨(hk.block b (at_lt h.blk) (hF b (.inl rfl))).trans h.blk, owns_kept h.out hk (fun g hg => hF g (.inr (.inl (own_of_slice.trans hg)))),
    fun r hr => owns_kept (h.row r hr) hk (fun g hg => hF g (.inr (.inr ⟨r, hr, by simpa [QR.sl, Value.ownBlock] using hg⟩))), h.low, h.sep, h.big, h.many⟩
theorem Que.below (h : Que w B b st sz n A c L) (hb : Below w.heap.size w w') : Que w' B b st sz n A c L :=
  h.kept (F := fun _ => True) (Kept.of_below hb) (fun _ _ => trivial)
theorem Que.c0 (h : Que w B b st sz n A c L) : w.cell? ⟨b, 0, none⟩ = some (.pointer (some ⟨b, 0, none⟩)) := by rw [blk_cell h.blk]; rfl
theorem Que.c1 (h : Que w B b st sz n A c L) : w.cell? ⟨b, 1, none⟩ = some (.int .i64 sz) := by rw [blk_cell h.blk]; rfl
theorem Que.c2 (h : Que w B b st sz n A c L) : w.cell? ⟨b, 2, none⟩ = some (.int .i64 n) := by rw [blk_cell h.blk]; rfl
theorem Que.c3 (h : Que w B b st sz n A c L) : w.cell? ⟨b, 3, none⟩ = some (.slice A L.length c) := by rw [blk_cell h.blk]; rfl
theorem Que.c4 (h : Que w B b st sz n A c L) : w.cell? ⟨b, 4, none⟩ = some (.func (.func (nx st)) #[] #[]) := by rw [blk_cell h.blk]; rfl
theorem Que.len (h : Que w B b st sz n A c L) {r : QR} (hr : r ∈ L) : r.bs.length = sz := by
  have := (h.row r hr).1
  simpa [u8s] using this
theorem Que.rd (h : Que w B b st sz n A c L) : Rd w w.heap.size 1 A L.length (L.map (QR.sl sz)) := Rd.of_own h.out
/-- The outer row stands in a block that is none of the rows' nor the queue's. -/
theorem Que.out_b (h : Que w B b st sz n A c L) : (Value.slice A 0 0).ownBlock ≠ some b := fun e => by
  rcases h.out.2 with ⟨h0, _⟩ | ⟨g, cap, cur, hv, _, hg, _⟩
  · injection h0 with h0
    subst h0
    cases e
  · injection hv with hv
    subst hv
    simp only [Value.ownBlock, Option.some.injEq] at e
    subst e
    rw [h.blk] at hg
    injection hg with hg
    injection hg with _ ht
    exact absurd ht (by decide)
theorem Que.out_r (h : Que w B b st sz n A c L) {r : QR} (hr : r ∈ L) : (Value.slice A 0 0).ownBlock ≠ some r.g := fun e => by
  rcases owns_ne (h.row r hr) h.out (by decide) with h1 | h1
  · cases h1
  · exact h1 (by rw [own_of_slice (n' := 0) (c' := 0) (A := A), e]; rfl)
theorem Que.b_r (h : Que w B b st sz n A c L) {r : QR} (hr : r ∈ L) : r.g ≠ b := fun e => by
  rcases (h.row r hr).2 with ⟨h0, _⟩ | ⟨g, cap, cur, hv, _, hg, _⟩
  · cases h0
  · injection hv with hv
    injection hv with hv
    injection hv with hv
    rw [← hv, e, h.blk] at hg
    injection hg with hg
    injection hg with _ ht
    exact absurd ht (by decide)
end
theorem queInfo : (Tryz.prog.info? 62).isSome = true := by kernel_rfl
theorem eql_same (a : Addr) (w : World) : (binOp .eql 28 (.pointer (some a)) (.pointer (some a))).run Tryz.prog w = .ok (.bool true) w := by
  obtain ⟨j, hj⟩ := Option.isSome_iff_exists.1 queInfo
  exact run_eql_ptr_same w a Tryz.underlying28 hj
theorem eql_none (a : Addr) (w : World) : (binOp .eql 28 (.pointer none) (.pointer (some a))).run Tryz.prog w = .ok (.bool false) w := by
  have h : ∀ d : Nat, (Op.equalIn (d + 1) 28 (.pointer none) (.pointer (some a))).run Tryz.prog w = .ok false w := fun d => by
    simp [Op.equalIn, run_underlying Tryz.underlying28]
  simp only [binOp]
  simp [Op.equal, Op.maxDepth, h 9999]
set_option maxRecDepth 100000 in
theorem is_yes (b : Nat) (w : World) (h : w.cell? ⟨b, 0, none⟩ = some (.pointer (some ⟨b, 0, none⟩))) :
    Calls Tryz.prog 32 #[.pointer (some ⟨b, 0, none⟩)] w fun e w' => e = .returned (.bool true) ∧ w = w' := by
  have hq := eql_same ⟨b, 0, none⟩ w
  go_enter Tryz.func32, Tryz.ntmps32
  go_wp2
  go_ret
  exact ⟨rfl, rfl⟩
theorem is_nil (w : World) : Calls Tryz.prog 32 #[.pointer none] w fun e w' => e = .returned (.bool false) ∧ w = w' := by
  go_enter Tryz.func32, Tryz.ntmps32
  go_wp2
  go_ret
  exact ⟨rfl, rfl⟩
set_option maxRecDepth 100000 in
theorem is_zero (b : Nat) (w : World) (h : w.cell? ⟨b, 0, none⟩ = some (.pointer none)) :
    Calls Tryz.prog 32 #[.pointer (some ⟨b, 0, none⟩)] w fun e w' => e = .returned (.bool false) ∧ w = w' := by
  have hq := eql_none ⟨b, 0, none⟩ w
  go_enter Tryz.func32, Tryz.ntmps32
  go_wp2
  go_ret
  exact ⟨rfl, rfl⟩
/-- A queue that New did not make. -/
def NoQ (p : Option Addr) (w0 : World) : Prop := ∀ W, Below w0.heap.size w0 W → Calls Tryz.prog 32 #[.pointer p] W fun e w' => e = .returned (.bool false) ∧ W = w'
theorem NoQ.later {p : Option Addr} {w W : World} (h : NoQ p w) (hb : Below w.heap.size w W) : NoQ p W := fun W2 h2 => h W2 (hb.trans (h2.mono hb.size))
theorem noQ_nil (w : World) : NoQ none w := fun W _ => is_nil W
theorem noQ_zero {b : Nat} {w : World} (h : w.cell? ⟨b, 0, none⟩ = some (.pointer none)) : NoQ (some ⟨b, 0, none⟩) w := fun W hb => is_zero b W ((hb.cell (p := ⟨b, 0, none⟩) (World.block_lt_of_cell? w _ h)).trans h)
set_option maxRecDepth 100000 in
theorem many_any (b n c : Nat) (A : Option Addr) (w : World) (h : w.cell? ⟨b, 3, none⟩ = some (.slice A n c)) :
    Calls Tryz.prog 33 #[.pointer (some ⟨b, 3, none⟩)] w fun e w' => e = .returned (.int .i64 n) ∧ w = w' := by
  go_enter Tryz.func33, Tryz.ntmps33
  go_wp2
  go_ret
  exact ⟨rfl, rfl⟩
theorem manyQ_no (p : Option Addr) (w : World) (h : NoQ p w) : Calls Tryz.prog 20 #[.pointer p] w fun e w' => e = .returned (.int .i64 0) ∧ w = w' := by
  have H := hide (h w (Below.refl _ _))
  clear h
  go_enter Tryz.func20, Tryz.ntmps20
  go_wp2_with (go_at_call 32; refine H.out.mono ?_; rintro e w' ⟨rfl, rfl⟩)
  go_ret
  exact ⟨rfl, rfl⟩
set_option maxRecDepth 100000 in
theorem manyQ_yes {B b sz n c : Nat} {st : Bool} {A : Option Addr} {L : List QR} {w : World} (h : Que w B b st sz n A c L) : Calls Tryz.prog 20 #[.pointer (some ⟨b, 0, none⟩)] w fun e w' => e = .returned (.int .i64 L.length) ∧ w = w' := by
  have H := hide (is_yes b w h.c0)
  have HM := hide (many_any b _ _ _ w h.c3)
  clear h
  go_enter Tryz.func20, Tryz.ntmps20
  go_wp2_with (first
    | (go_at_call 32; refine H.out.mono ?_; rintro e w' ⟨rfl, rfl⟩)
    | (go_at_call 33; refine HM.out.mono ?_; rintro e w' ⟨rfl, rfl⟩))
  go_ret
  exact ⟨rfl, rfl⟩
theorem boxed_other {w : World} {b k : Nat} {t : TypeId} {u v : Value} (h : Boxed w k t u) (hk : k ≠ b) : Boxed (w.setCell ⟨b, 0, none⟩ v) k t u := (Below.heap_setCell w ⟨b, 0, none⟩ v k (fun e => hk e)).trans h
theorem boxed_set2 {W : World} {k : Nat} {t0 t1 : TypeId} {u0 u1 : Value} (h0 : Boxed W k t0 u0) (h1 : Boxed W (k + 1) t1 u1) (v0 v1 : Value) : Boxed ((W.setCell ⟨k, 0, none⟩ v0).setCell ⟨k + 1, 0, none⟩ v1) k t0 v0 ∧ Boxed ((W.setCell ⟨k, 0, none⟩ v0).setCell ⟨k + 1, 0, none⟩ v1) (k + 1) t1 v1 :=
  ⟨boxed_other (h0.set v0) (by omega), (boxed_other h1 (by omega)).set v1⟩
set_option maxRecDepth 100000 in
theorem find_not (p : Option Addr) (w : World) (h : NoQ p w) : Calls Tryz.prog 28 #[.pointer p] w fun e w' => e = .returned (.tuple #[.int .i64 0, .int .i64 1]) ∧ Below w.heap.size w w' := by
  have hb := below2 w (.cells #[.int .i64 0] 3) (.cells #[.int .i64 0] 29)
  have H := hide (h _ hb)
  obtain ⟨q0, q1⟩ := two_boxes w (.cells #[.int .i64 0] 3) (.cells #[.int .i64 0] 29)
  have H0 : Hid (Boxed _ w.heap.size 3 (.int .i64 0)) := hide q0
  have H1 : Hid (Boxed _ (w.heap.size + 1) 29 (.int .i64 0)) := hide q1
  have HB := hide hb
  clear h q0 q1 hb
  go_enter Tryz.func28, Tryz.ntmps28
  go_wp2_with (go_at_call 32; refine stop_here ?_)
  show Hid _
  refine start_here ?_
  refine H.out.mono ?_
  rintro e w' ⟨rfl, rfl⟩
  generalize (w.alloc (.cells #[.int .i64 0] 3)).alloc (.cells #[.int .i64 0] 29) = W at *
  have c0 := H0.out.cell
  have f0 := H0.out.frozen
  have c1 := H1.out.cell
  have f1 := H1.out.frozen
  have c2 := (boxed_set2 H0.out H1.out (.int .i64 0) (.int .i64 1)).1.cell
  have c3 := (boxed_set2 H0.out H1.out (.int .i64 0) (.int .i64 1)).2.cell
  have HB2 := hide ((HB.out.setCell (p := ⟨w.heap.size, 0, none⟩) (Nat.le_refl _) (.int .i64 0)).setCell (p := ⟨w.heap.size + 1, 0, none⟩) (Nat.le_succ _) (.int .i64 1))
  go_wp2
  exact bodyPost_ret (v := .tuple #[.int .i64 0, .int .i64 1]) (by simp [results, Tryz.results28, go_sem, c2, c3]) rfl ⟨rfl, HB2.out⟩
end Go.Proofs.YtflpifelamkagaaGreat
