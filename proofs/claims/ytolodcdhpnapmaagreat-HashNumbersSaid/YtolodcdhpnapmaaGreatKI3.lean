/-
  The table of maps' makes: whatever order its parts are laid in, it holds just these.
-/
import Derived.Test.YtolodcdhpnapmaaGreatKI1
import Derived.Test.YtolodcdhpnapmaaGreatLit2
namespace Go.Proofs.YtolodcdhpnapmaaGreat
open Go.RowKit Go.Maps
set_option linter.unusedVariables false

theorem load2 (ev : Operand → Value) (W : World) (x : Operand) (b : Nat) (u v : Int) (h : ev x = .pointer (some ⟨b, 0, none⟩)) (c0 : W.cell? ⟨b, 0, none⟩ = some (.int .i64 u)) (c1 : W.cell? ⟨b, 1, none⟩ = some (.int .i64 v)) (o : Oper) (ho : o.op = .load 75 x) : (execOp ev o).run Tryz.prog W = .ok (.value (.agg #[.int .i64 u, .int .i64 v])) W := by
  simp [execOp, go_sem, ho, h, c0, c1]
theorem build3 (ev : Operand → Value) (W : World) (x y z : Operand) (a b c d e f : Int) (h1 : ev x = .agg #[.int .i64 a, .int .i64 b]) (h2 : ev y = .agg #[.int .i64 c, .int .i64 d]) (h3 : ev z = .agg #[.int .i64 e, .int .i64 f]) (o : Oper) (ho : o.op = .build 77 #[(0, x), (1, y), (2, z)]) :
    (execOp ev o).run Tryz.prog W = .ok (.value (.agg #[.int .i64 a, .int .i64 b, .int .i64 c, .int .i64 d, .int .i64 e, .int .i64 f])) W := by
  simp [execOp, go_sem, ho, h1, h2, h3]
/-- The bounds that a kind's makes have. -/
structure Pt where
  kl : Int
  kh : Int
  vl : Int
  vh : Int
  el : Int
  eh : Int
def Pt.v (p : Pt) : Value := .agg #[.int .i64 p.kl, .int .i64 p.kh, .int .i64 p.vl, .int .i64 p.vh, .int .i64 p.el, .int .i64 p.eh]
def ptM (k : Int) : Option Pt :=
  if k = 1 then some ⟨4, 4, 1, 1024, 1, 1024⟩ else if k = 2 ∨ k = 3 then some ⟨1, 64, 1, 1024, 1, 1024⟩ else if k = 4 then some ⟨5, 36, 1, 1024, 1, 1024⟩ else
  if k = 5 ∨ k = 6 then some ⟨0, 0, 1, 1024, 1, 1024⟩ else if k = 7 then some ⟨0, 0, 0, 0, 16, 16384⟩ else if k = 8 then some ⟨4, 4, 8, 8, 1, 64⟩ else none
def makesL : List (Value × Value) := [(.int .u8 1, .agg #[.int .i64 4, .int .i64 4, .int .i64 1, .int .i64 1024, .int .i64 1, .int .i64 1024]), (.int .u8 2, .agg #[.int .i64 1, .int .i64 64, .int .i64 1, .int .i64 1024, .int .i64 1, .int .i64 1024]), (.int .u8 3, .agg #[.int .i64 1, .int .i64 64, .int .i64 1, .int .i64 1024, .int .i64 1, .int .i64 1024]), (.int .u8 4, .agg #[.int .i64 5, .int .i64 36, .int .i64 1, .int .i64 1024, .int .i64 1, .int .i64 1024]), (.int .u8 5, .agg #[.int .i64 0, .int .i64 0, .int .i64 1, .int .i64 1024, .int .i64 1, .int .i64 1024]), (.int .u8 6, .agg #[.int .i64 0, .int .i64 0, .int .i64 1, .int .i64 1024, .int .i64 1, .int .i64 1024]), (.int .u8 7, .agg #[.int .i64 0, .int .i64 0, .int .i64 0, .int .i64 0, .int .i64 16, .int .i64 16384]), (.int .u8 8, .agg #[.int .i64 4, .int .i64 4, .int .i64 8, .int .i64 8, .int .i64 1, .int .i64 64])]
def valK : Nat → Value
  | 1 => .agg #[.int .i64 4, .int .i64 4]
  | 2 => .agg #[.int .i64 1, .int .i64 1024]
  | 3 => .agg #[.int .i64 1, .int .i64 1024]
  | 4 => .agg #[.int .i64 4, .int .i64 4, .int .i64 1, .int .i64 1024, .int .i64 1, .int .i64 1024]
  | 6 => .agg #[.int .i64 1, .int .i64 64]
  | 7 => .agg #[.int .i64 1, .int .i64 1024]
  | 8 => .agg #[.int .i64 1, .int .i64 1024]
  | 9 => .agg #[.int .i64 1, .int .i64 64, .int .i64 1, .int .i64 1024, .int .i64 1, .int .i64 1024]
  | 11 => .agg #[.int .i64 1, .int .i64 64]
  | 12 => .agg #[.int .i64 1, .int .i64 1024]
  | 13 => .agg #[.int .i64 1, .int .i64 1024]
  | 14 => .agg #[.int .i64 1, .int .i64 64, .int .i64 1, .int .i64 1024, .int .i64 1, .int .i64 1024]
  | 16 => .agg #[.int .i64 5, .int .i64 36]
  | 17 => .agg #[.int .i64 1, .int .i64 1024]
  | 18 => .agg #[.int .i64 1, .int .i64 1024]
  | 19 => .agg #[.int .i64 5, .int .i64 36, .int .i64 1, .int .i64 1024, .int .i64 1, .int .i64 1024]
  | 21 => .agg #[.int .i64 0, .int .i64 0]
  | 22 => .agg #[.int .i64 1, .int .i64 1024]
  | 23 => .agg #[.int .i64 1, .int .i64 1024]
  | 24 => .agg #[.int .i64 0, .int .i64 0, .int .i64 1, .int .i64 1024, .int .i64 1, .int .i64 1024]
  | 26 => .agg #[.int .i64 0, .int .i64 0]
  | 27 => .agg #[.int .i64 1, .int .i64 1024]
  | 28 => .agg #[.int .i64 1, .int .i64 1024]
  | 29 => .agg #[.int .i64 0, .int .i64 0, .int .i64 1, .int .i64 1024, .int .i64 1, .int .i64 1024]
  | 31 => .agg #[.int .i64 0, .int .i64 0]
  | 32 => .agg #[.int .i64 0, .int .i64 0]
  | 33 => .agg #[.int .i64 16, .int .i64 16384]
  | 34 => .agg #[.int .i64 0, .int .i64 0, .int .i64 0, .int .i64 0, .int .i64 16, .int .i64 16384]
  | 36 => .agg #[.int .i64 4, .int .i64 4]
  | 37 => .agg #[.int .i64 8, .int .i64 8]
  | 38 => .agg #[.int .i64 1, .int .i64 64]
  | 39 => .agg #[.int .i64 4, .int .i64 4, .int .i64 8, .int .i64 8, .int .i64 1, .int .i64 64]
  | _ => undef
def isMapK (i : Nat) : Bool := i == 0 || i == 41 || i == 42
def insK : Nat → Option (Value × Value)
  | 5 => some (.int .u8 1, .agg #[.int .i64 4, .int .i64 4, .int .i64 1, .int .i64 1024, .int .i64 1, .int .i64 1024])
  | 10 => some (.int .u8 2, .agg #[.int .i64 1, .int .i64 64, .int .i64 1, .int .i64 1024, .int .i64 1, .int .i64 1024])
  | 15 => some (.int .u8 3, .agg #[.int .i64 1, .int .i64 64, .int .i64 1, .int .i64 1024, .int .i64 1, .int .i64 1024])
  | 20 => some (.int .u8 4, .agg #[.int .i64 5, .int .i64 36, .int .i64 1, .int .i64 1024, .int .i64 1, .int .i64 1024])
  | 25 => some (.int .u8 5, .agg #[.int .i64 0, .int .i64 0, .int .i64 1, .int .i64 1024, .int .i64 1, .int .i64 1024])
  | 30 => some (.int .u8 6, .agg #[.int .i64 0, .int .i64 0, .int .i64 1, .int .i64 1024, .int .i64 1, .int .i64 1024])
  | 35 => some (.int .u8 7, .agg #[.int .i64 0, .int .i64 0, .int .i64 0, .int .i64 0, .int .i64 16, .int .i64 16384])
  | 40 => some (.int .u8 8, .agg #[.int .i64 4, .int .i64 4, .int .i64 8, .int .i64 8, .int .i64 1, .int .i64 64])
  | _ => none
theorem insK_cases {i : Nat} {q : Value × Value} (h : insK i = some q) : i = 5 ∨ i = 10 ∨ i = 15 ∨ i = 20 ∨ i = 25 ∨ i = 30 ∨ i = 35 ∨ i = 40 := by
  unfold insK at h
  split at h <;> first | (cases h; done) | simp
theorem insK_inj (i j : Nat) (x y : Value × Value) (hi : insK i = some x) (hj : insK j = some y) (h : x.1 = y.1) : i = j := by
  rcases insK_cases hi with rfl | rfl | rfl | rfl | rfl | rfl | rfl | rfl <;> (cases hi; rcases insK_cases hj with rfl | rfl | rfl | rfl | rfl | rfl | rfl | rfl <;> (cases hj; first | rfl | (exfalso; simp at h)))
theorem u8Keyed : Keyed Tryz.prog 23 := int_keyed Tryz.underlying23
theorem u8key (m : Int) (h0 : 0 ≤ m) (h1 : m < 256) : keyOf Tryz.prog 23 (.int .u8 m) = some (.int .u8 m) := keyOf_int_mk Tryz.underlying23 (by simp [Lit.wf, IntKind.min, IntKind.max, IntKind.bits, IntKind.signed]; omega)
theorem insK_key (i : Nat) (x : Value × Value) (hi : insK i = some x) : ∃ l, keyOf Tryz.prog 23 x.1 = some l := by
  rcases insK_cases hi with rfl | rfl | rfl | rfl | rfl | rfl | rfl | rfl <;> (cases hi; exact ⟨_, u8key _ (by decide) (by decide)⟩)
/-- Block b holds the table of makes. -/
def Makes (W : World) (b : Nat) : Prop := ∃ es clock, W.heap[b]? = some (.map es clock) ∧ HasJust es makesL
theorem Makes.lt {W : World} {b : Nat} (h : Makes W b) : b < W.heap.size := by
  obtain ⟨es, clock, h1, _⟩ := h
  exact at_lt h1
theorem Makes.same {W W' : World} {b : Nat} (h : Makes W b) (hb : W'.heap[b]? = W.heap[b]?) : Makes W' b := by
  obtain ⟨es, clock, h1, h2⟩ := h
  exact ⟨es, clock, hb.trans h1, h2⟩
theorem Makes.below {W W' : World} {b : Nat} (h : Makes W b) (hb : Below W.heap.size W W') : Makes W' b := h.same (hb.block b h.lt)
theorem Makes.alloc {W : World} {b : Nat} (h : Makes W b) (o : Obj) : Makes (W.alloc o) b := h.below (below1 W o)

set_option maxRecDepth 100000 in
set_option maxHeartbeats 1000000 in
theorem makes_any (w : World) : Calls Tryz.prog 30 #[] w fun e w' => ∃ b, e = .returned (.map (some b)) ∧ w.heap.size ≤ b ∧ Makes w' b ∧ Below w.heap.size w w' := by
  have hF := hide (fun lo hi w => from_int lo hi w)
  have hE : ∀ args W, (callFunc 65 args).run Tryz.prog W = .ok (.enter 65 args) W := enters_of Tryz.func65 (by kernel_rfl) rfl
  go_enter Tryz.func30, Tryz.ntmps30
  go_wp2_with ((go_at_call 65; (first | (with_reducible refine (Later.calls _ (hF.out _ _)).mono ?_) | (with_reducible refine (Later.calls0 (hF.out _ _)).mono ?_)); rintro e w1 ⟨rfl, x, rfl⟩))
  rename_i x y z K hK
  clear z
  have l1 : y.w.heap.size < x.w.heap.size := by have := x.below.size; simp at this; omega
  obtain ⟨a1', b1'⟩ := later2 (World.alloc_heap_new y.w (.cells #[.int .i64 0, .int .i64 0] 75))
  have a1 := a1' x
  have b1 := b1' x
  have HB := hide (y.below.trans ((below1c x.below).mono y.below.size))
  clear a1' b1'
  generalize hW0 : (x.w.alloc (.cells #[.int .i64 1, .int .i64 1024] 75)).alloc (.cells #[.int .i64 1, .int .i64 1024] 75) = W0
  have hb0 : Below x.w.heap.size x.w W0 := by rw [← hW0]; exact below2 _ _ _
  have hs0 : W0.heap.size = x.w.heap.size + 2 := by rw [← hW0]; simp
  obtain ⟨h2, h3⟩ := two_boxes x.w (.cells #[.int .i64 1, .int .i64 1024] 75) (.cells #[.int .i64 1, .int .i64 1024] 75)
  rw [hW0] at h2 h3
  clear hW0
  replace a1 := (hb0.cell (p := ⟨y.w.heap.size, 0, none⟩) l1).trans a1
  replace b1 := (hb0.cell (p := ⟨y.w.heap.size, 1, none⟩) l1).trans b1
  have a2 := blk_cell h2 0
  have b2 := blk_cell h2 1
  have a3 := blk_cell h3 0
  have b3 := blk_cell h3 1
  replace l1 : y.w.heap.size < W0.heap.size := by omega
  have l2 : x.w.heap.size < W0.heap.size := by omega
  have l3 : x.w.heap.size + 1 < W0.heap.size := by omega
  replace HB := hide (HB.out.trans (hb0.mono (Nat.le_trans y.below.size (by have := x.below.size; simp at this; omega))))
  refine wp_mapLit2 u8Keyed Tryz.underlying79 (by kernel_rfl) valK isMapK insK (by decide) (by kernel_rfl) (by kernel_rfl) (by kernel_rfl) (by kernel_rfl) insK_key insK_inj ?_ ?_
  · intro i o a ho hold hnew
    have hi : i < 43 := (Array.getElem?_eq_some_iff.1 ho).1
    have hi' : i = 0 ∨ i = 1 ∨ i = 2 ∨ i = 3 ∨ i = 4 ∨ i = 5 ∨ i = 6 ∨ i = 7 ∨ i = 8 ∨ i = 9 ∨ i = 10 ∨ i = 11 ∨ i = 12 ∨ i = 13 ∨ i = 14 ∨ i = 15 ∨ i = 16 ∨ i = 17 ∨ i = 18 ∨ i = 19 ∨ i = 20 ∨ i = 21 ∨ i = 22 ∨ i = 23 ∨ i = 24 ∨ i = 25 ∨ i = 26 ∨ i = 27 ∨ i = 28 ∨ i = 29 ∨ i = 30 ∨ i = 31 ∨ i = 32 ∨ i = 33 ∨ i = 34 ∨ i = 35 ∨ i = 36 ∨ i = 37 ∨ i = 38 ∨ i = 39 ∨ i = 40 ∨ i = 41 ∨ i = 42 := by omega
    rcases hi' with rfl | rfl | rfl | rfl | rfl | rfl | rfl | rfl | rfl | rfl | rfl | rfl | rfl | rfl | rfl | rfl | rfl | rfl | rfl | rfl | rfl | rfl | rfl | rfl | rfl | rfl | rfl | rfl | rfl | rfl | rfl | rfl | rfl | rfl | rfl | rfl | rfl | rfl | rfl | rfl | rfl | rfl | rfl
    · cases ho; exact .made rfl rfl rfl rfl
    · cases ho; exact .called (by decide) rfl rfl 65 #[.int .i64 4, .int .i64 4] (fun W => by simp [execOp, go_sem, Act.eval, hE]) (hF.out _ _)
    · cases ho; exact .told (by decide) rfl rfl (fun W hb => load2 _ W (.tmp 2) _ 1 1024 (hold 2 (by kernel_rfl)) ((hb.cell (p := ⟨_, 0, none⟩) l2).trans a2) ((hb.cell (p := ⟨_, 1, none⟩) l2).trans b2) _ rfl)
    · cases ho; exact .told (by decide) rfl rfl (fun W hb => load2 _ W (.tmp 3) _ 1 1024 (hold 3 (by kernel_rfl)) ((hb.cell (p := ⟨_, 0, none⟩) l3).trans a3) ((hb.cell (p := ⟨_, 1, none⟩) l3).trans b3) _ rfl)
    · cases ho; exact .told (by decide) rfl rfl (fun W hb => build3 _ W (.tmp 8) (.tmp 9) (.tmp 10) 4 4 1 1024 1 1024 (hnew 1 _ 8 rfl rfl rfl rfl) (hnew 2 _ 9 rfl rfl rfl rfl) (hnew 3 _ 10 rfl rfl rfl rfl) _ rfl)
    · cases ho; exact .laid _ _ _ _ _ rfl rfl 0 _ 7 rfl rfl rfl rfl rfl rfl (hnew 4 _ 11 rfl rfl rfl rfl) rfl (by decide)
    · cases ho; exact .called (by decide) rfl rfl 65 #[.int .i64 1, .int .i64 64] (fun W => by simp [execOp, go_sem, Act.eval, hE]) (hF.out _ _)
    · cases ho; exact .told (by decide) rfl rfl (fun W hb => load2 _ W (.tmp 2) _ 1 1024 (hold 2 (by kernel_rfl)) ((hb.cell (p := ⟨_, 0, none⟩) l2).trans a2) ((hb.cell (p := ⟨_, 1, none⟩) l2).trans b2) _ rfl)
    · cases ho; exact .told (by decide) rfl rfl (fun W hb => load2 _ W (.tmp 3) _ 1 1024 (hold 3 (by kernel_rfl)) ((hb.cell (p := ⟨_, 0, none⟩) l3).trans a3) ((hb.cell (p := ⟨_, 1, none⟩) l3).trans b3) _ rfl)
    · cases ho; exact .told (by decide) rfl rfl (fun W hb => build3 _ W (.tmp 12) (.tmp 13) (.tmp 14) 1 64 1 1024 1 1024 (hnew 6 _ 12 rfl rfl rfl rfl) (hnew 7 _ 13 rfl rfl rfl rfl) (hnew 8 _ 14 rfl rfl rfl rfl) _ rfl)
    · cases ho; exact .laid _ _ _ _ _ rfl rfl 0 _ 7 rfl rfl rfl rfl rfl rfl (hnew 9 _ 15 rfl rfl rfl rfl) rfl (by decide)
    · cases ho; exact .called (by decide) rfl rfl 65 #[.int .i64 1, .int .i64 64] (fun W => by simp [execOp, go_sem, Act.eval, hE]) (hF.out _ _)
    · cases ho; exact .told (by decide) rfl rfl (fun W hb => load2 _ W (.tmp 2) _ 1 1024 (hold 2 (by kernel_rfl)) ((hb.cell (p := ⟨_, 0, none⟩) l2).trans a2) ((hb.cell (p := ⟨_, 1, none⟩) l2).trans b2) _ rfl)
    · cases ho; exact .told (by decide) rfl rfl (fun W hb => load2 _ W (.tmp 3) _ 1 1024 (hold 3 (by kernel_rfl)) ((hb.cell (p := ⟨_, 0, none⟩) l3).trans a3) ((hb.cell (p := ⟨_, 1, none⟩) l3).trans b3) _ rfl)
    · cases ho; exact .told (by decide) rfl rfl (fun W hb => build3 _ W (.tmp 16) (.tmp 17) (.tmp 18) 1 64 1 1024 1 1024 (hnew 11 _ 16 rfl rfl rfl rfl) (hnew 12 _ 17 rfl rfl rfl rfl) (hnew 13 _ 18 rfl rfl rfl rfl) _ rfl)
    · cases ho; exact .laid _ _ _ _ _ rfl rfl 0 _ 7 rfl rfl rfl rfl rfl rfl (hnew 14 _ 19 rfl rfl rfl rfl) rfl (by decide)
    · cases ho; exact .called (by decide) rfl rfl 65 #[.int .i64 5, .int .i64 36] (fun W => by simp [execOp, go_sem, Act.eval, hE]) (hF.out _ _)
    · cases ho; exact .told (by decide) rfl rfl (fun W hb => load2 _ W (.tmp 2) _ 1 1024 (hold 2 (by kernel_rfl)) ((hb.cell (p := ⟨_, 0, none⟩) l2).trans a2) ((hb.cell (p := ⟨_, 1, none⟩) l2).trans b2) _ rfl)
    · cases ho; exact .told (by decide) rfl rfl (fun W hb => load2 _ W (.tmp 3) _ 1 1024 (hold 3 (by kernel_rfl)) ((hb.cell (p := ⟨_, 0, none⟩) l3).trans a3) ((hb.cell (p := ⟨_, 1, none⟩) l3).trans b3) _ rfl)
    · cases ho; exact .told (by decide) rfl rfl (fun W hb => build3 _ W (.tmp 20) (.tmp 21) (.tmp 22) 5 36 1 1024 1 1024 (hnew 16 _ 20 rfl rfl rfl rfl) (hnew 17 _ 21 rfl rfl rfl rfl) (hnew 18 _ 22 rfl rfl rfl rfl) _ rfl)
    · cases ho; exact .laid _ _ _ _ _ rfl rfl 0 _ 7 rfl rfl rfl rfl rfl rfl (hnew 19 _ 23 rfl rfl rfl rfl) rfl (by decide)
    · cases ho; exact .told (by decide) rfl rfl (fun W hb => load2 _ W (.tmp 1) _ 0 0 (hold 1 (by kernel_rfl)) ((hb.cell (p := ⟨_, 0, none⟩) l1).trans a1) ((hb.cell (p := ⟨_, 1, none⟩) l1).trans b1) _ rfl)
    · cases ho; exact .told (by decide) rfl rfl (fun W hb => load2 _ W (.tmp 2) _ 1 1024 (hold 2 (by kernel_rfl)) ((hb.cell (p := ⟨_, 0, none⟩) l2).trans a2) ((hb.cell (p := ⟨_, 1, none⟩) l2).trans b2) _ rfl)
    · cases ho; exact .told (by decide) rfl rfl (fun W hb => load2 _ W (.tmp 3) _ 1 1024 (hold 3 (by kernel_rfl)) ((hb.cell (p := ⟨_, 0, none⟩) l3).trans a3) ((hb.cell (p := ⟨_, 1, none⟩) l3).trans b3) _ rfl)
    · cases ho; exact .told (by decide) rfl rfl (fun W hb => build3 _ W (.tmp 24) (.tmp 25) (.tmp 26) 0 0 1 1024 1 1024 (hnew 21 _ 24 rfl rfl rfl rfl) (hnew 22 _ 25 rfl rfl rfl rfl) (hnew 23 _ 26 rfl rfl rfl rfl) _ rfl)
    · cases ho; exact .laid _ _ _ _ _ rfl rfl 0 _ 7 rfl rfl rfl rfl rfl rfl (hnew 24 _ 27 rfl rfl rfl rfl) rfl (by decide)
    · cases ho; exact .told (by decide) rfl rfl (fun W hb => load2 _ W (.tmp 1) _ 0 0 (hold 1 (by kernel_rfl)) ((hb.cell (p := ⟨_, 0, none⟩) l1).trans a1) ((hb.cell (p := ⟨_, 1, none⟩) l1).trans b1) _ rfl)
    · cases ho; exact .told (by decide) rfl rfl (fun W hb => load2 _ W (.tmp 2) _ 1 1024 (hold 2 (by kernel_rfl)) ((hb.cell (p := ⟨_, 0, none⟩) l2).trans a2) ((hb.cell (p := ⟨_, 1, none⟩) l2).trans b2) _ rfl)
    · cases ho; exact .told (by decide) rfl rfl (fun W hb => load2 _ W (.tmp 3) _ 1 1024 (hold 3 (by kernel_rfl)) ((hb.cell (p := ⟨_, 0, none⟩) l3).trans a3) ((hb.cell (p := ⟨_, 1, none⟩) l3).trans b3) _ rfl)
    · cases ho; exact .told (by decide) rfl rfl (fun W hb => build3 _ W (.tmp 28) (.tmp 29) (.tmp 30) 0 0 1 1024 1 1024 (hnew 26 _ 28 rfl rfl rfl rfl) (hnew 27 _ 29 rfl rfl rfl rfl) (hnew 28 _ 30 rfl rfl rfl rfl) _ rfl)
    · cases ho; exact .laid _ _ _ _ _ rfl rfl 0 _ 7 rfl rfl rfl rfl rfl rfl (hnew 29 _ 31 rfl rfl rfl rfl) rfl (by decide)
    · cases ho; exact .told (by decide) rfl rfl (fun W hb => load2 _ W (.tmp 1) _ 0 0 (hold 1 (by kernel_rfl)) ((hb.cell (p := ⟨_, 0, none⟩) l1).trans a1) ((hb.cell (p := ⟨_, 1, none⟩) l1).trans b1) _ rfl)
    · cases ho; exact .told (by decide) rfl rfl (fun W hb => load2 _ W (.tmp 1) _ 0 0 (hold 1 (by kernel_rfl)) ((hb.cell (p := ⟨_, 0, none⟩) l1).trans a1) ((hb.cell (p := ⟨_, 1, none⟩) l1).trans b1) _ rfl)
    · cases ho; exact .called (by decide) rfl rfl 65 #[.int .i64 16, .int .i64 16384] (fun W => by simp [execOp, go_sem, Act.eval, hE]) (hF.out _ _)
    · cases ho; exact .told (by decide) rfl rfl (fun W hb => build3 _ W (.tmp 32) (.tmp 33) (.tmp 34) 0 0 0 0 16 16384 (hnew 31 _ 32 rfl rfl rfl rfl) (hnew 32 _ 33 rfl rfl rfl rfl) (hnew 33 _ 34 rfl rfl rfl rfl) _ rfl)
    · cases ho; exact .laid _ _ _ _ _ rfl rfl 0 _ 7 rfl rfl rfl rfl rfl rfl (hnew 34 _ 35 rfl rfl rfl rfl) rfl (by decide)
    · cases ho; exact .called (by decide) rfl rfl 65 #[.int .i64 4, .int .i64 4] (fun W => by simp [execOp, go_sem, Act.eval, hE]) (hF.out _ _)
    · cases ho; exact .called (by decide) rfl rfl 65 #[.int .i64 8, .int .i64 8] (fun W => by simp [execOp, go_sem, Act.eval, hE]) (hF.out _ _)
    · cases ho; exact .called (by decide) rfl rfl 65 #[.int .i64 1, .int .i64 64] (fun W => by simp [execOp, go_sem, Act.eval, hE]) (hF.out _ _)
    · cases ho; exact .told (by decide) rfl rfl (fun W hb => build3 _ W (.tmp 36) (.tmp 37) (.tmp 38) 4 4 8 8 1 64 (hnew 36 _ 36 rfl rfl rfl rfl) (hnew 37 _ 37 rfl rfl rfl rfl) (hnew 38 _ 38 rfl rfl rfl rfl) _ rfl)
    · cases ho; exact .laid _ _ _ _ _ rfl rfl 0 _ 7 rfl rfl rfl rfl rfl rfl (hnew 39 _ 39 rfl rfl rfl rfl) rfl (by decide)
    · cases ho; exact .moved (by decide) rfl rfl 0 _ 7 rfl rfl rfl rfl (fun W => by simp [execOp, go_sem, Act.eval])
    · cases ho; exact .moved (by decide) rfl rfl 41 _ 40 rfl rfl rfl rfl (fun W => by simp [execOp, go_sem, Act.eval])
  · intro a b es clock W hd hs hold hnew hmap hle hblk hbel hj
    refine hK _ _ ?_
    have hj' : HasJust es makesL := hj
    have hr : a.tmps.getD 0 undef = .map (some b) := hmap 42 _ 0 rfl rfl rfl
    clear hj hK
    go_wp2
    refine bodyPost_ret (results_tmp rfl _ _ _) hd ?_
    exact ⟨b, by rw [hr], Nat.le_trans (by have := HB.out.size; omega) hle, ⟨es, clock, hblk, hj'⟩, HB.out.trans (hbel.mono HB.out.size)⟩
end Go.Proofs.YtolodcdhpnapmaaGreat
