/-
  The document's memory: what is told of a region.
-/
import Derived.Test.YtbllnjkagleenaaGreatPK
namespace Go.Proofs.YtbllnjkagleenaaGreat
open Go.RowKit
set_option linter.unusedVariables false

structure RRow where
  k : Int
  A : Option Addr
  n : Nat
  c : Nat
  bs : List Int
  live : Bool
def RRow.sl (r : RRow) : Value := .slice r.A r.n r.c
def RRow.cells (r : RRow) : List Value := [.int .u8 r.k, .slice r.A r.n r.c, .bool r.live]
def rcells (R : List RRow) : List Value := R.flatMap RRow.cells
/-- The blocks of the document's memory. -/
def OfR (x : Nat) (v : Value) (R : List RRow) (g : Nat) : Prop := g = x ∨ v.ownBlock = some g ∨ ∃ r ∈ R, r.sl.ownBlock = some g
structure RMem (w : World) (B x : Nat) (v : Value) (R : List RRow) : Prop where
  blk : w.heap[x]? = some (.cells #[v] 65 (0, 0))
  lst : w.ownsRow 0 68 3 v R.length (rcells R)
  row : ∀ (i : Nat) (r : RRow), R[i]? = some r → w.ownsRow 0 5 1 r.sl r.n (u8s r.bs) ∧ r.n ≤ 4096
  low : ∀ g, OfR x v R g → B ≤ g
  sep : ∀ (i j : Nat) (r s : RRow), R[i]? = some r → R[j]? = some s → i ≠ j → ∀ g, r.sl.ownBlock = some g → s.sl.ownBlock ≠ some g
theorem RMem.lt {w : World} {B x : Nat} {v : Value} {R : List RRow} (h : RMem w B x v R) : ∀ g, OfR x v R g → g < w.heap.size := by
  rintro g (rfl | hg | ⟨r, hr, hg⟩)
  · exact at_lt h.blk
  · exact (h.lst.lt g hg).2
  · obtain ⟨i, hi⟩ := List.mem_iff_getElem?.1 hr
    exact ((h.row i r hi).1.lt g hg).2
theorem RMem.kept {w w' : World} {B x : Nat} {v : Value} {R : List RRow} {F : Nat → Prop} (h : RMem w B x v R) (hk : Kept F w w') (hF : ∀ g, OfR x v R g → F g) : RMem w' B x v R :=
  ⟨(hk.block x (at_lt h.blk) (hF x (.inl rfl))).trans h.blk, owns_kept h.lst hk (fun g hg => hF g (.inr (.inl hg))), fun i r hi => ⟨owns_kept (h.row i r hi).1 hk (fun g hg => hF g (.inr (.inr ⟨r, List.mem_of_getElem? hi, hg⟩))), (h.row i r hi).2⟩, h.low, h.sep⟩
theorem RMem.below {w w' : World} {B x : Nat} {v : Value} {R : List RRow} (h : RMem w B x v R) (hb : Below w.heap.size w w') : RMem w' B x v R :=
  h.kept (F := fun _ => True) (Kept.of_below hb) (fun _ _ => trivial)
theorem RMem.low_ {w w' : World} {B x : Nat} {v : Value} {R : List RRow} (h : RMem w B x v R) (hk : Kept (fun g => ¬ OfR x v R g) w w') (hB : B ≤ w.heap.size) : Below B w w' := hk.to_below (fun g hg ho => by have := h.low g ho; omega) hB
theorem RMem.slice {w : World} {B x : Nat} {v : Value} {R : List RRow} (h : RMem w B x v R) : ∃ A c, v = .slice A R.length c := by
  obtain ⟨A, c, e, _⟩ := owns_slice h.lst
  exact ⟨A, c, e⟩
/-- The region of number j + 1. -/
theorem RMem.cells {w : World} {B x j : Nat} {v : Value} {R : List RRow} {r : RRow} (h : RMem w B x v R) (hr : R[j]? = some r) : ∃ g c, v = .slice (some ⟨g, 0, none⟩) R.length c ∧ j < R.length ∧
    w.cell? ⟨g, j * 3, none⟩ = some (.int .u8 r.k) ∧ w.cell? ⟨g, j * 3 + 1, none⟩ = some (.slice r.A r.n r.c) ∧ w.cell? ⟨g, j * 3 + 2, none⟩ = some (.bool r.live) := by
  have hlt := (List.getElem?_eq_some_iff.1 hr).1
  obtain ⟨A, c, e, hrd⟩ := owns_slice h.lst
  rcases h.lst.2 with ⟨_, h0⟩ | ⟨g, cap, cur, hv, _⟩
  · omega
  · have hcell : ∀ t, t < 3 → w.cell? ⟨g, j * 3 + t, none⟩ = r.cells[t]? := by
      intro t ht
      subst hv
      injection e with e1 _ _
      subst e1
      obtain ⟨ad, e2, _, hc⟩ := hrd.2 (by omega)
      cases e2
      have h1 := flat_at RRow.cells 3 (fun _ => rfl) R j t ht
      rw [hr] at h1
      simp only [Option.bind_some] at h1
      have h2 : r.cells[t]? = some (r.cells[t]'(by simp [RRow.cells]; omega)) := List.getElem?_eq_getElem _
      have h3 := hc (j * 3 + t) _ (h1.trans h2)
      rw [add_own] at h3
      rw [h3, h2]
    exact ⟨g, cap, hv, hlt, hcell 0 (by omega), hcell 1 (by omega), hcell 2 (by omega)⟩
set_option maxRecDepth 100000 in
theorem rlive_yes (B x j : Nat) (v : Value) (R : List RRow) (r : RRow) (w : World) (h : RMem w B x v R) (hr : R[j]? = some r) (hl : R.length ≤ 1000000) :
    Calls Tryz.prog 37 #[.pointer (some ⟨x, 0, none⟩), .int .i64 ((j : Int) + 1)] w fun e w' => e = .returned (.bool r.live) ∧ w = w' := by
  obtain ⟨g, c, rfl, hlt, c0, c1, c2⟩ := h.cells hr
  have cx := blk_cell h.blk 0
  simp at cx
  have hle : j + 1 ≤ R.length := hlt
  clear h hr c0 c1
  go_enter Tryz.func37, Tryz.ntmps37
  go_wp2
  all_goals first
    | (exfalso; omega)
    | (go_ret; exact ⟨rfl, rfl⟩)
set_option maxRecDepth 100000 in
theorem rlive_no (B x : Nat) (i : Int) (v : Value) (R : List RRow) (w : World) (h : RMem w B x v R) (hi : i < 1 ∨ (R.length : Int) < i) (hl : R.length ≤ 1000000) :
    Calls Tryz.prog 37 #[.pointer (some ⟨x, 0, none⟩), .int .i64 i] w fun e w' => e = .returned (.bool false) ∧ w = w' := by
  obtain ⟨A, c, rfl⟩ := h.slice
  have cx := blk_cell h.blk 0
  simp at cx
  clear h
  by_cases h1 : i < 1
  · clear hi
    go_enter Tryz.func37, Tryz.ntmps37
    go_wp2
    go_ret
    exact ⟨rfl, rfl⟩
  · have h2 : (R.length : Int) < i := by omega
    clear hi
    go_enter Tryz.func37, Tryz.ntmps37
    go_wp2
    all_goals first
      | (exfalso; omega)
      | (go_ret; exact ⟨rfl, rfl⟩)
/-- The live region of a number. -/
def rowR (R : List RRow) (i : Int) : Option RRow := if 1 ≤ i then (R[(i - 1).toNat]?).filter (·.live) else none
theorem rowR_get {R : List RRow} {i : Int} {r : RRow} (h : rowR R i = some r) : ∃ j : Nat, i = (j : Int) + 1 ∧ R[j]? = some r ∧ r.live = true := by
  unfold rowR at h
  split at h
  · refine ⟨(i - 1).toNat, by omega, ?_⟩
    cases hq : R[(i - 1).toNat]? with
    | none => rw [hq] at h; cases h
    | some s =>
      rw [hq] at h
      simp [Option.filter] at h
      obtain ⟨h1, rfl⟩ := h
      exact ⟨rfl, h1⟩
  · cases h
theorem rlive_some {B x : Nat} {i : Int} {v : Value} {R : List RRow} {r : RRow} {w : World} (h : RMem w B x v R) (hr : rowR R i = some r) (hl : R.length ≤ 1000000) :
    Calls Tryz.prog 37 #[.pointer (some ⟨x, 0, none⟩), .int .i64 i] w fun e w' => e = .returned (.bool true) ∧ w = w' := by
  obtain ⟨j, rfl, hj, hv⟩ := rowR_get hr
  have := rlive_yes B x j v R r w h hj hl
  rw [hv] at this
  exact this
theorem rlive_none {B x : Nat} {i : Int} {v : Value} {R : List RRow} {w : World} (h : RMem w B x v R) (hr : rowR R i = none) (hl : R.length ≤ 1000000) :
    Calls Tryz.prog 37 #[.pointer (some ⟨x, 0, none⟩), .int .i64 i] w fun e w' => e = .returned (.bool false) ∧ w = w' := by
  by_cases hi : i < 1 ∨ (R.length : Int) < i
  · exact rlive_no B x i v R w h hi hl
  · obtain ⟨j, rfl⟩ : ∃ j : Nat, i = (j : Int) + 1 := ⟨(i - 1).toNat, by omega⟩
    have hj : R[j]? = some (R[j]'(by omega)) := List.getElem?_eq_getElem _
    have hv : (R[j]'(by omega)).live = false := by
      unfold rowR at hr
      rw [if_pos (by omega), show ((j : Int) + 1 - 1).toNat = j by omega, hj] at hr
      simpa [Option.filter] using hr
    have := rlive_yes B x j v R _ w h hj hl
    rw [hv] at this
    exact this
set_option maxRecDepth 100000 in
theorem rkind_some {B x : Nat} {i : Int} {v : Value} {R : List RRow} {r : RRow} {w : World} (h : RMem w B x v R) (hr : rowR R i = some r) (hl : R.length ≤ 1000000) :
    Calls Tryz.prog 24 #[.pointer (some ⟨x, 0, none⟩), .int .i64 i] w fun e w' => e = .returned (.int .u8 r.k) ∧ w = w' := by
  have HL := hide (rlive_some h hr hl)
  obtain ⟨j, rfl, hj, hv⟩ := rowR_get hr
  obtain ⟨g, c, rfl, hlt, c0, c1, c2⟩ := h.cells hj
  have cx := blk_cell h.blk 0
  simp at cx
  have hle : j + 1 ≤ R.length := hlt
  clear h hr c1 c2 hj hv
  go_enter Tryz.func24, Tryz.ntmps24
  go_wp2_with (go_at_call 37; refine HL.out.mono ?_; rintro e w1 ⟨rfl, rfl⟩)
  all_goals first
    | (exfalso; omega)
    | (go_ret; exact ⟨rfl, rfl⟩)
set_option maxRecDepth 100000 in
theorem rkind_none {B x : Nat} {i : Int} {v : Value} {R : List RRow} {w : World} (h : RMem w B x v R) (hr : rowR R i = none) (hl : R.length ≤ 1000000) :
    Calls Tryz.prog 24 #[.pointer (some ⟨x, 0, none⟩), .int .i64 i] w fun e w' => e = .returned (.int .u8 0) ∧ w = w' := by
  have HL := hide (rlive_none h hr hl)
  clear h hr
  go_enter Tryz.func24, Tryz.ntmps24
  go_wp2_with (go_at_call 37; refine HL.out.mono ?_; rintro e w1 ⟨rfl, rfl⟩)
  go_ret
  exact ⟨rfl, rfl⟩
set_option maxRecDepth 100000 in
theorem rsize_some {B x : Nat} {i : Int} {v : Value} {R : List RRow} {r : RRow} {w : World} (h : RMem w B x v R) (hr : rowR R i = some r) (hl : R.length ≤ 1000000) :
    Calls Tryz.prog 25 #[.pointer (some ⟨x, 0, none⟩), .int .i64 i] w fun e w' => e = .returned (.int .i64 r.n) ∧ w = w' := by
  have HL := hide (rlive_some h hr hl)
  obtain ⟨j, rfl, hj, hv⟩ := rowR_get hr
  obtain ⟨g, c, rfl, hlt, c0, c1, c2⟩ := h.cells hj
  have cx := blk_cell h.blk 0
  simp at cx
  have hle : j + 1 ≤ R.length := hlt
  clear h hr c0 c2 hj hv
  go_enter Tryz.func25, Tryz.ntmps25
  go_wp2_with (go_at_call 37; refine HL.out.mono ?_; rintro e w1 ⟨rfl, rfl⟩)
  all_goals first
    | (exfalso; omega)
    | (go_ret; exact ⟨rfl, rfl⟩)
set_option maxRecDepth 100000 in
theorem rsize_none {B x : Nat} {i : Int} {v : Value} {R : List RRow} {w : World} (h : RMem w B x v R) (hr : rowR R i = none) (hl : R.length ≤ 1000000) :
    Calls Tryz.prog 25 #[.pointer (some ⟨x, 0, none⟩), .int .i64 i] w fun e w' => e = .returned (.int .i64 0) ∧ w = w' := by
  have HL := hide (rlive_none h hr hl)
  clear h hr
  go_enter Tryz.func25, Tryz.ntmps25
  go_wp2_with (go_at_call 37; refine HL.out.mono ?_; rintro e w1 ⟨rfl, rfl⟩)
  go_ret
  exact ⟨rfl, rfl⟩
set_option maxRecDepth 100000 in
theorem rmay_none {B x : Nat} {i off size : Int} {v : Value} {R : List RRow} {w : World} (h : RMem w B x v R) (hr : rowR R i = none) (hl : R.length ≤ 1000000) :
    Calls Tryz.prog 35 #[.pointer (some ⟨x, 0, none⟩), .int .i64 i, .int .i64 off, .int .i64 size] w fun e w' => e = .returned (.int .i64 6) ∧ w = w' := by
  have HL := hide (rlive_none h hr hl)
  clear h hr
  go_enter Tryz.func35, Tryz.ntmps35
  go_wp2_with (go_at_call 37; refine HL.out.mono ?_; rintro e w1 ⟨rfl, rfl⟩)
  go_ret
  exact ⟨rfl, rfl⟩
set_option maxRecDepth 100000 in
theorem rmay_some {B x : Nat} {i off size : Int} {v : Value} {R : List RRow} {r : RRow} {w : World} (h : RMem w B x v R) (hr : rowR R i = some r) (hl : R.length ≤ 1000000) (hn : r.n ≤ 4096) (ho : off ≤ 9223372036854775807) (ho2 : -9223372036854775808 ≤ off) (hs : size ≤ 9223372036854775807) (hs2 : -9223372036854775808 ≤ size) :
    Calls Tryz.prog 35 #[.pointer (some ⟨x, 0, none⟩), .int .i64 i, .int .i64 off, .int .i64 size] w fun e w' => e = .returned (.int .i64 (if fitsB r.n off size = true then 0 else 32)) ∧ w = w' := by
  have HL := hide (rlive_some h hr hl)
  obtain ⟨j, rfl, hj, hv⟩ := rowR_get hr
  obtain ⟨g, c, rfl, hlt, c0, c1, c2⟩ := h.cells hj
  have cx := blk_cell h.blk 0
  simp at cx
  have hle : j + 1 ≤ R.length := hlt
  clear h hr c0 c2 hj hv
  by_cases h1 : off < 0
  · rw [show fitsB r.n off size = false by simp [fitsB, h1]]
    go_enter Tryz.func35, Tryz.ntmps35
    go_wp2_with (go_at_call 37; refine HL.out.mono ?_; rintro e w1 ⟨rfl, rfl⟩)
    all_goals first
      | (exfalso; omega)
      | (go_ret; exact ⟨rfl, rfl⟩)
  · by_cases h2 : size < 0
    · rw [show fitsB r.n off size = false by simp [fitsB, h2]]
      go_enter Tryz.func35, Tryz.ntmps35
      go_wp2_with (go_at_call 37; refine HL.out.mono ?_; rintro e w1 ⟨rfl, rfl⟩)
      all_goals first
        | (exfalso; omega)
        | (go_ret; exact ⟨rfl, rfl⟩)
    · have h3 : 0 ≤ off := by omega
      have h4 : 0 ≤ size := by omega
      by_cases h5 : (r.n : Int) < off
      · rw [show fitsB r.n off size = false by simp [fitsB]; omega]
        go_enter Tryz.func35, Tryz.ntmps35
        go_wp2_with (go_at_call 37; refine HL.out.mono ?_; rintro e w1 ⟨rfl, rfl⟩)
        all_goals first
          | (exfalso; omega)
          | (go_ret; exact ⟨rfl, rfl⟩)
      · by_cases h6 : size > r.n - off
        · rw [show fitsB r.n off size = false by simp [fitsB]; omega]
          go_enter Tryz.func35, Tryz.ntmps35
          go_wp2_with (go_at_call 37; refine HL.out.mono ?_; rintro e w1 ⟨rfl, rfl⟩)
          all_goals first
            | (exfalso; omega)
            | (go_ret; exact ⟨rfl, rfl⟩)
        · rw [show fitsB r.n off size = true by simp [fitsB]; omega]
          go_enter Tryz.func35, Tryz.ntmps35
          go_wp2_with (go_at_call 37; refine HL.out.mono ?_; rintro e w1 ⟨rfl, rfl⟩)
          all_goals first
            | (exfalso; omega)
            | (go_ret; exact ⟨rfl, rfl⟩)
end Go.Proofs.YtbllnjkagleenaaGreat
