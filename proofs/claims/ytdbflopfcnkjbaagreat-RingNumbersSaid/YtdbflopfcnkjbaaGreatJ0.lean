/-
  A ring that New made, in memory: its links, its records.
-/
import Derived.Test.YtdbflopfcnkjbaaGreatAA
namespace Go.Proofs.YtdbflopfcnkjbaaGreat
open Go.RowKit
set_option linter.unusedVariables false

/-- A record: its link's block, its bytes' row. -/
structure RK where
  g : Nat
  A : Option Addr
  c : Nat
  bs : List Int
def RK.sl (r : RK) : Value := .slice r.A r.bs.length r.c
/-- A pointer to the first link, or none. -/
def hdV : List RK → Value
  | [] => .pointer none
  | r :: _ => .pointer (some ⟨r.g, 0, none⟩)
/-- A pointer to the last link, or none. -/
def lastV : List RK → Value
  | [] => .pointer none
  | [r] => .pointer (some ⟨r.g, 0, none⟩)
  | _ :: r :: L => lastV (r :: L)
/-- What the records take. -/
def sumR : List RK → Nat
  | [] => 0
  | r :: L => 8 + r.bs.length + sumR L
theorem sumR_append : ∀ (L K : List RK), sumR (L ++ K) = sumR L + sumR K
  | [], K => by simp [sumR]
  | r :: L, K => by simp [sumR, sumR_append L K]; omega
theorem sumR_len : ∀ (L : List RK), 8 * L.length ≤ sumR L
  | [] => by simp [sumR]
  | r :: L => by have := sumR_len L; simp [sumR]; omega
theorem sumR_mem : ∀ (L : List RK) (r : RK), r ∈ L → 8 + r.bs.length ≤ sumR L
  | [], r, h => by cases h
  | s :: L, r, h => by
    rcases List.mem_cons.1 h with rfl | h
    · simp [sumR]
    · have := sumR_mem L r h; simp [sumR]; omega
theorem hdV_drop : ∀ (L : List RK) (i : Nat) (r : RK), L[i]? = some r → hdV (L.drop i) = .pointer (some ⟨r.g, 0, none⟩)
  | [], i, r, h => by simp at h
  | s :: L, 0, r, h => by simp at h; subst h; rfl
  | s :: L, i + 1, r, h => by simpa using hdV_drop L i r (by simpa using h)
theorem lastV_append : ∀ (L : List RK) (r : RK), lastV (L ++ [r]) = .pointer (some ⟨r.g, 0, none⟩)
  | [], r => rfl
  | [s], r => rfl
  | s :: s2 :: L, r => by
    show lastV (s2 :: (L ++ [r])) = _
    exact lastV_append (s2 :: L) r
theorem lastV_drop : ∀ (L : List RK), 2 ≤ L.length → lastV (L.drop 1) = lastV L
  | [], h => by simp at h
  | [s], h => by simp at h
  | s :: s2 :: L, h => rfl
theorem lastV_at : ∀ (L : List RK) (i : Nat) (r : RK), i + 1 = L.length → L[i]? = some r → lastV L = .pointer (some ⟨r.g, 0, none⟩)
  | [], i, r, h, h2 => by simp at h
  | [s], i, r, h, h2 => by
    have : i = 0 := by simpa using h
    subst this
    simp at h2; subst h2; rfl
  | s :: s2 :: L, 0, r, h, h2 => by simp at h
  | s :: s2 :: L, i + 1, r, h, h2 => by
    show lastV (s2 :: L) = _
    exact lastV_at (s2 :: L) i r (by simpa using h) (by simpa using h2)
/-- A link in its block, whatever comes behind it. -/
def LinkV (w : World) (g : Nat) (v n : Value) : Prop := w.heap[g]? = some (.cells #[v, n] 101 (0, 0))
/-- The blocks of a ring. -/
def OfG (b bx : Nat) (L : List RK) (g : Nat) : Prop := g = b ∨ g = bx ∨ ∃ r ∈ L, r.g = g ∨ r.sl.ownBlock = some g
def ringCells (b bx sz : Nat) (L : List RK) : Array Value := #[.pointer (some ⟨b, 0, none⟩), .int .i64 sz, hdV L, lastV L, .func (.func 35) #[] #[.pointer (some ⟨bx, 0, none⟩)]]
structure Rng (w : World) (B b bx sz : Nat) (L : List RK) : Prop where
  blk : w.heap[b]? = some (.cells (ringCells b bx sz L) 58 (0, 0))
  box : w.heap[bx]? = some (.cells #[.int .i64 8] 3 (0, 0))
  lnk : ∀ (i : Nat) (r : RK), L[i]? = some r → LinkV w r.g r.sl (hdV (L.drop (i + 1)))
  row : ∀ r ∈ L, w.ownsRow 0 5 1 r.sl r.bs.length (u8s r.bs)
  low : ∀ g, OfG b bx L g → B ≤ g
  sep : (L.map RK.g).Nodup
  apart : ∀ (i j : Nat) (r s : RK), L[i]? = some r → L[j]? = some s → i ≠ j → ∀ g, r.sl.ownBlock = some g → s.sl.ownBlock ≠ some g
  big : sumR L ≤ sz ∧ sz ≤ 16384
section
variable {w w' : World} {B b bx sz : Nat} {L : List RK}
theorem LinkV.c0 {g : Nat} {v n : Value} (h : LinkV w g v n) : w.cell? ⟨g, 0, none⟩ = some v := by rw [blk_cell h]; rfl
theorem LinkV.c1 {g : Nat} {v n : Value} (h : LinkV w g v n) : w.cell? ⟨g, 1, none⟩ = some n := by rw [blk_cell h]; rfl
theorem Rng.lt (h : Rng w B b bx sz L) : ∀ g, OfG b bx L g → g < w.heap.size := by
  rintro g (rfl | rfl | ⟨r, hr, rfl | hg⟩)
  · exact at_lt h.blk
  · exact at_lt h.box
  · obtain ⟨i, hi⟩ := List.mem_iff_getElem?.1 hr
    exact at_lt (h.lnk i r hi)
  · exact ((h.row r hr).lt g hg).2
theorem Rng.kept {F : Nat → Prop} (h : Rng w B b bx sz L) (hk : Kept F w w') (hF : ∀ g, OfG b bx L g → F g) : Rng w' B b bx sz L :=
  ⟨(hk.block b (at_lt h.blk) (hF b (.inl rfl))).trans h.blk, (hk.block bx (at_lt h.box) (hF bx (.inr (.inl rfl)))).trans h.box,
    fun i r hi => (hk.block r.g (at_lt (h.lnk i r hi)) (hF r.g (.inr (.inr ⟨r, List.mem_of_getElem? hi, .inl rfl⟩)))).trans (h.lnk i r hi),
    fun r hr => owns_kept (h.row r hr) hk (fun g hg => hF g (.inr (.inr ⟨r, hr, .inr hg⟩))), h.low, h.sep, h.apart, h.big⟩
theorem Rng.below (h : Rng w B b bx sz L) (hb : Below w.heap.size w w') : Rng w' B b bx sz L :=
  h.kept (F := fun _ => True) (Kept.of_below hb) (fun _ _ => trivial)
theorem Rng.c0 (h : Rng w B b bx sz L) : w.cell? ⟨b, 0, none⟩ = some (.pointer (some ⟨b, 0, none⟩)) := by rw [blk_cell h.blk]; rfl
theorem Rng.c1 (h : Rng w B b bx sz L) : w.cell? ⟨b, 1, none⟩ = some (.int .i64 sz) := by rw [blk_cell h.blk]; rfl
theorem Rng.c2 (h : Rng w B b bx sz L) : w.cell? ⟨b, 2, none⟩ = some (hdV L) := by rw [blk_cell h.blk]; rfl
theorem Rng.c3 (h : Rng w B b bx sz L) : w.cell? ⟨b, 3, none⟩ = some (lastV L) := by rw [blk_cell h.blk]; rfl
theorem Rng.c4 (h : Rng w B b bx sz L) : w.cell? ⟨b, 4, none⟩ = some (.func (.func 35) #[] #[.pointer (some ⟨bx, 0, none⟩)]) := by rw [blk_cell h.blk]; rfl
theorem Rng.cx (h : Rng w B b bx sz L) : w.cell? ⟨bx, 0, none⟩ = some (.int .i64 8) := by rw [blk_cell h.box]; rfl
theorem Rng.B_le (h : Rng w B b bx sz L) : B ≤ w.heap.size := Nat.le_of_lt (Nat.lt_of_le_of_lt (h.low b (.inl rfl)) (at_lt h.blk))
/-- Links, the ring and its box, records: no two kinds share a block. -/
theorem Rng.b_l (h : Rng w B b bx sz L) {r : RK} (hr : r ∈ L) : r.g ≠ b := fun e => by
  obtain ⟨i, hi⟩ := List.mem_iff_getElem?.1 hr
  have h1 := h.lnk i r hi
  rw [LinkV, e, h.blk] at h1
  injection h1 with h1
  injection h1 with _ ht
  exact absurd ht (by decide)
theorem Rng.x_l (h : Rng w B b bx sz L) {r : RK} (hr : r ∈ L) : r.g ≠ bx := fun e => by
  obtain ⟨i, hi⟩ := List.mem_iff_getElem?.1 hr
  have h1 := h.lnk i r hi
  rw [LinkV, e, h.box] at h1
  injection h1 with h1
  injection h1 with _ ht
  exact absurd ht (by decide)
theorem Rng.b_x (h : Rng w B b bx sz L) : bx ≠ b := fun e => by
  have h1 := h.box
  rw [e, h.blk] at h1
  injection h1 with h1
  injection h1 with _ ht
  exact absurd ht (by decide)
theorem row_off {v : Value} {n : Nat} {xs : List Value} {k : Nat} {cs : Array Value} {t : TypeId} (h : w.ownsRow 0 5 1 v n xs) (hk : w.heap[k]? = some (.cells cs t (0, 0))) (ht : t ≠ 5) : v.ownBlock ≠ some k := fun e => by
  rcases h.2 with ⟨h0, _⟩ | ⟨g, cap, cur, hv, _, hg, _⟩
  · rw [h0] at e; cases e
  · rw [hv] at e
    simp only [Value.ownBlock, Option.some.injEq] at e
    subst e
    rw [hk] at hg
    injection hg with hg
    injection hg with _ h2
    exact ht h2
theorem Rng.row_b (h : Rng w B b bx sz L) {r : RK} (hr : r ∈ L) : r.sl.ownBlock ≠ some b := row_off (h.row r hr) h.blk (by decide)
theorem Rng.row_x (h : Rng w B b bx sz L) {r : RK} (hr : r ∈ L) : r.sl.ownBlock ≠ some bx := row_off (h.row r hr) h.box (by decide)
theorem Rng.row_l (h : Rng w B b bx sz L) {r s : RK} (hr : r ∈ L) (hs : s ∈ L) : r.sl.ownBlock ≠ some s.g := by
  obtain ⟨i, hi⟩ := List.mem_iff_getElem?.1 hs
  exact row_off (h.row r hr) (h.lnk i s hi) (by decide)
theorem Rng.len (h : Rng w B b bx sz L) : L.length ≤ 2048 := by
  have := sumR_len L
  have := h.big
  omega
theorem Rng.rec_le (h : Rng w B b bx sz L) {r : RK} (hr : r ∈ L) : r.bs.length ≤ 16384 := by
  have := sumR_mem L r hr
  have := h.big
  omega
end
theorem ringInfo : (Tryz.prog.info? 58).isSome = true := by kernel_rfl
theorem eql_same (a : Addr) (w : World) : (binOp .eql 31 (.pointer (some a)) (.pointer (some a))).run Tryz.prog w = .ok (.bool true) w := by
  obtain ⟨j, hj⟩ := Option.isSome_iff_exists.1 ringInfo
  exact run_eql_ptr_same w a Tryz.underlying31 hj
theorem eql_none (a : Addr) (w : World) : (binOp .eql 31 (.pointer none) (.pointer (some a))).run Tryz.prog w = .ok (.bool false) w := by
  have h : ∀ d : Nat, (Op.equalIn (d + 1) 31 (.pointer none) (.pointer (some a))).run Tryz.prog w = .ok false w := fun d => by
    simp [Op.equalIn, run_underlying Tryz.underlying31]
  simp only [binOp]
  simp [Op.equal, Op.maxDepth, h 9999]
set_option maxRecDepth 100000 in
theorem is_yes (b : Nat) (w : World) (h : w.cell? ⟨b, 0, none⟩ = some (.pointer (some ⟨b, 0, none⟩))) :
    Calls Tryz.prog 24 #[.pointer (some ⟨b, 0, none⟩)] w fun e w' => e = .returned (.bool true) ∧ w = w' := by
  have hq := eql_same ⟨b, 0, none⟩ w
  go_enter Tryz.func24, Tryz.ntmps24
  go_wp2
  go_ret
  exact ⟨rfl, rfl⟩
theorem is_nil (w : World) : Calls Tryz.prog 24 #[.pointer none] w fun e w' => e = .returned (.bool false) ∧ w = w' := by
  go_enter Tryz.func24, Tryz.ntmps24
  go_wp2
  go_ret
  exact ⟨rfl, rfl⟩
set_option maxRecDepth 100000 in
theorem is_zero (b : Nat) (w : World) (h : w.cell? ⟨b, 0, none⟩ = some (.pointer none)) :
    Calls Tryz.prog 24 #[.pointer (some ⟨b, 0, none⟩)] w fun e w' => e = .returned (.bool false) ∧ w = w' := by
  have hq := eql_none ⟨b, 0, none⟩ w
  go_enter Tryz.func24, Tryz.ntmps24
  go_wp2
  go_ret
  exact ⟨rfl, rfl⟩
/-- A ring that New did not make. -/
def NoG (p : Option Addr) (w0 : World) : Prop := ∀ W, Below w0.heap.size w0 W → Calls Tryz.prog 24 #[.pointer p] W fun e w' => e = .returned (.bool false) ∧ W = w'
theorem NoG.later {p : Option Addr} {w W : World} (h : NoG p w) (hb : Below w.heap.size w W) : NoG p W := fun W2 h2 => h W2 (hb.trans (h2.mono hb.size))
theorem noG_nil (w : World) : NoG none w := fun W _ => is_nil W
theorem noG_zero {b : Nat} {w : World} (h : w.cell? ⟨b, 0, none⟩ = some (.pointer none)) : NoG (some ⟨b, 0, none⟩) w := fun W hb => is_zero b W ((hb.cell (p := ⟨b, 0, none⟩) (World.block_lt_of_cell? w _ h)).trans h)
end Go.Proofs.YtdbflopfcnkjbaaGreat
