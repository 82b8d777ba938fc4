/-
  The small functions of a memory: a copy, whether New made it, what is asked of a region.
-/
import Derived.Test.YtbllnjkagleenaaGreatWB
import Derived.Test.YtbllnjkagleenaaGreatMP
import Derived.LaidEqlPtr
namespace Go.Proofs.YtbllnjkagleenaaGreat
open Go.RowKit
set_option linter.unusedVariables false

/-- A row of bytes of the call's own that was made since the heap had B blocks. -/
def OwnB (w : World) (B : Nat) (v : Value) (n : Nat) (l : List Int) : Prop := w.ownsRow 0 5 1 v n (u8s l) ∧ ∀ g, v.ownBlock = some g → B ≤ g
theorem owns_nil (w : World) (e : TypeId) (sz : Nat) : w.ownsRow 0 e sz (.slice none 0 0) 0 [] := ⟨by simp, .inl ⟨rfl, rfl⟩⟩
theorem longer_new {w w' : World} {e : TypeId} {sz n : Nat} {v' : Value} {xs : List Value} (h : Longer w w' e sz (.slice none 0 0) v' n xs) : w'.ownsRow 0 e sz v' n xs ∧ (∀ g, v'.ownBlock = some g → w.heap.size ≤ g) ∧ Below w.heap.size w w' := by
  obtain ⟨h1, h2, h3⟩ := h
  refine ⟨h1, fun g hg => ?_, ⟨h2.os, h2.tape, h2.output, h2.size, fun k hk => h2.block k hk (by simp [Value.ownBlock])⟩⟩
  rcases h3 with h3 | h3
  · rw [h3] at hg; cases hg
  · rw [h3] at hg
    injection hg with hg
    omega
set_option maxRecDepth 100000 in
theorem copied_any (A : Option Addr) (n c B : Nat) (l : List Int) (w : World) (h : Rd w B 1 A n (u8s l)) (hA : A = none → n = 0) (hB : B ≤ w.heap.size) (hn : n ≤ 1000000) :
    Calls Tryz.prog 31 #[.slice A n c] w fun e w' => ∃ v, e = .returned v ∧ OwnB w' w.heap.size v n l ∧ Below w.heap.size w w' := by
  obtain ⟨i0, hi, hz0, hz1, hz2⟩ := info_parts u8info
  have HA := hide hA
  have HH := hide h
  clear hA h
  go_enter Tryz.func31, Tryz.ntmps31
  go_wp2_with (at_builtin; refine stop_here ?_)
  show Hid _
  refine start_here ?_
  refine wpList_append_rd _ rfl _ _ _ rfl 5 i0 _ 1 1 Tryz.underlying26 hi hz0 hz1 hz2 rfl (by decide) _ 0 [] rfl (owns_nil _ _ _) B A n c (u8s l) rfl HH.out HA.out (u8s_one l) (by unfold maxLen; omega) (by omega) ?_
  intro v w1 hl
  obtain ⟨h1, h2, h3⟩ := longer_new hl
  rw [Nat.zero_add, List.nil_append] at h1
  have H1 := hide h1
  have H2 := hide h2
  have H3 := hide h3
  clear h1 h2 h3 hl
  go_wp2
  go_ret
  exact ⟨v, rfl, ⟨H1.out, H2.out⟩, H3.out⟩

/-- A memory that New made: block b, its map's block mm. -/
structure PM (w : World) (b mm : Nat) (last : Int) (f : Int → Option Value) : Prop where
  blk : w.heap[b]? = some (.cells #[.pointer (some ⟨b, 0, none⟩), .int .i64 last, .map (some mm)] 58 (0, 0))
  map : HasMap w mm f
theorem PM.below {w w' : World} {b mm : Nat} {last : Int} {f : Int → Option Value} (h : PM w b mm last f) (hb : Below w.heap.size w w') : PM w' b mm last f :=
  ⟨(hb.block _ (at_lt h.blk)).trans h.blk, h.map.same (hb.block _ h.map.lt)⟩

theorem memInfo : (Tryz.prog.info? 58).isSome = true := by kernel_rfl
theorem eql_same (a : Addr) (w : World) : (binOp .eql 30 (.pointer (some a)) (.pointer (some a))).run Tryz.prog w = .ok (.bool true) w := by
  obtain ⟨j, hj⟩ := Option.isSome_iff_exists.1 memInfo
  exact run_eql_ptr_same w a Tryz.underlying30 hj
theorem eql_none (a : Addr) (w : World) : (binOp .eql 30 (.pointer none) (.pointer (some a))).run Tryz.prog w = .ok (.bool false) w := by
  have h : ∀ d : Nat, (Op.equalIn (d + 1) 30 (.pointer none) (.pointer (some a))).run Tryz.prog w = .ok false w := fun d => by
    simp [Op.equalIn, run_underlying Tryz.underlying30]
  simp only [binOp]
  simp [Op.equal, Op.maxDepth, h 9999]
set_option maxRecDepth 100000 in
theorem made_yes (b : Nat) (u1 u2 : Value) (w : World) (h : w.heap[b]? = some (.cells #[.pointer (some ⟨b, 0, none⟩), u1, u2] 58 (0, 0))) :
    Calls Tryz.prog 29 #[.pointer (some ⟨b, 0, none⟩)] w fun e w' => e = .returned (.bool true) ∧ w = w' := by
  have c0 := blk_cell h 0
  simp at c0
  clear h
  have hq := eql_same ⟨b, 0, none⟩ w
  go_enter Tryz.func29, Tryz.ntmps29
  go_wp2
  go_ret
  exact ⟨rfl, rfl⟩
theorem made_nil (w : World) : Calls Tryz.prog 29 #[.pointer none] w fun e w' => e = .returned (.bool false) ∧ w = w' := by
  go_enter Tryz.func29, Tryz.ntmps29
  go_wp2
  go_ret
  exact ⟨rfl, rfl⟩
set_option maxRecDepth 100000 in
theorem made_zero (b : Nat) (w : World) (h : w.cell? ⟨b, 0, none⟩ = some (.pointer none)) :
    Calls Tryz.prog 29 #[.pointer (some ⟨b, 0, none⟩)] w fun e w' => e = .returned (.bool false) ∧ w = w' := by
  have hq := eql_none ⟨b, 0, none⟩ w
  go_enter Tryz.func29, Tryz.ntmps29
  go_wp2
  go_ret
  exact ⟨rfl, rfl⟩
theorem zeroRow (w : World) : (zeroValue 56).run Tryz.prog w = .ok (.agg #[.int .u8 0, .slice none 0 0]) w := by kernel_rfl
/-- The host's own closure: within. -/
theorem within_any (off size : Int) (w : World) :
    Calls Tryz.prog 34 #[.int .i64 off, .int .i64 size] w fun e w' => e = .returned (.func (.func 42) #[] #[.pointer (some ⟨w.heap.size, 0, none⟩), .pointer (some ⟨w.heap.size + 1, 0, none⟩)]) ∧ w' = (w.alloc (.cells #[.int .i64 off] 2)).alloc (.cells #[.int .i64 size] 3) := by
  go_enter Tryz.func34, Tryz.ntmps34
  go_wp2
  go_ret
  exact ⟨rfl, rfl⟩
/-- May n bytes from off on be touched, of as many as there are? -/
def fitsB (has : Nat) (off size : Int) : Bool := !(decide (off < 0) || decide (size < 0) || decide (size > has - off))
set_option maxRecDepth 100000 in
theorem ask_any (k : Int) (A : Option Addr) (n c p q : Nat) (off size : Int) (w : World) (hp : w.cell? ⟨p, 0, none⟩ = some (.int .i64 off)) (hq : w.cell? ⟨q, 0, none⟩ = some (.int .i64 size)) (hpl : p < w.heap.size) (hql : q < w.heap.size) (hn : n ≤ 1000000) (ho : off ≤ 9223372036854775807) (ho2 : -9223372036854775808 ≤ off) :
    Calls Tryz.prog 42 #[.agg #[.int .u8 k, .slice A n c], .pointer (some ⟨p, 0, none⟩), .pointer (some ⟨q, 0, none⟩)] w fun e w' => e = .returned (.int .i64 (if fitsB n off size then 0 else 32)) ∧ Below w.heap.size w w' := by
  by_cases h1 : off < 0
  · rw [show fitsB n off size = false by simp [fitsB, h1]]
    go_enter Tryz.func42, Tryz.ntmps42
    go_wp2
    go_ret
    exact ⟨rfl, below1 w _⟩
  · by_cases h2 : size < 0
    · rw [show fitsB n off size = false by simp [fitsB, h2]]
      go_enter Tryz.func42, Tryz.ntmps42
      go_wp2
      go_ret
      exact ⟨rfl, below1 w _⟩
    · have h3 : 0 ≤ off := by omega
      by_cases h4 : size > n - off
      · rw [show fitsB n off size = false by simp [fitsB, h4]]
        go_enter Tryz.func42, Tryz.ntmps42
        go_wp2
        go_ret
        exact ⟨rfl, below1 w _⟩
      · rw [show fitsB n off size = true by simp [fitsB, h1, h2, h4]]
        go_enter Tryz.func42, Tryz.ntmps42
        go_wp2
        go_ret
        exact ⟨rfl, below1 w _⟩
end Go.Proofs.YtbllnjkagleenaaGreat
