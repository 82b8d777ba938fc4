/-
  Sets of places; the slot behind a place; whether a slot's target lies within.
-/
import Derived.Test.YtjnmfgkjeofneaaFn7
import Derived.Maps.OwnSet
namespace Go.Proofs.Ytjnmfgkjeofneaa
open Go.RowKit Go.Maps
set_option linter.unusedVariables false

def I64 (n : Int) : Prop := -9223372036854775808 ≤ n ∧ n ≤ 9223372036854775807
/-- Block b holds the set of these places. -/
def SetIs (W : World) (b : Nat) (l : List Int) : Prop := W.ownsMap Try.prog 3 (unitElem (H := Unit)) b l.length (setOf (.agg []) (l.map (Lit.int .i64))) ∧ ∀ n ∈ l, I64 n
theorem wf64 {n : Int} (h : I64 n) : (Lit.int .i64 n).wf = true := by
  obtain ⟨h0, h1⟩ := h
  simp [Lit.wf, IntKind.min, IntKind.max, IntKind.bits, IntKind.signed]; omega
theorem intKeyed : Keyed Try.prog 3 := int_keyed Try.underlying3
theorem set_keys (l : List Int) : ∀ x ∈ l.map (Lit.int .i64), WideAt.IsKeyLit x := by
  intro x hx
  rw [List.mem_map] at hx
  obtain ⟨n, _, rfl⟩ := hx
  trivial
theorem SetIs.new (W : World) : SetIs (W.alloc (.map #[] 0)) W.heap.size [] := ⟨World.ownsMap_made W Try.prog 3 _, by simp⟩
theorem SetIs.kept {W W' : World} {b : Nat} {l : List Int} {row : Option Nat} (h : SetIs W b l) (hg : W.grownBy W' row) (hne : some b ≠ row) : SetIs W' b l := ⟨h.1.kept hg hne, h.2⟩
theorem SetIs.same {W W' : World} {b : Nat} {l : List Int} (h : SetIs W b l) (hb : W'.heap[b]? = W.heap[b]?) : SetIs W' b l := by
  obtain ⟨⟨es, clock, h1, h2, h3, h4⟩, h5⟩ := h
  exact ⟨⟨es, clock, hb.trans h1, h2, h3, h4⟩, h5⟩
theorem SetIs.lt {W : World} {b : Nat} {l : List Int} (h : SetIs W b l) : b < W.heap.size := h.1.lt
theorem SetIs.below {W W' : World} {b : Nat} {l : List Int} (h : SetIs W b l) (hb : Below W.heap.size W W') : SetIs W' b l := h.same (hb.block b h.lt)
theorem SetIs.put {W : World} {b : Nat} {l : List Int} (h : SetIs W b l) (n : Int) (hn : I64 n) (hl : l.length < maxLen) :
    ∃ W', (Instr.mapUpdate 48 (.map (some b)) (.int .i64 n) (.agg #[])).run Try.prog W = .ok () W' ∧ SetIs W' b (l ++ [n]) ∧ W.grownBy W' (some b) := by
  obtain ⟨W', h1, h2, h3⟩ := h.1.store intKeyed Try.underlying48 hl (keyOf_int_mk Try.underlying3 (wf64 hn)) unitElem_mk
  refine ⟨W', h1, ⟨?_, ?_⟩, h3.grown⟩
  · rw [List.map_append, List.length_append]
    show W'.ownsMap _ _ _ _ (l.length + 1) (setOf _ (l.map _ ++ [Lit.int .i64 n]))
    rw [setOf_snoc]
    exact h2
  · intro m hm
    rw [List.mem_append, List.mem_singleton] at hm
    rcases hm with hm | rfl
    · exact h.2 m hm
    · exact hn
theorem SetIs.look {W : World} {b : Nat} {l : List Int} (h : SetIs W b l) (n : Int) (hn : I64 n) :
    (Instr.lookup 48 (.map (some b)) (.int .i64 n) true).run Try.prog W = .ok (.tuple #[.agg #[], .bool (decide (n ∈ l))]) W := by
  obtain ⟨v, ps, h1, h2⟩ := h.1.look_ok intKeyed Try.underlying48 (z := .agg #[]) (by kernel_rfl) unitElem_mk (keyOf_int_mk Try.underlying3 (wf64 hn))
  obtain ⟨rfl, _⟩ := unitElem_inv h2
  rw [h1, has_setOf _ _ _ (set_keys l)]
  have : ((l.map (Lit.int .i64)).any fun x => x.sameKey (.int .i64 n)) = decide (n ∈ l) := by
    rw [Bool.eq_iff_iff]
    simp only [List.any_map, List.any_eq_true, Function.comp, decide_eq_true_eq]
    constructor
    · rintro ⟨x, hx, he⟩
      by_cases e : x = n
      · exact e ▸ hx
      · rw [sameKey_ne (fun e' => e (by injection e'))] at he
        cases he
    · exact fun hx => ⟨n, hx, WideAt.sameKey_self trivial⟩
  rw [this]
theorem put_any (W : World) (b : Nat) (l : List Int) (h : SetIs W b l) (n : Int) (hn : I64 n) (hl : l.length < maxLen) :
    Calls Try.prog 35 #[.map (some b), .int .i64 n] W fun e W' => e = .returned (.tuple #[]) ∧ SetIs W' b (l ++ [n]) ∧ W.grownBy W' (some b) := by
  obtain ⟨W', h1, h2, h3⟩ := h.put n hn hl
  go_enter Try.func35, Try.ntmps35
  go_wp2
  go_end0
  exact ⟨rfl, h2, h3⟩
theorem has_any (W : World) (b : Nat) (l : List Int) (h : SetIs W b l) (n : Int) (hn : I64 n) :
    Calls Try.prog 67 #[.map (some b), .int .i64 n] W fun e W' => e = .returned (.bool (decide (n ∈ l))) ∧ Below W.heap.size W W' := by
  have h1 := h.look n hn
  generalize decide (n ∈ l) = z at h1 ⊢
  go_enter Try.func67, Try.ntmps67
  go_wp2
  go_ret
  exact ⟨rfl, below1 _ _⟩
end Go.Proofs.Ytjnmfgkjeofneaa
