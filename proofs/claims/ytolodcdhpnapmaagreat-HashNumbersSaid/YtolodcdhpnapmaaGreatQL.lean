/-
  A region that draws its order, whose operations read what was there, and whose callees make new memory alone: walked once. No program is named here.
-/
import Derived.BigQuiet
import Derived.Deep.QuietTactic
import Derived.Below
import Derived.WalkKit
namespace Go.Proofs.YtolodcdhpnapmaaGreat
open Go.RowKit
set_option linter.unusedVariables false

/-- The worlds in which all that was there lies as it lay. -/
def Later (w : World) : Type := { w' : World // Below w.heap.size w w' }
def Later.w {w0 : World} (x : Later w0) : World := x.val
theorem Later.below {w0 : World} (x : Later w0) : Below w0.heap.size w0 x.w := x.property
instance later_some (w0 : World) : Nonempty (Later w0) := ⟨⟨w0, Below.refl _ _⟩⟩
theorem Later.cell {w0 : World} {p : Addr} {v : Value} (h : w0.cell? p = some v) (x : Later w0) : x.w.cell? p = some v := (x.below.cell (World.block_lt_of_cell? w0 p h)).trans h
theorem Later.calls {P : Program} {f : FuncId} {args : Array Value} {w0 : World} {v : Value} (x : Later w0) (h : ∀ w, Calls P f args w fun e w' => e = .returned v ∧ Below w.heap.size w w') :
    Calls P f args x.w fun e w' => e = .returned v ∧ ∃ y : Later w0, w' = y.w :=
  (h x.w).mono fun e w' ⟨he, hb⟩ => ⟨he, ⟨w', x.below.trans (hb.mono x.below.size)⟩, rfl⟩

theorem wp_region_later {P : Program} {id : Nat} {Q : Exit → Act → World → Prop} {a : Act} {w : World} {l : List Oper} (hm : P.follows .mixedOrders = true) (hB : Region.lexB .any l.toArray = true)
    (h : wpQuiet P l.toArray (fun w' => ∃ x : Later w, w' = x.w) (fun a' => ∀ w', (∃ x : Later w, w' = x.w) → Q .normal a' w') l a) : (Code.region id l.toArray true).wp P Q a w :=
  wp_region_quiet (C := fun w' => ∃ x : Later w, w' = x.w) hm hB ⟨⟨w.drew, (Below.refl _ w).drew⟩, rfl⟩ (by simpa using h)
end Go.Proofs.YtolodcdhpnapmaaGreat
