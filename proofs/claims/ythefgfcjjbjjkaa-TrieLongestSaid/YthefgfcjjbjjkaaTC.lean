/-
  What the nodes hang at is gone through, along the bits of a key.
-/
import Derived.Test.YthefgfcjjbjjkaaTB
import Derived.LaidEqlPtr
namespace Go.Proofs.Ythefgfcjjbjjkaa
open Go.RowKit
set_option linter.unusedVariables false
set_option linter.unusedSimpArgs false
attribute [local go_sem] Oper.semAt_some

/-- A block that a round may turn: a node, a trie, a variable that holds a node or a place. -/
def Turns : Obj → Prop
  | .cells _ t _ => t = 53 ∨ t = 60 ∨ t = 74 ∨ t = 110
  | _ => False
/-- What a round keeps: all blocks but such, and what is no cells beyond B. -/
def KpT (B : Nat) (X Y : World) : Prop := X.heap.size ≤ Y.heap.size ∧ ∀ k o, X.heap[k]? = some o → ¬ Turns o → (o.isCells = false → B ≤ k) → Y.heap[k]? = some o
theorem KpT.refl (B : Nat) (X : World) : KpT B X X := ⟨Nat.le_refl _, fun _ _ h _ _ => h⟩
theorem KpT.trans {B : Nat} {X Y Z : World} (h : KpT B X Y) (h2 : KpT B Y Z) : KpT B X Z := ⟨Nat.le_trans h.1 h2.1, fun k o ho ht hc => h2.2 k o (h.2 k o ho ht hc) ht hc⟩
theorem KpT.from {B B' : Nat} {X Y : World} (h : KpT B X Y) (hB : B ≤ B') : KeepsFrom B' X Y := ⟨h.1, fun k o hk ho hc => h.2 k o ho (by cases o <;> simp_all [Turns, Obj.isCells]) (fun _ => Nat.le_trans hB hk)⟩
theorem KpT.mono {B B' : Nat} {X Y : World} (h : KpT B X Y) (hB : B ≤ B') : KpT B' X Y := ⟨h.1, fun k o ho ht hc => h.2 k o ho ht (fun e => Nat.le_trans hB (hc e))⟩
theorem KpT.boxed {B g : Nat} {t : TypeId} {v : Value} {X Y : World} (h : KpT B X Y) (hg : Boxed X g t v) (ht : t ≠ 53 ∧ t ≠ 60 ∧ t ≠ 74 ∧ t ≠ 110) : Boxed Y g t v :=
  h.2 g _ hg (by rintro (e | e | e | e) <;> simp_all) (fun e => by cases e)
theorem Stays.rd {n B0 sz m : Nat} {A : Option Addr} {xs : List Value} {X Y : World} (h : Stays n X Y) (hr : Rd X B0 sz A m xs) : Rd Y B0 sz A m xs := ⟨hr.1, fun hn => by
  obtain ⟨ad, e, hb, hc⟩ := hr.2 hn
  exact ⟨ad, e, hb, fun j u hu => h.cell (hc j u hu)⟩⟩
/-- The key lies in its box, for good. -/
structure KeyBox (Bx B n c : Nat) (A : Option Addr) (k : List Int) (W : World) : Prop where
  box : Boxed W Bx 35 (.slice A n c)
  rd : Rd W B 1 A n (u8s k)
theorem KeyBox.inn {Bx B n c : Nat} {A : Option Addr} {k : List Int} {W : World} (h : KeyBox Bx B n c A k W) : KeyIn Bx B n c A k W := ⟨h.box.cell, h.rd⟩
theorem KeyBox.stays {Bx B n c m : Nat} {A : Option Addr} {k : List Int} {X Y : World} (h : KeyBox Bx B n c A k X) (hs : Stays m X Y) : KeyBox Bx B n c A k Y := ⟨hs.boxed h.box, hs.rd h.rd⟩
theorem KeyBox.kept {Bx B n c m : Nat} {A : Option Addr} {k : List Int} {X Y : World} (h : KeyBox Bx B n c A k X) (hs : KpT m X Y) (hr : Rd Y B 1 A n (u8s k)) : KeyBox Bx B n c A k Y := ⟨hs.boxed h.box (by decide), hr⟩
theorem KeyBox.below {Bx B n c m : Nat} {A : Option Addr} {k : List Int} {X Y : World} (h : KeyBox Bx B n c A k X) (hs : Below m X Y) (hB : B ≤ m) (hx : Bx < m) : KeyBox Bx B n c A k Y := ⟨(hs.block _ hx).trans h.box, h.rd.below (hs.mono hB)⟩
set_option maxRecDepth 100000 in
theorem pegs_any (T : Addr) (g : Value) (w : World) (hg : g = .func (.func 58) #[] #[] ∨ True) :
    Calls Try.prog 57 #[.pointer (some T), .func (.func 58) #[] #[g]] w fun e w' => e = .returned (.func (.func 70) #[] #[.pointer (some ⟨w.heap.size, 0, none⟩), .pointer (some ⟨w.heap.size + 1, 0, none⟩)]) ∧ w' = (w.alloc (.cells #[.pointer (some T)] 103)).alloc (.cells #[.func (.func 58) #[] #[g]] 79) := by
  go_enter Try.func57, Try.ntmps57
  go_wp2
  go_ret
  exact ⟨rfl, rfl⟩
def encA (a : Addr) : Array Value := #[.pointer (some a)]
/-- What comes next: the root's peg, or one of a node that hangs at the last one. -/
def NxP (T : Addr) (k : List Int) (pre : List Addr) (x : Addr) (W : World) : Prop :=
  (pre = [] ∧ x = T) ∨ ∃ p y g, pre = p ++ [y] ∧ p.length < bcN k ∧ W.cell? y = some (.pointer (some ⟨g, 0, none⟩)) ∧ x = ⟨g, 2 + (if btN k p.length then 1 else 0), none⟩
/-- All have come. -/
def SP (k : List Int) (xs : List Addr) (W : World) : Prop := ∃ p y, xs = p ++ [y] ∧ (p.length = bcN k ∨ W.cell? y = some (.pointer none))
/-- What a round leaves: at the last peg hangs a node, or none. -/
def KqP (B n : Nat) (A : Option Addr) (k : List Int) (s : List Addr) (W : World) : Prop := (∀ p y, s = p ++ [y] → W.cell? y = some (.pointer none) ∨ ∃ g, W.cell? y = some (.pointer (some ⟨g, 0, none⟩))) ∧ Rd W B 1 A n (u8s k)
end Go.Proofs.Ythefgfcjjbjjkaa
