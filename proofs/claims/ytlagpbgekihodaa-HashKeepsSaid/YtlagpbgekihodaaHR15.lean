/-
  Delete of a hash, called.
-/
import Derived.Test.YtlagpbgekihodaaHR14
namespace Go.Proofs.Ytlagpbgekihodaa
open Go.RowKit Go.Maps
set_option linter.unusedVariables false

theorem hF_del : ∀ (args : Array Value) (W : World), (callFunc 30 args).run Try.prog W = .ok (.enter 30 args) W := enters_of Try.func30 (by kernel_rfl) rfl
set_option maxRecDepth 100000 in
set_option maxHeartbeats 1000000 in
theorem del_of (p : Option Addr) (A : Option Addr) (n c : Nat) (er : Int) (w : World) (R : World → Prop)
    (h : Calls Try.prog 25 #[.func (.func 30) #[] #[.pointer (some ⟨w.heap.size, 0, none⟩), .pointer (some ⟨w.heap.size + 1, 0, none⟩)]] ((w.alloc (.cells #[.pointer p] 27)).alloc (.cells #[.slice A n c] 22)) fun e w' => e = .returned (.int .i64 er) ∧ R w') :
    Calls Try.prog 9 #[.pointer p, .slice A n c] w fun e w' => e = .returned (.int .i64 er) ∧ R w' := by
  have hmf : ∀ (fn : Fn) (first cap : Array Value) (w : World), (Instr.makeFunc fn first cap).run Try.prog w = .ok (.func fn first cap) w := fun _ _ _ _ => rfl
  have H := hide h
  clear h
  go_enter Try.func9, Try.ntmps9
  go_wp2_with (go_at_call 25; refine H.out.mono ?_; rintro e w1 ⟨rfl, hl⟩; have HL := hide hl; clear hl)
  go_ret
  exact ⟨rfl, HL.out⟩
theorem tried2_no (F : FuncId) (er : Int) (v0 v1 : Value) (t0 t1 : TypeId) (w : World) (hF : ∀ (args : Array Value) (W : World), (callFunc F args).run Try.prog W = .ok (.enter F args) W)
    (h : ∀ W, Below w.heap.size w W → W.cell? ⟨w.heap.size, 0, none⟩ = some v0 → W.cell? ⟨w.heap.size + 1, 0, none⟩ = some v1 → Calls Try.prog F #[.pointer (some ⟨w.heap.size, 0, none⟩), .pointer (some ⟨w.heap.size + 1, 0, none⟩)] W fun e w' => e = .panicked (panicOf er) ∧ Below W.heap.size W w') :
    Calls Try.prog 25 #[.func (.func F) #[] #[.pointer (some ⟨w.heap.size, 0, none⟩), .pointer (some ⟨w.heap.size + 1, 0, none⟩)]] ((w.alloc (.cells #[v0] t0)).alloc (.cells #[v1] t1)) fun e w' => e = .returned (.int .i64 er) ∧ Below w.heap.size w w' := by
  obtain ⟨q0, q1⟩ := two_boxes w (.cells #[v0] t0) (.cells #[v1] t1)
  have hb := below2 w (.cells #[v0] t0) (.cells #[v1] t1)
  have hz : ((w.alloc (.cells #[v0] t0)).alloc (.cells #[v1] t1)).heap.size = w.heap.size + 2 := by simp
  generalize (w.alloc (.cells #[v0] t0)).alloc (.cells #[v1] t1) = W4 at *
  have hb2 := below1 W4 (.cells #[.int .i64 0] 35)
  have hbx : Boxed (W4.alloc (.cells #[.int .i64 0] 35)) W4.heap.size 35 (.int .i64 0) := Boxed.new _ _ _
  refine (tried_no F _ er W4 (fun w1 => Below (W4.alloc (.cells #[.int .i64 0] 35)).heap.size (W4.alloc (.cells #[.int .i64 0] 35)) w1) hF ((h _ (hb.trans (hb2.mono hb.size)) (box_cell ((hb2.block _ (at_lt q0)).trans q0)) (box_cell ((hb2.block _ (at_lt q1)).trans q1))).mono (by rintro e w' ⟨h1, h2⟩; exact ⟨h1, boxed_below hbx h2, h2⟩))).mono ?_
  rintro e w' ⟨rfl, hl⟩
  exact ⟨rfl, last_below hl (hb.trans (hb2.mono hb.size)) (by omega)⟩
theorem tried2_yes (F : FuncId) (B b cb mb ks sz : Nat) (L L' : List HS) (v0 v1 : Value) (t0 t1 : TypeId) (w : World) (hF : ∀ (args : Array Value) (W : World), (callFunc F args).run Try.prog W = .ok (.enter F args) W) (ha : Hsh w B b cb mb ks sz L) (hs : ∀ g, OfH b cb mb sz L' g → OfH b cb mb sz L g)
    (h : ∀ W, Below w.heap.size w W → w.heap.size + 1 < W.heap.size → W.cell? ⟨w.heap.size, 0, none⟩ = some v0 → W.cell? ⟨w.heap.size + 1, 0, none⟩ = some v1 → Calls Try.prog F #[.pointer (some ⟨w.heap.size, 0, none⟩), .pointer (some ⟨w.heap.size + 1, 0, none⟩)] W fun e w' =>
      e = .returned (.tuple #[]) ∧ Hsh w' B b cb mb ks sz L' ∧ Kept (fun g => ¬ OfH b cb mb sz L g) W w') :
    Calls Try.prog 25 #[.func (.func F) #[] #[.pointer (some ⟨w.heap.size, 0, none⟩), .pointer (some ⟨w.heap.size + 1, 0, none⟩)]] ((w.alloc (.cells #[v0] t0)).alloc (.cells #[v1] t1)) fun e w' =>
      e = .returned (.int .i64 0) ∧ Hsh w' B b cb mb ks sz L' ∧ Kept (fun g => ¬ OfH b cb mb sz L g) w w' := by
  obtain ⟨q0, q1⟩ := two_boxes w (.cells #[v0] t0) (.cells #[v1] t1)
  have hb := below2 w (.cells #[v0] t0) (.cells #[v1] t1)
  have hz : ((w.alloc (.cells #[v0] t0)).alloc (.cells #[v1] t1)).heap.size = w.heap.size + 2 := by simp
  generalize (w.alloc (.cells #[v0] t0)).alloc (.cells #[v1] t1) = W4 at *
  have hb2 := below1 W4 (.cells #[.int .i64 0] 35)
  have hbx : Boxed (W4.alloc (.cells #[.int .i64 0] 35)) W4.heap.size 35 (.int .i64 0) := Boxed.new _ _ _
  have hlow : ∀ g, OfH b cb mb sz L g → g < w.heap.size := ha.lt
  refine (tried_ok F _ W4 (fun w1 => Hsh w1 B b cb mb ks sz L' ∧ Kept (fun g => ¬ OfH b cb mb sz L g) (W4.alloc (.cells #[.int .i64 0] 35)) w1) hF ((h _ (hb.trans (hb2.mono hb.size)) (by have := hb2.size; omega) (box_cell ((hb2.block _ (at_lt q0)).trans q0)) (box_cell ((hb2.block _ (at_lt q1)).trans q1))).mono (by
    rintro e w' ⟨h1, h2, h3⟩
    exact ⟨h1, (h3.block _ hbx.lt (fun ho => by have := hlow _ ho; omega)).trans hbx, h2, h3⟩))).mono ?_
  rintro e w' ⟨rfl, w1, ⟨h2, h3⟩, rfl⟩
  have hk1 : Kept (fun g => g ≠ W4.heap.size) w1 (w1.setCell ⟨W4.heap.size, 0, none⟩ (.int .i64 0)) := (Kept.refl _ w1).setCell (fun _ h => h rfl) _
  refine ⟨rfl, h2.kept hk1 (fun g hg => by have := hlow g (hs g hg); omega), ?_⟩
  have hk0 : Kept (fun g => ¬ OfH b cb mb sz L g) w (W4.alloc (.cells #[.int .i64 0] 35)) := Kept.of_below (hb.trans (hb2.mono hb.size))
  exact (keptTrans hk0 h3).setCell (p := ⟨W4.heap.size, 0, none⟩) (fun hlt => by have : W4.heap.size < w.heap.size := hlt; omega) _
theorem del_not (p : Option Addr) (A : Option Addr) (n c : Nat) (w : World) (h : NoH p w) :
    Calls Try.prog 9 #[.pointer p, .slice A n c] w fun e w' => e = .returned (.int .i64 1) ∧ Below w.heap.size w w' :=
  del_of p A n c 1 w _ (tried2_no _ 1 _ _ _ _ w hF_del (fun W hb h0 h1 => delIn_not p _ W h0 (h.later hb)))
/-- Delete, whatever is asked. -/
theorem del_any (B b cb mb ks sz : Nat) (L : List HS) (A : Option Addr) (n c C : Nat) (l : List Int) (w : World) (h : Hsh w B b cb mb ks sz L) (hr : KRow w C A n l) (hC : C ≤ w.heap.size) :
    Calls Try.prog 9 #[.pointer (some ⟨b, 0, none⟩), .slice A n c] w fun e w' => e = .returned (.int .i64 (delE ks n L (kb l))) ∧ Hsh w' B b cb mb ks sz (delL ks n L (kb l)) ∧ Kept (fun g => ¬ OfH b cb mb sz L g) w w' := by
  by_cases he : delE ks n L (kb l) = 0
  · have hy : n = ks ∧ ∃ i, findK L (kb l) = some i ∧ delL ks n L (kb l) = dropK L i := by
      unfold delE at he
      unfold delL
      by_cases hn : n = ks
      · rw [if_pos hn] at he ⊢
        cases hf : findK L (kb l) with
        | some i => exact ⟨hn, i, rfl, rfl⟩
        | none => rw [hf] at he; cases he
      · rw [if_neg hn] at he; cases he
    obtain ⟨rfl, i, hf, eL⟩ := hy
    rw [eL, he]
    exact del_of _ A n c 0 w _ (tried2_yes _ B b cb mb n sz L (dropK L i) _ _ _ _ w hF_del h (fun g hg => hg.same (sameA_dropK L i)) (fun W hb hlt h0 h1 =>
      delIn_yes B b cb mb n sz _ i L A c C l W (h.below hb) h0 h1 h.lt hlt (hr.below (hb.mono hC)) (Nat.le_trans hC hb.size) hf))
  · have eL : delL ks n L (kb l) = L := by
      unfold delE at he
      unfold delL
      by_cases hn : n = ks
      · rw [if_pos hn] at he ⊢
        cases hf : findK L (kb l) with
        | some i => rw [hf] at he; exact absurd rfl he
        | none => rfl
      · rw [if_neg hn]
    rw [eL]
    refine (del_of _ A n c (delE ks n L (kb l)) w (fun w' => Below w.heap.size w w') (tried2_no _ _ _ _ _ _ w hF_del (fun W hb h0 h1 => delIn_no B b cb mb ks sz _ L A n c C l W (h.below hb) h0 h1 (hr.below (hb.mono hC)) (Nat.le_trans hC hb.size) he))).mono ?_
    rintro e w' ⟨h1, h2⟩
    exact ⟨h1, h.below h2, Kept.of_below h2⟩
end Go.Proofs.Ytlagpbgekihodaa
