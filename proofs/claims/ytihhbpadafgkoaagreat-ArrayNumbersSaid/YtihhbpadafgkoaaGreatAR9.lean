/-
  Value, called; Delete; what no array tells of Set and Update.
-/
import Derived.Test.YtihhbpadafgkoaaGreatAR8
namespace Go.Proofs.YtihhbpadafgkoaaGreat
open Go.RowKit
set_option linter.unusedVariables false

theorem owns_near {b : Nat} {w w' : World} {v : Value} {n : Nat} {l : List Int} (h : OwnB w (b + 3) v n l) (hn : Near b w w') : OwnB w' (b + 3) v n l := ⟨owns_kept h.1 hn (fun g hg => .inr (h.2 g hg)), h.2⟩
set_option maxRecDepth 100000 in
set_option maxHeartbeats 1000000 in
theorem value_not (p : Option Addr) (i : Int) (w : World) (h : NoA p w) :
    Calls Tryz.prog 33 #[.pointer p, .int .i64 i] w fun e w' => e = .returned (.tuple #[.slice none 0 0, .int .i64 1]) ∧ Below w.heap.size w w' := by
  have hmf : ∀ (fn : Fn) (first cap : Array Value) (w : World), (Instr.makeFunc fn first cap).run Tryz.prog w = .ok (.func fn first cap) w := fun _ _ _ _ => rfl
  have hF : ∀ (args : Array Value) (W : World), (callFunc 76 args).run Tryz.prog W = .ok (.enter 76 args) W := enters_of Tryz.func76 (by kernel_rfl) rfl
  obtain ⟨q0, q1⟩ := two_boxes w (.cells #[.pointer p] 26) (.cells #[.int .i64 i] 3)
  have hb2 := below2 w (.cells #[.pointer p] 26) (.cells #[.int .i64 i] 3)
  have HC := hide (caughtSl_no 76 #[.pointer (some ⟨w.heap.size, 0, none⟩), .pointer (some ⟨w.heap.size + 1, 0, none⟩)] 1 _ hF (fun W hb _ => valIn_not p _ W (box_cell ((hb.block _ (at_lt q0)).trans q0)) (h.later (hb2.trans (hb.mono hb2.size)))))
  have HB2 := hide hb2
  clear q0 q1 hb2 hF h
  go_enter Tryz.func33, Tryz.ntmps33
  go_wp2_with (go_at_call 75; refine HC.out.mono ?_; rintro e w1 ⟨rfl, hb⟩; have HB := hide hb; clear hb)
  go_ret2
  exact ⟨rfl, HB2.out.trans (HB.out.mono (by simp; omega))⟩
set_option maxRecDepth 100000 in
set_option maxHeartbeats 1000000 in
theorem value_no (B b cb sz : Nat) (L : List AR) (i : Int) (w : World) (h : Arr w B b cb sz L) (hi : hasB L.length i = false) :
    Calls Tryz.prog 33 #[.pointer (some ⟨b, 0, none⟩), .int .i64 i] w fun e w' => e = .returned (.tuple #[.slice none 0 0, .int .i64 6]) ∧ Below w.heap.size w w' := by
  have hmf : ∀ (fn : Fn) (first cap : Array Value) (w : World), (Instr.makeFunc fn first cap).run Tryz.prog w = .ok (.func fn first cap) w := fun _ _ _ _ => rfl
  have hF : ∀ (args : Array Value) (W : World), (callFunc 76 args).run Tryz.prog W = .ok (.enter 76 args) W := enters_of Tryz.func76 (by kernel_rfl) rfl
  obtain ⟨q0, q1⟩ := two_boxes w (.cells #[.pointer (some ⟨b, 0, none⟩)] 26) (.cells #[.int .i64 i] 3)
  have hb2 := below2 w (.cells #[.pointer (some ⟨b, 0, none⟩)] 26) (.cells #[.int .i64 i] 3)
  have HC := hide (caughtSl_no 76 #[.pointer (some ⟨w.heap.size, 0, none⟩), .pointer (some ⟨w.heap.size + 1, 0, none⟩)] 6 _ hF (fun W hb _ => valIn_no B b cb sz _ L i W ((h.below hb2).below hb) (box_cell ((hb.block _ (at_lt q0)).trans q0)) (box_cell ((hb.block _ (at_lt q1)).trans q1)) hi))
  have HB2 := hide hb2
  clear q0 q1 hb2 hF h hi
  go_enter Tryz.func33, Tryz.ntmps33
  go_wp2_with (go_at_call 75; refine HC.out.mono ?_; rintro e w1 ⟨rfl, hb⟩; have HB := hide hb; clear hb)
  go_ret2
  exact ⟨rfl, HB2.out.trans (HB.out.mono (by simp; omega))⟩
/-- A value that is told: a row of the call's own. -/
def ValTold (sz : Nat) (l : List Int) (w : World) (e : Ending) (w' : World) : Prop := ∃ v, e = .returned (.tuple #[v, .int .i64 0]) ∧ OwnB w' w.heap.size v sz l ∧ Below w.heap.size w w'
set_option maxRecDepth 100000 in
set_option maxHeartbeats 1000000 in
theorem value_yes (B b cb sz i : Nat) (L : List AR) (r : AR) (w : World) (h : Arr w B b cb sz L) (hi : L[i]? = some r) :
    Calls Tryz.prog 33 #[.pointer (some ⟨b, 0, none⟩), .int .i64 i] w (ValTold sz r.bs w) := by
  have hmf : ∀ (fn : Fn) (first cap : Array Value) (w : World), (Instr.makeFunc fn first cap).run Tryz.prog w = .ok (.func fn first cap) w := fun _ _ _ _ => rfl
  have hF : ∀ (args : Array Value) (W : World), (callFunc 76 args).run Tryz.prog W = .ok (.enter 76 args) W := enters_of Tryz.func76 (by kernel_rfl) rfl
  obtain ⟨q0, q1⟩ := two_boxes w (.cells #[.pointer (some ⟨b, 0, none⟩)] 26) (.cells #[.int .i64 (i : Int)] 3)
  have hb2 := below2 w (.cells #[.pointer (some ⟨b, 0, none⟩)] 26) (.cells #[.int .i64 (i : Int)] 3)
  have hz2 : ((w.alloc (.cells #[.pointer (some ⟨b, 0, none⟩)] 26)).alloc (.cells #[.int .i64 (i : Int)] 3)).heap.size = w.heap.size + 2 := by simp
  have HC := hide (caughtSl_ok 76 #[.pointer (some ⟨w.heap.size, 0, none⟩), .pointer (some ⟨w.heap.size + 1, 0, none⟩)] _ (fun x w' => OwnB w' (w.heap.size + 2 + 3) (.slice x.1 x.2.1 x.2.2) sz r.bs) hF (fun W hb hzW => (valIn_yes B b cb sz _ i L r W ((h.below hb2).below hb) (box_cell ((hb.block _ (at_lt q0)).trans q0)) (box_cell ((hb.block _ (at_lt q1)).trans q1)) hi).mono (by
    rintro e w' ⟨x, h1, h2, h3⟩
    refine ⟨x, h1, h2, ?_⟩
    rw [hzW, hz2] at h3
    exact h3)))
  rw [hz2] at HC
  have HB2 := hide hb2
  clear q0 q1 hb2 hF h hi hz2
  go_enter Tryz.func33, Tryz.ntmps33
  go_wp2_with (go_at_call 75; refine HC.out.mono ?_; rintro e w1 ⟨⟨xa, xn, xc⟩, rfl, hb, w0, ho, hnr⟩; have HB := hide hb; have HO := hide (owns_near ho hnr); clear hb ho hnr)
  have hfin : ValTold sz r.bs w (.returned (.tuple #[.slice xa xn xc, .int .i64 0])) w1 := ⟨_, rfl, ⟨HO.out.1, fun g hg => by have := HO.out.2 g hg; omega⟩, HB2.out.trans (HB.out.mono (by omega))⟩
  go_ret2
  exact hfin
set_option maxRecDepth 100000 in
set_option maxHeartbeats 1000000 in
theorem delIn_not (p : Option Addr) (q : Nat) (W : World) (h0 : W.cell? ⟨q, 0, none⟩ = some (.pointer p)) (h : NoA p W) :
    Calls Tryz.prog 86 #[.pointer (some ⟨q, 0, none⟩)] W fun e w' => e = .panicked (panicOf 1) ∧ Below W.heap.size W w' := by
  have H := hide (h W (Below.refl _ _))
  clear h
  go_enter Tryz.func86, Tryz.ntmps86
  go_wp2_with (go_at_call 77; refine H.out.mono ?_; rintro e w' ⟨rfl, rfl⟩)
  exact ⟨rfl, rfl, Below.refl _ _⟩
set_option maxRecDepth 100000 in
set_option maxHeartbeats 1000000 in
theorem delIn_yes (b q : Nat) (W : World) (h0 : W.cell? ⟨q, 0, none⟩ = some (.pointer (some ⟨b, 0, none⟩))) (h : W.cell? ⟨b, 0, none⟩ = some (.pointer (some ⟨b, 0, none⟩))) :
    Calls Tryz.prog 86 #[.pointer (some ⟨q, 0, none⟩)] W fun e w' => e = .panicked (panicOf 9) ∧ Below W.heap.size W w' := by
  have H := hide (made_yes b W h)
  clear h
  go_enter Tryz.func86, Tryz.ntmps86
  go_wp2_with (go_at_call 77; refine H.out.mono ?_; rintro e w' ⟨rfl, rfl⟩)
  exact ⟨rfl, rfl, Below.refl _ _⟩
theorem last_below {b : Nat} {n : Int} {w0 W w' : World} (h : SetLast b n (fun w1 => Below W.heap.size W w1) w') (hb : Below w0.heap.size w0 W) (hl : w0.heap.size ≤ b) : Below w0.heap.size w0 w' := by
  obtain ⟨w1, h1, rfl⟩ := h
  exact (hb.trans (h1.mono hb.size)).setCell (p := ⟨b, 0, none⟩) hl _
set_option maxRecDepth 100000 in
set_option maxHeartbeats 1000000 in
theorem delete_of (p : Option Addr) (A : Option Addr) (n c : Nat) (er : Int) (w : World) (h : ∀ W q, Below w.heap.size w W → W.cell? ⟨q, 0, none⟩ = some (.pointer p) → Calls Tryz.prog 86 #[.pointer (some ⟨q, 0, none⟩)] W fun e w' => e = .panicked (panicOf er) ∧ Below W.heap.size W w') :
    Calls Tryz.prog 37 #[.pointer p, .slice A n c] w fun e w' => e = .returned (.int .i64 er) ∧ Below w.heap.size w w' := by
  have hmf : ∀ (fn : Fn) (first cap : Array Value) (w : World), (Instr.makeFunc fn first cap).run Tryz.prog w = .ok (.func fn first cap) w := fun _ _ _ _ => rfl
  have hF : ∀ (args : Array Value) (W : World), (callFunc 86 args).run Tryz.prog W = .ok (.enter 86 args) W := enters_of Tryz.func86 (by kernel_rfl) rfl
  have q0 : Boxed (w.alloc (.cells #[.pointer p] 26)) w.heap.size 26 (.pointer p) := Boxed.new w _ _
  have hb1 := below1 w (.cells #[.pointer p] 26)
  have hb2 := below1 (w.alloc (.cells #[.pointer p] 26)) (.cells #[.int .i64 0] 27)
  have hbx : Boxed ((w.alloc (.cells #[.pointer p] 26)).alloc (.cells #[.int .i64 0] 27)) (w.alloc (.cells #[.pointer p] 26)).heap.size 27 (.int .i64 0) := Boxed.new _ _ _
  have HT := hide (tried_no 86 #[.pointer (some ⟨w.heap.size, 0, none⟩)] er (w.alloc (.cells #[.pointer p] 26)) (fun w1 => Below ((w.alloc (.cells #[.pointer p] 26)).alloc (.cells #[.int .i64 0] 27)).heap.size ((w.alloc (.cells #[.pointer p] 26)).alloc (.cells #[.int .i64 0] 27)) w1) hF
    ((h _ w.heap.size (hb1.trans (hb2.mono hb1.size)) (boxed_below q0 hb2).cell).mono (by rintro e w' ⟨h1, h2⟩; exact ⟨h1, boxed_below hbx h2, h2⟩)))
  have HB := hide (hb1.trans (hb2.mono hb1.size))
  clear h hF q0 hb1 hb2 hbx
  go_enter Tryz.func37, Tryz.ntmps37
  go_wp2_with (go_at_call 66; refine HT.out.mono ?_; rintro e w1 ⟨rfl, hl⟩; have HL := hide (last_below hl HB.out (by simp)); clear hl)
  go_ret
  exact ⟨rfl, HL.out⟩
end Go.Proofs.YtihhbpadafgkoaaGreat
