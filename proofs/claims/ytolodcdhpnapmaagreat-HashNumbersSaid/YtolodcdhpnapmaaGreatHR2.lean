/-
  What a call answers, or nothing but the error that it panicked with: caught, of each kind of answer.
-/
import Derived.Test.YtolodcdhpnapmaaGreatHR1
namespace Go.Proofs.YtolodcdhpnapmaaGreat
open Go.RowKit
set_option linter.unusedVariables false

/-- All lies as it lay but three boxes from b on. -/
def Near (b : Nat) (w w' : World) : Prop := Kept (fun g => g < b ∨ b + 3 ≤ g) w w'
theorem Near.set {b k : Nat} {w w' : World} (h : Near b w w') (hk : b ≤ k ∧ k < b + 3) (v : Value) : Near b w (w'.setCell ⟨k, 0, none⟩ v) := h.setCell (fun _ h => by simp at h; omega) v
theorem heap_set_other (w : World) {b k : Nat} (h : k ≠ b) (v : Value) : (w.setCell ⟨b, 0, none⟩ v).heap[k]? = w.heap[k]? := Below.heap_setCell w ⟨b, 0, none⟩ v k (fun e => h e)
theorem boxed_other {w : World} {b k : Nat} {t : TypeId} {u v : Value} (h : Boxed w k t u) (hk : k ≠ b) : Boxed (w.setCell ⟨b, 0, none⟩ v) k t u := (heap_set_other w hk v).trans h

set_option maxRecDepth 100000 in
set_option maxHeartbeats 1000000 in
theorem innerInt_ok (F : FuncId) (caps : Array Value) (b : Nat) (W : World) (G : Int → World → Prop) (hF : ∀ (args : Array Value) (W : World), (callFunc F args).run Tryz.prog W = .ok (.enter F args) W)
    (h0 : Boxed W b 126 (.func (.func F) #[] caps)) (h1 : Boxed W (b + 1) 3 (.int .i64 0))
    (h : Calls Tryz.prog F caps W fun e w' => ∃ x : Int, e = .returned (.int .i64 x) ∧ Below W.heap.size W w' ∧ G x w') :
    Calls Tryz.prog 97 #[.pointer (some ⟨b, 0, none⟩), .pointer (some ⟨b + 1, 0, none⟩)] W fun e w' => e = .returned (.tuple #[]) ∧ ∃ x w1, Below W.heap.size W w1 ∧ G x w1 ∧ w' = w1.setCell ⟨b + 1, 0, none⟩ (.int .i64 x) := by
  have H := hide h
  have H1 := hide h1
  have c0 := h0.cell
  clear h h0 h1
  go_enter Tryz.func97, Tryz.ntmps97
  go_wp2_with (refine H.out.mono ?_; rintro e w1 ⟨x, rfl, hb, hG⟩; have c1 := (boxed_below H1.out hb).cell; have f1 := (boxed_below H1.out hb).frozen; have HB := hide hb; have HG := hide hG; clear hb hG)
  go_end0
  exact ⟨rfl, x, w1, HB.out, HG.out, rfl⟩
set_option maxRecDepth 100000 in
set_option maxHeartbeats 1000000 in
theorem innerInt_no (F : FuncId) (caps : Array Value) (b : Nat) (n : Int) (W : World) (hF : ∀ (args : Array Value) (W : World), (callFunc F args).run Tryz.prog W = .ok (.enter F args) W)
    (h0 : Boxed W b 126 (.func (.func F) #[] caps))
    (h : Calls Tryz.prog F caps W fun e w' => e = .panicked (panicOf n) ∧ Below W.heap.size W w') :
    Calls Tryz.prog 97 #[.pointer (some ⟨b, 0, none⟩), .pointer (some ⟨b + 1, 0, none⟩)] W fun e w' => e = .panicked (panicOf n) ∧ Below W.heap.size W w' := by
  have H := hide h
  have c0 := h0.cell
  clear h h0
  go_enter Tryz.func97, Tryz.ntmps97
  go_wp2_with (refine H.out.mono ?_; rintro e w1 ⟨rfl, hb⟩)
  exact ⟨rfl, rfl, hb⟩
set_option maxRecDepth 100000 in
set_option maxHeartbeats 1000000 in
theorem caughtInt_ok (F : FuncId) (caps : Array Value) (w : World) (G : Int → World → Prop) (hF : ∀ (args : Array Value) (W : World), (callFunc F args).run Tryz.prog W = .ok (.enter F args) W)
    (h : ∀ W, Below w.heap.size w W → W.heap.size = w.heap.size + 3 → Calls Tryz.prog F caps W fun e w' => ∃ x : Int, e = .returned (.int .i64 x) ∧ Below W.heap.size W w' ∧ G x w') :
    Calls Tryz.prog 53 #[.func (.func F) #[] caps] w fun e w' => ∃ x : Int, e = .returned (.tuple #[.int .i64 x, .int .i64 0]) ∧ Below w.heap.size w w' ∧ ∃ w1, G x w1 ∧ Near w.heap.size w1 w' := by
  have hF1 : ∀ (args : Array Value) (W : World), (callFunc 97 args).run Tryz.prog W = .ok (.enter 97 args) W := enters_of Tryz.func97 (by kernel_rfl) rfl
  have hmf : ∀ (fn : Fn) (first cap : Array Value) (w : World), (Instr.makeFunc fn first cap).run Tryz.prog w = .ok (.func fn first cap) w := fun _ _ _ _ => rfl
  obtain ⟨q0, q1⟩ := two_boxes w (.cells #[.func (.func F) #[] caps] 126) (.cells #[.int .i64 0] 3)
  have hb2 := below2 w (.cells #[.func (.func F) #[] caps] 126) (.cells #[.int .i64 0] 3)
  generalize hW2 : (w.alloc (.cells #[.func (.func F) #[] caps] 126)).alloc (.cells #[.int .i64 0] 3) = W2 at q0 q1 hb2
  have hs2 : W2.heap.size = w.heap.size + 2 := by rw [← hW2]; simp
  have hb3 := below1 W2 (.cells #[.int .i64 0] 27)
  have hbx : Boxed (W2.alloc (.cells #[.int .i64 0] 27)) W2.heap.size 27 (.int .i64 0) := Boxed.new W2 _ _
  have q0' : Boxed (W2.alloc (.cells #[.int .i64 0] 27)) w.heap.size 126 (.func (.func F) #[] caps) := boxed_below q0 hb3
  have q1' : Boxed (W2.alloc (.cells #[.int .i64 0] 27)) (w.heap.size + 1) 3 (.int .i64 0) := boxed_below q1 hb3
  have hs3 : (W2.alloc (.cells #[.int .i64 0] 27)).heap.size = w.heap.size + 3 := by simp [hs2]
  have hin := innerInt_ok F caps w.heap.size _ G hF q0' q1' (h _ (hb2.trans (hb3.mono hb2.size)) hs3)
  have HT := hide (tried_ok 97 #[.pointer (some ⟨w.heap.size, 0, none⟩), .pointer (some ⟨w.heap.size + 1, 0, none⟩)] W2
    (fun w' => ∃ x w1, Below (W2.alloc (.cells #[.int .i64 0] 27)).heap.size (W2.alloc (.cells #[.int .i64 0] 27)) w1 ∧ G x w1 ∧ w' = w1.setCell ⟨w.heap.size + 1, 0, none⟩ (.int .i64 x)) hF1
    (hin.mono (by rintro e w' ⟨rfl, x, w1, hb, hg, rfl⟩; exact ⟨rfl, boxed_other (boxed_below hbx hb) (by omega), x, w1, hb, hg, rfl⟩)))
  have HS := hide hs2
  have HS3 := hide hs3
  have HB := hide (hb2.trans (hb3.mono hb2.size))
  have HQ1 := hide q1'
  replace hW2 := hide hW2
  clear h hin q0 q1 q0' q1' hbx hb2 hb3 hs2 hs3
  go_enter Tryz.func53, Tryz.ntmps53
  go_wp2_with fail
  refine Eq.mp (congrArg (Calls Tryz.prog _ _ · _) hW2.out.symm) ?_
  refine HT.out.mono ?_
  rintro e w' ⟨rfl, w1, ⟨x, w0, hb, hg, rfl⟩, rfl⟩
  rw [HS.out]
  have c1 : ((w0.setCell ⟨w.heap.size + 1, 0, none⟩ (.int .i64 x)).setCell ⟨w.heap.size + 2, 0, none⟩ (.int .i64 0)).cell? ⟨w.heap.size + 1, 0, none⟩ = some (.int .i64 x) := by
    exact (boxed_other ((boxed_below HQ1.out hb).set (.int .i64 x)) (by omega)).cell
  have f1 : ((w0.setCell ⟨w.heap.size + 1, 0, none⟩ (.int .i64 x)).setCell ⟨w.heap.size + 2, 0, none⟩ (.int .i64 0)).frozen? ⟨w.heap.size + 1, 0, none⟩ = false := by
    exact (boxed_other ((boxed_below HQ1.out hb).set (.int .i64 x)) (by omega)).frozen
  have c2 : (((w0.setCell ⟨w.heap.size + 1, 0, none⟩ (.int .i64 x)).setCell ⟨w.heap.size + 2, 0, none⟩ (.int .i64 0)).setCell ⟨w.heap.size + 1, 0, none⟩ (.int .i64 x)).cell? ⟨w.heap.size + 1, 0, none⟩ = some (.int .i64 x) := by
    exact ((boxed_other ((boxed_below HQ1.out hb).set (.int .i64 x)) (by omega)).set _).cell
  have HBE := hide ((((HB.out.trans (hb.mono HB.out.size)).setCell (p := ⟨w.heap.size + 1, 0, none⟩) (by simp) (.int .i64 x)).setCell (p := ⟨w.heap.size + 2, 0, none⟩) (by simp) (.int .i64 0)).setCell (p := ⟨w.heap.size + 1, 0, none⟩) (by simp) (.int .i64 x))
  have HN : Hid (Near w.heap.size w0 (((w0.setCell ⟨w.heap.size + 1, 0, none⟩ (.int .i64 x)).setCell ⟨w.heap.size + 2, 0, none⟩ (.int .i64 0)).setCell ⟨w.heap.size + 1, 0, none⟩ (.int .i64 x))) :=
    (((show Near w.heap.size w0 w0 from Kept.refl _ _).set (k := w.heap.size + 1) (by omega) _).set (k := w.heap.size + 2) (by omega) _).set (k := w.heap.size + 1) (by omega) _
  have HG := hide hg
  clear hb hg
  generalize (w0.setCell ⟨w.heap.size + 1, 0, none⟩ (.int .i64 x)).setCell ⟨w.heap.size + 2, 0, none⟩ (.int .i64 0) = W8 at c1 f1 c2 HBE HN ⊢
  go_wp2
  exact bodyPost_ret (v := .tuple #[.int .i64 x, .int .i64 0]) (by simp [results, Tryz.results53, go_sem, c2]) rfl ⟨x, rfl, HBE.out, w0, HG.out, HN.out⟩
set_option maxRecDepth 100000 in
set_option maxHeartbeats 1000000 in
theorem caughtInt_no (F : FuncId) (caps : Array Value) (n : Int) (w : World) (hF : ∀ (args : Array Value) (W : World), (callFunc F args).run Tryz.prog W = .ok (.enter F args) W)
    (h : ∀ W, Below w.heap.size w W → W.heap.size = w.heap.size + 3 → Calls Tryz.prog F caps W fun e w' => e = .panicked (panicOf n) ∧ Below W.heap.size W w') :
    Calls Tryz.prog 53 #[.func (.func F) #[] caps] w fun e w' => e = .returned (.tuple #[.int .i64 0, .int .i64 n]) ∧ Below w.heap.size w w' := by
  have hF1 : ∀ (args : Array Value) (W : World), (callFunc 97 args).run Tryz.prog W = .ok (.enter 97 args) W := enters_of Tryz.func97 (by kernel_rfl) rfl
  have hmf : ∀ (fn : Fn) (first cap : Array Value) (w : World), (Instr.makeFunc fn first cap).run Tryz.prog w = .ok (.func fn first cap) w := fun _ _ _ _ => rfl
  obtain ⟨q0, q1⟩ := two_boxes w (.cells #[.func (.func F) #[] caps] 126) (.cells #[.int .i64 0] 3)
  have hb2 := below2 w (.cells #[.func (.func F) #[] caps] 126) (.cells #[.int .i64 0] 3)
  generalize hW2 : (w.alloc (.cells #[.func (.func F) #[] caps] 126)).alloc (.cells #[.int .i64 0] 3) = W2 at q0 q1 hb2
  have hs2 : W2.heap.size = w.heap.size + 2 := by rw [← hW2]; simp
  have hb3 := below1 W2 (.cells #[.int .i64 0] 27)
  have hbx : Boxed (W2.alloc (.cells #[.int .i64 0] 27)) W2.heap.size 27 (.int .i64 0) := Boxed.new W2 _ _
  have q0' : Boxed (W2.alloc (.cells #[.int .i64 0] 27)) w.heap.size 126 (.func (.func F) #[] caps) := boxed_below q0 hb3
  have q1' : Boxed (W2.alloc (.cells #[.int .i64 0] 27)) (w.heap.size + 1) 3 (.int .i64 0) := boxed_below q1 hb3
  have hs3 : (W2.alloc (.cells #[.int .i64 0] 27)).heap.size = w.heap.size + 3 := by simp [hs2]
  have hin := innerInt_no F caps w.heap.size n _ hF q0' (h _ (hb2.trans (hb3.mono hb2.size)) hs3)
  have HT := hide (tried_no 97 #[.pointer (some ⟨w.heap.size, 0, none⟩), .pointer (some ⟨w.heap.size + 1, 0, none⟩)] n W2
    (fun w' => Below (W2.alloc (.cells #[.int .i64 0] 27)).heap.size (W2.alloc (.cells #[.int .i64 0] 27)) w') hF1
    (hin.mono (by rintro e w' ⟨rfl, hb⟩; exact ⟨rfl, boxed_below hbx hb, hb⟩)))
  have HS := hide hs2
  have HB := hide (hb2.trans (hb3.mono hb2.size))
  have HQ1 := hide q1'
  replace hW2 := hide hW2
  clear h hin q0 q1 q0' q1' hbx hb2 hb3 hs2 hs3
  go_enter Tryz.func53, Tryz.ntmps53
  go_wp2_with fail
  refine Eq.mp (congrArg (Calls Tryz.prog _ _ · _) hW2.out.symm) ?_
  refine HT.out.mono ?_
  rintro e w' ⟨rfl, w0, hb, rfl⟩
  rw [HS.out]
  have hq : Boxed (w0.setCell ⟨w.heap.size + 2, 0, none⟩ (.int .i64 n)) (w.heap.size + 1) 3 (.int .i64 0) := boxed_other (boxed_below HQ1.out hb) (by omega)
  have c1 := hq.cell
  have f1 := hq.frozen
  have c2 := (hq.set (.int .i64 0)).cell
  have HBE := hide (((HB.out.trans (hb.mono HB.out.size)).setCell (p := ⟨w.heap.size + 2, 0, none⟩) (by simp) (.int .i64 n)).setCell (p := ⟨w.heap.size + 1, 0, none⟩) (by simp) (.int .i64 0))
  clear hb hq
  generalize w0.setCell ⟨w.heap.size + 2, 0, none⟩ (.int .i64 n) = W8 at c1 f1 c2 HBE ⊢
  go_wp2
  exact bodyPost_ret (v := .tuple #[.int .i64 0, .int .i64 n]) (by simp [results, Tryz.results53, go_sem, c2]) rfl ⟨rfl, HBE.out⟩

set_option maxRecDepth 100000 in
set_option maxHeartbeats 1000000 in
theorem innerSl_ok (F : FuncId) (caps : Array Value) (b : Nat) (W : World) (G : (Option Addr × Nat × Nat) → World → Prop) (hF : ∀ (args : Array Value) (W : World), (callFunc F args).run Tryz.prog W = .ok (.enter F args) W)
    (h0 : Boxed W b 93 (.func (.func F) #[] caps)) (h1 : Boxed W (b + 1) 34 (.slice none 0 0))
    (h : Calls Tryz.prog F caps W fun e w' => ∃ x : (Option Addr × Nat × Nat), e = .returned (.slice x.1 x.2.1 x.2.2) ∧ Below W.heap.size W w' ∧ G x w') :
    Calls Tryz.prog 69 #[.pointer (some ⟨b, 0, none⟩), .pointer (some ⟨b + 1, 0, none⟩)] W fun e w' => e = .returned (.tuple #[]) ∧ ∃ x w1, Below W.heap.size W w1 ∧ G x w1 ∧ w' = w1.setCell ⟨b + 1, 0, none⟩ (.slice x.1 x.2.1 x.2.2) := by
  have H := hide h
  have H1 := hide h1
  have c0 := h0.cell
  clear h h0 h1
  go_enter Tryz.func69, Tryz.ntmps69
  go_wp2_with (refine H.out.mono ?_; rintro e w1 ⟨x, rfl, hb, hG⟩; have c1 := (boxed_below H1.out hb).cell; have f1 := (boxed_below H1.out hb).frozen; have HB := hide hb; have HG := hide hG; clear hb hG)
  go_end0
  exact ⟨rfl, x, w1, HB.out, HG.out, rfl⟩
set_option maxRecDepth 100000 in
set_option maxHeartbeats 1000000 in
theorem innerSl_no (F : FuncId) (caps : Array Value) (b : Nat) (n : Int) (W : World) (hF : ∀ (args : Array Value) (W : World), (callFunc F args).run Tryz.prog W = .ok (.enter F args) W)
    (h0 : Boxed W b 93 (.func (.func F) #[] caps))
    (h : Calls Tryz.prog F caps W fun e w' => e = .panicked (panicOf n) ∧ Below W.heap.size W w') :
    Calls Tryz.prog 69 #[.pointer (some ⟨b, 0, none⟩), .pointer (some ⟨b + 1, 0, none⟩)] W fun e w' => e = .panicked (panicOf n) ∧ Below W.heap.size W w' := by
  have H := hide h
  have c0 := h0.cell
  clear h h0
  go_enter Tryz.func69, Tryz.ntmps69
  go_wp2_with (refine H.out.mono ?_; rintro e w1 ⟨rfl, hb⟩)
  exact ⟨rfl, rfl, hb⟩
set_option maxRecDepth 100000 in
set_option maxHeartbeats 1000000 in
theorem caughtSl_ok (F : FuncId) (caps : Array Value) (w : World) (G : (Option Addr × Nat × Nat) → World → Prop) (hF : ∀ (args : Array Value) (W : World), (callFunc F args).run Tryz.prog W = .ok (.enter F args) W)
    (h : ∀ W, Below w.heap.size w W → W.heap.size = w.heap.size + 3 → Calls Tryz.prog F caps W fun e w' => ∃ x : (Option Addr × Nat × Nat), e = .returned (.slice x.1 x.2.1 x.2.2) ∧ Below W.heap.size W w' ∧ G x w') :
    Calls Tryz.prog 43 #[.func (.func F) #[] caps] w fun e w' => ∃ x : (Option Addr × Nat × Nat), e = .returned (.tuple #[.slice x.1 x.2.1 x.2.2, .int .i64 0]) ∧ Below w.heap.size w w' ∧ ∃ w1, G x w1 ∧ Near w.heap.size w1 w' := by
  have hF1 : ∀ (args : Array Value) (W : World), (callFunc 69 args).run Tryz.prog W = .ok (.enter 69 args) W := enters_of Tryz.func69 (by kernel_rfl) rfl
  have hmf : ∀ (fn : Fn) (first cap : Array Value) (w : World), (Instr.makeFunc fn first cap).run Tryz.prog w = .ok (.func fn first cap) w := fun _ _ _ _ => rfl
  obtain ⟨q0, q1⟩ := two_boxes w (.cells #[.func (.func F) #[] caps] 93) (.cells #[.slice none 0 0] 34)
  have hb2 := below2 w (.cells #[.func (.func F) #[] caps] 93) (.cells #[.slice none 0 0] 34)
  generalize hW2 : (w.alloc (.cells #[.func (.func F) #[] caps] 93)).alloc (.cells #[.slice none 0 0] 34) = W2 at q0 q1 hb2
  have hs2 : W2.heap.size = w.heap.size + 2 := by rw [← hW2]; simp
  have hb3 := below1 W2 (.cells #[.int .i64 0] 27)
  have hbx : Boxed (W2.alloc (.cells #[.int .i64 0] 27)) W2.heap.size 27 (.int .i64 0) := Boxed.new W2 _ _
  have q0' : Boxed (W2.alloc (.cells #[.int .i64 0] 27)) w.heap.size 93 (.func (.func F) #[] caps) := boxed_below q0 hb3
  have q1' : Boxed (W2.alloc (.cells #[.int .i64 0] 27)) (w.heap.size + 1) 34 (.slice none 0 0) := boxed_below q1 hb3
  have hs3 : (W2.alloc (.cells #[.int .i64 0] 27)).heap.size = w.heap.size + 3 := by simp [hs2]
  have hin := innerSl_ok F caps w.heap.size _ G hF q0' q1' (h _ (hb2.trans (hb3.mono hb2.size)) hs3)
  have HT := hide (tried_ok 69 #[.pointer (some ⟨w.heap.size, 0, none⟩), .pointer (some ⟨w.heap.size + 1, 0, none⟩)] W2
    (fun w' => ∃ x w1, Below (W2.alloc (.cells #[.int .i64 0] 27)).heap.size (W2.alloc (.cells #[.int .i64 0] 27)) w1 ∧ G x w1 ∧ w' = w1.setCell ⟨w.heap.size + 1, 0, none⟩ (.slice x.1 x.2.1 x.2.2)) hF1
    (hin.mono (by rintro e w' ⟨rfl, x, w1, hb, hg, rfl⟩; exact ⟨rfl, boxed_other (boxed_below hbx hb) (by omega), x, w1, hb, hg, rfl⟩)))
  have HS := hide hs2
  have HS3 := hide hs3
  have HB := hide (hb2.trans (hb3.mono hb2.size))
  have HQ1 := hide q1'
  replace hW2 := hide hW2
  clear h hin q0 q1 q0' q1' hbx hb2 hb3 hs2 hs3
  go_enter Tryz.func43, Tryz.ntmps43
  go_wp2_with fail
  refine Eq.mp (congrArg (Calls Tryz.prog _ _ · _) hW2.out.symm) ?_
  refine HT.out.mono ?_
  rintro e w' ⟨rfl, w1, ⟨x, w0, hb, hg, rfl⟩, rfl⟩
  rw [HS.out]
  have c1 : ((w0.setCell ⟨w.heap.size + 1, 0, none⟩ (.slice x.1 x.2.1 x.2.2)).setCell ⟨w.heap.size + 2, 0, none⟩ (.int .i64 0)).cell? ⟨w.heap.size + 1, 0, none⟩ = some (.slice x.1 x.2.1 x.2.2) := by
    exact (boxed_other ((boxed_below HQ1.out hb).set (.slice x.1 x.2.1 x.2.2)) (by omega)).cell
  have f1 : ((w0.setCell ⟨w.heap.size + 1, 0, none⟩ (.slice x.1 x.2.1 x.2.2)).setCell ⟨w.heap.size + 2, 0, none⟩ (.int .i64 0)).frozen? ⟨w.heap.size + 1, 0, none⟩ = false := by
    exact (boxed_other ((boxed_below HQ1.out hb).set (.slice x.1 x.2.1 x.2.2)) (by omega)).frozen
  have c2 : (((w0.setCell ⟨w.heap.size + 1, 0, none⟩ (.slice x.1 x.2.1 x.2.2)).setCell ⟨w.heap.size + 2, 0, none⟩ (.int .i64 0)).setCell ⟨w.heap.size + 1, 0, none⟩ (.slice x.1 x.2.1 x.2.2)).cell? ⟨w.heap.size + 1, 0, none⟩ = some (.slice x.1 x.2.1 x.2.2) := by
    exact ((boxed_other ((boxed_below HQ1.out hb).set (.slice x.1 x.2.1 x.2.2)) (by omega)).set _).cell
  have HBE := hide ((((HB.out.trans (hb.mono HB.out.size)).setCell (p := ⟨w.heap.size + 1, 0, none⟩) (by simp) (.slice x.1 x.2.1 x.2.2)).setCell (p := ⟨w.heap.size + 2, 0, none⟩) (by simp) (.int .i64 0)).setCell (p := ⟨w.heap.size + 1, 0, none⟩) (by simp) (.slice x.1 x.2.1 x.2.2))
  have HN : Hid (Near w.heap.size w0 (((w0.setCell ⟨w.heap.size + 1, 0, none⟩ (.slice x.1 x.2.1 x.2.2)).setCell ⟨w.heap.size + 2, 0, none⟩ (.int .i64 0)).setCell ⟨w.heap.size + 1, 0, none⟩ (.slice x.1 x.2.1 x.2.2))) :=
    (((show Near w.heap.size w0 w0 from Kept.refl _ _).set (k := w.heap.size + 1) (by omega) _).set (k := w.heap.size + 2) (by omega) _).set (k := w.heap.size + 1) (by omega) _
  have HG := hide hg
  clear hb hg
  generalize (w0.setCell ⟨w.heap.size + 1, 0, none⟩ (.slice x.1 x.2.1 x.2.2)).setCell ⟨w.heap.size + 2, 0, none⟩ (.int .i64 0) = W8 at c1 f1 c2 HBE HN ⊢
  go_wp2
  exact bodyPost_ret (v := .tuple #[.slice x.1 x.2.1 x.2.2, .int .i64 0]) (by simp [results, Tryz.results43, go_sem, c2]) rfl ⟨x, rfl, HBE.out, w0, HG.out, HN.out⟩
set_option maxRecDepth 100000 in
set_option maxHeartbeats 1000000 in
theorem caughtSl_no (F : FuncId) (caps : Array Value) (n : Int) (w : World) (hF : ∀ (args : Array Value) (W : World), (callFunc F args).run Tryz.prog W = .ok (.enter F args) W)
    (h : ∀ W, Below w.heap.size w W → W.heap.size = w.heap.size + 3 → Calls Tryz.prog F caps W fun e w' => e = .panicked (panicOf n) ∧ Below W.heap.size W w') :
    Calls Tryz.prog 43 #[.func (.func F) #[] caps] w fun e w' => e = .returned (.tuple #[.slice none 0 0, .int .i64 n]) ∧ Below w.heap.size w w' := by
  have hF1 : ∀ (args : Array Value) (W : World), (callFunc 69 args).run Tryz.prog W = .ok (.enter 69 args) W := enters_of Tryz.func69 (by kernel_rfl) rfl
  have hmf : ∀ (fn : Fn) (first cap : Array Value) (w : World), (Instr.makeFunc fn first cap).run Tryz.prog w = .ok (.func fn first cap) w := fun _ _ _ _ => rfl
  obtain ⟨q0, q1⟩ := two_boxes w (.cells #[.func (.func F) #[] caps] 93) (.cells #[.slice none 0 0] 34)
  have hb2 := below2 w (.cells #[.func (.func F) #[] caps] 93) (.cells #[.slice none 0 0] 34)
  generalize hW2 : (w.alloc (.cells #[.func (.func F) #[] caps] 93)).alloc (.cells #[.slice none 0 0] 34) = W2 at q0 q1 hb2
  have hs2 : W2.heap.size = w.heap.size + 2 := by rw [← hW2]; simp
  have hb3 := below1 W2 (.cells #[.int .i64 0] 27)
  have hbx : Boxed (W2.alloc (.cells #[.int .i64 0] 27)) W2.heap.size 27 (.int .i64 0) := Boxed.new W2 _ _
  have q0' : Boxed (W2.alloc (.cells #[.int .i64 0] 27)) w.heap.size 93 (.func (.func F) #[] caps) := boxed_below q0 hb3
  have q1' : Boxed (W2.alloc (.cells #[.int .i64 0] 27)) (w.heap.size + 1) 34 (.slice none 0 0) := boxed_below q1 hb3
  have hs3 : (W2.alloc (.cells #[.int .i64 0] 27)).heap.size = w.heap.size + 3 := by simp [hs2]
  have hin := innerSl_no F caps w.heap.size n _ hF q0' (h _ (hb2.trans (hb3.mono hb2.size)) hs3)
  have HT := hide (tried_no 69 #[.pointer (some ⟨w.heap.size, 0, none⟩), .pointer (some ⟨w.heap.size + 1, 0, none⟩)] n W2
    (fun w' => Below (W2.alloc (.cells #[.int .i64 0] 27)).heap.size (W2.alloc (.cells #[.int .i64 0] 27)) w') hF1
    (hin.mono (by rintro e w' ⟨rfl, hb⟩; exact ⟨rfl, boxed_below hbx hb, hb⟩)))
  have HS := hide hs2
  have HB := hide (hb2.trans (hb3.mono hb2.size))
  have HQ1 := hide q1'
  replace hW2 := hide hW2
  clear h hin q0 q1 q0' q1' hbx hb2 hb3 hs2 hs3
  go_enter Tryz.func43, Tryz.ntmps43
  go_wp2_with fail
  refine Eq.mp (congrArg (Calls Tryz.prog _ _ · _) hW2.out.symm) ?_
  refine HT.out.mono ?_
  rintro e w' ⟨rfl, w0, hb, rfl⟩
  rw [HS.out]
  have hq : Boxed (w0.setCell ⟨w.heap.size + 2, 0, none⟩ (.int .i64 n)) (w.heap.size + 1) 34 (.slice none 0 0) := boxed_other (boxed_below HQ1.out hb) (by omega)
  have c1 := hq.cell
  have f1 := hq.frozen
  have c2 := (hq.set (.slice none 0 0)).cell
  have HBE := hide (((HB.out.trans (hb.mono HB.out.size)).setCell (p := ⟨w.heap.size + 2, 0, none⟩) (by simp) (.int .i64 n)).setCell (p := ⟨w.heap.size + 1, 0, none⟩) (by simp) (.slice none 0 0))
  clear hb hq
  generalize w0.setCell ⟨w.heap.size + 2, 0, none⟩ (.int .i64 n) = W8 at c1 f1 c2 HBE ⊢
  go_wp2
  exact bodyPost_ret (v := .tuple #[.slice none 0 0, .int .i64 n]) (by simp [results, Tryz.results43, go_sem, c2]) rfl ⟨rfl, HBE.out⟩

set_option maxRecDepth 100000 in
set_option maxHeartbeats 1000000 in
theorem innerPtr_ok (F : FuncId) (caps : Array Value) (b : Nat) (W : World) (G : (Option Addr) → World → Prop) (hF : ∀ (args : Array Value) (W : World), (callFunc F args).run Tryz.prog W = .ok (.enter F args) W)
    (h0 : Boxed W b 52 (.func (.func F) #[] caps)) (h1 : Boxed W (b + 1) 26 (.pointer none))
    (h : Calls Tryz.prog F caps W fun e w' => ∃ x : (Option Addr), e = .returned (.pointer x) ∧ Below W.heap.size W w' ∧ G x w') :
    Calls Tryz.prog 29 #[.pointer (some ⟨b, 0, none⟩), .pointer (some ⟨b + 1, 0, none⟩)] W fun e w' => e = .returned (.tuple #[]) ∧ ∃ x w1, Below W.heap.size W w1 ∧ G x w1 ∧ w' = w1.setCell ⟨b + 1, 0, none⟩ (.pointer x) := by
  have H := hide h
  have H1 := hide h1
  have c0 := h0.cell
  clear h h0 h1
  go_enter Tryz.func29, Tryz.ntmps29
  go_wp2_with (refine H.out.mono ?_; rintro e w1 ⟨x, rfl, hb, hG⟩; have c1 := (boxed_below H1.out hb).cell; have f1 := (boxed_below H1.out hb).frozen; have HB := hide hb; have HG := hide hG; clear hb hG)
  go_end0
  exact ⟨rfl, x, w1, HB.out, HG.out, rfl⟩
set_option maxRecDepth 100000 in
set_option maxHeartbeats 1000000 in
theorem innerPtr_no (F : FuncId) (caps : Array Value) (b : Nat) (n : Int) (W : World) (hF : ∀ (args : Array Value) (W : World), (callFunc F args).run Tryz.prog W = .ok (.enter F args) W)
    (h0 : Boxed W b 52 (.func (.func F) #[] caps))
    (h : Calls Tryz.prog F caps W fun e w' => e = .panicked (panicOf n) ∧ Below W.heap.size W w') :
    Calls Tryz.prog 29 #[.pointer (some ⟨b, 0, none⟩), .pointer (some ⟨b + 1, 0, none⟩)] W fun e w' => e = .panicked (panicOf n) ∧ Below W.heap.size W w' := by
  have H := hide h
  have c0 := h0.cell
  clear h h0
  go_enter Tryz.func29, Tryz.ntmps29
  go_wp2_with (refine H.out.mono ?_; rintro e w1 ⟨rfl, hb⟩)
  exact ⟨rfl, rfl, hb⟩
set_option maxRecDepth 100000 in
set_option maxHeartbeats 1000000 in
theorem caughtPtr_ok (F : FuncId) (caps : Array Value) (w : World) (G : (Option Addr) → World → Prop) (hF : ∀ (args : Array Value) (W : World), (callFunc F args).run Tryz.prog W = .ok (.enter F args) W)
    (h : ∀ W, Below w.heap.size w W → W.heap.size = w.heap.size + 3 → Calls Tryz.prog F caps W fun e w' => ∃ x : (Option Addr), e = .returned (.pointer x) ∧ Below W.heap.size W w' ∧ G x w') :
    Calls Tryz.prog 9 #[.func (.func F) #[] caps] w fun e w' => ∃ x : (Option Addr), e = .returned (.tuple #[.pointer x, .int .i64 0]) ∧ Below w.heap.size w w' ∧ ∃ w1, G x w1 ∧ Near w.heap.size w1 w' := by
  have hF1 : ∀ (args : Array Value) (W : World), (callFunc 29 args).run Tryz.prog W = .ok (.enter 29 args) W := enters_of Tryz.func29 (by kernel_rfl) rfl
  have hmf : ∀ (fn : Fn) (first cap : Array Value) (w : World), (Instr.makeFunc fn first cap).run Tryz.prog w = .ok (.func fn first cap) w := fun _ _ _ _ => rfl
  obtain ⟨q0, q1⟩ := two_boxes w (.cells #[.func (.func F) #[] caps] 52) (.cells #[.pointer none] 26)
  have hb2 := below2 w (.cells #[.func (.func F) #[] caps] 52) (.cells #[.pointer none] 26)
  generalize hW2 : (w.alloc (.cells #[.func (.func F) #[] caps] 52)).alloc (.cells #[.pointer none] 26) = W2 at q0 q1 hb2
  have hs2 : W2.heap.size = w.heap.size + 2 := by rw [← hW2]; simp
  have hb3 := below1 W2 (.cells #[.int .i64 0] 27)
  have hbx : Boxed (W2.alloc (.cells #[.int .i64 0] 27)) W2.heap.size 27 (.int .i64 0) := Boxed.new W2 _ _
  have q0' : Boxed (W2.alloc (.cells #[.int .i64 0] 27)) w.heap.size 52 (.func (.func F) #[] caps) := boxed_below q0 hb3
  have q1' : Boxed (W2.alloc (.cells #[.int .i64 0] 27)) (w.heap.size + 1) 26 (.pointer none) := boxed_below q1 hb3
  have hs3 : (W2.alloc (.cells #[.int .i64 0] 27)).heap.size = w.heap.size + 3 := by simp [hs2]
  have hin := innerPtr_ok F caps w.heap.size _ G hF q0' q1' (h _ (hb2.trans (hb3.mono hb2.size)) hs3)
  have HT := hide (tried_ok 29 #[.pointer (some ⟨w.heap.size, 0, none⟩), .pointer (some ⟨w.heap.size + 1, 0, none⟩)] W2
    (fun w' => ∃ x w1, Below (W2.alloc (.cells #[.int .i64 0] 27)).heap.size (W2.alloc (.cells #[.int .i64 0] 27)) w1 ∧ G x w1 ∧ w' = w1.setCell ⟨w.heap.size + 1, 0, none⟩ (.pointer x)) hF1
    (hin.mono (by rintro e w' ⟨rfl, x, w1, hb, hg, rfl⟩; exact ⟨rfl, boxed_other (boxed_below hbx hb) (by omega), x, w1, hb, hg, rfl⟩)))
  have HS := hide hs2
  have HS3 := hide hs3
  have HB := hide (hb2.trans (hb3.mono hb2.size))
  have HQ1 := hide q1'
  replace hW2 := hide hW2
  clear h hin q0 q1 q0' q1' hbx hb2 hb3 hs2 hs3
  go_enter Tryz.func9, Tryz.ntmps9
  go_wp2_with fail
  refine Eq.mp (congrArg (Calls Tryz.prog _ _ · _) hW2.out.symm) ?_
  refine HT.out.mono ?_
  rintro e w' ⟨rfl, w1, ⟨x, w0, hb, hg, rfl⟩, rfl⟩
  rw [HS.out]
  have c1 : ((w0.setCell ⟨w.heap.size + 1, 0, none⟩ (.pointer x)).setCell ⟨w.heap.size + 2, 0, none⟩ (.int .i64 0)).cell? ⟨w.heap.size + 1, 0, none⟩ = some (.pointer x) := by
    exact (boxed_other ((boxed_below HQ1.out hb).set (.pointer x)) (by omega)).cell
  have f1 : ((w0.setCell ⟨w.heap.size + 1, 0, none⟩ (.pointer x)).setCell ⟨w.heap.size + 2, 0, none⟩ (.int .i64 0)).frozen? ⟨w.heap.size + 1, 0, none⟩ = false := by
    exact (boxed_other ((boxed_below HQ1.out hb).set (.pointer x)) (by omega)).frozen
  have c2 : (((w0.setCell ⟨w.heap.size + 1, 0, none⟩ (.pointer x)).setCell ⟨w.heap.size + 2, 0, none⟩ (.int .i64 0)).setCell ⟨w.heap.size + 1, 0, none⟩ (.pointer x)).cell? ⟨w.heap.size + 1, 0, none⟩ = some (.pointer x) := by
    exact ((boxed_other ((boxed_below HQ1.out hb).set (.pointer x)) (by omega)).set _).cell
  have HBE := hide ((((HB.out.trans (hb.mono HB.out.size)).setCell (p := ⟨w.heap.size + 1, 0, none⟩) (by simp) (.pointer x)).setCell (p := ⟨w.heap.size + 2, 0, none⟩) (by simp) (.int .i64 0)).setCell (p := ⟨w.heap.size + 1, 0, none⟩) (by simp) (.pointer x))
  have HN : Hid (Near w.heap.size w0 (((w0.setCell ⟨w.heap.size + 1, 0, none⟩ (.pointer x)).setCell ⟨w.heap.size + 2, 0, none⟩ (.int .i64 0)).setCell ⟨w.heap.size + 1, 0, none⟩ (.pointer x))) :=
    (((show Near w.heap.size w0 w0 from Kept.refl _ _).set (k := w.heap.size + 1) (by omega) _).set (k := w.heap.size + 2) (by omega) _).set (k := w.heap.size + 1) (by omega) _
  have HG := hide hg
  clear hb hg
  generalize (w0.setCell ⟨w.heap.size + 1, 0, none⟩ (.pointer x)).setCell ⟨w.heap.size + 2, 0, none⟩ (.int .i64 0) = W8 at c1 f1 c2 HBE HN ⊢
  go_wp2
  exact bodyPost_ret (v := .tuple #[.pointer x, .int .i64 0]) (by simp [results, Tryz.results9, go_sem, c2]) rfl ⟨x, rfl, HBE.out, w0, HG.out, HN.out⟩
set_option maxRecDepth 100000 in
set_option maxHeartbeats 1000000 in
theorem caughtPtr_no (F : FuncId) (caps : Array Value) (n : Int) (w : World) (hF : ∀ (args : Array Value) (W : World), (callFunc F args).run Tryz.prog W = .ok (.enter F args) W)
    (h : ∀ W, Below w.heap.size w W → W.heap.size = w.heap.size + 3 → Calls Tryz.prog F caps W fun e w' => e = .panicked (panicOf n) ∧ Below W.heap.size W w') :
    Calls Tryz.prog 9 #[.func (.func F) #[] caps] w fun e w' => e = .returned (.tuple #[.pointer none, .int .i64 n]) ∧ Below w.heap.size w w' := by
  have hF1 : ∀ (args : Array Value) (W : World), (callFunc 29 args).run Tryz.prog W = .ok (.enter 29 args) W := enters_of Tryz.func29 (by kernel_rfl) rfl
  have hmf : ∀ (fn : Fn) (first cap : Array Value) (w : World), (Instr.makeFunc fn first cap).run Tryz.prog w = .ok (.func fn first cap) w := fun _ _ _ _ => rfl
  obtain ⟨q0, q1⟩ := two_boxes w (.cells #[.func (.func F) #[] caps] 52) (.cells #[.pointer none] 26)
  have hb2 := below2 w (.cells #[.func (.func F) #[] caps] 52) (.cells #[.pointer none] 26)
  generalize hW2 : (w.alloc (.cells #[.func (.func F) #[] caps] 52)).alloc (.cells #[.pointer none] 26) = W2 at q0 q1 hb2
  have hs2 : W2.heap.size = w.heap.size + 2 := by rw [← hW2]; simp
  have hb3 := below1 W2 (.cells #[.int .i64 0] 27)
  have hbx : Boxed (W2.alloc (.cells #[.int .i64 0] 27)) W2.heap.size 27 (.int .i64 0) := Boxed.new W2 _ _
  have q0' : Boxed (W2.alloc (.cells #[.int .i64 0] 27)) w.heap.size 52 (.func (.func F) #[] caps) := boxed_below q0 hb3
  have q1' : Boxed (W2.alloc (.cells #[.int .i64 0] 27)) (w.heap.size + 1) 26 (.pointer none) := boxed_below q1 hb3
  have hs3 : (W2.alloc (.cells #[.int .i64 0] 27)).heap.size = w.heap.size + 3 := by simp [hs2]
  have hin := innerPtr_no F caps w.heap.size n _ hF q0' (h _ (hb2.trans (hb3.mono hb2.size)) hs3)
  have HT := hide (tried_no 29 #[.pointer (some ⟨w.heap.size, 0, none⟩), .pointer (some ⟨w.heap.size + 1, 0, none⟩)] n W2
    (fun w' => Below (W2.alloc (.cells #[.int .i64 0] 27)).heap.size (W2.alloc (.cells #[.int .i64 0] 27)) w') hF1
    (hin.mono (by rintro e w' ⟨rfl, hb⟩; exact ⟨rfl, boxed_below hbx hb, hb⟩)))
  have HS := hide hs2
  have HB := hide (hb2.trans (hb3.mono hb2.size))
  have HQ1 := hide q1'
  replace hW2 := hide hW2
  clear h hin q0 q1 q0' q1' hbx hb2 hb3 hs2 hs3
  go_enter Tryz.func9, Tryz.ntmps9
  go_wp2_with fail
  refine Eq.mp (congrArg (Calls Tryz.prog _ _ · _) hW2.out.symm) ?_
  refine HT.out.mono ?_
  rintro e w' ⟨rfl, w0, hb, rfl⟩
  rw [HS.out]
  have hq : Boxed (w0.setCell ⟨w.heap.size + 2, 0, none⟩ (.int .i64 n)) (w.heap.size + 1) 26 (.pointer none) := boxed_other (boxed_below HQ1.out hb) (by omega)
  have c1 := hq.cell
  have f1 := hq.frozen
  have c2 := (hq.set (.pointer none)).cell
  have HBE := hide (((HB.out.trans (hb.mono HB.out.size)).setCell (p := ⟨w.heap.size + 2, 0, none⟩) (by simp) (.int .i64 n)).setCell (p := ⟨w.heap.size + 1, 0, none⟩) (by simp) (.pointer none))
  clear hb hq
  generalize w0.setCell ⟨w.heap.size + 2, 0, none⟩ (.int .i64 n) = W8 at c1 f1 c2 HBE ⊢
  go_wp2
  exact bodyPost_ret (v := .tuple #[.pointer none, .int .i64 n]) (by simp [results, Tryz.results9, go_sem, c2]) rfl ⟨rfl, HBE.out⟩
end Go.Proofs.YtolodcdhpnapmaaGreat
