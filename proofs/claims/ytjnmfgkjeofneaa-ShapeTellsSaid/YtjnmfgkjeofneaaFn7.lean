/-
  The table of the classes: what is made, and what is found in it.
-/
import Derived.Test.YtjnmfgkjeofneaaFn6
import Derived.Test.YtjnmfgkjeofneaaFn5
import Derived.Test.YtjnmfgkjeofneaaGen
namespace Go.Proofs.Ytjnmfgkjeofneaa
open Go.RowKit Go.Maps
set_option linter.unusedVariables false

theorem setBlock_heap (W : World) {b : Nat} (h : b < W.heap.size) (o : Obj) : (ChangeMaps.setBlock W b o).heap[b]? = some o := by
  simp [ChangeMaps.setBlock, h]
theorem setBlock_grown (W : World) (b : Nat) (o : Obj) : W.grownBy (ChangeMaps.setBlock W b o) (some b) :=
  ⟨rfl, rfl, rfl, by simp [ChangeMaps.setBlock], fun k hk hn => by
    have : b ≠ k := fun e => hn (by rw [e])
    simp [ChangeMaps.setBlock, Array.getElem?_setIfInBounds_ne this]⟩
theorem u8Keyed : Keyed Try.prog 5 := int_keyed Try.underlying5
/-- Two entries more or less: an entry with a new key is put behind the others. -/
theorem put_new (W : World) (b clock : Nat) (l : List (Value × Value)) (es : Array MapEntry) (n : Int) (v : Value) (hb : W.heap[b]? = some (.map es clock)) (hj : HasJust es l)
    (hks : ∀ p ∈ l, ∃ m : Int, p.1 = .int .u8 m ∧ 0 ≤ m ∧ m < 256) (hn : 0 ≤ n ∧ n < 256) (hne : ∀ p ∈ l, p.1 ≠ .int .u8 n) :
    ∃ W' es', (Instr.mapUpdate 50 (.map (some b)) (.int .u8 n) v).run Try.prog W = .ok () W' ∧ W'.heap[b]? = some (.map es' (clock + 1)) ∧ HasJust es' (l ++ [(.int .u8 n, v)]) ∧ W.grownBy W' (some b) := by
  have key : ∀ m : Int, 0 ≤ m → m < 256 → keyOf Try.prog 5 (.int .u8 m) = some (.int .u8 m) := fun m h0 h1 => keyOf_int_mk Try.underlying5 (by simp [Lit.wf, IntKind.min, IntKind.max, IntKind.bits, IntKind.signed]; omega)
  refine ⟨_, _, run_put_new u8Keyed Try.underlying50 hb (fun e he => ?_) (key n hn.1 hn.2) (fun e he => ?_), setBlock_heap W (at_lt hb) _, hasJust_push hj clock, setBlock_grown W b _⟩
  · obtain ⟨m, hm, h0, h1⟩ := hks _ (hj.1 e he)
    simp only at hm
    exact ⟨_, by rw [hm]; exact key m h0 h1⟩
  · exact hne _ (hj.1 e he)
/-- The table's entries, in the order of the text. -/
def entries (B1 B2 B3 B4 : Nat) : List (Value × Value) :=
  [(.int .u8 0, .func (.func 39) #[] #[]), (.int .u8 1, .func (.func 41) #[] #[]), (.int .u8 2, .func (.func 44) #[] #[]), (.int .u8 3, .func (.func 45) #[] #[]),
   (.int .u8 4, .func (.func 60) #[] #[.pointer (some ⟨B1, 0, none⟩)]), (.int .u8 7, .func (.func 60) #[] #[.pointer (some ⟨B2, 0, none⟩)]),
   (.int .u8 5, .func (.func 65) #[] #[.pointer (some ⟨B3, 0, none⟩)]), (.int .u8 6, .func (.func 65) #[] #[.pointer (some ⟨B4, 0, none⟩)])]
/-- Block b holds the table of the classes. -/
def Musts (W : World) (b : Nat) : Prop := ∃ B1 B2 B3 B4 es clock, W.heap[b]? = some (.map es clock) ∧ HasJust es (entries B1 B2 B3 B4) ∧ Boxed W B1 4 (.bool false) ∧ Boxed W B2 4 (.bool true) ∧ Boxed W B3 4 (.bool true) ∧ Boxed W B4 4 (.bool false)
theorem Musts.later {W W' : World} {b : Nat} (h : Musts W b) (hs : ∀ (k : Nat) (o : Obj), W.heap[k]? = some o → W'.heap[k]? = some o) : Musts W' b := by
  obtain ⟨B1, B2, B3, B4, es, clock, h1, h2, h3, h4, h5, h6⟩ := h
  exact ⟨B1, B2, B3, B4, es, clock, hs _ _ h1, h2, hs _ _ h3, hs _ _ h4, hs _ _ h5, hs _ _ h6⟩
theorem look_u8 {W : World} {b clock : Nat} {es : Array MapEntry} {l : List (Value × Value)} (hb : W.heap[b]? = some (.map es clock)) (hj : HasJust es l)
    (hks : ∀ p ∈ l, ∃ m : Int, p.1 = .int .u8 m ∧ 0 ≤ m ∧ m < 256) {n : Int} (hn : 0 ≤ n ∧ n < 256) {v : Value} (hm : (.int .u8 n, v) ∈ l) (hu : ∀ v', (.int .u8 n, v') ∈ l → v' = v) :
    (Instr.lookup 50 (.map (some b)) (.int .u8 n) false).run Try.prog W = .ok v W := by
  have key : ∀ m : Int, 0 ≤ m → m < 256 → keyOf Try.prog 5 (.int .u8 m) = some (.int .u8 m) := fun m h0 h1 => keyOf_int_mk Try.underlying5 (by simp [Lit.wf, IntKind.min, IntKind.max, IntKind.bits, IntKind.signed]; omega)
  have hks' : ∀ e ∈ es.toList, ∃ y, keyOf Try.prog 5 e.key = some y := fun e he => by
    obtain ⟨m, hm, h0, h1⟩ := hks _ (hj.1 e he)
    simp only at hm
    exact ⟨_, by rw [hm]; exact key m h0 h1⟩
  rcases u8Keyed.find W (key n hn.1 hn.2) es.toList hks' with ⟨h1, h2⟩ | ⟨j, e0, h1, h2, h3⟩
  · obtain ⟨x, hx, hx1, _⟩ := hj.2 _ hm
    exact absurd hx1 (h2 x hx)
  · have hv : e0.val = v := hu _ (by have := hj.1 e0 (List.mem_of_getElem? h2); rwa [h3] at this)
    simp [Instr.lookup, run_underlying Try.underlying50, MapKept.run_getObj_map hb, u8Keyed.check W _ (key n hn.1 hn.2), h1, Result.andThen, hv]

theorem arith_any (b : Bool) (w : World) : Calls Try.prog 46 #[.bool b] w fun e w' => e = .returned (.func (.func 60) #[] #[.pointer (some ⟨w.heap.size, 0, none⟩)]) ∧ w.alloc (.cells #[.bool b] 4) = w' := by
  have hmf : ∀ (fn : Fn) (first cap : Array Value) (w : World), (Instr.makeFunc fn first cap).run Try.prog w = .ok (.func fn first cap) w := fun _ _ _ _ => rfl
  go_enter Try.func46, Try.ntmps46
  go_wp2
  go_ret
  exact ⟨rfl, rfl⟩
theorem jumps_any (b : Bool) (w : World) : Calls Try.prog 47 #[.bool b] w fun e w' => e = .returned (.func (.func 65) #[] #[.pointer (some ⟨w.heap.size, 0, none⟩)]) ∧ w.alloc (.cells #[.bool b] 4) = w' := by
  have hmf : ∀ (fn : Fn) (first cap : Array Value) (w : World), (Instr.makeFunc fn first cap).run Try.prog w = .ok (.func fn first cap) w := fun _ _ _ _ => rfl
  go_enter Try.func47, Try.ntmps47
  go_wp2
  go_ret
  exact ⟨rfl, rfl⟩
set_option maxRecDepth 100000 in
set_option maxHeartbeats 1000000 in
theorem musts_any (w : World) : Calls Try.prog 23 #[] w fun e w' => e = .returned (.map (some w.heap.size)) ∧ Below w.heap.size w w' ∧ Musts w' w.heap.size := by
  have hmm := @run_makeMap Try.prog
  obtain ⟨W1, e1, r1, m1, j1, g1⟩ := put_new (w.alloc (.map #[] 0)) w.heap.size 0 [] #[] 0 (.func (.func 39) #[] #[]) (World.alloc_heap_new w _) ⟨by simp, by simp⟩ (by simp) (by omega) (by simp)
  obtain ⟨W2, e2, r2, m2, j2, g2⟩ := put_new W1 w.heap.size 1 _ e1 1 (.func (.func 41) #[] #[]) m1 j1 (by simp) (by omega) (by simp)
  obtain ⟨W3, e3, r3, m3, j3, g3⟩ := put_new W2 w.heap.size 2 _ e2 2 (.func (.func 44) #[] #[]) m2 j2 (by simp) (by omega) (by simp)
  obtain ⟨W4, e4, r4, m4, j4, g4⟩ := put_new W3 w.heap.size 3 _ e3 3 (.func (.func 45) #[] #[]) m3 j3 (by simp) (by omega) (by simp)
  have n4 := at_lt m4
  obtain ⟨W5, e5, r5, m5, j5, g5⟩ := put_new (W4.alloc (.cells #[.bool false] 4)) w.heap.size 4 _ e4 4 (.func (.func 60) #[] #[.pointer (some ⟨W4.heap.size, 0, none⟩)]) ((Below.heap_alloc _ _ _ n4).trans m4) j4 (by simp) (by omega) (by simp)
  have n5 := at_lt m5
  obtain ⟨W6, e6, r6, m6, j6, g6⟩ := put_new (W5.alloc (.cells #[.bool true] 4)) w.heap.size 5 _ e5 7 (.func (.func 60) #[] #[.pointer (some ⟨W5.heap.size, 0, none⟩)]) ((Below.heap_alloc _ _ _ n5).trans m5) j5 (by simp) (by omega) (by simp)
  have n6 := at_lt m6
  obtain ⟨W7, e7, r7, m7, j7, g7⟩ := put_new (W6.alloc (.cells #[.bool true] 4)) w.heap.size 6 _ e6 5 (.func (.func 65) #[] #[.pointer (some ⟨W6.heap.size, 0, none⟩)]) ((Below.heap_alloc _ _ _ n6).trans m6) j6 (by simp) (by omega) (by simp)
  have n7 := at_lt m7
  obtain ⟨W8, e8, r8, m8, j8, g8⟩ := put_new (W7.alloc (.cells #[.bool false] 4)) w.heap.size 7 _ e7 6 (.func (.func 65) #[] #[.pointer (some ⟨W7.heap.size, 0, none⟩)]) ((Below.heap_alloc _ _ _ n7).trans m7) j7 (by simp) (by omega) (by simp)
  have keep : ∀ {X Y : World} {B : Nat} {b : Bool}, X.grownBy Y (some w.heap.size) → B ≠ w.heap.size → Boxed X B 4 (.bool b) → Boxed Y B 4 (.bool b) := fun hg hne hb => blk_kept hb hg hne
  have s1 := g1.size
  have s2 := g2.size
  have s3 := g3.size
  have s4 := g4.size
  have s5 := g5.size
  have s6 := g6.size
  have s7 := g7.size
  simp only [World.size_alloc] at s1 s5 s6 s7
  have a1 : Boxed W5 W4.heap.size 4 (.bool false) := keep g5 (by omega) (Boxed.new W4 _ _)
  have a2 : Boxed W6 W4.heap.size 4 (.bool false) := keep g6 (by omega) (a1.alloc _)
  have b2 : Boxed W6 W5.heap.size 4 (.bool true) := keep g6 (by omega) (Boxed.new W5 _ _)
  have a3 : Boxed W7 W4.heap.size 4 (.bool false) := keep g7 (by omega) (a2.alloc _)
  have b3 : Boxed W7 W5.heap.size 4 (.bool true) := keep g7 (by omega) (b2.alloc _)
  have c3 : Boxed W7 W6.heap.size 4 (.bool true) := keep g7 (by omega) (Boxed.new W6 _ _)
  have a4 : Boxed W8 W4.heap.size 4 (.bool false) := keep g8 (by omega) (a3.alloc _)
  have b4 : Boxed W8 W5.heap.size 4 (.bool true) := keep g8 (by omega) (b3.alloc _)
  have c4 : Boxed W8 W6.heap.size 4 (.bool true) := keep g8 (by omega) (c3.alloc _)
  have d4 : Boxed W8 W7.heap.size 4 (.bool false) := keep g8 (by omega) (Boxed.new W7 _ _)
  have z : ∀ {X Y : World}, Below w.heap.size w X → X.grownBy Y (some w.heap.size) → Below w.heap.size w Y := fun h g => h.grown g h.size (fun k e => by cases e; exact Nat.le_refl _)
  have y : ∀ {X : World} (o : Obj), Below w.heap.size w X → Below w.heap.size w (X.alloc o) := fun o h => h.alloc h.size o
  have HB : Hid (Below w.heap.size w W8) := z (y _ (z (y _ (z (y _ (z (y _ (z (z (z (z (below1 w _) g1) g2) g3) g4)) g5)) g6)) g7)) g8
  have HM : Hid (Musts W8 w.heap.size) := ⟨_, _, _, _, _, _, m8, j8, a4, b4, c4, d4⟩
  clear m1 m2 m3 m4 m5 m6 m7 m8 j1 j2 j3 j4 j5 j6 j7 j8 g1 g2 g3 g4 g5 g6 g7 g8 a1 a2 b2 a3 b3 c3 a4 b4 c4 d4 z y keep
  go_enter Try.func23, Try.ntmps23
  go_wp2_with (first | (go_at_call 46; refine (arith_any _ _).mono ?_; rintro e w' ⟨rfl, rfl⟩) | (go_at_call 47; refine (jumps_any _ _).mono ?_; rintro e w' ⟨rfl, rfl⟩))
  go_ret
  exact ⟨rfl, HB.out, HM.out⟩
end Go.Proofs.Ytjnmfgkjeofneaa
