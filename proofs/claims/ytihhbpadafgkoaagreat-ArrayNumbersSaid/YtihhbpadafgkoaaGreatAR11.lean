/-
  Set and Update, called.
-/
import Derived.Test.YtihhbpadafgkoaaGreatAR10
namespace Go.Proofs.YtihhbpadafgkoaaGreat
open Go.RowKit
set_option linter.unusedVariables false

/-- A call of a closure over four boxes that ends in a panic: the error is told. -/
theorem tried4_no (F : FuncId) (er : Int) (v0 v1 v2 v3 : Value) (t0 t1 t2 t3 : TypeId) (w : World) (hF : ∀ (args : Array Value) (W : World), (callFunc F args).run Tryz.prog W = .ok (.enter F args) W)
    (h : ∀ W, Below w.heap.size w W → Boxes4 W w.heap.size v0 v1 v2 v3 t0 t1 t2 t3 → Calls Tryz.prog F #[.pointer (some ⟨w.heap.size, 0, none⟩), .pointer (some ⟨w.heap.size + 1, 0, none⟩), .pointer (some ⟨w.heap.size + 2, 0, none⟩), .pointer (some ⟨w.heap.size + 3, 0, none⟩)] W fun e w' => e = .panicked (panicOf er) ∧ Below W.heap.size W w') :
    Calls Tryz.prog 66 #[.func (.func F) #[] #[.pointer (some ⟨w.heap.size, 0, none⟩), .pointer (some ⟨w.heap.size + 1, 0, none⟩), .pointer (some ⟨w.heap.size + 2, 0, none⟩), .pointer (some ⟨w.heap.size + 3, 0, none⟩)]] ((((w.alloc (.cells #[v0] t0)).alloc (.cells #[v1] t1)).alloc (.cells #[v2] t2)).alloc (.cells #[v3] t3)) fun e w' =>
      e = .returned (.int .i64 er) ∧ Below w.heap.size w w' := by
  obtain ⟨hq, hb⟩ := boxes4_new w v0 v1 v2 v3 t0 t1 t2 t3
  have hz : ((((w.alloc (.cells #[v0] t0)).alloc (.cells #[v1] t1)).alloc (.cells #[v2] t2)).alloc (.cells #[v3] t3)).heap.size = w.heap.size + 4 := by simp
  generalize (((w.alloc (.cells #[v0] t0)).alloc (.cells #[v1] t1)).alloc (.cells #[v2] t2)).alloc (.cells #[v3] t3) = W4 at *
  have hb2 := below1 W4 (.cells #[.int .i64 0] 27)
  have hbx : Boxed (W4.alloc (.cells #[.int .i64 0] 27)) W4.heap.size 27 (.int .i64 0) := Boxed.new _ _ _
  refine (tried_no F _ er W4 (fun w1 => Below (W4.alloc (.cells #[.int .i64 0] 27)).heap.size (W4.alloc (.cells #[.int .i64 0] 27)) w1) hF ((h _ (hb.trans (hb2.mono hb.size)) (hq.below hb2)).mono (by rintro e w' ⟨h1, h2⟩; exact ⟨h1, boxed_below hbx h2, h2⟩))).mono ?_
  rintro e w' ⟨rfl, hl⟩
  exact ⟨rfl, last_below hl (hb.trans (hb2.mono hb.size)) (by omega)⟩
/-- One that returns, and has turned an array. -/
theorem tried4_yes (F : FuncId) (B b cb sz : Nat) (L L' : List AR) (v0 v1 v2 v3 : Value) (t0 t1 t2 t3 : TypeId) (w : World) (hF : ∀ (args : Array Value) (W : World), (callFunc F args).run Tryz.prog W = .ok (.enter F args) W) (ha : Arr w B b cb sz L) (hs : ∀ g, OfA b cb sz L' g → OfA b cb sz L g)
    (h : ∀ W, Below w.heap.size w W → Boxes4 W w.heap.size v0 v1 v2 v3 t0 t1 t2 t3 → Calls Tryz.prog F #[.pointer (some ⟨w.heap.size, 0, none⟩), .pointer (some ⟨w.heap.size + 1, 0, none⟩), .pointer (some ⟨w.heap.size + 2, 0, none⟩), .pointer (some ⟨w.heap.size + 3, 0, none⟩)] W fun e w' =>
      e = .returned (.tuple #[]) ∧ Arr w' B b cb sz L' ∧ Kept (fun g => ¬ OfA b cb sz L g) W w') :
    Calls Tryz.prog 66 #[.func (.func F) #[] #[.pointer (some ⟨w.heap.size, 0, none⟩), .pointer (some ⟨w.heap.size + 1, 0, none⟩), .pointer (some ⟨w.heap.size + 2, 0, none⟩), .pointer (some ⟨w.heap.size + 3, 0, none⟩)]] ((((w.alloc (.cells #[v0] t0)).alloc (.cells #[v1] t1)).alloc (.cells #[v2] t2)).alloc (.cells #[v3] t3)) fun e w' =>
      e = .returned (.int .i64 0) ∧ Arr w' B b cb sz L' ∧ Kept (fun g => ¬ OfA b cb sz L g) w w' := by
  obtain ⟨hq, hb⟩ := boxes4_new w v0 v1 v2 v3 t0 t1 t2 t3
  have hz : ((((w.alloc (.cells #[v0] t0)).alloc (.cells #[v1] t1)).alloc (.cells #[v2] t2)).alloc (.cells #[v3] t3)).heap.size = w.heap.size + 4 := by simp
  generalize (((w.alloc (.cells #[v0] t0)).alloc (.cells #[v1] t1)).alloc (.cells #[v2] t2)).alloc (.cells #[v3] t3) = W4 at *
  have hb2 := below1 W4 (.cells #[.int .i64 0] 27)
  have hbx : Boxed (W4.alloc (.cells #[.int .i64 0] 27)) W4.heap.size 27 (.int .i64 0) := Boxed.new _ _ _
  have hlow : ∀ g, OfA b cb sz L g → g < w.heap.size := ha.lt
  refine (tried_ok F _ W4 (fun w1 => Arr w1 B b cb sz L' ∧ Kept (fun g => ¬ OfA b cb sz L g) (W4.alloc (.cells #[.int .i64 0] 27)) w1) hF ((h _ (hb.trans (hb2.mono hb.size)) (hq.below hb2)).mono (by
    rintro e w' ⟨h1, h2, h3⟩
    exact ⟨h1, (h3.block _ hbx.lt (fun ho => by have := hlow _ ho; omega)).trans hbx, h2, h3⟩))).mono ?_
  rintro e w' ⟨rfl, w1, ⟨h2, h3⟩, rfl⟩
  have hk1 : Kept (fun g => g ≠ W4.heap.size) w1 (w1.setCell ⟨W4.heap.size, 0, none⟩ (.int .i64 0)) := (Kept.refl _ w1).setCell (fun _ h => h rfl) _
  refine ⟨rfl, h2.kept hk1 (fun g hg => by have := hlow g (hs g hg); omega), ?_⟩
  have hk0 : Kept (fun g => ¬ OfA b cb sz L g) w (W4.alloc (.cells #[.int .i64 0] 27)) := Kept.of_below (hb.trans (hb2.mono hb.size))
  exact (keptTrans hk0 h3).setCell (p := ⟨W4.heap.size, 0, none⟩) (fun hlt => by have : W4.heap.size < w.heap.size := hlt; omega) _
set_option maxRecDepth 100000 in
set_option maxHeartbeats 1000000 in
theorem set_of (p : Option Addr) (i off er : Int) (S : Option Addr) (k sc : Nat) (w : World) (R : World → Prop)
    (h : Calls Tryz.prog 66 #[.func (.func 87) #[] #[.pointer (some ⟨w.heap.size, 0, none⟩), .pointer (some ⟨w.heap.size + 1, 0, none⟩), .pointer (some ⟨w.heap.size + 2, 0, none⟩), .pointer (some ⟨w.heap.size + 3, 0, none⟩)]] ((((w.alloc (.cells #[.pointer p] 26)).alloc (.cells #[.int .i64 i] 3)).alloc (.cells #[.int .i64 off] 3)).alloc (.cells #[.slice S k sc] 34)) fun e w' => e = .returned (.int .i64 er) ∧ R w') :
    Calls Tryz.prog 38 #[.pointer p, .int .i64 i, .int .i64 off, .slice S k sc] w fun e w' => e = .returned (.int .i64 er) ∧ R w' := by
  have hmf : ∀ (fn : Fn) (first cap : Array Value) (w : World), (Instr.makeFunc fn first cap).run Tryz.prog w = .ok (.func fn first cap) w := fun _ _ _ _ => rfl
  have H := hide h
  clear h
  go_enter Tryz.func38, Tryz.ntmps38
  go_wp2_with (go_at_call 66; refine H.out.mono ?_; rintro e w1 ⟨rfl, hl⟩; have HL := hide hl; clear hl)
  go_ret
  exact ⟨rfl, HL.out⟩
theorem hF_set : ∀ (args : Array Value) (W : World), (callFunc 87 args).run Tryz.prog W = .ok (.enter 87 args) W := enters_of Tryz.func87 (by kernel_rfl) rfl
theorem set_not (p : Option Addr) (i off : Int) (S : Option Addr) (k sc : Nat) (w : World) (h : NoA p w) :
    Calls Tryz.prog 38 #[.pointer p, .int .i64 i, .int .i64 off, .slice S k sc] w fun e w' => e = .returned (.int .i64 1) ∧ Below w.heap.size w w' :=
  set_of p i off 1 S k sc w _ (tried4_no _ 1 _ _ _ _ _ _ _ _ w hF_set (fun W hb hq => setIn_not p _ W hq.b0.cell (h.later hb)))
theorem set_no (B b cb sz : Nat) (L : List AR) (i off : Int) (S : Option Addr) (k sc : Nat) (w : World) (h : Arr w B b cb sz L) (ho : off ≤ 9223372036854775807) (he : setE L.length sz i off k ≠ 0) :
    Calls Tryz.prog 38 #[.pointer (some ⟨b, 0, none⟩), .int .i64 i, .int .i64 off, .slice S k sc] w fun e w' => e = .returned (.int .i64 (setE L.length sz i off k)) ∧ Below w.heap.size w w' :=
  set_of _ i off _ S k sc w _ (tried4_no _ _ _ _ _ _ _ _ _ _ w hF_set (fun W hb hq => setIn_no B b cb sz _ L i off S k sc W (h.below hb) hq ho he))
theorem set_yes (B b cb sz i off C : Nat) (L : List AR) (r : AR) (S : Option Addr) (k sc : Nat) (d : List Int) (w : World) (h : Arr w B b cb sz L) (hr : L[i]? = some r) (hd : Rd w C 1 S k (u8s d)) (hC : C ≤ w.heap.size) (hfit : off + k ≤ sz) :
    Calls Tryz.prog 38 #[.pointer (some ⟨b, 0, none⟩), .int .i64 i, .int .i64 off, .slice S k sc] w fun e w' => e = .returned (.int .i64 0) ∧ Arr w' B b cb sz (putL L i off d) ∧ Kept (fun g => ¬ OfA b cb sz L g) w w' :=
  set_of _ i off 0 S k sc w _ (tried4_yes _ B b cb sz L (putL L i off d) _ _ _ _ _ _ _ _ w hF_set h (fun g hg => hg.put) (fun W hb hq => setIn_yes B b cb sz _ i off C L r S k sc d W (h.below hb) hq hr (hd.below (hb.mono hC)) (Nat.le_trans hC hb.size) hfit))
/-- What Update tells. -/
def updE (len sz n : Nat) (l : List Int) (q : Nat) (fl : Int) : Int := if n = 4 then (if q = sz ∧ fl ≤ 2 then (if keyV l < len then (if fl = 1 then 7 else 0) else 6) else 2) else 2
set_option maxRecDepth 100000 in
set_option maxHeartbeats 1000000 in
theorem updIn_not (p : Option Addr) (q : Nat) (W : World) (h0 : W.cell? ⟨q, 0, none⟩ = some (.pointer p)) (h : NoA p W) :
    Calls Tryz.prog 84 #[.pointer (some ⟨q, 0, none⟩), .pointer (some ⟨q + 1, 0, none⟩), .pointer (some ⟨q + 2, 0, none⟩), .pointer (some ⟨q + 3, 0, none⟩)] W fun e w' => e = .panicked (panicOf 1) ∧ Below W.heap.size W w' := by
  have H := hide (h W (Below.refl _ _))
  clear h
  go_enter Tryz.func84, Tryz.ntmps84
  go_wp2_with (go_at_call 77; refine H.out.mono ?_; rintro e w' ⟨rfl, rfl⟩)
  exact ⟨rfl, rfl, Below.refl _ _⟩
set_option maxRecDepth 100000 in
set_option maxHeartbeats 1000000 in
theorem updIn_key (b q : Nat) (A : Option Addr) (n c : Nat) (W : World) (h : W.cell? ⟨b, 0, none⟩ = some (.pointer (some ⟨b, 0, none⟩))) (h0 : W.cell? ⟨q, 0, none⟩ = some (.pointer (some ⟨b, 0, none⟩))) (h1 : W.cell? ⟨q + 1, 0, none⟩ = some (.slice A n c)) (hn : n ≠ 4) :
    Calls Tryz.prog 84 #[.pointer (some ⟨q, 0, none⟩), .pointer (some ⟨q + 1, 0, none⟩), .pointer (some ⟨q + 2, 0, none⟩), .pointer (some ⟨q + 3, 0, none⟩)] W fun e w' => e = .panicked (panicOf 2) ∧ Below W.heap.size W w' := by
  have HM := hide (made_yes b W h)
  have HP := hide (place_no A n c W hn)
  clear h hn
  go_enter Tryz.func84, Tryz.ntmps84
  go_wp2_with (first
    | (go_at_call 77; refine HM.out.mono ?_; rintro e w' ⟨rfl, rfl⟩)
    | (go_at_call 82; refine HP.out.mono ?_; rintro e w' ⟨rfl, rfl⟩))
  exact ⟨rfl, rfl, Below.refl _ _⟩
end Go.Proofs.YtihhbpadafgkoaaGreat
