/-
  The chapter's example holds.
-/
import Derived.Test.YtihhbpadafgkoaaLUN
import Derived.Test.YtihhbpadafgkoaaLUC
import Derived.Lib.SmallJoins
namespace Go.Proofs.Ytihhbpadafgkoaa
open Go.RowKit Go.Maps
set_option linter.unusedVariables false

theorem below1m (w : World) (l : List Value) (fr : Nat × Nat) : Below w.heap.size w (w.alloc (.cells l.toArray 5 fr)) := (Below.refl _ _).alloc (Nat.le_refl _) _
theorem Lru.low_ {w w' : World} {B b mb cb e ks sz : Nat} {L L' : List LK} {P P' : List HS} (h : Lru w B b mb cb e ks sz L P) (hk : LGo B b mb cb e ks sz L P L' P' w w') (hB : B ≤ w.heap.size) : Below B w w' := hk.2.1.to_below (fun g hg ho => by have := h.low g ho; omega) hB
theorem spec_ex : specM 3 1 1 2 = 0 := by decide
/-- A byte that is written out. -/
def mk1 (w : World) (x : Int) : World := w.alloc (.cells (u8s [x]).toArray 5 (1, 2))
def mk0 (w : World) (x : Int) : World := w.alloc (.cells (u8s [x]).toArray 5)
theorem krow_mark (w : World) (x : Int) (hx : IsByte x) : KRow (mk1 w x) (w.heap.size + 1) (some ⟨w.heap.size, 0, none⟩) 1 [x] := ⟨rd_mark w [x] 1 rfl (1, 2), (fun h => by cases h), (fun y hy => by simp at hy; subst hy; exact hx)⟩
theorem mk1_below (w : World) (x : Int) : Below w.heap.size w (mk1 w x) := below1m w (u8s [x]) (1, 2)
theorem mk0_below (w : World) (x : Int) : Below w.heap.size w (mk0 w x) := below1m w (u8s [x]) (0, 0)
theorem mk1_size (w : World) (x : Int) : (mk1 w x).heap.size = w.heap.size + 1 := by simp [mk1]
theorem mk0_size (w : World) (x : Int) : (mk0 w x).heap.size = w.heap.size + 1 := by simp [mk0]
theorem upd_ex {B b cb mb e p0 : Nat} {L : List LK} {P : List HS} {W : World} (x y : Int) (s0 : HS) (L' : Nat → List LK) (P' : List HS) (h : Lru W B b mb cb e 1 1 L P) (hB : B ≤ W.heap.size) (hx : IsByte x) (hf : findL L (kb [x]) = none) (h1 : freeK (roomP L P) = some p0) (h2 : (roomP L P)[p0]? = some s0) (h3 : ∀ g, roomL L P ++ [⟨g, kb [x], p0⟩] = L' g) (h4 : putB ((roomP L P).set p0 { s0 with key := some (kb [x]) }) p0 0 [y] = P') :
    Calls Try.prog 26 #[.pointer (some ⟨b, 0, none⟩), .slice (some ⟨W.heap.size, 0, none⟩) 1 1, .slice (some ⟨W.heap.size + 1, 0, none⟩) 1 1, .int .u64 0] (mk0 (mk1 W x) y) fun en w' => en = .returned (.int .i64 0) ∧ ∃ g, Lru w' B b mb cb e 1 1 (L' g) P' ∧ Below B W w' := by
  have hb1 := mk1_below W x
  have hb2 := mk0_below (mk1 W x) y
  have hs1 := mk1_size W x
  have hs2 := mk0_size (mk1 W x) y
  have hb := hb1.trans (hb2.mono hb1.size)
  have hh := h.below hb
  have hk := (krow_mark W x hx).below (hb2.mono (by omega))
  have hd := rd_mark (mk1 W x) [y] 1 rfl (0, 0)
  rw [hs1] at hd
  have hlt := h.lt
  refine (upd_new B b mb cb e 1 1 L P (some ⟨W.heap.size, 0, none⟩) (some ⟨W.heap.size + 1, 0, none⟩) 1 (W.heap.size + 1) 1 (W.heap.size + 1 + 1) 0 [x] [y] (mk0 (mk1 W x) y) hh hk hd (by omega) (fun ad e2 ho => by injection e2 with e2; subst e2; have := hlt _ ho; simp at this; omega) hf (by omega) (by omega)).mono ?_
  rintro en w' ⟨rfl, g, p, s, q1, q2, q3⟩
  obtain rfl : p0 = p := by rw [h1] at q1; injection q1
  obtain rfl : s0 = s := by rw [h2] at q2; injection q2
  rw [h3 g, h4] at q3
  exact ⟨rfl, g, q3.1, (hb.mono hB).trans (hh.low_ q3 (by omega))⟩
theorem look_ex {B b cb mb e : Nat} {L : List LK} {P : List HS} {W : World} (x n er : Int) (L' : List LK) (h : Lru W B b mb cb e 1 1 L P) (hB : B ≤ W.heap.size) (hx : IsByte x) (he : lookE 1 1 P (kb [x]) = (n, er)) (hl : renL 1 1 L (kb [x]) = L') :
    Calls Try.prog 13 #[.pointer (some ⟨b, 0, none⟩), .slice (some ⟨W.heap.size, 0, none⟩) 1 1] (mk1 W x) fun en w' => en = .returned (.tuple #[.int .i64 n, .int .i64 er]) ∧ Lru w' B b mb cb e 1 1 L' P ∧ Below B W w' := by
  have hb1 := mk1_below W x
  have hs1 := mk1_size W x
  have hh := h.below hb1
  have := lookup_any B b mb cb e 1 1 L P (some ⟨W.heap.size, 0, none⟩) 1 1 (W.heap.size + 1) [x] (mk1 W x) hh (krow_mark W x hx)
  rw [he, hl] at this
  refine this.mono ?_
  rintro en w' ⟨h1, h2⟩
  exact ⟨h1, h2.1, (hb1.mono hB).trans (hh.low_ h2 (by omega))⟩
theorem byte_1 {x : Int} (h : 0 ≤ x ∧ x < 256) : IsByte x := h
theorem hmk1 (w : World) (x : Int) (n : Nat) (hn : n = w.heap.size) : (convert 35 35 (.slice (some ⟨n, 0, none⟩) 1 1)).run Try.prog (w.alloc (.cells #[.int .u8 x] 5)) = .ok (.slice (some ⟨n, 0, none⟩) 1 1) (mk1 w x) := by
  subst hn
  exact Joins.run_convert_bytes_const_at (P := Try.prog) w 35 5 #[.int .u8 x] 1 1 w.heap.size rfl Try.underlying35 Try.underlying5
theorem hmk0 (w : World) (x : Int) : w.alloc (.cells #[.int .u8 x] 5) = mk0 w x := rfl
def exP (A : Option Addr) (c : Nat) (x : Int) (k : Option (List UInt8)) : HS := ⟨A, c, [x], k⟩
theorem ex_new (s : Nat) : zHSs s 1 2 = [exP (some ⟨s + 0, 0, none⟩) 1 0 none, exP (some ⟨s + 1, 0, none⟩) 1 0 none] := rfl
set_option maxRecDepth 100000 in
set_option maxHeartbeats 8000000 in
theorem awake_any (w : World) : Calls Try.prog 7 #[] w fun e w' => e = .returned (.bool true) ∧ Below w.heap.size w w' := by
  go_enter Try.func7, Try.ntmps7
  go_wp2_with fail
  refine (new_yes 2 1 1 w spec_ex (by omega) (by omega) (by omega)).mono ?_
  rintro e w1 ⟨b, mb, cb, eb, s, rfl, ha, hb⟩
  rw [ex_new] at ha
  generalize (some (⟨s + 0, 0, none⟩ : Addr)) = A at ha
  generalize (some (⟨s + 1, 0, none⟩ : Addr)) = A' at ha
  have HA1 := hide ha
  have HB1 := hide hb
  clear ha hb
  have hc1 := hmk1 w1 97 w1.heap.size rfl
  have hz1 := mk1_size w1 97
  have hm1 := hmk0 (mk1 w1 97) 1
  go_wp2_with fail
  refine (upd_ex 97 1 (exP A 1 0 none) (fun g => [⟨g, [97], 0⟩]) [exP A 1 1 (some [97]), exP A' 1 0 none] HA1.out HB1.out.size (byte_1 (by omega)) rfl rfl rfl (fun g => rfl) rfl).mono ?_
  rintro e w2 ⟨rfl, x1, ha, hb⟩
  have HA2 := hide ha
  have HB2 := hide (HB1.out.trans hb)
  clear ha hb hc1 hz1 hm1 HA1 HB1
  have hc1 := hmk1 w2 98 w2.heap.size rfl
  have hz1 := mk1_size w2 98
  have hm1 := hmk0 (mk1 w2 98) 2
  go_wp2_with fail
  refine (upd_ex 98 2 (exP A' 1 0 none) (fun g => [⟨x1, [97], 0⟩, ⟨g, [98], 1⟩]) [exP A 1 1 (some [97]), exP A' 1 2 (some [98])] HA2.out HB2.out.size (byte_1 (by omega)) rfl rfl rfl (fun g => rfl) rfl).mono ?_
  rintro e w3 ⟨rfl, x2, ha, hb⟩
  have HA3 := hide ha
  have HB3 := hide (HB2.out.trans hb)
  clear ha hb hc1 hz1 hm1 HA2 HB2
  have hc1 := hmk1 w3 97 w3.heap.size rfl
  go_wp2_with fail
  refine (look_ex 97 0 0 [⟨x2, [98], 1⟩, ⟨x1, [97], 0⟩] HA3.out HB3.out.size (byte_1 (by omega)) rfl rfl).mono ?_
  rintro e w4 ⟨rfl, ha, hb⟩
  have HA4 := hide ha
  have HB4 := hide (HB3.out.trans hb)
  clear ha hb hc1 HA3 HB3
  have hc1 := hmk1 w4 99 w4.heap.size rfl
  have hz1 := mk1_size w4 99
  have hm1 := hmk0 (mk1 w4 99) 3
  go_wp2_with fail
  refine (upd_ex 99 3 (exP A' 1 2 none) (fun g => [⟨x1, [97], 0⟩, ⟨g, [99], 1⟩]) [exP A 1 1 (some [97]), exP A' 1 3 (some [99])] HA4.out HB4.out.size (byte_1 (by omega)) rfl rfl rfl (fun g => rfl) rfl).mono ?_
  rintro e w5 ⟨rfl, x3, ha, hb⟩
  have HA5 := hide ha
  have HB5 := hide (HB4.out.trans hb)
  clear ha hb hc1 hz1 hm1 HA4 HB4
  have hc1 := hmk1 w5 98 w5.heap.size rfl
  go_wp2_with fail
  refine (look_ex 98 0 6 [⟨x1, [97], 0⟩, ⟨x3, [99], 1⟩] HA5.out HB5.out.size (byte_1 (by omega)) rfl rfl).mono ?_
  rintro e w6 ⟨rfl, ha, hb⟩
  have HA6 := hide ha
  have HB6 := hide (HB5.out.trans hb)
  clear ha hb hc1 HA5 HB5
  have hc1 := hmk1 w6 99 w6.heap.size rfl
  go_wp2_with fail
  refine (look_ex 99 1 0 [⟨x1, [97], 0⟩, ⟨x3, [99], 1⟩] HA6.out HB6.out.size (byte_1 (by omega)) rfl rfl).mono ?_
  rintro e w7 ⟨rfl, ha, hb⟩
  have HB7 := hide (HB6.out.trans hb)
  clear ha hb hc1 HA6 HB6
  go_wp2_with fail
  go_ret
  exact ⟨rfl, HB7.out⟩
end Go.Proofs.Ytihhbpadafgkoaa
