/-
  Set: bytes stand in a value, or the error; called.
-/
import Derived.Test.YtolodcdhpnapmaaGreatHR10
namespace Go.Proofs.YtolodcdhpnapmaaGreat
open Go.RowKit Go.Maps
set_option linter.unusedVariables false

theorem setE_def (len sz : Nat) (i off : Int) (k : Nat) : setE len sz i off k = if hasB len i = true then (if fitsB sz off k = true then 0 else 32) else 6 := rfl
theorem last_below {b : Nat} {n : Int} {w0 W w' : World} (h : SetLast b n (fun w1 => Below W.heap.size W w1) w') (hb : Below w0.heap.size w0 W) (hl : w0.heap.size ≤ b) : Below w0.heap.size w0 w' := by
  obtain ⟨w1, h1, rfl⟩ := h
  exact (hb.trans (h1.mono hb.size)).setCell (p := ⟨b, 0, none⟩) hl _
set_option maxRecDepth 100000 in
set_option maxHeartbeats 1000000 in
theorem setIn_not (p : Option Addr) (q : Nat) (W : World) (h0 : W.cell? ⟨q, 0, none⟩ = some (.pointer p)) (h : NoH p W) :
    Calls Tryz.prog 62 #[.pointer (some ⟨q, 0, none⟩), .pointer (some ⟨q + 1, 0, none⟩), .pointer (some ⟨q + 2, 0, none⟩), .pointer (some ⟨q + 3, 0, none⟩)] W fun e w' => e = .panicked (panicOf 1) ∧ Below W.heap.size W w' := by
  have H := hide (made_no p W h)
  clear h
  go_enter Tryz.func62, Tryz.ntmps62
  go_wp2_with (go_at_call 45; refine H.out.mono ?_; rintro e w' ⟨rfl, rfl⟩)
  exact ⟨rfl, rfl, Below.refl _ _⟩
/-- The four boxes of a call. -/
structure Boxes4 (W : World) (q : Nat) (v0 v1 v2 v3 : Value) (t0 t1 t2 t3 : TypeId) : Prop where
  b0 : Boxed W q t0 v0
  b1 : Boxed W (q + 1) t1 v1
  b2 : Boxed W (q + 2) t2 v2
  b3 : Boxed W (q + 3) t3 v3
theorem Boxes4.below {W W' : World} {q : Nat} {v0 v1 v2 v3 : Value} {t0 t1 t2 t3 : TypeId} (h : Boxes4 W q v0 v1 v2 v3 t0 t1 t2 t3) (hb : Below W.heap.size W W') : Boxes4 W' q v0 v1 v2 v3 t0 t1 t2 t3 :=
  ⟨boxed_below h.b0 hb, boxed_below h.b1 hb, boxed_below h.b2 hb, boxed_below h.b3 hb⟩
theorem boxes4_new (w : World) (v0 v1 v2 v3 : Value) (t0 t1 t2 t3 : TypeId) : Boxes4 ((((w.alloc (.cells #[v0] t0)).alloc (.cells #[v1] t1)).alloc (.cells #[v2] t2)).alloc (.cells #[v3] t3)) w.heap.size v0 v1 v2 v3 t0 t1 t2 t3 ∧
    Below w.heap.size w ((((w.alloc (.cells #[v0] t0)).alloc (.cells #[v1] t1)).alloc (.cells #[v2] t2)).alloc (.cells #[v3] t3)) := by
  obtain ⟨h1, h2, h3⟩ := three_boxes w (.cells #[v0] t0) (.cells #[v1] t1) (.cells #[v2] t2)
  have hb := below1 (((w.alloc (.cells #[v0] t0)).alloc (.cells #[v1] t1)).alloc (.cells #[v2] t2)) (.cells #[v3] t3)
  have h4 := World.alloc_heap_new (((w.alloc (.cells #[v0] t0)).alloc (.cells #[v1] t1)).alloc (.cells #[v2] t2)) (.cells #[v3] t3)
  have hz : (((w.alloc (.cells #[v0] t0)).alloc (.cells #[v1] t1)).alloc (.cells #[v2] t2)).heap.size = w.heap.size + 3 := by simp
  rw [hz] at h4
  have hb3 := below3 w (.cells #[v0] t0) (.cells #[v1] t1) (.cells #[v2] t2)
  exact ⟨⟨boxed_below h1 hb, boxed_below h2 hb, boxed_below h3 hb, h4⟩, hb3.trans (hb.mono hb3.size)⟩
set_option maxRecDepth 100000 in
set_option maxHeartbeats 1000000 in
theorem setIn_no (B b cb mb ks sz q : Nat) (L : List HS) (i off : Int) (S : Option Addr) (k sc : Nat) (W : World) (h : Hsh W B b cb mb ks sz L) (hq : Boxes4 W q (.pointer (some ⟨b, 0, none⟩)) (.int .i64 i) (.int .i64 off) (.slice S k sc) 26 3 3 34)
    (ho : off ≤ 9223372036854775807) (he : setE L.length sz i off k ≠ 0) :
    Calls Tryz.prog 62 #[.pointer (some ⟨q, 0, none⟩), .pointer (some ⟨q + 1, 0, none⟩), .pointer (some ⟨q + 2, 0, none⟩), .pointer (some ⟨q + 3, 0, none⟩)] W fun e w' => e = .panicked (panicOf (setE L.length sz i off k)) ∧ Below W.heap.size W w' := by
  have HM := hide (made_yes b W (by rw [blk_cell h.blk]; rfl))
  have c0 := hq.b0.cell
  have c1 := hq.b1.cell
  have c2 := hq.b2.cell
  have c3 := hq.b3.cell
  rw [setE_def] at he ⊢
  by_cases hi : hasB L.length i = true
  · rw [if_pos hi] at he ⊢
    obtain ⟨j, rfl, hj⟩ : ∃ j : Nat, i = j ∧ j < L.length := by
      simp only [hasB, Bool.and_eq_true, decide_eq_true_eq] at hi
      exact ⟨i.toNat, by omega, by omega⟩
    have hr : L[j]? = some L[j] := List.getElem?_eq_getElem hj
    by_cases hf : fitsB sz off k = true
    · rw [if_pos hf] at he; exact absurd rfl he
    · rw [if_neg hf]
      have HA := hide (at_yes b L.length cb j W.drew h.c4 hj)
      have HT := hide (takes_any cb (j * 2) L[j].A sz L[j].c k off W.drew (h.parts hr) ho (by have := h.big.2; omega))
      rw [show fitsB sz off k = false by simpa using hf] at HT
      clear h hq he hi hf hr
      go_enter Tryz.func62, Tryz.ntmps62
      go_wp2_with (go_at_call 45; refine HM.out.mono ?_; rintro e w' ⟨rfl, rfl⟩)
      refine wp_region_still_tail 4 (by kernel_rfl) (by kernel_rfl) ?_
      simp only [List.take_succ_cons, List.take_zero, List.drop_succ_cons, List.drop_zero]
      repeat still_step
      refine wpStill_nil ?_
      go_wp2_with (first
        | (go_at_call 46; refine HA.out.mono ?_; rintro e w' ⟨rfl, rfl⟩)
        | (go_at_call 63; refine HT.out.mono ?_; rintro e w' ⟨rfl, rfl⟩)
        | (go_at_call 12; ((with_reducible refine (demand_no _ _).mono ?_)); rintro e w' ⟨rfl, rfl⟩))
      exact ⟨rfl, rfl, (Below.refl _ W).drew⟩
  · rw [if_neg hi]
    have HA := hide (at_no b L.length (some ⟨cb, 0, none⟩) i W.drew h.c4 (by simpa using hi))
    clear h hq he hi
    go_enter Tryz.func62, Tryz.ntmps62
    go_wp2_with (go_at_call 45; refine HM.out.mono ?_; rintro e w' ⟨rfl, rfl⟩)
    refine wp_region_still_tail 4 (by kernel_rfl) (by kernel_rfl) ?_
    simp only [List.take_succ_cons, List.take_zero, List.drop_succ_cons, List.drop_zero]
    repeat still_step
    refine wpStill_nil ?_
    go_wp2_with (go_at_call 46; refine HA.out.mono ?_; rintro e w' ⟨rfl, rfl⟩)
    exact ⟨rfl, rfl, (Below.refl _ W).drew⟩
set_option maxRecDepth 100000 in
set_option maxHeartbeats 1000000 in
theorem setIn_yes (B b cb mb ks sz q i off C : Nat) (L : List HS) (r : HS) (S : Option Addr) (k sc : Nat) (d : List Int) (W : World) (h : Hsh W B b cb mb ks sz L) (hq : Boxes4 W q (.pointer (some ⟨b, 0, none⟩)) (.int .i64 i) (.int .i64 off) (.slice S k sc) 26 3 3 34)
    (hr : L[i]? = some r) (hd : Rd W C 1 S k (u8s d)) (hC : C ≤ W.heap.size) (hfit : off + k ≤ sz) :
    Calls Tryz.prog 62 #[.pointer (some ⟨q, 0, none⟩), .pointer (some ⟨q + 1, 0, none⟩), .pointer (some ⟨q + 2, 0, none⟩), .pointer (some ⟨q + 3, 0, none⟩)] W fun e w' => e = .returned (.tuple #[]) ∧ Hsh w' B b cb mb ks sz (putB L i off d) ∧ Kept (fun g => ¬ OfH b cb mb sz L g) W w' := by
  have HM := hide (made_yes b W (by rw [blk_cell h.blk]; rfl))
  have c0 := hq.b0.cell
  have c1 := hq.b1.cell
  have c2 := hq.b2.cell
  have c3 := hq.b3.cell
  have hj := (List.getElem?_eq_some_iff.1 hr).1
  have hbig := h.big.2
  have HA := hide (at_yes b L.length cb i W.drew h.c4 hj)
  have HT := hide (takes_any cb (i * 2) r.A sz r.c k (off : Int) W.drew (h.parts hr) (by omega) (by omega))
  rw [show fitsB sz (off : Int) k = true by simp [fitsB]; omega] at HT
  have hbw := (Below.refl W.heap.size W).drew
  have HP := hide (put_any cb (i * 2) off k r.A S sz r.c sc C r.bs d W.drew (h.parts hr) (owns_kept_below (h.row i r hr) hbw) (hd.below (hbw.mono hC)) hC hfit (by omega))
  have HH := hide (h.below hbw)
  clear h hq hd hbw
  have HR := hide hr
  clear hr
  obtain ⟨rA, rc, rb, rk⟩ := r
  simp only at HT HP
  go_enter Tryz.func62, Tryz.ntmps62
  go_wp2_with (go_at_call 45; refine HM.out.mono ?_; rintro e w' ⟨rfl, rfl⟩)
  refine wp_region_still_tail 4 (by kernel_rfl) (by kernel_rfl) ?_
  simp only [List.take_succ_cons, List.take_zero, List.drop_succ_cons, List.drop_zero]
  repeat still_step
  refine wpStill_nil ?_
  go_wp2_with (first
    | (go_at_call 46; refine HA.out.mono ?_; rintro e w' ⟨rfl, rfl⟩)
    | (go_at_call 63; refine (HT.out).mono ?_; rintro e w' ⟨rfl, rfl⟩)
    | (go_at_call 12; ((with_reducible refine (demand_yes _ _).mono ?_)); rintro e w' ⟨rfl, rfl⟩)
    | (go_at_call 59; refine (HP.out).mono ?_; rintro e w1 ⟨rfl, ho, hk⟩; have HO := hide ho; have HK := hide hk; clear ho hk))
  go_end0
  obtain ⟨h1, h2⟩ := HH.out.put HR.out HO.out HK.out
  exact ⟨rfl, h1, keptTrans ((Kept.refl _ W).drew) h2⟩
/-- A call of a closure over four boxes that ends in a panic: the error is told. -/
theorem tried4_no (F : FuncId) (er : Int) (v0 v1 v2 v3 : Value) (t0 t1 t2 t3 : TypeId) (w : World) (hF : ∀ (args : Array Value) (W : World), (callFunc F args).run Tryz.prog W = .ok (.enter F args) W)
    (h : ∀ W, Below w.heap.size w W → Boxes4 W w.heap.size v0 v1 v2 v3 t0 t1 t2 t3 → Calls Tryz.prog F #[.pointer (some ⟨w.heap.size, 0, none⟩), .pointer (some ⟨w.heap.size + 1, 0, none⟩), .pointer (some ⟨w.heap.size + 2, 0, none⟩), .pointer (some ⟨w.heap.size + 3, 0, none⟩)] W fun e w' => e = .panicked (panicOf er) ∧ Below W.heap.size W w') :
    Calls Tryz.prog 28 #[.func (.func F) #[] #[.pointer (some ⟨w.heap.size, 0, none⟩), .pointer (some ⟨w.heap.size + 1, 0, none⟩), .pointer (some ⟨w.heap.size + 2, 0, none⟩), .pointer (some ⟨w.heap.size + 3, 0, none⟩)]] ((((w.alloc (.cells #[v0] t0)).alloc (.cells #[v1] t1)).alloc (.cells #[v2] t2)).alloc (.cells #[v3] t3)) fun e w' =>
      e = .returned (.int .i64 er) ∧ Below w.heap.size w w' := by
  obtain ⟨hq, hb⟩ := boxes4_new w v0 v1 v2 v3 t0 t1 t2 t3
  have hz : ((((w.alloc (.cells #[v0] t0)).alloc (.cells #[v1] t1)).alloc (.cells #[v2] t2)).alloc (.cells #[v3] t3)).heap.size = w.heap.size + 4 := by simp
  generalize (((w.alloc (.cells #[v0] t0)).alloc (.cells #[v1] t1)).alloc (.cells #[v2] t2)).alloc (.cells #[v3] t3) = W4 at *
  have hb2 := below1 W4 (.cells #[.int .i64 0] 27)
  have hbx : Boxed (W4.alloc (.cells #[.int .i64 0] 27)) W4.heap.size 27 (.int .i64 0) := Boxed.new _ _ _
  refine (tried_no F _ er W4 (fun w1 => Below (W4.alloc (.cells #[.int .i64 0] 27)).heap.size (W4.alloc (.cells #[.int .i64 0] 27)) w1) hF ((h _ (hb.trans (hb2.mono hb.size)) (hq.below hb2)).mono (by rintro e w' ⟨h1, h2⟩; exact ⟨h1, boxed_below hbx h2, h2⟩))).mono ?_
  rintro e w' ⟨rfl, hl⟩
  exact ⟨rfl, last_below hl (hb.trans (hb2.mono hb.size)) (by omega)⟩
/-- One that returns, and has turned an array. -/
theorem tried4_yes (F : FuncId) (B b cb mb ks sz : Nat) (L L' : List HS) (v0 v1 v2 v3 : Value) (t0 t1 t2 t3 : TypeId) (w : World) (hF : ∀ (args : Array Value) (W : World), (callFunc F args).run Tryz.prog W = .ok (.enter F args) W) (ha : Hsh w B b cb mb ks sz L) (hs : ∀ g, OfH b cb mb sz L' g → OfH b cb mb sz L g)
    (h : ∀ W, Below w.heap.size w W → Boxes4 W w.heap.size v0 v1 v2 v3 t0 t1 t2 t3 → Calls Tryz.prog F #[.pointer (some ⟨w.heap.size, 0, none⟩), .pointer (some ⟨w.heap.size + 1, 0, none⟩), .pointer (some ⟨w.heap.size + 2, 0, none⟩), .pointer (some ⟨w.heap.size + 3, 0, none⟩)] W fun e w' =>
      e = .returned (.tuple #[]) ∧ Hsh w' B b cb mb ks sz L' ∧ Kept (fun g => ¬ OfH b cb mb sz L g) W w') :
    Calls Tryz.prog 28 #[.func (.func F) #[] #[.pointer (some ⟨w.heap.size, 0, none⟩), .pointer (some ⟨w.heap.size + 1, 0, none⟩), .pointer (some ⟨w.heap.size + 2, 0, none⟩), .pointer (some ⟨w.heap.size + 3, 0, none⟩)]] ((((w.alloc (.cells #[v0] t0)).alloc (.cells #[v1] t1)).alloc (.cells #[v2] t2)).alloc (.cells #[v3] t3)) fun e w' =>
      e = .returned (.int .i64 0) ∧ Hsh w' B b cb mb ks sz L' ∧ Kept (fun g => ¬ OfH b cb mb sz L g) w w' := by
  obtain ⟨hq, hb⟩ := boxes4_new w v0 v1 v2 v3 t0 t1 t2 t3
  have hz : ((((w.alloc (.cells #[v0] t0)).alloc (.cells #[v1] t1)).alloc (.cells #[v2] t2)).alloc (.cells #[v3] t3)).heap.size = w.heap.size + 4 := by simp
  generalize (((w.alloc (.cells #[v0] t0)).alloc (.cells #[v1] t1)).alloc (.cells #[v2] t2)).alloc (.cells #[v3] t3) = W4 at *
  have hb2 := below1 W4 (.cells #[.int .i64 0] 27)
  have hbx : Boxed (W4.alloc (.cells #[.int .i64 0] 27)) W4.heap.size 27 (.int .i64 0) := Boxed.new _ _ _
  have hlow : ∀ g, OfH b cb mb sz L g → g < w.heap.size := ha.lt
  refine (tried_ok F _ W4 (fun w1 => Hsh w1 B b cb mb ks sz L' ∧ Kept (fun g => ¬ OfH b cb mb sz L g) (W4.alloc (.cells #[.int .i64 0] 27)) w1) hF ((h _ (hb.trans (hb2.mono hb.size)) (hq.below hb2)).mono (by
    rintro e w' ⟨h1, h2, h3⟩
    exact ⟨h1, (h3.block _ hbx.lt (fun ho => by have := hlow _ ho; omega)).trans hbx, h2, h3⟩))).mono ?_
  rintro e w' ⟨rfl, w1, ⟨h2, h3⟩, rfl⟩
  have hk1 : Kept (fun g => g ≠ W4.heap.size) w1 (w1.setCell ⟨W4.heap.size, 0, none⟩ (.int .i64 0)) := (Kept.refl _ w1).setCell (fun _ h => h rfl) _
  refine ⟨rfl, h2.kept hk1 (fun g hg => by have := hlow g (hs g hg); omega), ?_⟩
  have hk0 : Kept (fun g => ¬ OfH b cb mb sz L g) w (W4.alloc (.cells #[.int .i64 0] 27)) := Kept.of_below (hb.trans (hb2.mono hb.size))
  exact (keptTrans hk0 h3).setCell (p := ⟨W4.heap.size, 0, none⟩) (fun hlt => by have : W4.heap.size < w.heap.size := hlt; omega) _
set_option maxRecDepth 100000 in
set_option maxHeartbeats 1000000 in
theorem set_of (p : Option Addr) (i off er : Int) (S : Option Addr) (k sc : Nat) (w : World) (R : World → Prop)
    (h : Calls Tryz.prog 28 #[.func (.func 62) #[] #[.pointer (some ⟨w.heap.size, 0, none⟩), .pointer (some ⟨w.heap.size + 1, 0, none⟩), .pointer (some ⟨w.heap.size + 2, 0, none⟩), .pointer (some ⟨w.heap.size + 3, 0, none⟩)]] ((((w.alloc (.cells #[.pointer p] 26)).alloc (.cells #[.int .i64 i] 3)).alloc (.cells #[.int .i64 off] 3)).alloc (.cells #[.slice S k sc] 34)) fun e w' => e = .returned (.int .i64 er) ∧ R w') :
    Calls Tryz.prog 27 #[.pointer p, .int .i64 i, .int .i64 off, .slice S k sc] w fun e w' => e = .returned (.int .i64 er) ∧ R w' := by
  have hmf : ∀ (fn : Fn) (first cap : Array Value) (w : World), (Instr.makeFunc fn first cap).run Tryz.prog w = .ok (.func fn first cap) w := fun _ _ _ _ => rfl
  have H := hide h
  clear h
  go_enter Tryz.func27, Tryz.ntmps27
  go_wp2_with (go_at_call 28; refine H.out.mono ?_; rintro e w1 ⟨rfl, hl⟩; have HL := hide hl; clear hl)
  go_ret
  exact ⟨rfl, HL.out⟩
theorem hF_set : ∀ (args : Array Value) (W : World), (callFunc 62 args).run Tryz.prog W = .ok (.enter 62 args) W := enters_of Tryz.func62 (by kernel_rfl) rfl
theorem set_not (p : Option Addr) (i off : Int) (S : Option Addr) (k sc : Nat) (w : World) (h : NoH p w) :
    Calls Tryz.prog 27 #[.pointer p, .int .i64 i, .int .i64 off, .slice S k sc] w fun e w' => e = .returned (.int .i64 1) ∧ Below w.heap.size w w' :=
  set_of p i off 1 S k sc w _ (tried4_no _ 1 _ _ _ _ _ _ _ _ w hF_set (fun W hb hq => setIn_not p _ W hq.b0.cell (h.later hb)))
theorem set_no (B b cb mb ks sz : Nat) (L : List HS) (i off : Int) (S : Option Addr) (k sc : Nat) (w : World) (h : Hsh w B b cb mb ks sz L) (ho : off ≤ 9223372036854775807) (he : setE L.length sz i off k ≠ 0) :
    Calls Tryz.prog 27 #[.pointer (some ⟨b, 0, none⟩), .int .i64 i, .int .i64 off, .slice S k sc] w fun e w' => e = .returned (.int .i64 (setE L.length sz i off k)) ∧ Below w.heap.size w w' :=
  set_of _ i off _ S k sc w _ (tried4_no _ _ _ _ _ _ _ _ _ _ w hF_set (fun W hb hq => setIn_no B b cb mb ks sz _ L i off S k sc W (h.below hb) hq ho he))
theorem set_yes (B b cb mb ks sz i off C : Nat) (L : List HS) (r : HS) (S : Option Addr) (k sc : Nat) (d : List Int) (w : World) (h : Hsh w B b cb mb ks sz L) (hr : L[i]? = some r) (hd : Rd w C 1 S k (u8s d)) (hC : C ≤ w.heap.size) (hfit : off + k ≤ sz) :
    Calls Tryz.prog 27 #[.pointer (some ⟨b, 0, none⟩), .int .i64 i, .int .i64 off, .slice S k sc] w fun e w' => e = .returned (.int .i64 0) ∧ Hsh w' B b cb mb ks sz (putB L i off d) ∧ Kept (fun g => ¬ OfH b cb mb sz L g) w w' :=
  set_of _ i off 0 S k sc w _ (tried4_yes _ B b cb mb ks sz L (putB L i off d) _ _ _ _ _ _ _ _ w hF_set h (fun g hg => hg.same (sameA_putB _ _ _ _)) (fun W hb hq => setIn_yes B b cb mb ks sz _ i off C L r S k sc d W (h.below hb) hq hr (hd.below (hb.mono hC)) (Nat.le_trans hC hb.size) hfit))
end Go.Proofs.YtolodcdhpnapmaaGreat
