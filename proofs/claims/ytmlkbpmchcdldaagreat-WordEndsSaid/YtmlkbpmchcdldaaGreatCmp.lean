/-
  What 'Test' tells of any comparison, any words.
-/
import Derived.Test.YtmlkbpmchcdldaaGreatOps
import Derived.Test.YtmlkbpmchcdldaaGreatBv
import Derived.WalkLawsBesides
import Derived.Deep.Cut
namespace Go.Proofs.YtmlkbpmchcdldaaGreat
open Go.RowKit Go.Maps
set_option linter.unusedVariables false

theorem law5 : Keyed Tryz.prog 5 := int_keyed Tryz.underlying5
theorem laws5 (op : Int) (h : (Lit.int .u8 op).wf = true) : ∃ l, keyOf Tryz.prog 5 (.int .u8 op) = some l := ⟨_, keyOf_int_mk Tryz.underlying5 h⟩

theorem eqv64 (x y : BitVec 64) : ((x.toNat : Int) == (y.toNat : Int)) = (x == y) := by
  rw [Bool.eq_iff_iff]; simp only [beq_iff_eq]; rw [← BitVec.toNat_inj]; omega
theorem nev64 (x y : BitVec 64) : ((x.toNat : Int) != (y.toNat : Int)) = (x != y) := by
  unfold bne; rw [eqv64]
theorem ltv64 (x y : BitVec 64) : decide ((x.toNat : Int) < (y.toNat : Int)) = x.ult y := by
  rw [BitVec.ult_eq_decide]; exact decide_eq_decide.2 (by omega)
theorem lev64 (x y : BitVec 64) : decide ((x.toNat : Int) ≤ (y.toNat : Int)) = x.ule y := by
  rw [BitVec.ule_eq_decide]; exact decide_eq_decide.2 (by omega)
theorem sltv64 (x y : BitVec 64) : decide (wrap64 (x.toNat : Int) < wrap64 (y.toNat : Int)) = x.slt y := by
  rw [sg64, sg64, BitVec.slt_eq_decide]
theorem slev64 (x y : BitVec 64) : decide (wrap64 (x.toNat : Int) ≤ wrap64 (y.toNat : Int)) = x.sle y := by
  rw [sg64, sg64, BitVec.sle_eq_decide]
theorem setv64 (x y : BitVec 64) : (bits .and .u64 (x.toNat : Int) (y.toNat : Int) != 0) = (x &&& y != 0) := by
  rw [and64]; exact nev64 (x &&& y) 0

set_option maxHeartbeats 400000 in
theorem t88 (a b : Int) (w : World) : Calls Tryz.prog 84 #[.int .u64 a, .int .u64 b] w fun e w' => e = .returned (.bool (a == b)) ∧ w = w' := by
  go_enter Tryz.func84, Tryz.ntmps84
  go_wp2
  go_ret
  exact ⟨rfl, rfl⟩

set_option maxHeartbeats 400000 in
theorem t89 (a b : Int) (w : World) : Calls Tryz.prog 85 #[.int .u64 a, .int .u64 b] w fun e w' => e = .returned (.bool (a != b)) ∧ w = w' := by
  go_enter Tryz.func85, Tryz.ntmps85
  go_wp2
  go_ret
  exact ⟨rfl, rfl⟩

set_option maxHeartbeats 400000 in
theorem t90 (a b : Int) (w : World) : Calls Tryz.prog 86 #[.int .u64 a, .int .u64 b] w fun e w' => e = .returned (.bool (decide (b < a))) ∧ w = w' := by
  go_enter Tryz.func86, Tryz.ntmps86
  go_wp2
  go_ret
  exact ⟨rfl, rfl⟩

set_option maxHeartbeats 400000 in
theorem t91 (a b : Int) (w : World) : Calls Tryz.prog 87 #[.int .u64 a, .int .u64 b] w fun e w' => e = .returned (.bool (decide (b ≤ a))) ∧ w = w' := by
  go_enter Tryz.func87, Tryz.ntmps87
  go_wp2
  go_ret
  exact ⟨rfl, rfl⟩

set_option maxHeartbeats 400000 in
theorem t92 (a b : Int) (w : World) : Calls Tryz.prog 88 #[.int .u64 a, .int .u64 b] w fun e w' => e = .returned (.bool (decide (a < b))) ∧ w = w' := by
  go_enter Tryz.func88, Tryz.ntmps88
  go_wp2
  go_ret
  exact ⟨rfl, rfl⟩

set_option maxHeartbeats 400000 in
theorem t93 (a b : Int) (w : World) : Calls Tryz.prog 89 #[.int .u64 a, .int .u64 b] w fun e w' => e = .returned (.bool (decide (a ≤ b))) ∧ w = w' := by
  go_enter Tryz.func89, Tryz.ntmps89
  go_wp2
  go_ret
  exact ⟨rfl, rfl⟩

set_option maxHeartbeats 400000 in
theorem t94 (a b : Int) (w : World) : Calls Tryz.prog 90 #[.int .u64 a, .int .u64 b] w fun e w' => e = .returned (.bool (decide (wrap64 b < wrap64 a))) ∧ w = w' := by
  go_enter Tryz.func90, Tryz.ntmps90
  go_wp2
  go_ret
  exact ⟨rfl, rfl⟩

set_option maxHeartbeats 400000 in
theorem t95 (a b : Int) (w : World) : Calls Tryz.prog 91 #[.int .u64 a, .int .u64 b] w fun e w' => e = .returned (.bool (decide (wrap64 b ≤ wrap64 a))) ∧ w = w' := by
  go_enter Tryz.func91, Tryz.ntmps91
  go_wp2
  go_ret
  exact ⟨rfl, rfl⟩

set_option maxHeartbeats 400000 in
theorem t96 (a b : Int) (w : World) : Calls Tryz.prog 92 #[.int .u64 a, .int .u64 b] w fun e w' => e = .returned (.bool (decide (wrap64 a < wrap64 b))) ∧ w = w' := by
  go_enter Tryz.func92, Tryz.ntmps92
  go_wp2
  go_ret
  exact ⟨rfl, rfl⟩

set_option maxHeartbeats 400000 in
theorem t97 (a b : Int) (w : World) : Calls Tryz.prog 93 #[.int .u64 a, .int .u64 b] w fun e w' => e = .returned (.bool (decide (wrap64 a ≤ wrap64 b))) ∧ w = w' := by
  go_enter Tryz.func93, Tryz.ntmps93
  go_wp2
  go_ret
  exact ⟨rfl, rfl⟩

set_option maxHeartbeats 400000 in
theorem t98 (a b : Int) (w : World) : Calls Tryz.prog 94 #[.int .u64 a, .int .u64 b] w fun e w' => e = .returned (.bool (bits .and .u64 a b != 0)) ∧ w = w' := by
  go_enter Tryz.func94, Tryz.ntmps94
  go_wp2
  go_ret
  exact ⟨rfl, rfl⟩

/-- What the table of comparisons of words of 64 bits holds. -/
def cmps64 : List (Value × Value) := [(.int .u8 16, .func (.func 84) #[] #[]), (.int .u8 80, .func (.func 85) #[] #[]), (.int .u8 32, .func (.func 86) #[] #[]), (.int .u8 48, .func (.func 87) #[] #[]), (.int .u8 160, .func (.func 88) #[] #[]), (.int .u8 176, .func (.func 89) #[] #[]), (.int .u8 96, .func (.func 90) #[] #[]), (.int .u8 112, .func (.func 91) #[] #[]), (.int .u8 192, .func (.func 92) #[] #[]), (.int .u8 208, .func (.func 93) #[] #[]), (.int .u8 64, .func (.func 94) #[] #[])]
def cval64 (b : Nat) : Nat → Value
  | 0 => .map (some b)
  | 1 => undef
  | 2 => undef
  | 3 => undef
  | 4 => undef
  | 5 => undef
  | 6 => undef
  | 7 => undef
  | 8 => undef
  | 9 => undef
  | 10 => undef
  | 11 => undef
  | 12 => .map (some b)
  | 13 => .map (some b)
  | _ => undef
def cins64 : Nat → Option (Value × Value)
  | 1 => some (.int .u8 16, .func (.func 84) #[] #[])
  | 2 => some (.int .u8 80, .func (.func 85) #[] #[])
  | 3 => some (.int .u8 32, .func (.func 86) #[] #[])
  | 4 => some (.int .u8 48, .func (.func 87) #[] #[])
  | 5 => some (.int .u8 160, .func (.func 88) #[] #[])
  | 6 => some (.int .u8 176, .func (.func 89) #[] #[])
  | 7 => some (.int .u8 96, .func (.func 90) #[] #[])
  | 8 => some (.int .u8 112, .func (.func 91) #[] #[])
  | 9 => some (.int .u8 192, .func (.func 92) #[] #[])
  | 10 => some (.int .u8 208, .func (.func 93) #[] #[])
  | 11 => some (.int .u8 64, .func (.func 94) #[] #[])
  | _ => none
theorem cins64_cases {i : Nat} {q : Value × Value} (h : cins64 i = some q) : i = 1 ∨ i = 2 ∨ i = 3 ∨ i = 4 ∨ i = 5 ∨ i = 6 ∨ i = 7 ∨ i = 8 ∨ i = 9 ∨ i = 10 ∨ i = 11 := by
  unfold cins64 at h
  split at h <;> first | (cases h; done) | simp
theorem cins64_inj (i j : Nat) (x y : Value × Value) (hi : cins64 i = some x) (hj : cins64 j = some y) (h : x.1 = y.1) : i = j := by
  rcases cins64_cases hi with rfl | rfl | rfl | rfl | rfl | rfl | rfl | rfl | rfl | rfl | rfl <;> (cases hi; rcases cins64_cases hj with rfl | rfl | rfl | rfl | rfl | rfl | rfl | rfl | rfl | rfl | rfl <;> (cases hj; first | rfl | (exfalso; simp at h)))
theorem cins64_key (i : Nat) (x : Value × Value) (hi : cins64 i = some x) : ∃ l, keyOf Tryz.prog 5 x.1 = some l := by
  rcases cins64_cases hi with rfl | rfl | rfl | rfl | rfl | rfl | rfl | rfl | rfl | rfl | rfl <;> (cases hi; exact laws5 _ (by decide))
theorem cmps64_key (q : Value × Value) (hq : q ∈ cmps64) : ∃ l, keyOf Tryz.prog 5 q.1 = some l := by
  simp only [cmps64, List.mem_cons, List.not_mem_nil, or_false] at hq
  rcases hq with rfl | rfl | rfl | rfl | rfl | rfl | rfl | rfl | rfl | rfl | rfl <;> exact laws5 _ (by decide)

set_option maxHeartbeats 1000000 in
theorem cmake64 (w : World) : Calls Tryz.prog 37 #[] w fun e w' => ∃ (bm : Nat) (es : Array MapEntry) (clock : Nat), e = .returned (.map (some bm)) ∧ Below w.heap.size w w' ∧ (w'.heap[bm]? = some (.map es clock) ∧ HasJust es cmps64) := by
  go_enter Tryz.func37, Tryz.ntmps37
  go_upto_region 1 with (fail)
  refine wp_mapText law5 Tryz.underlying63 (by kernel_rfl) w.heap.size rfl (cval64 w.heap.size) cins64 (by decide) (by kernel_rfl) (by kernel_rfl) (by kernel_rfl) (by kernel_rfl) cins64_key cins64_inj ?_ ?_
  · intro i o a ho hold hnew
    have hi : i < 14 := (Array.getElem?_eq_some_iff.1 ho).1
    have hi' : i = 0 ∨ i = 1 ∨ i = 2 ∨ i = 3 ∨ i = 4 ∨ i = 5 ∨ i = 6 ∨ i = 7 ∨ i = 8 ∨ i = 9 ∨ i = 10 ∨ i = 11 ∨ i = 12 ∨ i = 13 := by omega
    rcases hi' with rfl | rfl | rfl | rfl | rfl | rfl | rfl | rfl | rfl | rfl | rfl | rfl | rfl | rfl
    · cases ho; exact .made rfl rfl rfl rfl
    · cases ho; exact .laid _ _ _ _ _ rfl rfl (hnew 0 _ 1 rfl rfl rfl) rfl rfl rfl rfl
    · cases ho; exact .laid _ _ _ _ _ rfl rfl (hnew 0 _ 1 rfl rfl rfl) rfl rfl rfl rfl
    · cases ho; exact .laid _ _ _ _ _ rfl rfl (hnew 0 _ 1 rfl rfl rfl) rfl rfl rfl rfl
    · cases ho; exact .laid _ _ _ _ _ rfl rfl (hnew 0 _ 1 rfl rfl rfl) rfl rfl rfl rfl
    · cases ho; exact .laid _ _ _ _ _ rfl rfl (hnew 0 _ 1 rfl rfl rfl) rfl rfl rfl rfl
    · cases ho; exact .laid _ _ _ _ _ rfl rfl (hnew 0 _ 1 rfl rfl rfl) rfl rfl rfl rfl
    · cases ho; exact .laid _ _ _ _ _ rfl rfl (hnew 0 _ 1 rfl rfl rfl) rfl rfl rfl rfl
    · cases ho; exact .laid _ _ _ _ _ rfl rfl (hnew 0 _ 1 rfl rfl rfl) rfl rfl rfl rfl
    · cases ho; exact .laid _ _ _ _ _ rfl rfl (hnew 0 _ 1 rfl rfl rfl) rfl rfl rfl rfl
    · cases ho; exact .laid _ _ _ _ _ rfl rfl (hnew 0 _ 1 rfl rfl rfl) rfl rfl rfl rfl
    · cases ho; exact .laid _ _ _ _ _ rfl rfl (hnew 0 _ 1 rfl rfl rfl) rfl rfl rfl rfl
    · cases ho; have h1 := hnew 0 _ 1 rfl rfl rfl; exact .told (by decide) rfl (fun W => by simp [execOp, go_sem, Act.eval, h1]; rfl)
    · cases ho; have h1 := hnew 12 _ 2 rfl rfl rfl; exact .told (by decide) rfl (fun W => by simp [execOp, go_sem, Act.eval, h1]; rfl)

  · intro a es clock hd hs hold hnew hj
    rename_i hK
    refine hK _ _ ?_
    have hj' : HasJust es cmps64 := hj
    clear hj hK
    have ha : a = ⟨(#[.map (some w.heap.size), .map (some w.heap.size), .map (some w.heap.size)] : Array Value), []⟩ := act_lit hd hs (fun t ht => by
      have ht' : t = 0 ∨ t = 1 ∨ t = 2 := by
        have : t < 3 := ht
        omega
      rcases ht' with rfl | rfl | rfl
      · exact hnew 13 _ 0 rfl rfl
      · exact hnew 0 _ 1 rfl rfl
      · exact hnew 12 _ 2 rfl rfl)
    clear hd hs hold hnew
    subst ha
    go_wp2
    go_ret
    exact ⟨_, es, clock, rfl, (Below.refl _ _).alloc (Nat.le_refl _) _, (MapKept.heap_alloc w _).1, hj'⟩

set_option maxRecDepth 100000 in
set_option maxHeartbeats 400000 in
theorem ctell64_hit (op a b : Int) (r : Bool) (bm : Nat) (F : FuncId) (w : World)
    (hlook : (Instr.lookup 63 (.map (some bm)) (.int .u8 op) true).run Tryz.prog w = .ok (.tuple #[.func (.func F) #[] #[], .bool true]) w)
    (hF : ∀ (args : Array Value) (W : World), (callFunc F args).run Tryz.prog W = .ok (.enter F args) W)
    (hcall : Calls Tryz.prog F #[.int .u64 a, .int .u64 b] w fun e w' => e = .returned (.bool r) ∧ w = w') :
    Calls Tryz.prog 38 #[.map (some bm), .int .u8 op, .int .u64 a, .int .u64 b] w fun e w' => e = .returned (.tuple #[.bool r, .bool true]) ∧ w = w' := by
  have HC := put_by hcall
  clear hcall
  go_enter Tryz.func38, Tryz.ntmps38
  go_wp2_with (refine HC.out.mono ?_; rintro e w' ⟨rfl, rfl⟩)
  go_ret2
  exact ⟨rfl, rfl⟩
set_option maxHeartbeats 400000 in
theorem ctell64_miss (op a b : Int) (bm : Nat) (w : World)
    (hlook : (Instr.lookup 63 (.map (some bm)) (.int .u8 op) true).run Tryz.prog w = .ok (.tuple #[.nilFunc, .bool false]) w) :
    Calls Tryz.prog 38 #[.map (some bm), .int .u8 op, .int .u64 a, .int .u64 b] w fun e w' => e = .returned (.tuple #[.bool false, .bool false]) ∧ w = w' := by
  go_enter Tryz.func38, Tryz.ntmps38
  go_wp2_with (fail)
  go_ret2
  exact ⟨rfl, rfl⟩

/-- The comparisons of words of 64 bits. -/
def tests64 : List (Int × (BitVec 64 → BitVec 64 → Bool)) := [(16, fun x y => x == y), (80, fun x y => x != y), (32, fun x y => y.ult x), (48, fun x y => y.ule x), (160, fun x y => x.ult y), (176, fun x y => x.ule y), (96, fun x y => y.slt x), (112, fun x y => y.sle x), (192, fun x y => x.slt y), (208, fun x y => x.sle y), (64, fun x y => x &&& y != 0)]
/-- What 'Test' tells of them. -/
def test64 (op : Int) (x y : BitVec 64) : Bool × Bool :=
  match tests64.find? (fun q => q.1 == op) with
  | some q => (q.2 x y, true)
  | none => (false, false)

theorem ctell64_any (op : Int) (h1 : (Lit.int .u8 op).wf = true) (x y : BitVec 64) (bm : Nat) (w : World) (es : Array MapEntry) (clock : Nat) (hb : w.heap[bm]? = some (.map es clock)) (hj : HasJust es cmps64) :
    Calls Tryz.prog 38 #[.map (some bm), .int .u8 op, .int .u64 x.toNat, .int .u64 y.toNat] w fun e w' => e = .returned (.tuple #[.bool (test64 op x y).1, .bool (test64 op x y).2]) ∧ w = w' := by
  unfold test64
  obtain ⟨kl, hkl⟩ := laws5 op h1
  cases hf : tests64.find? (fun q => q.1 == op) with
  | some q =>
    obtain ⟨k, f⟩ := q
    have hk : k = op := by simpa using List.find?_some hf
    have hm : (op, f) ∈ tests64 := hk ▸ List.mem_of_find?_eq_some hf
    simp only [tests64, List.mem_cons, List.not_mem_nil, or_false, Prod.mk.injEq] at hm
    clear hf hk
    rcases hm with ⟨rfl, rfl⟩ | ⟨rfl, rfl⟩ | ⟨rfl, rfl⟩ | ⟨rfl, rfl⟩ | ⟨rfl, rfl⟩ | ⟨rfl, rfl⟩ | ⟨rfl, rfl⟩ | ⟨rfl, rfl⟩ | ⟨rfl, rfl⟩ | ⟨rfl, rfl⟩ | ⟨rfl, rfl⟩
    · refine ctell64_hit 16 _ _ _ bm 84 w (run_look_there law5 Tryz.underlying63 hb hj cmps64_key hkl (by simp [cmps64]) (fun v hv => by simpa [cmps64] using hv)) (fun args W => by kernel_rfl) ?_
      simp only []
      rw [← eqv64]; exact t88 _ _ _
    · refine ctell64_hit 80 _ _ _ bm 85 w (run_look_there law5 Tryz.underlying63 hb hj cmps64_key hkl (by simp [cmps64]) (fun v hv => by simpa [cmps64] using hv)) (fun args W => by kernel_rfl) ?_
      simp only []
      rw [← nev64]; exact t89 _ _ _
    · refine ctell64_hit 32 _ _ _ bm 86 w (run_look_there law5 Tryz.underlying63 hb hj cmps64_key hkl (by simp [cmps64]) (fun v hv => by simpa [cmps64] using hv)) (fun args W => by kernel_rfl) ?_
      simp only []
      rw [← ltv64]; exact t90 _ _ _
    · refine ctell64_hit 48 _ _ _ bm 87 w (run_look_there law5 Tryz.underlying63 hb hj cmps64_key hkl (by simp [cmps64]) (fun v hv => by simpa [cmps64] using hv)) (fun args W => by kernel_rfl) ?_
      simp only []
      rw [← lev64]; exact t91 _ _ _
    · refine ctell64_hit 160 _ _ _ bm 88 w (run_look_there law5 Tryz.underlying63 hb hj cmps64_key hkl (by simp [cmps64]) (fun v hv => by simpa [cmps64] using hv)) (fun args W => by kernel_rfl) ?_
      simp only []
      rw [← ltv64]; exact t92 _ _ _
    · refine ctell64_hit 176 _ _ _ bm 89 w (run_look_there law5 Tryz.underlying63 hb hj cmps64_key hkl (by simp [cmps64]) (fun v hv => by simpa [cmps64] using hv)) (fun args W => by kernel_rfl) ?_
      simp only []
      rw [← lev64]; exact t93 _ _ _
    · refine ctell64_hit 96 _ _ _ bm 90 w (run_look_there law5 Tryz.underlying63 hb hj cmps64_key hkl (by simp [cmps64]) (fun v hv => by simpa [cmps64] using hv)) (fun args W => by kernel_rfl) ?_
      simp only []
      rw [← sltv64]; exact t94 _ _ _
    · refine ctell64_hit 112 _ _ _ bm 91 w (run_look_there law5 Tryz.underlying63 hb hj cmps64_key hkl (by simp [cmps64]) (fun v hv => by simpa [cmps64] using hv)) (fun args W => by kernel_rfl) ?_
      simp only []
      rw [← slev64]; exact t95 _ _ _
    · refine ctell64_hit 192 _ _ _ bm 92 w (run_look_there law5 Tryz.underlying63 hb hj cmps64_key hkl (by simp [cmps64]) (fun v hv => by simpa [cmps64] using hv)) (fun args W => by kernel_rfl) ?_
      simp only []
      rw [← sltv64]; exact t96 _ _ _
    · refine ctell64_hit 208 _ _ _ bm 93 w (run_look_there law5 Tryz.underlying63 hb hj cmps64_key hkl (by simp [cmps64]) (fun v hv => by simpa [cmps64] using hv)) (fun args W => by kernel_rfl) ?_
      simp only []
      rw [← slev64]; exact t97 _ _ _
    · refine ctell64_hit 64 _ _ _ bm 94 w (run_look_there law5 Tryz.underlying63 hb hj cmps64_key hkl (by simp [cmps64]) (fun v hv => by simpa [cmps64] using hv)) (fun args W => by kernel_rfl) ?_
      simp only []
      rw [← setv64]; exact t98 _ _ _
  | none =>
    have hn : ∀ q ∈ tests64, q.1 ≠ op := fun q hq => by simpa using List.find?_eq_none.1 hf q hq
    refine ctell64_miss op _ _ bm w (run_look_none law5 Tryz.underlying63 hb hj cmps64_key hkl (fun q hq => ?_) (by kernel_rfl))
    simp only [tests64, List.mem_cons, List.not_mem_nil, or_false, forall_eq_or_imp, forall_eq, ne_eq] at hn
    simp only [cmps64, List.mem_cons, List.not_mem_nil, or_false] at hq
    rcases hq with rfl | rfl | rfl | rfl | rfl | rfl | rfl | rfl | rfl | rfl | rfl <;> (intro h; simp at h; omega)

set_option maxHeartbeats 400000 in
theorem compare64_any (op : Int) (h1 : (Lit.int .u8 op).wf = true) (x y : BitVec 64) (w : World) :
    Calls Tryz.prog 25 #[.int .u8 op, .int .u64 x.toNat, .int .u64 y.toNat] w fun e w' => e = .returned (.tuple #[.bool (test64 op x y).1, .bool (test64 op x y).2]) ∧ Below w.heap.size w w' := by
  have HC := put_by (ctell64_any op h1 x y)
  generalize test64 op x y = r at HC ⊢
  go_enter Tryz.func25, Tryz.ntmps25
  go_wp2_with (first
    | (go_at_call 37; refine (cmake64 _).mono ?_; rintro e w1 ⟨bm, es, clock, rfl, hb, hh⟩; have HB := put_by hb; have HH := put_by hh; clear hb hh)
    | (go_at_call 38; refine (HC.out _ _ _ _ HH.out.1 HH.out.2).mono ?_; rintro e w' ⟨rfl, rfl⟩))
  go_ret2
  exact ⟨rfl, HB.out⟩

theorem eqv32 (x y : BitVec 32) : ((x.toNat : Int) == (y.toNat : Int)) = (x == y) := by
  rw [Bool.eq_iff_iff]; simp only [beq_iff_eq]; rw [← BitVec.toNat_inj]; omega
theorem nev32 (x y : BitVec 32) : ((x.toNat : Int) != (y.toNat : Int)) = (x != y) := by
  unfold bne; rw [eqv32]
theorem ltv32 (x y : BitVec 32) : decide ((x.toNat : Int) < (y.toNat : Int)) = x.ult y := by
  rw [BitVec.ult_eq_decide]; exact decide_eq_decide.2 (by omega)
theorem lev32 (x y : BitVec 32) : decide ((x.toNat : Int) ≤ (y.toNat : Int)) = x.ule y := by
  rw [BitVec.ule_eq_decide]; exact decide_eq_decide.2 (by omega)
theorem sltv32 (x y : BitVec 32) : decide (wrap32 (x.toNat : Int) < wrap32 (y.toNat : Int)) = x.slt y := by
  rw [sg32, sg32, BitVec.slt_eq_decide]
theorem slev32 (x y : BitVec 32) : decide (wrap32 (x.toNat : Int) ≤ wrap32 (y.toNat : Int)) = x.sle y := by
  rw [sg32, sg32, BitVec.sle_eq_decide]
theorem setv32 (x y : BitVec 32) : (bits .and .u32 (x.toNat : Int) (y.toNat : Int) != 0) = (x &&& y != 0) := by
  rw [and32]; exact nev32 (x &&& y) 0

set_option maxHeartbeats 400000 in
theorem t99 (a b : Int) (w : World) : Calls Tryz.prog 95 #[.int .u32 a, .int .u32 b] w fun e w' => e = .returned (.bool (a == b)) ∧ w = w' := by
  go_enter Tryz.func95, Tryz.ntmps95
  go_wp2
  go_ret
  exact ⟨rfl, rfl⟩

set_option maxHeartbeats 400000 in
theorem t100 (a b : Int) (w : World) : Calls Tryz.prog 96 #[.int .u32 a, .int .u32 b] w fun e w' => e = .returned (.bool (a != b)) ∧ w = w' := by
  go_enter Tryz.func96, Tryz.ntmps96
  go_wp2
  go_ret
  exact ⟨rfl, rfl⟩

set_option maxHeartbeats 400000 in
theorem t101 (a b : Int) (w : World) : Calls Tryz.prog 97 #[.int .u32 a, .int .u32 b] w fun e w' => e = .returned (.bool (decide (b < a))) ∧ w = w' := by
  go_enter Tryz.func97, Tryz.ntmps97
  go_wp2
  go_ret
  exact ⟨rfl, rfl⟩

set_option maxHeartbeats 400000 in
theorem t102 (a b : Int) (w : World) : Calls Tryz.prog 98 #[.int .u32 a, .int .u32 b] w fun e w' => e = .returned (.bool (decide (b ≤ a))) ∧ w = w' := by
  go_enter Tryz.func98, Tryz.ntmps98
  go_wp2
  go_ret
  exact ⟨rfl, rfl⟩

set_option maxHeartbeats 400000 in
theorem t103 (a b : Int) (w : World) : Calls Tryz.prog 99 #[.int .u32 a, .int .u32 b] w fun e w' => e = .returned (.bool (decide (a < b))) ∧ w = w' := by
  go_enter Tryz.func99, Tryz.ntmps99
  go_wp2
  go_ret
  exact ⟨rfl, rfl⟩

set_option maxHeartbeats 400000 in
theorem t104 (a b : Int) (w : World) : Calls Tryz.prog 100 #[.int .u32 a, .int .u32 b] w fun e w' => e = .returned (.bool (decide (a ≤ b))) ∧ w = w' := by
  go_enter Tryz.func100, Tryz.ntmps100
  go_wp2
  go_ret
  exact ⟨rfl, rfl⟩

set_option maxHeartbeats 400000 in
theorem t105 (a b : Int) (w : World) : Calls Tryz.prog 101 #[.int .u32 a, .int .u32 b] w fun e w' => e = .returned (.bool (decide (wrap32 b < wrap32 a))) ∧ w = w' := by
  go_enter Tryz.func101, Tryz.ntmps101
  go_wp2
  go_ret
  exact ⟨rfl, rfl⟩

set_option maxHeartbeats 400000 in
theorem t106 (a b : Int) (w : World) : Calls Tryz.prog 102 #[.int .u32 a, .int .u32 b] w fun e w' => e = .returned (.bool (decide (wrap32 b ≤ wrap32 a))) ∧ w = w' := by
  go_enter Tryz.func102, Tryz.ntmps102
  go_wp2
  go_ret
  exact ⟨rfl, rfl⟩

set_option maxHeartbeats 400000 in
theorem t107 (a b : Int) (w : World) : Calls Tryz.prog 103 #[.int .u32 a, .int .u32 b] w fun e w' => e = .returned (.bool (decide (wrap32 a < wrap32 b))) ∧ w = w' := by
  go_enter Tryz.func103, Tryz.ntmps103
  go_wp2
  go_ret
  exact ⟨rfl, rfl⟩

set_option maxHeartbeats 400000 in
theorem t108 (a b : Int) (w : World) : Calls Tryz.prog 104 #[.int .u32 a, .int .u32 b] w fun e w' => e = .returned (.bool (decide (wrap32 a ≤ wrap32 b))) ∧ w = w' := by
  go_enter Tryz.func104, Tryz.ntmps104
  go_wp2
  go_ret
  exact ⟨rfl, rfl⟩

set_option maxHeartbeats 400000 in
theorem t109 (a b : Int) (w : World) : Calls Tryz.prog 105 #[.int .u32 a, .int .u32 b] w fun e w' => e = .returned (.bool (bits .and .u32 a b != 0)) ∧ w = w' := by
  go_enter Tryz.func105, Tryz.ntmps105
  go_wp2
  go_ret
  exact ⟨rfl, rfl⟩

/-- What the table of comparisons of words of 32 bits holds. -/
def cmps32 : List (Value × Value) := [(.int .u8 16, .func (.func 95) #[] #[]), (.int .u8 80, .func (.func 96) #[] #[]), (.int .u8 32, .func (.func 97) #[] #[]), (.int .u8 48, .func (.func 98) #[] #[]), (.int .u8 160, .func (.func 99) #[] #[]), (.int .u8 176, .func (.func 100) #[] #[]), (.int .u8 96, .func (.func 101) #[] #[]), (.int .u8 112, .func (.func 102) #[] #[]), (.int .u8 192, .func (.func 103) #[] #[]), (.int .u8 208, .func (.func 104) #[] #[]), (.int .u8 64, .func (.func 105) #[] #[])]
def cval32 (b : Nat) : Nat → Value
  | 0 => .map (some b)
  | 1 => undef
  | 2 => undef
  | 3 => undef
  | 4 => undef
  | 5 => undef
  | 6 => undef
  | 7 => undef
  | 8 => undef
  | 9 => undef
  | 10 => undef
  | 11 => undef
  | 12 => .map (some b)
  | 13 => .map (some b)
  | _ => undef
def cins32 : Nat → Option (Value × Value)
  | 1 => some (.int .u8 16, .func (.func 95) #[] #[])
  | 2 => some (.int .u8 80, .func (.func 96) #[] #[])
  | 3 => some (.int .u8 32, .func (.func 97) #[] #[])
  | 4 => some (.int .u8 48, .func (.func 98) #[] #[])
  | 5 => some (.int .u8 160, .func (.func 99) #[] #[])
  | 6 => some (.int .u8 176, .func (.func 100) #[] #[])
  | 7 => some (.int .u8 96, .func (.func 101) #[] #[])
  | 8 => some (.int .u8 112, .func (.func 102) #[] #[])
  | 9 => some (.int .u8 192, .func (.func 103) #[] #[])
  | 10 => some (.int .u8 208, .func (.func 104) #[] #[])
  | 11 => some (.int .u8 64, .func (.func 105) #[] #[])
  | _ => none
theorem cins32_cases {i : Nat} {q : Value × Value} (h : cins32 i = some q) : i = 1 ∨ i = 2 ∨ i = 3 ∨ i = 4 ∨ i = 5 ∨ i = 6 ∨ i = 7 ∨ i = 8 ∨ i = 9 ∨ i = 10 ∨ i = 11 := by
  unfold cins32 at h
  split at h <;> first | (cases h; done) | simp
theorem cins32_inj (i j : Nat) (x y : Value × Value) (hi : cins32 i = some x) (hj : cins32 j = some y) (h : x.1 = y.1) : i = j := by
  rcases cins32_cases hi with rfl | rfl | rfl | rfl | rfl | rfl | rfl | rfl | rfl | rfl | rfl <;> (cases hi; rcases cins32_cases hj with rfl | rfl | rfl | rfl | rfl | rfl | rfl | rfl | rfl | rfl | rfl <;> (cases hj; first | rfl | (exfalso; simp at h)))
theorem cins32_key (i : Nat) (x : Value × Value) (hi : cins32 i = some x) : ∃ l, keyOf Tryz.prog 5 x.1 = some l := by
  rcases cins32_cases hi with rfl | rfl | rfl | rfl | rfl | rfl | rfl | rfl | rfl | rfl | rfl <;> (cases hi; exact laws5 _ (by decide))
theorem cmps32_key (q : Value × Value) (hq : q ∈ cmps32) : ∃ l, keyOf Tryz.prog 5 q.1 = some l := by
  simp only [cmps32, List.mem_cons, List.not_mem_nil, or_false] at hq
  rcases hq with rfl | rfl | rfl | rfl | rfl | rfl | rfl | rfl | rfl | rfl | rfl <;> exact laws5 _ (by decide)

set_option maxHeartbeats 1000000 in
theorem cmake32 (w : World) : Calls Tryz.prog 39 #[] w fun e w' => ∃ (bm : Nat) (es : Array MapEntry) (clock : Nat), e = .returned (.map (some bm)) ∧ Below w.heap.size w w' ∧ (w'.heap[bm]? = some (.map es clock) ∧ HasJust es cmps32) := by
  go_enter Tryz.func39, Tryz.ntmps39
  go_upto_region 1 with (fail)
  refine wp_mapText law5 Tryz.underlying66 (by kernel_rfl) w.heap.size rfl (cval32 w.heap.size) cins32 (by decide) (by kernel_rfl) (by kernel_rfl) (by kernel_rfl) (by kernel_rfl) cins32_key cins32_inj ?_ ?_
  · intro i o a ho hold hnew
    have hi : i < 14 := (Array.getElem?_eq_some_iff.1 ho).1
    have hi' : i = 0 ∨ i = 1 ∨ i = 2 ∨ i = 3 ∨ i = 4 ∨ i = 5 ∨ i = 6 ∨ i = 7 ∨ i = 8 ∨ i = 9 ∨ i = 10 ∨ i = 11 ∨ i = 12 ∨ i = 13 := by omega
    rcases hi' with rfl | rfl | rfl | rfl | rfl | rfl | rfl | rfl | rfl | rfl | rfl | rfl | rfl | rfl
    · cases ho; exact .made rfl rfl rfl rfl
    · cases ho; exact .laid _ _ _ _ _ rfl rfl (hnew 0 _ 1 rfl rfl rfl) rfl rfl rfl rfl
    · cases ho; exact .laid _ _ _ _ _ rfl rfl (hnew 0 _ 1 rfl rfl rfl) rfl rfl rfl rfl
    · cases ho; exact .laid _ _ _ _ _ rfl rfl (hnew 0 _ 1 rfl rfl rfl) rfl rfl rfl rfl
    · cases ho; exact .laid _ _ _ _ _ rfl rfl (hnew 0 _ 1 rfl rfl rfl) rfl rfl rfl rfl
    · cases ho; exact .laid _ _ _ _ _ rfl rfl (hnew 0 _ 1 rfl rfl rfl) rfl rfl rfl rfl
    · cases ho; exact .laid _ _ _ _ _ rfl rfl (hnew 0 _ 1 rfl rfl rfl) rfl rfl rfl rfl
    · cases ho; exact .laid _ _ _ _ _ rfl rfl (hnew 0 _ 1 rfl rfl rfl) rfl rfl rfl rfl
    · cases ho; exact .laid _ _ _ _ _ rfl rfl (hnew 0 _ 1 rfl rfl rfl) rfl rfl rfl rfl
    · cases ho; exact .laid _ _ _ _ _ rfl rfl (hnew 0 _ 1 rfl rfl rfl) rfl rfl rfl rfl
    · cases ho; exact .laid _ _ _ _ _ rfl rfl (hnew 0 _ 1 rfl rfl rfl) rfl rfl rfl rfl
    · cases ho; exact .laid _ _ _ _ _ rfl rfl (hnew 0 _ 1 rfl rfl rfl) rfl rfl rfl rfl
    · cases ho; have h1 := hnew 0 _ 1 rfl rfl rfl; exact .told (by decide) rfl (fun W => by simp [execOp, go_sem, Act.eval, h1]; rfl)
    · cases ho; have h1 := hnew 12 _ 2 rfl rfl rfl; exact .told (by decide) rfl (fun W => by simp [execOp, go_sem, Act.eval, h1]; rfl)

  · intro a es clock hd hs hold hnew hj
    rename_i hK
    refine hK _ _ ?_
    have hj' : HasJust es cmps32 := hj
    clear hj hK
    have ha : a = ⟨(#[.map (some w.heap.size), .map (some w.heap.size), .map (some w.heap.size)] : Array Value), []⟩ := act_lit hd hs (fun t ht => by
      have ht' : t = 0 ∨ t = 1 ∨ t = 2 := by
        have : t < 3 := ht
        omega
      rcases ht' with rfl | rfl | rfl
      · exact hnew 13 _ 0 rfl rfl
      · exact hnew 0 _ 1 rfl rfl
      · exact hnew 12 _ 2 rfl rfl)
    clear hd hs hold hnew
    subst ha
    go_wp2
    go_ret
    exact ⟨_, es, clock, rfl, (Below.refl _ _).alloc (Nat.le_refl _) _, (MapKept.heap_alloc w _).1, hj'⟩

set_option maxRecDepth 100000 in
set_option maxHeartbeats 400000 in
theorem ctell32_hit (op a b : Int) (r : Bool) (bm : Nat) (F : FuncId) (w : World)
    (hlook : (Instr.lookup 66 (.map (some bm)) (.int .u8 op) true).run Tryz.prog w = .ok (.tuple #[.func (.func F) #[] #[], .bool true]) w)
    (hF : ∀ (args : Array Value) (W : World), (callFunc F args).run Tryz.prog W = .ok (.enter F args) W)
    (hcall : Calls Tryz.prog F #[.int .u32 a, .int .u32 b] w fun e w' => e = .returned (.bool r) ∧ w = w') :
    Calls Tryz.prog 40 #[.map (some bm), .int .u8 op, .int .u32 a, .int .u32 b] w fun e w' => e = .returned (.tuple #[.bool r, .bool true]) ∧ w = w' := by
  have HC := put_by hcall
  clear hcall
  go_enter Tryz.func40, Tryz.ntmps40
  go_wp2_with (refine HC.out.mono ?_; rintro e w' ⟨rfl, rfl⟩)
  go_ret2
  exact ⟨rfl, rfl⟩
set_option maxHeartbeats 400000 in
theorem ctell32_miss (op a b : Int) (bm : Nat) (w : World)
    (hlook : (Instr.lookup 66 (.map (some bm)) (.int .u8 op) true).run Tryz.prog w = .ok (.tuple #[.nilFunc, .bool false]) w) :
    Calls Tryz.prog 40 #[.map (some bm), .int .u8 op, .int .u32 a, .int .u32 b] w fun e w' => e = .returned (.tuple #[.bool false, .bool false]) ∧ w = w' := by
  go_enter Tryz.func40, Tryz.ntmps40
  go_wp2_with (fail)
  go_ret2
  exact ⟨rfl, rfl⟩

/-- The comparisons of words of 32 bits. -/
def tests32 : List (Int × (BitVec 32 → BitVec 32 → Bool)) := [(16, fun x y => x == y), (80, fun x y => x != y), (32, fun x y => y.ult x), (48, fun x y => y.ule x), (160, fun x y => x.ult y), (176, fun x y => x.ule y), (96, fun x y => y.slt x), (112, fun x y => y.sle x), (192, fun x y => x.slt y), (208, fun x y => x.sle y), (64, fun x y => x &&& y != 0)]
/-- What 'Test' tells of them. -/
def test32 (op : Int) (x y : BitVec 32) : Bool × Bool :=
  match tests32.find? (fun q => q.1 == op) with
  | some q => (q.2 x y, true)
  | none => (false, false)

theorem ctell32_any (op : Int) (h1 : (Lit.int .u8 op).wf = true) (x y : BitVec 32) (bm : Nat) (w : World) (es : Array MapEntry) (clock : Nat) (hb : w.heap[bm]? = some (.map es clock)) (hj : HasJust es cmps32) :
    Calls Tryz.prog 40 #[.map (some bm), .int .u8 op, .int .u32 x.toNat, .int .u32 y.toNat] w fun e w' => e = .returned (.tuple #[.bool (test32 op x y).1, .bool (test32 op x y).2]) ∧ w = w' := by
  unfold test32
  obtain ⟨kl, hkl⟩ := laws5 op h1
  cases hf : tests32.find? (fun q => q.1 == op) with
  | some q =>
    obtain ⟨k, f⟩ := q
    have hk : k = op := by simpa using List.find?_some hf
    have hm : (op, f) ∈ tests32 := hk ▸ List.mem_of_find?_eq_some hf
    simp only [tests32, List.mem_cons, List.not_mem_nil, or_false, Prod.mk.injEq] at hm
    clear hf hk
    rcases hm with ⟨rfl, rfl⟩ | ⟨rfl, rfl⟩ | ⟨rfl, rfl⟩ | ⟨rfl, rfl⟩ | ⟨rfl, rfl⟩ | ⟨rfl, rfl⟩ | ⟨rfl, rfl⟩ | ⟨rfl, rfl⟩ | ⟨rfl, rfl⟩ | ⟨rfl, rfl⟩ | ⟨rfl, rfl⟩
    · refine ctell32_hit 16 _ _ _ bm 95 w (run_look_there law5 Tryz.underlying66 hb hj cmps32_key hkl (by simp [cmps32]) (fun v hv => by simpa [cmps32] using hv)) (fun args W => by kernel_rfl) ?_
      simp only []
      rw [← eqv32]; exact t99 _ _ _
    · refine ctell32_hit 80 _ _ _ bm 96 w (run_look_there law5 Tryz.underlying66 hb hj cmps32_key hkl (by simp [cmps32]) (fun v hv => by simpa [cmps32] using hv)) (fun args W => by kernel_rfl) ?_
      simp only []
      rw [← nev32]; exact t100 _ _ _
    · refine ctell32_hit 32 _ _ _ bm 97 w (run_look_there law5 Tryz.underlying66 hb hj cmps32_key hkl (by simp [cmps32]) (fun v hv => by simpa [cmps32] using hv)) (fun args W => by kernel_rfl) ?_
      simp only []
      rw [← ltv32]; exact t101 _ _ _
    · refine ctell32_hit 48 _ _ _ bm 98 w (run_look_there law5 Tryz.underlying66 hb hj cmps32_key hkl (by simp [cmps32]) (fun v hv => by simpa [cmps32] using hv)) (fun args W => by kernel_rfl) ?_
      simp only []
      rw [← lev32]; exact t102 _ _ _
    · refine ctell32_hit 160 _ _ _ bm 99 w (run_look_there law5 Tryz.underlying66 hb hj cmps32_key hkl (by simp [cmps32]) (fun v hv => by simpa [cmps32] using hv)) (fun args W => by kernel_rfl) ?_
      simp only []
      rw [← ltv32]; exact t103 _ _ _
    · refine ctell32_hit 176 _ _ _ bm 100 w (run_look_there law5 Tryz.underlying66 hb hj cmps32_key hkl (by simp [cmps32]) (fun v hv => by simpa [cmps32] using hv)) (fun args W => by kernel_rfl) ?_
      simp only []
      rw [← lev32]; exact t104 _ _ _
    · refine ctell32_hit 96 _ _ _ bm 101 w (run_look_there law5 Tryz.underlying66 hb hj cmps32_key hkl (by simp [cmps32]) (fun v hv => by simpa [cmps32] using hv)) (fun args W => by kernel_rfl) ?_
      simp only []
      rw [← sltv32]; exact t105 _ _ _
    · refine ctell32_hit 112 _ _ _ bm 102 w (run_look_there law5 Tryz.underlying66 hb hj cmps32_key hkl (by simp [cmps32]) (fun v hv => by simpa [cmps32] using hv)) (fun args W => by kernel_rfl) ?_
      simp only []
      rw [← slev32]; exact t106 _ _ _
    · refine ctell32_hit 192 _ _ _ bm 103 w (run_look_there law5 Tryz.underlying66 hb hj cmps32_key hkl (by simp [cmps32]) (fun v hv => by simpa [cmps32] using hv)) (fun args W => by kernel_rfl) ?_
      simp only []
      rw [← sltv32]; exact t107 _ _ _
    · refine ctell32_hit 208 _ _ _ bm 104 w (run_look_there law5 Tryz.underlying66 hb hj cmps32_key hkl (by simp [cmps32]) (fun v hv => by simpa [cmps32] using hv)) (fun args W => by kernel_rfl) ?_
      simp only []
      rw [← slev32]; exact t108 _ _ _
    · refine ctell32_hit 64 _ _ _ bm 105 w (run_look_there law5 Tryz.underlying66 hb hj cmps32_key hkl (by simp [cmps32]) (fun v hv => by simpa [cmps32] using hv)) (fun args W => by kernel_rfl) ?_
      simp only []
      rw [← setv32]; exact t109 _ _ _
  | none =>
    have hn : ∀ q ∈ tests32, q.1 ≠ op := fun q hq => by simpa using List.find?_eq_none.1 hf q hq
    refine ctell32_miss op _ _ bm w (run_look_none law5 Tryz.underlying66 hb hj cmps32_key hkl (fun q hq => ?_) (by kernel_rfl))
    simp only [tests32, List.mem_cons, List.not_mem_nil, or_false, forall_eq_or_imp, forall_eq, ne_eq] at hn
    simp only [cmps32, List.mem_cons, List.not_mem_nil, or_false] at hq
    rcases hq with rfl | rfl | rfl | rfl | rfl | rfl | rfl | rfl | rfl | rfl | rfl <;> (intro h; simp at h; omega)

set_option maxHeartbeats 400000 in
theorem compare32_any (op : Int) (h1 : (Lit.int .u8 op).wf = true) (x y : BitVec 32) (w : World) :
    Calls Tryz.prog 26 #[.int .u8 op, .int .u32 x.toNat, .int .u32 y.toNat] w fun e w' => e = .returned (.tuple #[.bool (test32 op x y).1, .bool (test32 op x y).2]) ∧ Below w.heap.size w w' := by
  have HC := put_by (ctell32_any op h1 x y)
  generalize test32 op x y = r at HC ⊢
  go_enter Tryz.func26, Tryz.ntmps26
  go_wp2_with (first
    | (go_at_call 39; refine (cmake32 _).mono ?_; rintro e w1 ⟨bm, es, clock, rfl, hb, hh⟩; have HB := put_by hb; have HH := put_by hh; clear hb hh)
    | (go_at_call 40; refine (HC.out _ _ _ _ HH.out.1 HH.out.2).mono ?_; rintro e w' ⟨rfl, rfl⟩))
  go_ret2
  exact ⟨rfl, HB.out⟩

/-- What 'Test' tells. -/
def test (op : Int) (wide : Bool) (x y : BitVec 64) : Bool × Bool := if wide then test64 op x y else test32 op (x.setWidth 32) (y.setWidth 32)

set_option maxHeartbeats 400000 in
theorem test_wide (op : Int) (h1 : (Lit.int .u8 op).wf = true) (x y : BitVec 64) (w : World) :
    Calls Tryz.prog 10 #[.int .u8 op, .bool true, .int .u64 x.toNat, .int .u64 y.toNat] w fun e w' => e = .returned (.tuple #[.bool (test op true x y).1, .bool (test op true x y).2]) ∧ Below w.heap.size w w' := by
  unfold test
  rw [if_pos rfl]
  have HC := put_by (compare64_any op h1 x y)
  generalize test64 op x y = r at HC ⊢
  go_enter Tryz.func10, Tryz.ntmps10
  go_wp2_with (go_at_call 25; refine (HC.out _).mono ?_; rintro e w' ⟨rfl, hb⟩; have HB := put_by hb; clear hb)
  go_ret2
  exact ⟨rfl, HB.out⟩
set_option maxHeartbeats 400000 in
theorem test_low (op : Int) (h1 : (Lit.int .u8 op).wf = true) (x y : BitVec 64) (w : World) :
    Calls Tryz.prog 10 #[.int .u8 op, .bool false, .int .u64 x.toNat, .int .u64 y.toNat] w fun e w' => e = .returned (.tuple #[.bool (test op false x y).1, .bool (test op false x y).2]) ∧ Below w.heap.size w w' := by
  unfold test
  rw [if_neg (by decide)]
  have HC := compare32_any op h1 (x.setWidth 32) (y.setWidth 32)
  rw [← low32, ← low32] at HC
  have HC := put_by HC
  generalize test32 op (x.setWidth 32) (y.setWidth 32) = r at HC ⊢
  go_enter Tryz.func10, Tryz.ntmps10
  go_wp2_with (go_at_call 26; refine (HC.out _).mono ?_; rintro e w' ⟨rfl, hb⟩; have HB := put_by hb; clear hb)
  go_ret2
  exact ⟨rfl, HB.out⟩
theorem test_any (op : Int) (h1 : (Lit.int .u8 op).wf = true) (wide : Bool) (x y : BitVec 64) (w : World) :
    Calls Tryz.prog 10 #[.int .u8 op, .bool wide, .int .u64 x.toNat, .int .u64 y.toNat] w fun e w' => e = .returned (.tuple #[.bool (test op wide x y).1, .bool (test op wide x y).2]) ∧ Below w.heap.size w w' := by
  cases wide
  · exact test_low op h1 x y w
  · exact test_wide op h1 x y w
end Go.Proofs.YtmlkbpmchcdldaaGreat
