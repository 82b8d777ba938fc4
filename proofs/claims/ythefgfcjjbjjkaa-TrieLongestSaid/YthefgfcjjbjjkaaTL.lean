/-
  A trie's small functions; what is told of none.
-/
import Derived.Test.YthefgfcjjbjjkaaTK
namespace Go.Proofs.Ythefgfcjjbjjkaa
open Go.RowKit
set_option linter.unusedVariables false
set_option linter.unusedSimpArgs false

theorem trieInfo : (Try.prog.info? 60).isSome = true := by kernel_rfl
theorem eql_same (a : Addr) (w : World) : (binOp .eql 28 (.pointer (some a)) (.pointer (some a))).run Try.prog w = .ok (.bool true) w := by
  obtain ⟨j, hj⟩ := Option.isSome_iff_exists.1 trieInfo
  exact run_eql_ptr_same w a Try.underlying28 hj
theorem eql_none (a : Addr) (w : World) : (binOp .eql 28 (.pointer none) (.pointer (some a))).run Try.prog w = .ok (.bool false) w := by
  have h : ∀ d : Nat, (Op.equalIn (d + 1) 28 (.pointer none) (.pointer (some a))).run Try.prog w = .ok false w := fun d => by
    simp [Op.equalIn, run_underlying Try.underlying28]
  simp only [binOp]
  simp [Op.equal, Op.maxDepth, h 9999]
set_option maxRecDepth 100000 in
theorem is_yes (b : Nat) (w : World) (h : w.cell? ⟨b, 0, none⟩ = some (.pointer (some ⟨b, 0, none⟩))) :
    Calls Try.prog 46 #[.pointer (some ⟨b, 0, none⟩)] w fun e w' => e = .returned (.bool true) ∧ w = w' := by
  have hq := eql_same ⟨b, 0, none⟩ w
  go_enter Try.func46, Try.ntmps46
  go_wp2
  go_ret
  exact ⟨rfl, rfl⟩
theorem is_nil (w : World) : Calls Try.prog 46 #[.pointer none] w fun e w' => e = .returned (.bool false) ∧ w = w' := by
  go_enter Try.func46, Try.ntmps46
  go_wp2
  go_ret
  exact ⟨rfl, rfl⟩
set_option maxRecDepth 100000 in
theorem is_zero (b : Nat) (w : World) (h : w.cell? ⟨b, 0, none⟩ = some (.pointer none)) :
    Calls Try.prog 46 #[.pointer (some ⟨b, 0, none⟩)] w fun e w' => e = .returned (.bool false) ∧ w = w' := by
  have hq := eql_none ⟨b, 0, none⟩ w
  go_enter Try.func46, Try.ntmps46
  go_wp2
  go_ret
  exact ⟨rfl, rfl⟩
/-- A trie that New did not make. -/
def NoT (p : Option Addr) (w0 : World) : Prop := ∀ W, Below w0.heap.size w0 W → Calls Try.prog 46 #[.pointer p] W fun e w' => e = .returned (.bool false) ∧ W = w'
theorem NoT.later {p : Option Addr} {w W : World} (h : NoT p w) (hb : Below w.heap.size w W) : NoT p W := fun W2 h2 => h W2 (hb.trans (h2.mono hb.size))
theorem noT_nil (w : World) : NoT none w := fun W _ => is_nil W
theorem noT_zero {b : Nat} {w : World} (h : w.cell? ⟨b, 0, none⟩ = some (.pointer none)) : NoT (some ⟨b, 0, none⟩) w := fun W hb => is_zero b W ((hb.cell (p := ⟨b, 0, none⟩) (World.block_lt_of_cell? w _ h)).trans h)
theorem refusal_not (p : Option Addr) (A : Option Addr) (n c : Nat) (w : World) (h : NoT p w) :
    Calls Try.prog 37 #[.pointer p, .slice A n c] w fun e w' => e = .returned (.int .i64 1) ∧ w = w' := by
  have H := hide (h w (Below.refl _ _))
  clear h
  go_enter Try.func37, Try.ntmps37
  go_wp2_with (go_at_call 46; refine H.out.mono ?_; rintro e w' ⟨rfl, rfl⟩)
  go_ret
  exact ⟨rfl, rfl⟩
/-- A key that may be read. -/
structure KR (w : World) (A : Option Addr) (n c : Nat) (k : List Int) : Prop where
  rd : Rd w w.heap.size 1 A n (u8s k)
  le : n ≤ c
  byte : ∀ b ∈ k, IsByte b
theorem KR.below {w w' : World} {A : Option Addr} {n c : Nat} {k : List Int} (h : KR w A n c k) (hb : Below w.heap.size w w') : KR w' A n c k := ⟨(h.rd.below hb).mono hb.size, h.le, h.byte⟩
theorem KR.len {w : World} {A : Option Addr} {n c : Nat} {k : List Int} (h : KR w A n c k) : k.length = n := by have := h.rd.1; simpa [u8s] using this
/-- Why a key may not be asked for. -/
def refE (ks : Nat) (k : List Int) : Int := if k.length = ks ∧ bcN k ≤ 8 * (ks - 4) then 0 else 2
set_option maxRecDepth 100000 in
set_option maxHeartbeats 1000000 in
theorem refusal_any (B : Nat) (t : TP) (P : List PL) (N : List Bool → Nat) (A : Option Addr) (n c : Nat) (k : List Int) (w : World) (h : Tri w B t P N) (hk : KR w A n c k) :
    Calls Try.prog 37 #[.pointer (some ⟨t.tb, 0, none⟩), .slice A n c] w fun en w' => en = .returned (.int .i64 (refE t.ks k)) ∧ w = w' := by
  have HM := hide (is_yes t.tb w ((h.c 0).trans rfl))
  have c1 : w.cell? ⟨t.tb, 1, none⟩ = some (.int .i64 t.ks) := (h.c 1).trans rfl
  have hl := hk.len
  have hkb := h.kbig
  by_cases hn : n = t.ks
  · subst hn
    have HR := hide (right_any A t.ks c w.heap.size k w hk.byte hk.rd (by omega) hk.le (by omega))
    generalize hks : t.ks = n at *
    by_cases hd : bcN k ≤ 8 * (n - 4)
    · have he : refE n k = 0 := by unfold refE; rw [if_pos ⟨hl, hd⟩]
      rw [show decide (bcN k ≤ 8 * (n - 4)) = true by simpa using hd] at HR
      rw [he]
      clear h he hk hd hl hkb hks
      go_enter Try.func37, Try.ntmps37
      go_wp2_with (first
        | (go_at_call 46; refine HM.out.mono ?_; rintro e w' ⟨rfl, rfl⟩)
        | (go_at_call 56; refine HR.out.mono ?_; rintro e w' ⟨rfl, rfl⟩))
      go_ret
      exact ⟨rfl, rfl⟩
    · have he : refE n k = 2 := by unfold refE; rw [if_neg (fun e => hd e.2)]
      rw [show decide (bcN k ≤ 8 * (n - 4)) = false by simpa using hd] at HR
      rw [he]
      clear h he hk hd hl hkb hks
      go_enter Try.func37, Try.ntmps37
      go_wp2_with (first
        | (go_at_call 46; refine HM.out.mono ?_; rintro e w' ⟨rfl, rfl⟩)
        | (go_at_call 56; refine HR.out.mono ?_; rintro e w' ⟨rfl, rfl⟩))
      go_ret
      exact ⟨rfl, rfl⟩
  · have he : refE t.ks k = 2 := by unfold refE; rw [hl, if_neg (fun e => hn e.1)]
    rw [he]
    have hq : ((n : Int) == (t.ks : Int)) = false := by simpa using (fun e => hn (by omega) : ¬ (n : Int) = t.ks)
    have hq2 : ((n : Int) != (t.ks : Int)) = true := by simpa using (fun e => hn (by omega) : ¬ (n : Int) = t.ks)
    clear h he hk
    go_enter Try.func37, Try.ntmps37
    go_wp2_with (go_at_call 46; refine HM.out.mono ?_; rintro e w' ⟨rfl, rfl⟩)
    go_ret
    exact ⟨rfl, rfl⟩
/-- Is there such a place? -/
def hasB (n : Nat) (i : Int) : Bool := decide (0 ≤ i) && decide (i < n)
set_option maxRecDepth 100000 in
theorem has_any (b n : Nat) (A : Option Addr) (i : Int) (w : World) (h : w.cell? ⟨b, 4, none⟩ = some (.slice A n n)) :
    Calls Try.prog 60 #[.pointer (some ⟨b, 3, none⟩), .int .i64 i] w fun e w' => e = .returned (.bool (hasB n i)) ∧ w = w' := by
  by_cases h0 : 0 ≤ i
  · by_cases h1 : i < (n : Int)
    · rw [show hasB n i = true by simp [hasB, h0, h1]]
      go_enter Try.func60, Try.ntmps60
      go_wp2
      go_ret
      exact ⟨rfl, rfl⟩
    · rw [show hasB n i = false by simp [hasB, h1]]
      have h2 : decide (i < (n : Int)) = false := by simpa using h1
      go_enter Try.func60, Try.ntmps60
      go_wp2
      go_ret
      exact ⟨rfl, rfl⟩
  · rw [show hasB n i = false by simp [hasB, h0]]
    have h2 : decide (0 ≤ i) = false := by simpa using h0
    go_enter Try.func60, Try.ntmps60
    go_wp2
    go_ret
    exact ⟨rfl, rfl⟩
section
variable {P : Program}
theorem append_same {t t2 ty e : TypeId} (w : World) (ht : P.underlying t = some (.slice e)) (ht2 : P.underlying t2 = some (.slice e)) (v x : Value) : (Builtin.append_ #[t, t2] ty #[v, x]).run P w = (Builtin.append_ #[t, t] ty #[v, x]).run P w := by
  unfold Builtin.append_
  cases v <;> simp [run_underlying ht, run_underlying ht2]
variable {w : World}
theorem wpList_append_rd2 {ops : Array Oper} {rest : List Oper} {o : Oper} {a : Act} {Q : Exit → Act → World → Prop} (hgd : o.guard = none) (s x : Operand) (t t2 : TypeId)
    (ho : o.op = .call { callee := .builtin .append, args := #[s, x], argTypes := #[t, t2] })
    (e : TypeId) (i : TypeInfo) (z : Value) (sz bytes : Nat) (ht : P.underlying t = some (.slice e)) (ht2 : P.underlying t2 = some (.slice e)) (hi : P.info? e = some i) (hz : i.zero = some z)
    (hsize : i.size = sz) (hby : i.bytes = bytes) (hzs : z.cells.size = sz) (hsz : 0 < sz)
    (v : Value) (n : Nat) (xs : List Value) (hs : a.eval s = v) (hown : w.ownsRow 0 e sz v n xs)
    (B : Nat) (A : Option Addr) (m c : Nat) (news : List Value) (hx : a.eval x = .slice A m c) (hr : Rd w B sz A m news) (hA : A = none → m = 0) (h1 : ∀ u ∈ news, u.oneCell' = true)
    (h63 : n + m ≤ maxLen) (hbytes : (n + m) * bytes ≤ 140737488355328)
    (h : ∀ v' w', Longer w w' e sz v v' (n + m) (xs ++ news) → wpList P ops Q rest (a.put o.dst v') w') : wpList P ops Q (o :: rest) a w := by
  obtain ⟨v', w', hrun, hl⟩ := run_append_rd (P := P) w t o.type e i z sz bytes ht hi hz hsize hby hzs hsz v n xs hown B A m c news hr hA h1 h63 hbytes
  refine wpList_plain hgd fun _ hK => ?_
  unfold Oper.wp execOp
  simp only [ho, resolve, invoke, builtin, Sem.run_bind, Sem.run_pure, Result.andThen_ok, List.map_toArray, List.map_cons, List.map_nil, hs, hx, append_same w ht ht2, hrun]
  exact hK _ _ (h v' w' hl)
end
theorem stop_append {P : Program} {ops : Array Oper} {Q : Exit → Act → World → Prop} {rest : List Oper} {a : Act} {w : World} {dst : Option Tmp} {args : Array Operand} {tys : Array TypeId} {ty : TypeId} {pos : String} {aft : Array Edge} {gd : Option (Nat × Bool)}
    (h : Hid (wpList P ops Q ({ dst := dst, op := .call { callee := .builtin .append, args := args, argTypes := tys }, type := ty, pos := pos, after := aft, guard := gd } :: rest) a w)) : wpList P ops Q ({ dst := dst, op := .call { callee := .builtin .append, args := args, argTypes := tys }, type := ty, pos := pos, after := aft, guard := gd } :: rest) a w := h
theorem owns_empty (w : World) : (w.alloc (.cells #[] 5)).ownsRow 0 5 1 (.slice (some ⟨w.heap.size, 0, none⟩) 0 0) 0 (u8s []) :=
  ⟨rfl, .inr ⟨w.heap.size, 0, #[], rfl, Nat.zero_le _, World.alloc_heap_new w _, Nat.le_refl _, by unfold maxLen; omega, rfl, rfl⟩⟩

theorem eql_nil (g n c : Nat) (w : World) : (binOp .eql 35 (.slice (some ⟨g, 0, none⟩) n c) (.slice none 0 0)).run Try.prog w = .ok (.bool false) w := by
  have h : ∀ d : Nat, (Op.equalIn (d + 1) 35 (.slice (some ⟨g, 0, none⟩) n c) (.slice none 0 0)).run Try.prog w = .ok false w := fun d => by
    simp [Op.equalIn, run_underlying Try.underlying35]
  simp only [binOp]
  simp [Op.equal, Op.maxDepth, h 9999]
set_option maxRecDepth 100000 in
theorem clone_any (A : Option Addr) (n c : Nat) (l : List Int) (w : World) (h : w.ownsRow 0 5 1 (.slice A n c) n (u8s l)) (hn : 1 ≤ n ∧ n ≤ 1024) :
    Calls Try.prog 45 #[.slice A n c] w fun e w' => ∃ x : Option Addr × Nat × Nat, e = .returned (.slice x.1 x.2.1 x.2.2) ∧ OwnB w' w.heap.size (.slice x.1 x.2.1 x.2.2) n l ∧ Below w.heap.size w w' := by
  obtain ⟨i0, hinf, hz0, hz1, hz2⟩ := info_parts u8info
  obtain ⟨g, rfl⟩ : ∃ g, A = some ⟨g, 0, none⟩ := by
    rcases h.2 with ⟨e, h0⟩ | ⟨g, cap, cur, e, _⟩
    · omega
    · injection e with e
      exact ⟨g, e⟩
  have hb1 := below1 w (.cells #[] 5)
  have HO := hide (owns_kept_below h hb1)
  have HE := hide (owns_empty w)
  have HB := hide hb1
  have hq := eql_nil g n c w
  clear h hb1
  go_enter Try.func45, Try.ntmps45
  go_wp2_with (with_reducible refine stop_append ?_)
  show Hid _
  refine start_here ?_
  refine wpList_append_rd2 rfl _ _ _ _ rfl 5 i0 _ 1 1 Try.underlying35 Try.underlying35 hinf hz0 hz1 hz2 rfl (by decide) _ 0 [] rfl HE.out (w.alloc (.cells #[] 5)).heap.size (some ⟨g, 0, none⟩) n c (u8s l) rfl (Rd.of_own HO.out) nofun (u8s_one l) (by unfold maxLen; omega) (by omega) ?_
  intro v w1 hl
  rw [Nat.zero_add, List.nil_append] at hl
  have hv : ∀ g, (Value.slice (some ⟨w.heap.size, 0, none⟩) 0 0).ownBlock = some g → w.heap.size ≤ g := fun g hg => by
    simp [Value.ownBlock] at hg
    omega
  have H1 := hide hl.1
  have H2 := hide (longer_from hl (by simp) hv)
  have H3 := hide (longer_below HB.out (by simp) hv hl)
  obtain ⟨A', c', rfl, _⟩ := owns_slice hl.1
  clear hl hv
  go_wp2
  go_ret
  exact ⟨(_, _, _), rfl, ⟨H1.out, H2.out⟩, H3.out⟩
theorem at_not (p : Option Addr) (i : Int) (w : World) (h : NoT p w) :
    Calls Try.prog 44 #[.pointer p, .int .i64 i] w fun e w' => e = .returned (.tuple #[.slice none 0 0, .int .i64 1]) ∧ w = w' := by
  have H := hide (h w (Below.refl _ _))
  clear h
  go_enter Try.func44, Try.ntmps44
  go_wp2_with (go_at_call 46; refine H.out.mono ?_; rintro e w' ⟨rfl, rfl⟩)
  go_ret2
  exact ⟨rfl, rfl⟩
theorem value_not (p : Option Addr) (i : Int) (w : World) (h : NoT p w) :
    Calls Try.prog 17 #[.pointer p, .int .i64 i] w fun e w' => e = .returned (.tuple #[.slice none 0 0, .int .i64 1]) ∧ w = w' := by
  have H := hide (at_not p i w h)
  clear h
  go_enter Try.func17, Try.ntmps17
  go_wp2_with (go_at_call 44; refine H.out.mono ?_; rintro e w' ⟨rfl, rfl⟩)
  go_ret2
  exact ⟨rfl, rfl⟩
theorem set_not (p : Option Addr) (i off : Int) (S : Option Addr) (k sc : Nat) (w : World) (h : NoT p w) :
    Calls Try.prog 21 #[.pointer p, .int .i64 i, .int .i64 off, .slice S k sc] w fun e w' => e = .returned (.int .i64 1) ∧ w = w' := by
  have H := hide (at_not p i w h)
  clear h
  go_enter Try.func21, Try.ntmps21
  go_wp2_with (go_at_call 44; refine H.out.mono ?_; rintro e w' ⟨rfl, rfl⟩)
  go_ret
  exact ⟨rfl, rfl⟩
theorem del_not (p : Option Addr) (A : Option Addr) (n c : Nat) (w : World) (h : NoT p w) :
    Calls Try.prog 15 #[.pointer p, .slice A n c] w fun e w' => e = .returned (.int .i64 1) ∧ w = w' := by
  have H := hide (refusal_not p A n c w h)
  clear h
  go_enter Try.func15, Try.ntmps15
  go_wp2_with (go_at_call 37; refine H.out.mono ?_; rintro e w' ⟨rfl, rfl⟩)
  go_ret
  exact ⟨rfl, rfl⟩
theorem look_not (p : Option Addr) (A : Option Addr) (n c : Nat) (w : World) (h : NoT p w) :
    Calls Try.prog 13 #[.pointer p, .slice A n c] w fun e w' => e = .returned (.tuple #[.int .i64 0, .int .i64 1]) ∧ w = w' := by
  have H := hide (refusal_not p A n c w h)
  clear h
  go_enter Try.func13, Try.ntmps13
  go_wp2_with (go_at_call 37; refine H.out.mono ?_; rintro e w' ⟨rfl, rfl⟩)
  go_ret2
  exact ⟨rfl, rfl⟩
theorem keys_not (p : Option Addr) (w : World) (h : NoT p w) :
    Calls Try.prog 23 #[.pointer p] w fun e w' => e = .returned (.slice none 0 0) ∧ w = w' := by
  have H := hide (h w (Below.refl _ _))
  clear h
  go_enter Try.func23, Try.ntmps23
  go_wp2_with (go_at_call 46; refine H.out.mono ?_; rintro e w' ⟨rfl, rfl⟩)
  go_ret
  exact ⟨rfl, rfl⟩
set_option maxRecDepth 100000 in
theorem at_no (B : Nat) (t : TP) (P : List PL) (N : List Bool → Nat) (i : Int) (w : World) (h : Tri w B t P N) (hi : hasB t.n i = false) :
    Calls Try.prog 44 #[.pointer (some ⟨t.tb, 0, none⟩), .int .i64 i] w fun en w' => en = .returned (.tuple #[.slice none 0 0, .int .i64 6]) ∧ w = w' := by
  have HM := hide (is_yes t.tb w ((h.c 0).trans rfl))
  have hh := has_any t.tb t.n (some ⟨t.cb, 0, none⟩) i w ((h.c 4).trans rfl)
  rw [hi] at hh
  have HH := hide hh
  clear h hh
  go_enter Try.func44, Try.ntmps44
  go_wp2_with (first
    | (go_at_call 46; refine HM.out.mono ?_; rintro e w' ⟨rfl, rfl⟩)
    | (go_at_call 60; refine HH.out.mono ?_; rintro e w' ⟨rfl, rfl⟩))
  go_ret2
  exact ⟨rfl, rfl⟩
set_option maxRecDepth 100000 in
theorem at_yes (B i : Nat) (t : TP) (P : List PL) (N : List Bool → Nat) (r : PL) (w : World) (h : Tri w B t P N) (hi : P[i]? = some r) :
    Calls Try.prog 44 #[.pointer (some ⟨t.tb, 0, none⟩), .int .i64 i] w fun en w' => en = .returned (.tuple #[.slice (some ⟨r.g, 0, none⟩) t.sz t.sz, .int .i64 0]) ∧ w = w' := by
  have hlt := (List.getElem?_eq_some_iff.1 hi).1
  rw [h.len] at hlt
  have HM := hide (is_yes t.tb w ((h.c 0).trans rfl))
  have hh := has_any t.tb t.n (some ⟨t.cb, 0, none⟩) i w ((h.c 4).trans rfl)
  rw [show hasB t.n (i : Int) = true by simp [hasB]; omega] at hh
  have HH := hide hh
  have c4 : w.cell? ⟨t.tb, 4, none⟩ = some (.slice (some ⟨t.cb, 0, none⟩) t.n t.n) := (h.c 4).trans rfl
  obtain ⟨_, kp, _⟩ := h.at_ hi
  have q0 : (0 : Int) ≤ (i : Int) := by omega
  have q1 : (i : Int) < (t.n : Int) := by omega
  clear h hh hi
  go_enter Try.func44, Try.ntmps44
  go_wp2_with (first
    | (go_at_call 46; refine HM.out.mono ?_; rintro e w' ⟨rfl, rfl⟩)
    | (go_at_call 60; refine HH.out.mono ?_; rintro e w' ⟨rfl, rfl⟩))
  go_ret2
  exact ⟨rfl, rfl⟩
theorem Tri.own {w : World} {B : Nat} {t : TP} {P : List PL} {N : List Bool → Nat} (h : Tri w B t P N) {i : Nat} {r : PL} (hi : P[i]? = some r) : w.ownsRow 0 5 1 (.slice (some ⟨r.g, 0, none⟩) t.sz t.sz) t.sz (u8s r.v) := by
  obtain ⟨h1, h2⟩ := h.row r (List.mem_of_getElem? hi)
  have hb := h.big
  exact ⟨by simp [u8s, h2], .inr ⟨r.g, t.sz, _, rfl, Nat.zero_le _, h1, Nat.le_refl _, by unfold maxLen; omega, by simp [u8s, h2], by rw [List.take_of_length_le (by simp [u8s, h2])]⟩⟩
theorem value_no (B : Nat) (t : TP) (P : List PL) (N : List Bool → Nat) (i : Int) (w : World) (h : Tri w B t P N) (hi : hasB t.n i = false) :
    Calls Try.prog 17 #[.pointer (some ⟨t.tb, 0, none⟩), .int .i64 i] w fun en w' => en = .returned (.tuple #[.slice none 0 0, .int .i64 6]) ∧ w = w' := by
  have H := hide (at_no B t P N i w h hi)
  clear h
  go_enter Try.func17, Try.ntmps17
  go_wp2_with (go_at_call 44; refine H.out.mono ?_; rintro e w' ⟨rfl, rfl⟩)
  go_ret2
  exact ⟨rfl, rfl⟩
def ValTold (sz : Nat) (l : List Int) (w : World) (e : Ending) (w' : World) : Prop := ∃ v, e = .returned (.tuple #[v, .int .i64 0]) ∧ OwnB w' w.heap.size v sz l ∧ Below w.heap.size w w'
set_option maxRecDepth 100000 in
theorem value_yes (B i : Nat) (t : TP) (P : List PL) (N : List Bool → Nat) (r : PL) (w : World) (h : Tri w B t P N) (hi : P[i]? = some r) :
    Calls Try.prog 17 #[.pointer (some ⟨t.tb, 0, none⟩), .int .i64 i] w (ValTold t.sz r.v w) := by
  have H := hide (at_yes B i t P N r w h hi)
  have HC := hide (clone_any (some ⟨r.g, 0, none⟩) t.sz t.sz r.v w (h.own hi) h.big)
  clear h hi
  go_enter Try.func17, Try.ntmps17
  go_wp2_with (first
    | (go_at_call 44; refine H.out.mono ?_; rintro e w' ⟨rfl, rfl⟩)
    | (go_at_call 45; refine HC.out.mono ?_; rintro e w' ⟨x, rfl, ho, hb⟩; have HO := hide ho; have HB := hide hb; clear ho hb))
  go_ret2
  exact ⟨_, rfl, HO.out, HB.out⟩
end Go.Proofs.Ythefgfcjjbjjkaa
