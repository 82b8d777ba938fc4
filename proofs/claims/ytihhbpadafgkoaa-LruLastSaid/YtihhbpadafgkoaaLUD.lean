/-
  Value, Set: the bytes at a place.
-/
import Derived.Test.YtihhbpadafgkoaaLUC
namespace Go.Proofs.Ytihhbpadafgkoaa
open Go.RowKit Go.Maps
set_option linter.unusedVariables false
set_option linter.unusedSimpArgs false

section
variable {P : Program}
theorem append_same {t t2 ty e : TypeId} (w : World) (ht : P.underlying t = some (.slice e)) (ht2 : P.underlying t2 = some (.slice e)) (v x : Value) : (Builtin.append_ #[t, t2] ty #[v, x]).run P w = (Builtin.append_ #[t, t] ty #[v, x]).run P w := by
  unfold Builtin.append_
  cases v <;> simp [run_underlying ht, run_underlying ht2]
variable {w : World}
theorem wpList_append_rd2 {ops : Array Oper} {rest : List Oper} {o : Oper} {a : Act} {Q : Exit → Act → World → Prop} (hgd : o.guard = none) (s x : Operand) (t t2 : TypeId)
    (ho : o.op = .call { callee := .builtin .append, args := #[s, x], argTypes := #[t, t2] })
    (e : TypeId) (i : TypeInfo) (z : Value) (sz bytes : Nat) (ht : P.underlying t = some (.slice e)) (ht2 : P.underlying t2 = some (.slice e)) (hi : P.info? e = some i) (hz : i.zero = some z)
    (hsize : i.size = sz) (hby : i.bytes = bytes) (hzs : z.cells.size = sz) (hsz : 0 < sz)
    (v : Value) (n : Nat) (xs : List Value) (hs : a.eval s = v) (hown : w.ownsRow 0 e sz v n xs)
    (B : Nat) (A : Option Addr) (m c : Nat) (news : List Value) (hx : a.eval x = .slice A m c) (hr : Rd w B sz A m news) (hA : A = none → m = 0) (h1 : ∀ u ∈ news, u.oneCell' = true)
    (h63 : n + m ≤ maxLen) (hbytes : (n + m) * bytes ≤ 140737488355328)
    (h : ∀ v' w', Longer w w' e sz v v' (n + m) (xs ++ news) → wpList P ops Q rest (a.put o.dst v') w') : wpList P ops Q (o :: rest) a w := by
  obtain ⟨v', w', hrun, hl⟩ := run_append_rd (P := P) w t o.type e i z sz bytes ht hi hz hsize hby hzs hsz v n xs hown B A m c news hr hA h1 h63 hbytes
  refine wpList_plain hgd fun _ hK => ?_
  unfold Oper.wp execOp
  simp only [ho, resolve, invoke, builtin, Sem.run_bind, Sem.run_pure, Result.andThen_ok, List.map_toArray, List.map_cons, List.map_nil, hs, hx, append_same w ht ht2, hrun]
  exact hK _ _ (h v' w' hl)
end
theorem stop_append {P : Program} {ops : Array Oper} {Q : Exit → Act → World → Prop} {rest : List Oper} {a : Act} {w : World} {dst : Option Tmp} {args : Array Operand} {tys : Array TypeId} {ty : TypeId} {pos : String} {aft : Array Edge} {gd : Option (Nat × Bool)}
    (h : Hid (wpList P ops Q ({ dst := dst, op := .call { callee := .builtin .append, args := args, argTypes := tys }, type := ty, pos := pos, after := aft, guard := gd } :: rest) a w)) : wpList P ops Q ({ dst := dst, op := .call { callee := .builtin .append, args := args, argTypes := tys }, type := ty, pos := pos, after := aft, guard := gd } :: rest) a w := h
theorem owns_empty (w : World) : (w.alloc (.cells #[] 5)).ownsRow 0 5 1 (.slice (some ⟨w.heap.size, 0, none⟩) 0 0) 0 (u8s []) :=
  ⟨rfl, .inr ⟨w.heap.size, 0, #[], rfl, Nat.zero_le _, World.alloc_heap_new w _, Nat.le_refl _, by unfold maxLen; omega, rfl, rfl⟩⟩

theorem at_not (p : Option Addr) (i : Int) (w : World) (h : NoU p w) :
    Calls Try.prog 41 #[.pointer p, .int .i64 i] w fun e w' => e = .returned (.tuple #[.slice none 0 0, .int .i64 1]) ∧ w = w' := by
  have H := hide (h w (Below.refl _ _))
  clear h
  go_enter Try.func41, Try.ntmps41
  go_wp2_with (go_at_call 43; refine H.out.mono ?_; rintro e w' ⟨rfl, rfl⟩)
  go_ret2
  exact ⟨rfl, rfl⟩
set_option maxRecDepth 100000 in
theorem at_no (B b mb cb e ks sz : Nat) (L : List LK) (P : List HS) (i : Int) (w : World) (h : Lru w B b mb cb e ks sz L P) (hi : hasB P.length i = false) :
    Calls Try.prog 41 #[.pointer (some ⟨b, 0, none⟩), .int .i64 i] w fun en w' => en = .returned (.tuple #[.slice none 0 0, .int .i64 6]) ∧ w = w' := by
  have HM := hide (is_yes b w h.c0)
  have hh := has_any b P.length (some ⟨cb, 0, none⟩) i w h.c5
  rw [hi] at hh
  have HH := hide hh
  clear h hh
  go_enter Try.func41, Try.ntmps41
  go_wp2_with (first
    | (go_at_call 43; refine HM.out.mono ?_; rintro e w' ⟨rfl, rfl⟩)
    | (go_at_call 56; refine HH.out.mono ?_; rintro e w' ⟨rfl, rfl⟩))
  go_ret2
  exact ⟨rfl, rfl⟩
set_option maxRecDepth 100000 in
theorem at_yes (B b mb cb e ks sz i : Nat) (L : List LK) (P : List HS) (r : HS) (w : World) (h : Lru w B b mb cb e ks sz L P) (hi : P[i]? = some r) :
    Calls Try.prog 41 #[.pointer (some ⟨b, 0, none⟩), .int .i64 i] w fun en w' => en = .returned (.tuple #[.slice r.A sz r.c, .int .i64 0]) ∧ w = w' := by
  have hlt := (List.getElem?_eq_some_iff.1 hi).1
  have HM := hide (is_yes b w h.c0)
  have hh := has_any b P.length (some ⟨cb, 0, none⟩) i w h.c5
  rw [show hasB P.length (i : Int) = true by simp [hasB]; omega] at hh
  have HH := hide hh
  have c5 := h.c5
  have kp := h.parts hi
  have q0 : (0 : Int) ≤ (i : Int) := by omega
  have q1 : (i : Int) < (P.length : Int) := by omega
  clear h hh hi
  go_enter Try.func41, Try.ntmps41
  go_wp2_with (first
    | (go_at_call 43; refine HM.out.mono ?_; rintro e w' ⟨rfl, rfl⟩)
    | (go_at_call 56; refine HH.out.mono ?_; rintro e w' ⟨rfl, rfl⟩))
  go_ret2
  exact ⟨rfl, rfl⟩
theorem eql_nil (g n c : Nat) (w : World) : (binOp .eql 35 (.slice (some ⟨g, 0, none⟩) n c) (.slice none 0 0)).run Try.prog w = .ok (.bool false) w := by
  have h : ∀ d : Nat, (Op.equalIn (d + 1) 35 (.slice (some ⟨g, 0, none⟩) n c) (.slice none 0 0)).run Try.prog w = .ok false w := fun d => by
    simp [Op.equalIn, run_underlying Try.underlying35]
  simp only [binOp]
  simp [Op.equal, Op.maxDepth, h 9999]
set_option maxRecDepth 100000 in
theorem clone_any (A : Option Addr) (n c : Nat) (l : List Int) (w : World) (h : w.ownsRow 0 5 1 (.slice A n c) n (u8s l)) (hn : 1 ≤ n ∧ n ≤ 1024) :
    Calls Try.prog 42 #[.slice A n c] w fun e w' => ∃ x : Option Addr × Nat × Nat, e = .returned (.slice x.1 x.2.1 x.2.2) ∧ OwnB w' w.heap.size (.slice x.1 x.2.1 x.2.2) n l ∧ Below w.heap.size w w' := by
  obtain ⟨i0, hinf, hz0, hz1, hz2⟩ := info_parts u8info
  obtain ⟨g, rfl⟩ : ∃ g, A = some ⟨g, 0, none⟩ := by
    rcases h.2 with ⟨e, h0⟩ | ⟨g, cap, cur, e, _⟩
    · omega
    · injection e with e
      exact ⟨g, e⟩
  have hb1 := below1 w (.cells #[] 5)
  have HO := hide (owns_kept_below h hb1)
  have HE := hide (owns_empty w)
  have HB := hide hb1
  have hq := eql_nil g n c w
  clear h hb1
  go_enter Try.func42, Try.ntmps42
  go_wp2_with (with_reducible refine stop_append ?_)
  show Hid _
  refine start_here ?_
  refine wpList_append_rd2 rfl _ _ _ _ rfl 5 i0 _ 1 1 Try.underlying35 Try.underlying35 hinf hz0 hz1 hz2 rfl (by decide) _ 0 [] rfl HE.out (w.alloc (.cells #[] 5)).heap.size (some ⟨g, 0, none⟩) n c (u8s l) rfl (Rd.of_own HO.out) nofun (u8s_one l) (by unfold maxLen; omega) (by omega) ?_
  intro v w1 hl
  rw [Nat.zero_add, List.nil_append] at hl
  have hv : ∀ g, (Value.slice (some ⟨w.heap.size, 0, none⟩) 0 0).ownBlock = some g → w.heap.size ≤ g := fun g hg => by
    simp [Value.ownBlock] at hg
    omega
  have H1 := hide hl.1
  have H2 := hide (longer_from hl (by simp) hv)
  have H3 := hide (longer_below HB.out (by simp) hv hl)
  obtain ⟨A', c', rfl, _⟩ := owns_slice hl.1
  clear hl hv
  go_wp2
  go_ret
  exact ⟨(_, _, _), rfl, ⟨H1.out, H2.out⟩, H3.out⟩
theorem value_not (p : Option Addr) (i : Int) (w : World) (h : NoU p w) :
    Calls Try.prog 17 #[.pointer p, .int .i64 i] w fun e w' => e = .returned (.tuple #[.slice none 0 0, .int .i64 1]) ∧ w = w' := by
  have H := hide (at_not p i w h)
  clear h
  go_enter Try.func17, Try.ntmps17
  go_wp2_with (go_at_call 41; refine H.out.mono ?_; rintro e w' ⟨rfl, rfl⟩)
  go_ret2
  exact ⟨rfl, rfl⟩
set_option maxRecDepth 100000 in
theorem value_no (B b mb cb e ks sz : Nat) (L : List LK) (P : List HS) (i : Int) (w : World) (h : Lru w B b mb cb e ks sz L P) (hi : hasB P.length i = false) :
    Calls Try.prog 17 #[.pointer (some ⟨b, 0, none⟩), .int .i64 i] w fun en w' => en = .returned (.tuple #[.slice none 0 0, .int .i64 6]) ∧ w = w' := by
  have H := hide (at_no B b mb cb e ks sz L P i w h hi)
  clear h
  go_enter Try.func17, Try.ntmps17
  go_wp2_with (go_at_call 41; refine H.out.mono ?_; rintro e w' ⟨rfl, rfl⟩)
  go_ret2
  exact ⟨rfl, rfl⟩
def ValTold (sz : Nat) (l : List Int) (w : World) (e : Ending) (w' : World) : Prop := ∃ v, e = .returned (.tuple #[v, .int .i64 0]) ∧ OwnB w' w.heap.size v sz l ∧ Below w.heap.size w w'
set_option maxRecDepth 100000 in
theorem value_yes (B b mb cb e ks sz i : Nat) (L : List LK) (P : List HS) (r : HS) (w : World) (h : Lru w B b mb cb e ks sz L P) (hi : P[i]? = some r) :
    Calls Try.prog 17 #[.pointer (some ⟨b, 0, none⟩), .int .i64 i] w (ValTold sz r.bs w) := by
  have H := hide (at_yes B b mb cb e ks sz i L P r w h hi)
  have HC := hide (clone_any r.A sz r.c r.bs w (h.row i r hi) h.big)
  clear h hi
  go_enter Try.func17, Try.ntmps17
  go_wp2_with (first
    | (go_at_call 41; refine H.out.mono ?_; rintro e w' ⟨rfl, rfl⟩)
    | (go_at_call 42; refine HC.out.mono ?_; rintro e w' ⟨x, rfl, ho, hb⟩; have HO := hide ho; have HB := hide hb; clear ho hb))
  go_ret2
  exact ⟨_, rfl, HO.out, HB.out⟩
theorem set_not (p : Option Addr) (i off : Int) (S : Option Addr) (k sc : Nat) (w : World) (h : NoU p w) :
    Calls Try.prog 21 #[.pointer p, .int .i64 i, .int .i64 off, .slice S k sc] w fun e w' => e = .returned (.int .i64 1) ∧ w = w' := by
  have H := hide (at_not p i w h)
  clear h
  go_enter Try.func21, Try.ntmps21
  go_wp2_with (go_at_call 41; refine H.out.mono ?_; rintro e w' ⟨rfl, rfl⟩)
  go_ret
  exact ⟨rfl, rfl⟩
theorem del_not (p : Option Addr) (A : Option Addr) (n c : Nat) (w : World) (h : NoU p w) :
    Calls Try.prog 15 #[.pointer p, .slice A n c] w fun e w' => e = .returned (.int .i64 1) ∧ w = w' := by
  have H := hide (find_not p A n c w h)
  clear h
  go_enter Try.func15, Try.ntmps15
  go_wp2_with (go_at_call 35; refine H.out.mono ?_; rintro e w' ⟨rfl, rfl⟩)
  go_ret
  exact ⟨rfl, rfl⟩
theorem look_not (p : Option Addr) (A : Option Addr) (n c : Nat) (w : World) (h : NoU p w) :
    Calls Try.prog 13 #[.pointer p, .slice A n c] w fun e w' => e = .returned (.tuple #[.int .i64 0, .int .i64 1]) ∧ w = w' := by
  have H := hide (find_not p A n c w h)
  clear h
  go_enter Try.func13, Try.ntmps13
  go_wp2_with (go_at_call 35; refine H.out.mono ?_; rintro e w' ⟨rfl, rfl⟩)
  go_ret2
  exact ⟨rfl, rfl⟩
theorem keys_not (p : Option Addr) (w : World) (h : NoU p w) :
    Calls Try.prog 23 #[.pointer p] w fun e w' => e = .returned (.slice none 0 0) ∧ w = w' := by
  have H := hide (h w (Below.refl _ _))
  clear h
  go_enter Try.func23, Try.ntmps23
  go_wp2_with (go_at_call 43; refine H.out.mono ?_; rintro e w' ⟨rfl, rfl⟩)
  go_ret
  exact ⟨rfl, rfl⟩
end Go.Proofs.Ytihhbpadafgkoaa
