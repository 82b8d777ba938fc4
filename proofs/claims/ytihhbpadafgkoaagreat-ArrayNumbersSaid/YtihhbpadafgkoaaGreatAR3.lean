/-
  An array that New made, in memory; its small functions.
-/
import Derived.Test.YtihhbpadafgkoaaGreatAR2
namespace Go.Proofs.YtihhbpadafgkoaaGreat
open Go.RowKit
set_option linter.unusedVariables false

structure AR where
  A : Option Addr
  c : Nat
  bs : List Int
def AR.sl (sz : Nat) (r : AR) : Value := .slice r.A sz r.c
/-- The blocks of an array. -/
def OfA (b cb sz : Nat) (L : List AR) (g : Nat) : Prop := g = b ∨ g = cb ∨ ∃ r ∈ L, (r.sl sz).ownBlock = some g
structure Arr (w : World) (B b cb sz : Nat) (L : List AR) : Prop where
  blk : w.heap[b]? = some (.cells #[.pointer (some ⟨b, 0, none⟩), .int .i64 sz, .slice (some ⟨cb, 0, none⟩) L.length L.length] 70 (0, 0))
  cel : w.heap[cb]? = some (.cells (L.map (AR.sl sz)).toArray 145 (0, 0))
  row : ∀ (i : Nat) (r : AR), L[i]? = some r → w.ownsRow 0 5 1 (.slice r.A sz r.c) sz (u8s r.bs)
  low : ∀ g, OfA b cb sz L g → B ≤ g
  sep : ∀ (i j : Nat) (r s : AR), L[i]? = some r → L[j]? = some s → i ≠ j → ∀ g, (r.sl sz).ownBlock = some g → (s.sl sz).ownBlock ≠ some g
  big : 1 ≤ sz ∧ sz ≤ 1024
  many : 1 ≤ L.length ∧ L.length ≤ 1024
theorem Arr.lt {w : World} {B b cb sz : Nat} {L : List AR} (h : Arr w B b cb sz L) : ∀ g, OfA b cb sz L g → g < w.heap.size := by
  rintro g (rfl | rfl | ⟨r, hr, hg⟩)
  · exact at_lt h.blk
  · exact at_lt h.cel
  · obtain ⟨i, hi⟩ := List.mem_iff_getElem?.1 hr
    exact ((h.row i r hi).lt g hg).2
theorem Arr.kept {w w' : World} {B b cb sz : Nat} {L : List AR} {F : Nat → Prop} (h : Arr w B b cb sz L) (hk : Kept F w w') (hF : ∀ g, OfA b cb sz L g → F g) : Arr w' B b cb sz L :=
  ⟨(hk.block b (at_lt h.blk) (hF b (.inl rfl))).trans h.blk, (hk.block cb (at_lt h.cel) (hF cb (.inr (.inl rfl)))).trans h.cel,
    fun i r hi => owns_kept (h.row i r hi) hk (fun g hg => hF g (.inr (.inr ⟨r, List.mem_of_getElem? hi, hg⟩))), h.low, h.sep, h.big, h.many⟩
theorem Arr.below {w w' : World} {B b cb sz : Nat} {L : List AR} (h : Arr w B b cb sz L) (hb : Below w.heap.size w w') : Arr w' B b cb sz L :=
  h.kept (F := fun _ => True) (Kept.of_below hb) (fun _ _ => trivial)
theorem Arr.len {w : World} {B b cb sz : Nat} {L : List AR} (h : Arr w B b cb sz L) {i : Nat} {r : AR} (hr : L[i]? = some r) : r.bs.length = sz := by
  have := (h.row i r hr).1
  simpa [u8s] using this
theorem Arr.size {w : World} {B b cb sz : Nat} {L : List AR} (h : Arr w B b cb sz L) : w.cell? ⟨b, 1, none⟩ = some (.int .i64 sz) := by rw [blk_cell h.blk]; rfl
theorem Arr.cells {w : World} {B b cb sz : Nat} {L : List AR} (h : Arr w B b cb sz L) : w.cell? ⟨b, 2, none⟩ = some (.slice (some ⟨cb, 0, none⟩) L.length L.length) := by rw [blk_cell h.blk]; rfl
theorem Arr.cell {w : World} {B b cb sz : Nat} {L : List AR} (h : Arr w B b cb sz L) {i : Nat} {r : AR} (hr : L[i]? = some r) : w.cell? ⟨cb, i, none⟩ = some (.slice r.A sz r.c) := by
  have := World.cell?_of_block (w := w) (w' := w) (a := ⟨cb, i, none⟩) rfl
  simp [World.cell?, h.cel, hr, AR.sl]

theorem arrInfo : (Tryz.prog.info? 70).isSome = true := by kernel_rfl
theorem eql_same (a : Addr) (w : World) : (binOp .eql 26 (.pointer (some a)) (.pointer (some a))).run Tryz.prog w = .ok (.bool true) w := by
  obtain ⟨j, hj⟩ := Option.isSome_iff_exists.1 arrInfo
  exact run_eql_ptr_same w a Tryz.underlying26 hj
theorem eql_none (a : Addr) (w : World) : (binOp .eql 26 (.pointer none) (.pointer (some a))).run Tryz.prog w = .ok (.bool false) w := by
  have h : ∀ d : Nat, (Op.equalIn (d + 1) 26 (.pointer none) (.pointer (some a))).run Tryz.prog w = .ok false w := fun d => by
    simp [Op.equalIn, run_underlying Tryz.underlying26]
  simp only [binOp]
  simp [Op.equal, Op.maxDepth, h 9999]
set_option maxRecDepth 100000 in
theorem made_yes (b : Nat) (w : World) (h : w.cell? ⟨b, 0, none⟩ = some (.pointer (some ⟨b, 0, none⟩))) :
    Calls Tryz.prog 77 #[.pointer (some ⟨b, 0, none⟩)] w fun e w' => e = .returned (.tuple #[]) ∧ w = w' := by
  have hq := eql_same ⟨b, 0, none⟩ w
  go_enter Tryz.func77, Tryz.ntmps77
  go_wp2_with (go_at_call 28; refine (demand_yes _ _).mono ?_; rintro e w' ⟨rfl, rfl⟩)
  go_end0
  exact ⟨rfl, rfl⟩
theorem made_nil (w : World) : Calls Tryz.prog 77 #[.pointer none] w fun e w' => e = .panicked (panicOf 1) ∧ w = w' := by
  go_enter Tryz.func77, Tryz.ntmps77
  go_wp2_with (go_at_call 28; refine (demand_no _ _).mono ?_; rintro e w' ⟨rfl, rfl⟩)
  exact ⟨rfl, rfl, rfl⟩
set_option maxRecDepth 100000 in
theorem made_zero (b : Nat) (w : World) (h : w.cell? ⟨b, 0, none⟩ = some (.pointer none)) :
    Calls Tryz.prog 77 #[.pointer (some ⟨b, 0, none⟩)] w fun e w' => e = .panicked (panicOf 1) ∧ w = w' := by
  have hq := eql_none ⟨b, 0, none⟩ w
  go_enter Tryz.func77, Tryz.ntmps77
  go_wp2_with (go_at_call 28; refine (demand_no _ _).mono ?_; rintro e w' ⟨rfl, rfl⟩)
  exact ⟨rfl, rfl, rfl⟩
/-- Is there such a place? -/
def hasB (n : Nat) (i : Int) : Bool := decide (0 ≤ i) && decide (i < n)
set_option maxRecDepth 100000 in
theorem has_any (b n : Nat) (A : Option Addr) (i : Int) (w : World) (h : w.cell? ⟨b, 2, none⟩ = some (.slice A n n)) :
    Calls Tryz.prog 83 #[.pointer (some ⟨b, 1, none⟩), .int .i64 i] w fun e w' => e = .returned (.bool (hasB n i)) ∧ w = w' := by
  by_cases h0 : 0 ≤ i
  · by_cases h1 : i < n
    · rw [show hasB n i = true by simp [hasB, h0, h1]]
      go_enter Tryz.func83, Tryz.ntmps83
      go_wp2
      go_ret
      exact ⟨rfl, rfl⟩
    · rw [show hasB n i = false by simp [hasB, h0, h1]]
      have h2 : decide (i < (n : Int)) = false := by simp; omega
      go_enter Tryz.func83, Tryz.ntmps83
      go_wp2
      go_ret
      exact ⟨rfl, rfl⟩
  · rw [show hasB n i = false by simp [hasB, h0]]
    go_enter Tryz.func83, Tryz.ntmps83
    go_wp2
    go_ret
    exact ⟨rfl, rfl⟩
set_option maxRecDepth 100000 in
theorem at_no (b n : Nat) (A : Option Addr) (i : Int) (w : World) (h : w.cell? ⟨b, 2, none⟩ = some (.slice A n n)) (hi : hasB n i = false) :
    Calls Tryz.prog 78 #[.pointer (some ⟨b, 1, none⟩), .int .i64 i] w fun e w' => e = .panicked (panicOf 6) ∧ w = w' := by
  have HH := hide (has_any b n A i w h)
  rw [hi] at HH
  clear h hi
  go_enter Tryz.func78, Tryz.ntmps78
  go_wp2_with (first | (go_at_call 83; refine HH.out.mono ?_; rintro e w' ⟨rfl, rfl⟩) | (go_at_call 28; refine (demand_no _ _).mono ?_; rintro e w' ⟨rfl, rfl⟩))
  exact ⟨rfl, rfl, rfl⟩
set_option maxRecDepth 100000 in
theorem at_yes (b n cb i : Nat) (v : Option Addr × Nat × Nat) (w : World) (h : w.cell? ⟨b, 2, none⟩ = some (.slice (some ⟨cb, 0, none⟩) n n)) (hi : i < n) (hv : w.cell? ⟨cb, i, none⟩ = some (.slice v.1 v.2.1 v.2.2)) :
    Calls Tryz.prog 78 #[.pointer (some ⟨b, 1, none⟩), .int .i64 i] w fun e w' => e = .returned (.slice v.1 v.2.1 v.2.2) ∧ w = w' := by
  have HH := hide (has_any b n (some ⟨cb, 0, none⟩) i w h)
  rw [show hasB n i = true by simp [hasB]; omega] at HH
  obtain ⟨A, m, c⟩ := v
  go_enter Tryz.func78, Tryz.ntmps78
  go_wp2_with (first | (go_at_call 83; refine HH.out.mono ?_; rintro e w' ⟨rfl, rfl⟩) | (go_at_call 28; refine (demand_yes _ _).mono ?_; rintro e w' ⟨rfl, rfl⟩))
  go_ret
  exact ⟨rfl, rfl⟩
/-- May k bytes from off on be set, of as many as there are? -/
def fitsB (n : Nat) (off : Int) (k : Nat) : Bool := decide (0 ≤ off) && decide ((k : Int) ≤ n - off)
set_option maxRecDepth 100000 in
theorem takes_any (A : Option Addr) (n c k : Nat) (off : Int) (w : World) (ho : off ≤ 9223372036854775807) (hn : n ≤ 1000000) :
    Calls Tryz.prog 88 #[.slice A n c, .int .i64 off, .int .i64 k] w fun e w' => e = .returned (.bool (fitsB n off k)) ∧ w = w' := by
  by_cases h0 : 0 ≤ off
  · by_cases h1 : (k : Int) ≤ n - off
    · rw [show fitsB n off k = true by simp [fitsB, h0, h1]]
      go_enter Tryz.func88, Tryz.ntmps88
      go_wp2
      go_ret
      exact ⟨rfl, rfl⟩
    · rw [show fitsB n off k = false by simp [fitsB, h1]]
      go_enter Tryz.func88, Tryz.ntmps88
      go_wp2
      go_ret
      exact ⟨rfl, rfl⟩
  · rw [show fitsB n off k = false by simp [fitsB, h0]]
    go_enter Tryz.func88, Tryz.ntmps88
    go_wp2
    go_ret
    exact ⟨rfl, rfl⟩
section
variable {P : Program}
theorem append_same {t t2 ty e : TypeId} (w : World) (ht : P.underlying t = some (.slice e)) (ht2 : P.underlying t2 = some (.slice e)) (v x : Value) : (Builtin.append_ #[t, t2] ty #[v, x]).run P w = (Builtin.append_ #[t, t] ty #[v, x]).run P w := by
  unfold Builtin.append_
  cases v <;> simp [run_underlying ht, run_underlying ht2]
variable {w : World}
theorem wpList_append_rd2 {ops : Array Oper} {rest : List Oper} {o : Oper} {a : Act} {Q : Exit → Act → World → Prop} (hgd : o.guard = none) (s x : Operand) (t t2 : TypeId)
    (ho : o.op = .call { callee := .builtin .append, args := #[s, x], argTypes := #[t, t2] })
    (e : TypeId) (i : TypeInfo) (z : Value) (sz bytes : Nat) (ht : P.underlying t = some (.slice e)) (ht2 : P.underlying t2 = some (.slice e)) (hi : P.info? e = some i) (hz : i.zero = some z)
    (hsize : i.size = sz) (hby : i.bytes = bytes) (hzs : z.cells.size = sz) (hsz : 0 < sz)
    (v : Value) (n : Nat) (xs : List Value) (hs : a.eval s = v) (hown : w.ownsRow 0 e sz v n xs)
    (B : Nat) (A : Option Addr) (m c : Nat) (news : List Value) (hx : a.eval x = .slice A m c) (hr : Rd w B sz A m news) (hA : A = none → m = 0) (h1 : ∀ u ∈ news, u.oneCell' = true)
    (h63 : n + m ≤ maxLen) (hbytes : (n + m) * bytes ≤ 140737488355328)
    (h : ∀ v' w', Longer w w' e sz v v' (n + m) (xs ++ news) → wpList P ops Q rest (a.put o.dst v') w') : wpList P ops Q (o :: rest) a w := by
  obtain ⟨v', w', hrun, hl⟩ := run_append_rd (P := P) w t o.type e i z sz bytes ht hi hz hsize hby hzs hsz v n xs hown B A m c news hr hA h1 h63 hbytes
  refine wpList_plain hgd fun _ hK => ?_
  unfold Oper.wp execOp
  simp only [ho, resolve, invoke, builtin, Sem.run_bind, Sem.run_pure, Result.andThen_ok, List.map_toArray, List.map_cons, List.map_nil, hs, hx, append_same w ht ht2, hrun]
  exact hK _ _ (h v' w' hl)
end
set_option maxRecDepth 100000 in
theorem told_any (A : Option Addr) (n c B : Nat) (l : List Int) (w : World) (h : Rd w B 1 A n (u8s l)) (hA : A = none → n = 0) (hB : B ≤ w.heap.size) (hn : n ≤ 1000000) :
    Calls Tryz.prog 79 #[.slice A n c] w fun e w' => ∃ x : Option Addr × Nat × Nat, e = .returned (.slice x.1 x.2.1 x.2.2) ∧ OwnB w' w.heap.size (.slice x.1 x.2.1 x.2.2) n l ∧ Below w.heap.size w w' := by
  obtain ⟨i0, hi, hz0, hz1, hz2⟩ := info_parts u8info
  have HA := hide hA
  have HH := hide h
  clear hA h
  go_enter Tryz.func79, Tryz.ntmps79
  go_wp2_with (at_builtin; refine stop_here ?_)
  show Hid _
  refine start_here ?_
  refine wpList_append_rd2 rfl _ _ _ _ rfl 5 i0 _ 1 1 Tryz.underlying34 Tryz.underlying145 hi hz0 hz1 hz2 rfl (by decide) _ 0 [] rfl (owns_nil _ _ _) B A n c (u8s l) rfl HH.out HA.out (u8s_one l) (by unfold maxLen; omega) (by omega) ?_
  intro v w1 hl
  obtain ⟨h1, h2, h3⟩ := longer_new hl
  rw [Nat.zero_add, List.nil_append] at h1
  obtain ⟨A', c', rfl, _⟩ := owns_slice h1
  have H1 := hide h1
  have H2 := hide h2
  have H3 := hide h3
  clear h1 h2 h3 hl
  go_wp2
  go_ret
  exact ⟨(_, _, _), rfl, ⟨H1.out, H2.out⟩, H3.out⟩
set_option maxRecDepth 100000 in
theorem put_any (off q : Nat) (A S : Option Addr) (m c sc B : Nat) (l d : List Int) (w : World) (ho : w.ownsRow 0 5 1 (.slice A m c) m (u8s l)) (hd : Rd w B 1 S q (u8s d)) (hB : B ≤ w.heap.size) (hfit : off + q ≤ m) (hm : m ≤ 1000000) :
    Calls Tryz.prog 85 #[.slice A m c, .int .i64 off, .slice S q sc] w fun e w' => e = .returned (.tuple #[]) ∧ w'.ownsRow 0 5 1 (.slice A m c) m (u8s (splice l off d)) ∧ Kept (fun j => (Value.slice A m c).ownBlock ≠ some j) w w' := by
  obtain ⟨A2, c2, hcut, hg2⟩ := cut_rest (P := Tryz.prog) Tryz.underlying145 u8size ho off (by omega)
  have hcw := hcut w
  have HG2 := hide hg2
  have HO := hide ho
  have HD := hide hd
  clear hcut hg2 ho hd
  go_enter Tryz.func85, Tryz.ntmps85
  go_wp2_with (with_reducible refine stop_copy ?_)
  show Hid _
  refine start_here ?_
  clear hcw
  refine wpList_copy_owns (e := 5) (n := m) (xs := u8s l) rfl (.tmp 8) (.tmp 9) 145 34 rfl Tryz.underlying145 u8size A c HO.out off A2 (m - off) c2 rfl HG2.out B S q sc rfl (u8s d) HD.out (u8s_one d) (by omega) hfit ?_
  intro w4 ho4 hg4 hz4
  have HO4 := hide ho4
  have HG4 := hide hg4
  clear ho4 hg4 hz4
  go_wp2
  go_end0
  refine ⟨rfl, ?_, (Kept.refl _ w).grown HG4.out (fun j e _ h => h e)⟩
  rw [u8s_splice]
  exact HO4.out
end Go.Proofs.YtihhbpadafgkoaaGreat
