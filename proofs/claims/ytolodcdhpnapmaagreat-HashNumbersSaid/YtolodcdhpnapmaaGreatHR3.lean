/-
  A hash that New made, in memory; its small functions.
-/
import Derived.Test.YtolodcdhpnapmaaGreatHR2
import Derived.Test.YtolodcdhpnapmaaGreatHM
namespace Go.Proofs.YtolodcdhpnapmaaGreat
open Go.RowKit Go.Maps
set_option linter.unusedVariables false

/-- The blocks of a hash. -/
def OfH (b cb mb sz : Nat) (L : List HS) (g : Nat) : Prop := g = b ∨ g = cb ∨ g = mb ∨ ∃ r ∈ L, (r.sl sz).ownBlock = some g
structure Hsh (w : World) (B b cb mb ks sz : Nat) (L : List HS) : Prop where
  blk : w.heap[b]? = some (.cells #[.pointer (some ⟨b, 0, none⟩), .int .i64 ks, .map (some mb), .int .i64 sz, .slice (some ⟨cb, 0, none⟩) L.length L.length] 51 (0, 0))
  cel : w.heap[cb]? = some (.cells (cellsH sz L).toArray 84 (0, 0))
  map : KMap Tryz.prog 9 3 w mb (takenK L) (placeF L)
  row : ∀ (i : Nat) (r : HS), L[i]? = some r → w.ownsRow 0 5 1 (.slice r.A sz r.c) sz (u8s r.bs)
  low : ∀ g, OfH b cb mb sz L g → B ≤ g
  sep : ∀ (i j : Nat) (r s : HS), L[i]? = some r → L[j]? = some s → i ≠ j → ∀ g, (r.sl sz).ownBlock = some g → (s.sl sz).ownBlock ≠ some g
  once : Once L
  keyl : ∀ (i : Nat) (r : HS) (k : List UInt8), L[i]? = some r → r.key = some k → k.length = ks
  big : 1 ≤ sz ∧ sz ≤ 1024
  many : 1 ≤ L.length ∧ L.length ≤ 1024
  kbig : 1 ≤ ks ∧ ks ≤ 64
section
variable {w w' : World} {B b cb mb ks sz : Nat} {L : List HS}
theorem Hsh.lt (h : Hsh w B b cb mb ks sz L) : ∀ g, OfH b cb mb sz L g → g < w.heap.size := by
  rintro g (rfl | rfl | rfl | ⟨r, hr, hg⟩)
  · exact at_lt h.blk
  · exact at_lt h.cel
  · exact h.map.lt
  · obtain ⟨i, hi⟩ := List.mem_iff_getElem?.1 hr
    exact ((h.row i r hi).lt g hg).2
theorem Hsh.kept {F : Nat → Prop} (h : Hsh w B b cb mb ks sz L) (hk : Kept F w w') (hF : ∀ g, OfH b cb mb sz L g → F g) : Hsh w' B b cb mb ks sz L :=
  ⟨(hk.block b (at_lt h.blk) (hF b (.inl rfl))).trans h.blk, (hk.block cb (at_lt h.cel) (hF cb (.inr (.inl rfl)))).trans h.cel, h.map.same (hk.block mb h.map.lt (hF mb (.inr (.inr (.inl rfl))))),
    fun i r hi => owns_kept (h.row i r hi) hk (fun g hg => hF g (.inr (.inr (.inr ⟨r, List.mem_of_getElem? hi, hg⟩)))), h.low, h.sep, h.once, h.keyl, h.big, h.many, h.kbig⟩
theorem Hsh.below (h : Hsh w B b cb mb ks sz L) (hb : Below w.heap.size w w') : Hsh w' B b cb mb ks sz L :=
  h.kept (F := fun _ => True) (Kept.of_below hb) (fun _ _ => trivial)
theorem Hsh.len (h : Hsh w B b cb mb ks sz L) {i : Nat} {r : HS} (hr : L[i]? = some r) : r.bs.length = sz := by
  have := (h.row i r hr).1
  simpa [u8s] using this
theorem Hsh.c1 (h : Hsh w B b cb mb ks sz L) : w.cell? ⟨b, 1, none⟩ = some (.int .i64 ks) := by rw [blk_cell h.blk]; rfl
theorem Hsh.c2 (h : Hsh w B b cb mb ks sz L) : w.cell? ⟨b, 2, none⟩ = some (.map (some mb)) := by rw [blk_cell h.blk]; rfl
theorem Hsh.c3 (h : Hsh w B b cb mb ks sz L) : w.cell? ⟨b, 3, none⟩ = some (.int .i64 sz) := by rw [blk_cell h.blk]; rfl
theorem Hsh.c4 (h : Hsh w B b cb mb ks sz L) : w.cell? ⟨b, 4, none⟩ = some (.slice (some ⟨cb, 0, none⟩) L.length L.length) := by rw [blk_cell h.blk]; rfl
theorem Hsh.parts (h : Hsh w B b cb mb ks sz L) {i : Nat} {r : HS} (hr : L[i]? = some r) : w.cell? ⟨cb, i * 2, none⟩ = some (.slice r.A sz r.c) := by
  have := (cellsH_at sz L i r hr).1
  rw [blk_cell h.cel]
  simpa using this
theorem Hsh.taken (h : Hsh w B b cb mb ks sz L) {i : Nat} {r : HS} (hr : L[i]? = some r) : w.cell? ⟨cb, i * 2 + 1, none⟩ = some (.bool r.key.isSome) := by
  have := (cellsH_at sz L i r hr).2
  rw [blk_cell h.cel]
  simpa using this
end

theorem hshInfo : (Tryz.prog.info? 51).isSome = true := by kernel_rfl
theorem eql_same (a : Addr) (w : World) : (binOp .eql 26 (.pointer (some a)) (.pointer (some a))).run Tryz.prog w = .ok (.bool true) w := by
  obtain ⟨j, hj⟩ := Option.isSome_iff_exists.1 hshInfo
  exact run_eql_ptr_same w a Tryz.underlying26 hj
theorem eql_none (a : Addr) (w : World) : (binOp .eql 26 (.pointer none) (.pointer (some a))).run Tryz.prog w = .ok (.bool false) w := by
  have h : ∀ d : Nat, (Op.equalIn (d + 1) 26 (.pointer none) (.pointer (some a))).run Tryz.prog w = .ok false w := fun d => by
    simp [Op.equalIn, run_underlying Tryz.underlying26]
  simp only [binOp]
  simp [Op.equal, Op.maxDepth, h 9999]
set_option maxRecDepth 100000 in
theorem is_yes (b : Nat) (w : World) (h : w.cell? ⟨b, 0, none⟩ = some (.pointer (some ⟨b, 0, none⟩))) :
    Calls Tryz.prog 50 #[.pointer (some ⟨b, 0, none⟩)] w fun e w' => e = .returned (.bool true) ∧ w = w' := by
  have hq := eql_same ⟨b, 0, none⟩ w
  go_enter Tryz.func50, Tryz.ntmps50
  go_wp2
  go_ret
  exact ⟨rfl, rfl⟩
theorem is_nil (w : World) : Calls Tryz.prog 50 #[.pointer none] w fun e w' => e = .returned (.bool false) ∧ w = w' := by
  go_enter Tryz.func50, Tryz.ntmps50
  go_wp2
  go_ret
  exact ⟨rfl, rfl⟩
set_option maxRecDepth 100000 in
theorem is_zero (b : Nat) (w : World) (h : w.cell? ⟨b, 0, none⟩ = some (.pointer none)) :
    Calls Tryz.prog 50 #[.pointer (some ⟨b, 0, none⟩)] w fun e w' => e = .returned (.bool false) ∧ w = w' := by
  have hq := eql_none ⟨b, 0, none⟩ w
  go_enter Tryz.func50, Tryz.ntmps50
  go_wp2
  go_ret
  exact ⟨rfl, rfl⟩
/-- A hash that New did not make. -/
def NoH (p : Option Addr) (w0 : World) : Prop := ∀ W, Below w0.heap.size w0 W → Calls Tryz.prog 50 #[.pointer p] W fun e w' => e = .returned (.bool false) ∧ W = w'
theorem NoH.later {p : Option Addr} {w W : World} (h : NoH p w) (hb : Below w.heap.size w W) : NoH p W := fun W2 h2 => h W2 (hb.trans (h2.mono hb.size))
theorem noH_nil (w : World) : NoH none w := fun W _ => is_nil W
theorem noH_zero {b : Nat} {w : World} (h : w.cell? ⟨b, 0, none⟩ = some (.pointer none)) : NoH (some ⟨b, 0, none⟩) w := fun W hb => is_zero b W ((hb.cell (p := ⟨b, 0, none⟩) (World.block_lt_of_cell? w _ h)).trans h)
theorem box_cell {w : World} {b : Nat} {v : Value} {t : TypeId} (h : w.heap[b]? = some (.cells #[v] t (0, 0))) : w.cell? ⟨b, 0, none⟩ = some v := by rw [blk_cell h]; rfl
set_option maxRecDepth 100000 in
theorem made_yes (b : Nat) (w : World) (h : w.cell? ⟨b, 0, none⟩ = some (.pointer (some ⟨b, 0, none⟩))) :
    Calls Tryz.prog 45 #[.pointer (some ⟨b, 0, none⟩)] w fun e w' => e = .returned (.tuple #[]) ∧ w = w' := by
  have H := hide (is_yes b w h)
  go_enter Tryz.func45, Tryz.ntmps45
  go_wp2_with (first
    | (go_at_call 50; refine H.out.mono ?_; rintro e w' ⟨rfl, rfl⟩)
    | (go_at_call 12; refine (demand_yes _ _).mono ?_; rintro e w' ⟨rfl, rfl⟩))
  go_end0
  exact ⟨rfl, rfl⟩
theorem made_no (p : Option Addr) (w : World) (h : NoH p w) : Calls Tryz.prog 45 #[.pointer p] w fun e w' => e = .panicked (panicOf 1) ∧ w = w' := by
  have H := hide (h w (Below.refl _ _))
  clear h
  go_enter Tryz.func45, Tryz.ntmps45
  go_wp2_with (first
    | (go_at_call 50; refine H.out.mono ?_; rintro e w' ⟨rfl, rfl⟩)
    | (go_at_call 12; refine (demand_no _ _).mono ?_; rintro e w' ⟨rfl, rfl⟩))
  exact ⟨rfl, rfl, rfl⟩
set_option maxRecDepth 100000 in
theorem key_yes (b ks : Nat) (A : Option Addr) (c : Nat) (w : World) (h : w.cell? ⟨b, 1, none⟩ = some (.int .i64 ks)) :
    Calls Tryz.prog 55 #[.pointer (some ⟨b, 0, none⟩), .slice A ks c] w fun e w' => e = .returned (.tuple #[]) ∧ w = w' := by
  go_enter Tryz.func55, Tryz.ntmps55
  go_wp2_with (go_at_call 12; refine (demand_yes _ _).mono ?_; rintro e w' ⟨rfl, rfl⟩)
  go_end0
  exact ⟨rfl, rfl⟩
set_option maxRecDepth 100000 in
theorem key_no (b ks n : Nat) (A : Option Addr) (c : Nat) (w : World) (h : w.cell? ⟨b, 1, none⟩ = some (.int .i64 ks)) (hn : n ≠ ks) :
    Calls Tryz.prog 55 #[.pointer (some ⟨b, 0, none⟩), .slice A n c] w fun e w' => e = .panicked (panicOf 2) ∧ w = w' := by
  have hq : ((n : Int) == (ks : Int)) = false := by simpa using (fun e => hn (by omega) : (n : Int) ≠ ks)
  go_enter Tryz.func55, Tryz.ntmps55
  go_wp2_with (go_at_call 12; refine (demand_no _ _).mono ?_; rintro e w' ⟨rfl, rfl⟩)
  exact ⟨rfl, rfl, rfl⟩
/-- Is there such a place? -/
def hasB (n : Nat) (i : Int) : Bool := decide (0 ≤ i) && decide (i < n)
set_option maxRecDepth 100000 in
theorem at_no (b n : Nat) (A : Option Addr) (i : Int) (w : World) (h : w.cell? ⟨b, 4, none⟩ = some (.slice A n n)) (hi : hasB n i = false) :
    Calls Tryz.prog 46 #[.pointer (some ⟨b, 3, none⟩), .int .i64 i] w fun e w' => e = .panicked (panicOf 6) ∧ w = w' := by
  by_cases h0 : 0 ≤ i
  · have h2 : decide (i < (n : Int)) = false := by
      simp [hasB, h0] at hi
      simpa using hi
    clear hi
    go_enter Tryz.func46, Tryz.ntmps46
    go_wp2_with (go_at_call 12; refine (demand_no _ _).mono ?_; rintro e w' ⟨rfl, rfl⟩)
    exact ⟨rfl, rfl, rfl⟩
  · clear hi
    go_enter Tryz.func46, Tryz.ntmps46
    go_wp2_with (go_at_call 12; refine (demand_no _ _).mono ?_; rintro e w' ⟨rfl, rfl⟩)
    exact ⟨rfl, rfl, rfl⟩
set_option maxRecDepth 100000 in
theorem at_yes (b n cb i : Nat) (w : World) (h : w.cell? ⟨b, 4, none⟩ = some (.slice (some ⟨cb, 0, none⟩) n n)) (hi : i < n) :
    Calls Tryz.prog 46 #[.pointer (some ⟨b, 3, none⟩), .int .i64 i] w fun e w' => e = .returned (.pointer (some ⟨cb, i * 2, none⟩)) ∧ w = w' := by
  have h0 : (0 : Int) ≤ (i : Int) := by omega
  have h1 : (i : Int) < (n : Int) := by omega
  go_enter Tryz.func46, Tryz.ntmps46
  go_wp2_with (go_at_call 12; refine (demand_yes _ _).mono ?_; rintro e w' ⟨rfl, rfl⟩)

  go_ret
  exact ⟨rfl, rfl⟩
/-- May k bytes from off on be set, of as many as there are? -/
def fitsB (n : Nat) (off : Int) (k : Nat) : Bool := decide (0 ≤ off) && decide ((k : Int) ≤ n - off)
set_option maxRecDepth 100000 in
theorem takes_any (cb j : Nat) (A : Option Addr) (n c k : Nat) (off : Int) (w : World) (h : w.cell? ⟨cb, j, none⟩ = some (.slice A n c)) (ho : off ≤ 9223372036854775807) (hn : n ≤ 1000000) :
    Calls Tryz.prog 63 #[.pointer (some ⟨cb, j, none⟩), .int .i64 off, .int .i64 k] w fun e w' => e = .returned (.bool (fitsB n off k)) ∧ w = w' := by
  by_cases h0 : 0 ≤ off
  · by_cases h1 : (k : Int) ≤ n - off
    · rw [show fitsB n off k = true by simp [fitsB, h0, h1]]
      go_enter Tryz.func63, Tryz.ntmps63
      go_wp2
      go_ret
      exact ⟨rfl, rfl⟩
    · rw [show fitsB n off k = false by simp [fitsB, h1]]
      go_enter Tryz.func63, Tryz.ntmps63
      go_wp2
      go_ret
      exact ⟨rfl, rfl⟩
  · rw [show fitsB n off k = false by simp [fitsB, h0]]
    go_enter Tryz.func63, Tryz.ntmps63
    go_wp2
    go_ret
    exact ⟨rfl, rfl⟩
section
variable {P : Program}
theorem append_same {t t2 ty e : TypeId} (w : World) (ht : P.underlying t = some (.slice e)) (ht2 : P.underlying t2 = some (.slice e)) (v x : Value) : (Builtin.append_ #[t, t2] ty #[v, x]).run P w = (Builtin.append_ #[t, t] ty #[v, x]).run P w := by
  unfold Builtin.append_
  cases v <;> simp [run_underlying ht, run_underlying ht2]
variable {w : World}
theorem wpList_append_rd2 {ops : Array Oper} {rest : List Oper} {o : Oper} {a : Act} {Q : Exit → Act → World → Prop} (hgd : o.guard = none) (s x : Operand) (t t2 : TypeId)
    (ho : o.op = .call { callee := .builtin .append, args := #[s, x], argTypes := #[t, t2] })
    (e : TypeId) (i : TypeInfo) (z : Value) (sz bytes : Nat) (ht : P.underlying t = some (.slice e)) (ht2 : P.underlying t2 = some (.slice e)) (hi : P.info? e = some i) (hz : i.zero = some z)
    (hsize : i.size = sz) (hby : i.bytes = bytes) (hzs : z.cells.size = sz) (hsz : 0 < sz)
    (v : Value) (n : Nat) (xs : List Value) (hs : a.eval s = v) (hown : w.ownsRow 0 e sz v n xs)
    (B : Nat) (A : Option Addr) (m c : Nat) (news : List Value) (hx : a.eval x = .slice A m c) (hr : Rd w B sz A m news) (hA : A = none → m = 0) (h1 : ∀ u ∈ news, u.oneCell' = true)
    (h63 : n + m ≤ maxLen) (hbytes : (n + m) * bytes ≤ 140737488355328)
    (h : ∀ v' w', Longer w w' e sz v v' (n + m) (xs ++ news) → wpList P ops Q rest (a.put o.dst v') w') : wpList P ops Q (o :: rest) a w := by
  obtain ⟨v', w', hrun, hl⟩ := run_append_rd (P := P) w t o.type e i z sz bytes ht hi hz hsize hby hzs hsz v n xs hown B A m c news hr hA h1 h63 hbytes
  refine wpList_plain hgd fun _ hK => ?_
  unfold Oper.wp execOp
  simp only [ho, resolve, invoke, builtin, Sem.run_bind, Sem.run_pure, Result.andThen_ok, List.map_toArray, List.map_cons, List.map_nil, hs, hx, append_same w ht ht2, hrun]
  exact hK _ _ (h v' w' hl)
end
set_option maxRecDepth 100000 in
theorem told_any (cb j : Nat) (A : Option Addr) (n c B : Nat) (l : List Int) (w : World) (hc : w.cell? ⟨cb, j, none⟩ = some (.slice A n c)) (h : Rd w B 1 A n (u8s l)) (hA : A = none → n = 0) (hB : B ≤ w.heap.size) (hn : n ≤ 1000000) :
    Calls Tryz.prog 47 #[.pointer (some ⟨cb, j, none⟩)] w fun e w' => ∃ x : Option Addr × Nat × Nat, e = .returned (.slice x.1 x.2.1 x.2.2) ∧ OwnB w' w.heap.size (.slice x.1 x.2.1 x.2.2) n l ∧ Below w.heap.size w w' := by
  obtain ⟨i0, hi, hz0, hz1, hz2⟩ := info_parts u8info
  have HA := hide hA
  have HH := hide h
  clear hA h
  go_enter Tryz.func47, Tryz.ntmps47
  go_wp2_with (at_builtin; refine stop_here ?_)
  show Hid _
  refine start_here ?_
  refine wpList_append_rd2 rfl _ _ _ _ rfl 5 i0 _ 1 1 Tryz.underlying34 Tryz.underlying34 hi hz0 hz1 hz2 rfl (by decide) _ 0 [] rfl (owns_nil _ _ _) B A n c (u8s l) rfl HH.out HA.out (u8s_one l) (by unfold maxLen; omega) (by omega) ?_
  intro v w1 hl
  obtain ⟨h1, h2, h3⟩ := longer_new hl
  rw [Nat.zero_add, List.nil_append] at h1
  obtain ⟨A', c', rfl, _⟩ := owns_slice h1
  have H1 := hide h1
  have H2 := hide h2
  have H3 := hide h3
  clear h1 h2 h3 hl
  go_wp2
  go_ret
  exact ⟨(_, _, _), rfl, ⟨H1.out, H2.out⟩, H3.out⟩
set_option maxRecDepth 100000 in
theorem put_any (cb j off q : Nat) (A S : Option Addr) (m c sc B : Nat) (l d : List Int) (w : World) (hc : w.cell? ⟨cb, j, none⟩ = some (.slice A m c)) (ho : w.ownsRow 0 5 1 (.slice A m c) m (u8s l)) (hd : Rd w B 1 S q (u8s d)) (hB : B ≤ w.heap.size) (hfit : off + q ≤ m) (hm : m ≤ 1000000) :
    Calls Tryz.prog 59 #[.pointer (some ⟨cb, j, none⟩), .int .i64 off, .slice S q sc] w fun e w' => e = .returned (.tuple #[]) ∧ w'.ownsRow 0 5 1 (.slice A m c) m (u8s (splice l off d)) ∧ Kept (fun j => (Value.slice A m c).ownBlock ≠ some j) w w' := by
  obtain ⟨A2, c2, hcut, hg2⟩ := cut_rest (P := Tryz.prog) Tryz.underlying34 u8size ho off (by omega)
  have hcw := hcut w
  have HG2 := hide hg2
  have HO := hide ho
  have HD := hide hd
  clear hcut hg2 ho hd
  go_enter Tryz.func59, Tryz.ntmps59
  go_wp2_with (with_reducible refine stop_copy ?_)
  show Hid _
  refine start_here ?_
  clear hcw

  refine wpList_copy_owns (e := 5) (n := m) (xs := u8s l) rfl (.tmp 11) (.tmp 12) 34 34 rfl Tryz.underlying34 u8size A c HO.out off A2 (m - off) c2 rfl HG2.out B S q sc rfl (u8s d) HD.out (u8s_one d) (by omega) hfit ?_
  intro w4 ho4 hg4 hz4
  have HO4 := hide ho4
  have HG4 := hide hg4
  clear ho4 hg4 hz4
  go_wp2
  go_end0
  refine ⟨rfl, ?_, (Kept.refl _ w).grown HG4.out (fun j e _ h => h e)⟩
  rw [u8s_splice]
  exact HO4.out
end Go.Proofs.YtolodcdhpnapmaaGreat
