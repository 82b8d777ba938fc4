/-
  The tables of operations that the program makes: whatever order their parts are laid in, each holds just its pairs.
-/
import Derived.Test.YtmlkbpmchcdldaaGreatK
import Derived.Test.YtmlkbpmchcdldaaGreatW
namespace Go.Proofs.YtmlkbpmchcdldaaGreat
open Go.RowKit Go.Maps
set_option linter.unusedVariables false

/-- An operation's key. -/
def key (op off : Int) : Value := .agg #[.int .u8 op, .int .i16 off]
theorem key_inj {a b c d : Int} (h : key a b = key c d) : a = c ∧ b = d := by
  unfold key at h
  simp at h
  exact h
theorem cell_two (w : World) (v : Value) (t : TypeId) (o : Obj) : ((w.alloc (.cells #[v] t)).drew.alloc o).cell? ⟨w.heap.size, 0, none⟩ = some v := by
  have h : ((w.alloc (.cells #[v] t)).drew.alloc o).heap[w.heap.size]? = some (.cells #[v] t) := by
    show ((w.heap.push _).push _)[_]? = _
    simp [Array.getElem?_push]
  simp [World.cell?, h]
theorem heap_two (w : World) (o o' : Obj) : ((w.alloc o).drew.alloc o').heap[w.heap.size + 1]? = some o' := by
  show ((w.heap.push _).push _)[_]? = _
  rw [Array.getElem?_push, if_pos (by simp)]
theorem put_by {p : Prop} (h : p) : Hid p := h
theorem act_lit {a : Act} {l : Array Value} (hd : a.defers = []) (hs : a.tmps.size = l.size) (h : ∀ t, t < l.size → a.tmps.getD t undef = l.getD t undef) : a = ⟨l, []⟩ := by
  obtain ⟨tmps, defers⟩ := a
  simp only at hd hs h
  subst hd
  congr 1
  apply Array.ext hs
  intro i h1 h2
  have := h i h2
  simpa [Array.getD_eq_getD_getElem?, Array.getElem?_eq_getElem h1, Array.getElem?_eq_getElem h2] using this
theorem laws43 (op off : Int) (h1 : (Lit.int .u8 op).wf = true) (h2 : (Lit.int .i16 off).wf = true) : ∃ l, keyOf Tryz.prog 38 (key op off) = some l := key43 op off h1 h2

/-- What the table of words of 64 bits holds. -/
def pairs64 (p : Addr) : List (Value × Value) := [(key 0 0, .func (.func 42) #[] #[]), (key 16 0, .func (.func 43) #[] #[]), (key 32 0, .func (.func 44) #[] #[]), (key 48 0, .func (.func 45) #[] #[]), (key 48 1, .func (.func 46) #[] #[]), (key 144 0, .func (.func 48) #[] #[]), (key 144 1, .func (.func 49) #[] #[]), (key 64 0, .func (.func 51) #[] #[]), (key 80 0, .func (.func 52) #[] #[]), (key 160 0, .func (.func 53) #[] #[]), (key 96 0, .func (.func 54) #[] #[.pointer (some p)]), (key 112 0, .func (.func 55) #[] #[.pointer (some p)]), (key 192 0, .func (.func 56) #[] #[.pointer (some p)]), (key 128 0, .func (.func 57) #[] #[]), (key 176 0, .func (.func 58) #[] #[]), (key 176 8, .func (.func 59) #[] #[]), (key 176 16, .func (.func 60) #[] #[])]
def val64 (p : Addr) (b : Nat) : Nat → Value
  | 0 => .map (some b)
  | 1 => key 0 0
  | 2 => undef
  | 3 => key 16 0
  | 4 => undef
  | 5 => key 32 0
  | 6 => undef
  | 7 => key 48 0
  | 8 => undef
  | 9 => key 48 1
  | 10 => undef
  | 11 => key 144 0
  | 12 => undef
  | 13 => key 144 1
  | 14 => undef
  | 15 => key 64 0
  | 16 => undef
  | 17 => key 80 0
  | 18 => undef
  | 19 => key 160 0
  | 20 => undef
  | 21 => key 96 0
  | 22 => .func (.func 54) #[] #[.pointer (some p)]
  | 23 => undef
  | 24 => key 112 0
  | 25 => .func (.func 55) #[] #[.pointer (some p)]
  | 26 => undef
  | 27 => key 192 0
  | 28 => .func (.func 56) #[] #[.pointer (some p)]
  | 29 => undef
  | 30 => key 128 0
  | 31 => undef
  | 32 => key 176 0
  | 33 => undef
  | 34 => key 176 8
  | 35 => undef
  | 36 => key 176 16
  | 37 => undef
  | 38 => .map (some b)
  | 39 => .map (some b)
  | _ => undef
def ins64 (p : Addr) : Nat → Option (Value × Value)
  | 2 => some (key 0 0, .func (.func 42) #[] #[])
  | 4 => some (key 16 0, .func (.func 43) #[] #[])
  | 6 => some (key 32 0, .func (.func 44) #[] #[])
  | 8 => some (key 48 0, .func (.func 45) #[] #[])
  | 10 => some (key 48 1, .func (.func 46) #[] #[])
  | 12 => some (key 144 0, .func (.func 48) #[] #[])
  | 14 => some (key 144 1, .func (.func 49) #[] #[])
  | 16 => some (key 64 0, .func (.func 51) #[] #[])
  | 18 => some (key 80 0, .func (.func 52) #[] #[])
  | 20 => some (key 160 0, .func (.func 53) #[] #[])
  | 23 => some (key 96 0, .func (.func 54) #[] #[.pointer (some p)])
  | 26 => some (key 112 0, .func (.func 55) #[] #[.pointer (some p)])
  | 29 => some (key 192 0, .func (.func 56) #[] #[.pointer (some p)])
  | 31 => some (key 128 0, .func (.func 57) #[] #[])
  | 33 => some (key 176 0, .func (.func 58) #[] #[])
  | 35 => some (key 176 8, .func (.func 59) #[] #[])
  | 37 => some (key 176 16, .func (.func 60) #[] #[])
  | _ => none

theorem ins64_cases {p : Addr} {i : Nat} {q : Value × Value} (h : ins64 p i = some q) : i = 2 ∨ i = 4 ∨ i = 6 ∨ i = 8 ∨ i = 10 ∨ i = 12 ∨ i = 14 ∨ i = 16 ∨ i = 18 ∨ i = 20 ∨ i = 23 ∨ i = 26 ∨ i = 29 ∨ i = 31 ∨ i = 33 ∨ i = 35 ∨ i = 37 := by
  unfold ins64 at h
  split at h <;> first | (cases h; done) | simp
theorem ins64_inj (p : Addr) (i j : Nat) (x y : Value × Value) (hi : ins64 p i = some x) (hj : ins64 p j = some y) (h : x.1 = y.1) : i = j := by
  rcases ins64_cases hi with rfl | rfl | rfl | rfl | rfl | rfl | rfl | rfl | rfl | rfl | rfl | rfl | rfl | rfl | rfl | rfl | rfl <;> (cases hi; rcases ins64_cases hj with rfl | rfl | rfl | rfl | rfl | rfl | rfl | rfl | rfl | rfl | rfl | rfl | rfl | rfl | rfl | rfl | rfl <;> (cases hj; first | rfl | (exfalso; have := key_inj h; omega)))
theorem ins64_key (p : Addr) (i : Nat) (x : Value × Value) (hi : ins64 p i = some x) : ∃ l, keyOf Tryz.prog 38 x.1 = some l := by
  rcases ins64_cases hi with rfl | rfl | rfl | rfl | rfl | rfl | rfl | rfl | rfl | rfl | rfl | rfl | rfl | rfl | rfl | rfl | rfl <;> (cases hi; exact laws43 _ _ (by decide) (by decide))

theorem pairs64_key (p : Addr) (q : Value × Value) (hq : q ∈ pairs64 p) : ∃ l, keyOf Tryz.prog 38 q.1 = some l := by
  simp only [pairs64, List.mem_cons, List.not_mem_nil, or_false] at hq
  rcases hq with rfl | rfl | rfl | rfl | rfl | rfl | rfl | rfl | rfl | rfl | rfl | rfl | rfl | rfl | rfl | rfl | rfl <;> exact laws43 _ _ (by decide) (by decide)
theorem pairs64_ne (p : Addr) (q : Value × Value) (hq : q ∈ pairs64 p) : q.1 ≠ key 176 32 := by
  simp only [pairs64, List.mem_cons, List.not_mem_nil, or_false] at hq
  rcases hq with rfl | rfl | rfl | rfl | rfl | rfl | rfl | rfl | rfl | rfl | rfl | rfl | rfl | rfl | rfl | rfl | rfl <;> (intro h; have := key_inj h; omega)

set_option maxRecDepth 100000 in
set_option maxHeartbeats 1000000 in
theorem ops64 (w : World) : Calls Tryz.prog 29 #[] w fun e w' => ∃ es clock, e = .returned (.map (some (w.heap.size+1))) ∧ Below w.heap.size w w' ∧ w'.heap.size = w.heap.size+2 ∧ w'.heap[w.heap.size+1]? = some (.map es clock) ∧ w'.cell? ⟨w.heap.size,0,none⟩ = some (.int .u64 64) ∧ HasJust es (pairs64 ⟨w.heap.size,0,none⟩ ++ [(key 176 32, .func (.func 61) #[] #[])]) := by
  go_enter Tryz.func29, Tryz.ntmps29
  go_wp2_with (go_at_call 41; refine (width64 _).mono ?_; rintro e w' ⟨rfl, rfl⟩)
  refine wp_mapLit law43 Tryz.underlying52 (by kernel_rfl) (w.heap.size+1) (by simp) (val64 ⟨w.heap.size,0,none⟩ (w.heap.size+1)) (ins64 ⟨w.heap.size,0,none⟩) (by decide) (by kernel_rfl) (by kernel_rfl) (by kernel_rfl) (by kernel_rfl) (ins64_key _) (ins64_inj _) ?_ ?_
  · intro i o a ho hold hnew
    have hi : i < 40 := (Array.getElem?_eq_some_iff.1 ho).1
    have hi' : i = 0 ∨ i = 1 ∨ i = 2 ∨ i = 3 ∨ i = 4 ∨ i = 5 ∨ i = 6 ∨ i = 7 ∨ i = 8 ∨ i = 9 ∨ i = 10 ∨ i = 11 ∨ i = 12 ∨ i = 13 ∨ i = 14 ∨ i = 15 ∨ i = 16 ∨ i = 17 ∨ i = 18 ∨ i = 19 ∨ i = 20 ∨ i = 21 ∨ i = 22 ∨ i = 23 ∨ i = 24 ∨ i = 25 ∨ i = 26 ∨ i = 27 ∨ i = 28 ∨ i = 29 ∨ i = 30 ∨ i = 31 ∨ i = 32 ∨ i = 33 ∨ i = 34 ∨ i = 35 ∨ i = 36 ∨ i = 37 ∨ i = 38 ∨ i = 39 := by omega
    rcases hi' with rfl | rfl | rfl | rfl | rfl | rfl | rfl | rfl | rfl | rfl | rfl | rfl | rfl | rfl | rfl | rfl | rfl | rfl | rfl | rfl | rfl | rfl | rfl | rfl | rfl | rfl | rfl | rfl | rfl | rfl | rfl | rfl | rfl | rfl | rfl | rfl | rfl | rfl | rfl | rfl
    · cases ho; exact .made rfl rfl rfl rfl
    · cases ho; exact .told (by decide) rfl (fun W => by simp [execOp, go_sem, Act.eval]; rfl)
    · cases ho; exact .laid _ _ _ _ _ rfl rfl (hnew 0 _ 4 rfl rfl rfl) (hnew 1 _ 5 rfl rfl rfl) rfl rfl rfl
    · cases ho; exact .told (by decide) rfl (fun W => by simp [execOp, go_sem, Act.eval]; rfl)
    · cases ho; exact .laid _ _ _ _ _ rfl rfl (hnew 0 _ 4 rfl rfl rfl) (hnew 3 _ 6 rfl rfl rfl) rfl rfl rfl
    · cases ho; exact .told (by decide) rfl (fun W => by simp [execOp, go_sem, Act.eval]; rfl)
    · cases ho; exact .laid _ _ _ _ _ rfl rfl (hnew 0 _ 4 rfl rfl rfl) (hnew 5 _ 7 rfl rfl rfl) rfl rfl rfl
    · cases ho; exact .told (by decide) rfl (fun W => by simp [execOp, go_sem, Act.eval]; rfl)
    · cases ho; exact .laid _ _ _ _ _ rfl rfl (hnew 0 _ 4 rfl rfl rfl) (hnew 7 _ 8 rfl rfl rfl) rfl rfl rfl
    · cases ho; exact .told (by decide) rfl (fun W => by simp [execOp, go_sem, Act.eval]; rfl)
    · cases ho; exact .laid _ _ _ _ _ rfl rfl (hnew 0 _ 4 rfl rfl rfl) (hnew 9 _ 9 rfl rfl rfl) rfl rfl rfl
    · cases ho; exact .told (by decide) rfl (fun W => by simp [execOp, go_sem, Act.eval]; rfl)
    · cases ho; exact .laid _ _ _ _ _ rfl rfl (hnew 0 _ 4 rfl rfl rfl) (hnew 11 _ 10 rfl rfl rfl) rfl rfl rfl
    · cases ho; exact .told (by decide) rfl (fun W => by simp [execOp, go_sem, Act.eval]; rfl)
    · cases ho; exact .laid _ _ _ _ _ rfl rfl (hnew 0 _ 4 rfl rfl rfl) (hnew 13 _ 11 rfl rfl rfl) rfl rfl rfl
    · cases ho; exact .told (by decide) rfl (fun W => by simp [execOp, go_sem, Act.eval]; rfl)
    · cases ho; exact .laid _ _ _ _ _ rfl rfl (hnew 0 _ 4 rfl rfl rfl) (hnew 15 _ 12 rfl rfl rfl) rfl rfl rfl
    · cases ho; exact .told (by decide) rfl (fun W => by simp [execOp, go_sem, Act.eval]; rfl)
    · cases ho; exact .laid _ _ _ _ _ rfl rfl (hnew 0 _ 4 rfl rfl rfl) (hnew 17 _ 13 rfl rfl rfl) rfl rfl rfl
    · cases ho; exact .told (by decide) rfl (fun W => by simp [execOp, go_sem, Act.eval]; rfl)
    · cases ho; exact .laid _ _ _ _ _ rfl rfl (hnew 0 _ 4 rfl rfl rfl) (hnew 19 _ 14 rfl rfl rfl) rfl rfl rfl
    · cases ho; exact .told (by decide) rfl (fun W => by simp [execOp, go_sem, Act.eval]; rfl)
    · cases ho; have h1 := hold 1 (by kernel_rfl); exact .told (by decide) rfl (fun W => by simp [execOp, go_sem, Act.eval, h1]; rfl)
    · cases ho; exact .laid _ _ _ _ _ rfl rfl (hnew 0 _ 4 rfl rfl rfl) (hnew 21 _ 15 rfl rfl rfl) (hnew 22 _ 16 rfl rfl rfl) rfl rfl
    · cases ho; exact .told (by decide) rfl (fun W => by simp [execOp, go_sem, Act.eval]; rfl)
    · cases ho; have h1 := hold 1 (by kernel_rfl); exact .told (by decide) rfl (fun W => by simp [execOp, go_sem, Act.eval, h1]; rfl)
    · cases ho; exact .laid _ _ _ _ _ rfl rfl (hnew 0 _ 4 rfl rfl rfl) (hnew 24 _ 17 rfl rfl rfl) (hnew 25 _ 18 rfl rfl rfl) rfl rfl
    · cases ho; exact .told (by decide) rfl (fun W => by simp [execOp, go_sem, Act.eval]; rfl)
    · cases ho; have h1 := hold 1 (by kernel_rfl); exact .told (by decide) rfl (fun W => by simp [execOp, go_sem, Act.eval, h1]; rfl)
    · cases ho; exact .laid _ _ _ _ _ rfl rfl (hnew 0 _ 4 rfl rfl rfl) (hnew 27 _ 19 rfl rfl rfl) (hnew 28 _ 20 rfl rfl rfl) rfl rfl
    · cases ho; exact .told (by decide) rfl (fun W => by simp [execOp, go_sem, Act.eval]; rfl)
    · cases ho; exact .laid _ _ _ _ _ rfl rfl (hnew 0 _ 4 rfl rfl rfl) (hnew 30 _ 21 rfl rfl rfl) rfl rfl rfl
    · cases ho; exact .told (by decide) rfl (fun W => by simp [execOp, go_sem, Act.eval]; rfl)
    · cases ho; exact .laid _ _ _ _ _ rfl rfl (hnew 0 _ 4 rfl rfl rfl) (hnew 32 _ 22 rfl rfl rfl) rfl rfl rfl
    · cases ho; exact .told (by decide) rfl (fun W => by simp [execOp, go_sem, Act.eval]; rfl)
    · cases ho; exact .laid _ _ _ _ _ rfl rfl (hnew 0 _ 4 rfl rfl rfl) (hnew 34 _ 23 rfl rfl rfl) rfl rfl rfl
    · cases ho; exact .told (by decide) rfl (fun W => by simp [execOp, go_sem, Act.eval]; rfl)
    · cases ho; exact .laid _ _ _ _ _ rfl rfl (hnew 0 _ 4 rfl rfl rfl) (hnew 36 _ 24 rfl rfl rfl) rfl rfl rfl
    · cases ho; have h1 := hnew 0 _ 4 rfl rfl rfl; exact .told (by decide) rfl (fun W => by simp [execOp, go_sem, Act.eval, h1]; rfl)
    · cases ho; have h1 := hnew 38 _ 25 rfl rfl rfl; exact .told (by decide) rfl (fun W => by simp [execOp, go_sem, Act.eval, h1]; rfl)

  · intro a es clock hd hs hold hnew hj
    rename_i hK
    refine hK _ _ ?_
    have hj' : HasJust es (pairs64 ⟨w.heap.size,0,none⟩) := hj
    clear hj hK
    have ha : a = ⟨(#[Value.map none, .pointer (some ⟨w.heap.size, 0, none⟩), .map (some (w.heap.size+1)), .int .u64 64, .map (some (w.heap.size+1)), .agg #[.int .u8 0, .int .i16 0], .agg #[.int .u8 16, .int .i16 0], .agg #[.int .u8 32, .int .i16 0], .agg #[.int .u8 48, .int .i16 0], .agg #[.int .u8 48, .int .i16 1], .agg #[.int .u8 144, .int .i16 0], .agg #[.int .u8 144, .int .i16 1], .agg #[.int .u8 64, .int .i16 0], .agg #[.int .u8 80, .int .i16 0], .agg #[.int .u8 160, .int .i16 0], .agg #[.int .u8 96, .int .i16 0], .func (.func 54) #[] #[.pointer (some ⟨w.heap.size, 0, none⟩)], .agg #[.int .u8 112, .int .i16 0], .func (.func 55) #[] #[.pointer (some ⟨w.heap.size, 0, none⟩)], .agg #[.int .u8 192, .int .i16 0], .func (.func 56) #[] #[.pointer (some ⟨w.heap.size, 0, none⟩)], .agg #[.int .u8 128, .int .i16 0], .agg #[.int .u8 176, .int .i16 0], .agg #[.int .u8 176, .int .i16 8], .agg #[.int .u8 176, .int .i16 16], .map (some (w.heap.size+1)), undef, undef, undef, undef, undef] : Array Value), []⟩ := act_lit hd hs (fun t ht => by
      have ht' : t = 0 ∨ t = 1 ∨ t = 2 ∨ t = 3 ∨ t = 4 ∨ t = 5 ∨ t = 6 ∨ t = 7 ∨ t = 8 ∨ t = 9 ∨ t = 10 ∨ t = 11 ∨ t = 12 ∨ t = 13 ∨ t = 14 ∨ t = 15 ∨ t = 16 ∨ t = 17 ∨ t = 18 ∨ t = 19 ∨ t = 20 ∨ t = 21 ∨ t = 22 ∨ t = 23 ∨ t = 24 ∨ t = 25 ∨ t = 26 ∨ t = 27 ∨ t = 28 ∨ t = 29 ∨ t = 30 := by
        have : t < 31 := ht
        omega
      rcases ht' with rfl | rfl | rfl | rfl | rfl | rfl | rfl | rfl | rfl | rfl | rfl | rfl | rfl | rfl | rfl | rfl | rfl | rfl | rfl | rfl | rfl | rfl | rfl | rfl | rfl | rfl | rfl | rfl | rfl | rfl | rfl
      · exact hold 0 (by kernel_rfl)
      · exact hold 1 (by kernel_rfl)
      · exact hnew 39 _ 2 rfl rfl
      · exact hold 3 (by kernel_rfl)
      · exact hnew 0 _ 4 rfl rfl
      · exact hnew 1 _ 5 rfl rfl
      · exact hnew 3 _ 6 rfl rfl
      · exact hnew 5 _ 7 rfl rfl
      · exact hnew 7 _ 8 rfl rfl
      · exact hnew 9 _ 9 rfl rfl
      · exact hnew 11 _ 10 rfl rfl
      · exact hnew 13 _ 11 rfl rfl
      · exact hnew 15 _ 12 rfl rfl
      · exact hnew 17 _ 13 rfl rfl
      · exact hnew 19 _ 14 rfl rfl
      · exact hnew 21 _ 15 rfl rfl
      · exact hnew 22 _ 16 rfl rfl
      · exact hnew 24 _ 17 rfl rfl
      · exact hnew 25 _ 18 rfl rfl
      · exact hnew 27 _ 19 rfl rfl
      · exact hnew 28 _ 20 rfl rfl
      · exact hnew 30 _ 21 rfl rfl
      · exact hnew 32 _ 22 rfl rfl
      · exact hnew 34 _ 23 rfl rfl
      · exact hnew 36 _ 24 rfl rfl
      · exact hnew 38 _ 25 rfl rfl
      · exact hold 26 (by kernel_rfl)
      · exact hold 27 (by kernel_rfl)
      · exact hold 28 (by kernel_rfl)
      · exact hold 29 (by kernel_rfl)
      · exact hold 30 (by kernel_rfl))
    clear hd hs hold hnew
    subst ha
    obtain ⟨W, hW⟩ : ∃ W : World, W = (w.alloc (Obj.cells #[Value.int .u64 64] 23)).drew.alloc (Obj.map es clock) := ⟨_, rfl⟩
    rw [← hW]
    have hc : W.cell? ⟨w.heap.size, 0, none⟩ = some (.int .u64 64) := by rw [hW]; exact cell_two _ _ _ _
    have hheap : W.heap[w.heap.size+1]? = some (.map es clock) := by rw [hW]; exact heap_two _ _ _
    have hbel : Below w.heap.size w W := by rw [hW]; exact (((Below.refl _ _).alloc (Nat.le_refl _) _).drew).alloc (by simp) _
    have hsz : W.heap.size = w.heap.size + 2 := by rw [hW]; simp
    obtain ⟨kl, hkl⟩ := laws43 176 32 (by decide) (by decide)
    have hup : (Instr.mapUpdate 52 (.map (some (w.heap.size+1))) (.agg #[.int .u8 176, .int .i16 32]) (.func (.func 61) #[] #[])).run Tryz.prog W = .ok () ((w.alloc (Obj.cells #[Value.int .u64 64] 23)).drew.alloc (Obj.map (es.push ⟨key 176 32, .func (.func 61) #[] #[], clock⟩) (clock+1))) := by
      have h1 := run_put_new (w := W) (t := 52) (val := .func (.func 61) #[] #[]) law43 Tryz.underlying52 hheap (fun e he => pairs64_key _ _ (hj'.1 e he)) hkl (fun e he => pairs64_ne _ _ (hj'.1 e he))
      rw [show ChangeMaps.setBlock W (w.heap.size+1) (.map (es.push ⟨key 176 32, .func (.func 61) #[] #[], clock⟩) (clock+1)) = (w.alloc (Obj.cells #[Value.int .u64 64] 23)).drew.alloc (Obj.map (es.push ⟨key 176 32, .func (.func 61) #[] #[], clock⟩) (clock+1)) from by
        rw [hW]
        have := setBlock_alloc (w.alloc (Obj.cells #[Value.int .u64 64] 23)).drew (Obj.map es clock) (.map (es.push ⟨key 176 32, .func (.func 61) #[] #[], clock⟩) (clock+1))
        rw [← this]
        congr 1
        simp] at h1
      exact h1
    have hj2 : HasJust (es.push ⟨key 176 32, .func (.func 61) #[] #[], clock⟩) (pairs64 ⟨w.heap.size,0,none⟩ ++ [(key 176 32, .func (.func 61) #[] #[])]) := hasJust_push hj' _
    generalize hE : es.push ⟨key 176 32, .func (.func 61) #[] #[], clock⟩ = es2 at hup hj2
    obtain ⟨W2, hW2⟩ : ∃ W2 : World, W2 = (w.alloc (Obj.cells #[Value.int .u64 64] 23)).drew.alloc (Obj.map es2 (clock+1)) := ⟨_, rfl⟩
    rw [← hW2] at hup
    have r1 : Below w.heap.size w W2 := by rw [hW2]; exact (((Below.refl _ _).alloc (Nat.le_refl _) _).drew).alloc (by simp) _
    have r2 : W2.heap.size = w.heap.size + 2 := by rw [hW2]; simp
    have r3 : W2.heap[w.heap.size+1]? = some (.map es2 (clock+1)) := by rw [hW2]; exact heap_two _ _ _
    have r4 : W2.cell? ⟨w.heap.size, 0, none⟩ = some (.int .u64 64) := by rw [hW2]; exact cell_two _ _ _ _
    have R : (Below w.heap.size w W2 ∧ W2.heap.size = w.heap.size + 2 ∧ W2.heap[w.heap.size+1]? = some (.map es2 (clock+1)) ∧ W2.cell? ⟨w.heap.size, 0, none⟩ = some (.int .u64 64)) := ⟨r1, r2, r3, r4⟩
    have R' := put_by R
    clear R r1 r2 r3 r4 hW2 hE hW hheap hsz hbel
    have hj3 := put_by hj2
    clear hj2 hj'
    go_wp2
    go_ret
    exact ⟨es2, clock+1, rfl, R'.out.1, R'.out.2.1, R'.out.2.2.1, R'.out.2.2.2, hj3.out⟩

/-- What the table of words of 32 bits holds. -/
def pairs32 (p : Addr) : List (Value × Value) := [(key 0 0, .func (.func 63) #[] #[]), (key 16 0, .func (.func 64) #[] #[]), (key 32 0, .func (.func 65) #[] #[]), (key 48 0, .func (.func 66) #[] #[]), (key 48 1, .func (.func 67) #[] #[]), (key 144 0, .func (.func 69) #[] #[]), (key 144 1, .func (.func 70) #[] #[]), (key 64 0, .func (.func 72) #[] #[]), (key 80 0, .func (.func 73) #[] #[]), (key 160 0, .func (.func 74) #[] #[]), (key 96 0, .func (.func 75) #[] #[.pointer (some p)]), (key 112 0, .func (.func 76) #[] #[.pointer (some p)]), (key 192 0, .func (.func 77) #[] #[.pointer (some p)]), (key 128 0, .func (.func 78) #[] #[]), (key 176 0, .func (.func 79) #[] #[]), (key 176 8, .func (.func 80) #[] #[]), (key 176 16, .func (.func 81) #[] #[])]
def val32 (p : Addr) (b : Nat) : Nat → Value
  | 0 => .map (some b)
  | 1 => key 0 0
  | 2 => undef
  | 3 => key 16 0
  | 4 => undef
  | 5 => key 32 0
  | 6 => undef
  | 7 => key 48 0
  | 8 => undef
  | 9 => key 48 1
  | 10 => undef
  | 11 => key 144 0
  | 12 => undef
  | 13 => key 144 1
  | 14 => undef
  | 15 => key 64 0
  | 16 => undef
  | 17 => key 80 0
  | 18 => undef
  | 19 => key 160 0
  | 20 => undef
  | 21 => key 96 0
  | 22 => .func (.func 75) #[] #[.pointer (some p)]
  | 23 => undef
  | 24 => key 112 0
  | 25 => .func (.func 76) #[] #[.pointer (some p)]
  | 26 => undef
  | 27 => key 192 0
  | 28 => .func (.func 77) #[] #[.pointer (some p)]
  | 29 => undef
  | 30 => key 128 0
  | 31 => undef
  | 32 => key 176 0
  | 33 => undef
  | 34 => key 176 8
  | 35 => undef
  | 36 => key 176 16
  | 37 => undef
  | 38 => .map (some b)
  | 39 => .map (some b)
  | _ => undef
def ins32 (p : Addr) : Nat → Option (Value × Value)
  | 2 => some (key 0 0, .func (.func 63) #[] #[])
  | 4 => some (key 16 0, .func (.func 64) #[] #[])
  | 6 => some (key 32 0, .func (.func 65) #[] #[])
  | 8 => some (key 48 0, .func (.func 66) #[] #[])
  | 10 => some (key 48 1, .func (.func 67) #[] #[])
  | 12 => some (key 144 0, .func (.func 69) #[] #[])
  | 14 => some (key 144 1, .func (.func 70) #[] #[])
  | 16 => some (key 64 0, .func (.func 72) #[] #[])
  | 18 => some (key 80 0, .func (.func 73) #[] #[])
  | 20 => some (key 160 0, .func (.func 74) #[] #[])
  | 23 => some (key 96 0, .func (.func 75) #[] #[.pointer (some p)])
  | 26 => some (key 112 0, .func (.func 76) #[] #[.pointer (some p)])
  | 29 => some (key 192 0, .func (.func 77) #[] #[.pointer (some p)])
  | 31 => some (key 128 0, .func (.func 78) #[] #[])
  | 33 => some (key 176 0, .func (.func 79) #[] #[])
  | 35 => some (key 176 8, .func (.func 80) #[] #[])
  | 37 => some (key 176 16, .func (.func 81) #[] #[])
  | _ => none

theorem ins32_cases {p : Addr} {i : Nat} {q : Value × Value} (h : ins32 p i = some q) : i = 2 ∨ i = 4 ∨ i = 6 ∨ i = 8 ∨ i = 10 ∨ i = 12 ∨ i = 14 ∨ i = 16 ∨ i = 18 ∨ i = 20 ∨ i = 23 ∨ i = 26 ∨ i = 29 ∨ i = 31 ∨ i = 33 ∨ i = 35 ∨ i = 37 := by
  unfold ins32 at h
  split at h <;> first | (cases h; done) | simp
theorem ins32_inj (p : Addr) (i j : Nat) (x y : Value × Value) (hi : ins32 p i = some x) (hj : ins32 p j = some y) (h : x.1 = y.1) : i = j := by
  rcases ins32_cases hi with rfl | rfl | rfl | rfl | rfl | rfl | rfl | rfl | rfl | rfl | rfl | rfl | rfl | rfl | rfl | rfl | rfl <;> (cases hi; rcases ins32_cases hj with rfl | rfl | rfl | rfl | rfl | rfl | rfl | rfl | rfl | rfl | rfl | rfl | rfl | rfl | rfl | rfl | rfl <;> (cases hj; first | rfl | (exfalso; have := key_inj h; omega)))
theorem ins32_key (p : Addr) (i : Nat) (x : Value × Value) (hi : ins32 p i = some x) : ∃ l, keyOf Tryz.prog 38 x.1 = some l := by
  rcases ins32_cases hi with rfl | rfl | rfl | rfl | rfl | rfl | rfl | rfl | rfl | rfl | rfl | rfl | rfl | rfl | rfl | rfl | rfl <;> (cases hi; exact laws43 _ _ (by decide) (by decide))

theorem pairs32_key (p : Addr) (q : Value × Value) (hq : q ∈ pairs32 p) : ∃ l, keyOf Tryz.prog 38 q.1 = some l := by
  simp only [pairs32, List.mem_cons, List.not_mem_nil, or_false] at hq
  rcases hq with rfl | rfl | rfl | rfl | rfl | rfl | rfl | rfl | rfl | rfl | rfl | rfl | rfl | rfl | rfl | rfl | rfl <;> exact laws43 _ _ (by decide) (by decide)
theorem pairs32_ne (p : Addr) (q : Value × Value) (hq : q ∈ pairs32 p) : q.1 ≠ key 176 32 := by
  simp only [pairs32, List.mem_cons, List.not_mem_nil, or_false] at hq
  rcases hq with rfl | rfl | rfl | rfl | rfl | rfl | rfl | rfl | rfl | rfl | rfl | rfl | rfl | rfl | rfl | rfl | rfl <;> (intro h; have := key_inj h; omega)

set_option maxRecDepth 100000 in
set_option maxHeartbeats 1000000 in
theorem ops32 (w : World) : Calls Tryz.prog 31 #[] w fun e w' => ∃ es clock, e = .returned (.map (some (w.heap.size+1))) ∧ Below w.heap.size w w' ∧ w'.heap.size = w.heap.size+2 ∧ w'.heap[w.heap.size+1]? = some (.map es clock) ∧ w'.cell? ⟨w.heap.size,0,none⟩ = some (.int .u32 32) ∧ HasJust es (pairs32 ⟨w.heap.size,0,none⟩) := by
  go_enter Tryz.func31, Tryz.ntmps31
  go_wp2_with (go_at_call 62; refine (width32 _).mono ?_; rintro e w' ⟨rfl, rfl⟩)
  refine wp_mapLit law43 Tryz.underlying56 (by kernel_rfl) (w.heap.size+1) (by simp) (val32 ⟨w.heap.size,0,none⟩ (w.heap.size+1)) (ins32 ⟨w.heap.size,0,none⟩) (by decide) (by kernel_rfl) (by kernel_rfl) (by kernel_rfl) (by kernel_rfl) (ins32_key _) (ins32_inj _) ?_ ?_
  · intro i o a ho hold hnew
    have hi : i < 40 := (Array.getElem?_eq_some_iff.1 ho).1
    have hi' : i = 0 ∨ i = 1 ∨ i = 2 ∨ i = 3 ∨ i = 4 ∨ i = 5 ∨ i = 6 ∨ i = 7 ∨ i = 8 ∨ i = 9 ∨ i = 10 ∨ i = 11 ∨ i = 12 ∨ i = 13 ∨ i = 14 ∨ i = 15 ∨ i = 16 ∨ i = 17 ∨ i = 18 ∨ i = 19 ∨ i = 20 ∨ i = 21 ∨ i = 22 ∨ i = 23 ∨ i = 24 ∨ i = 25 ∨ i = 26 ∨ i = 27 ∨ i = 28 ∨ i = 29 ∨ i = 30 ∨ i = 31 ∨ i = 32 ∨ i = 33 ∨ i = 34 ∨ i = 35 ∨ i = 36 ∨ i = 37 ∨ i = 38 ∨ i = 39 := by omega
    rcases hi' with rfl | rfl | rfl | rfl | rfl | rfl | rfl | rfl | rfl | rfl | rfl | rfl | rfl | rfl | rfl | rfl | rfl | rfl | rfl | rfl | rfl | rfl | rfl | rfl | rfl | rfl | rfl | rfl | rfl | rfl | rfl | rfl | rfl | rfl | rfl | rfl | rfl | rfl | rfl | rfl
    · cases ho; exact .made rfl rfl rfl rfl
    · cases ho; exact .told (by decide) rfl (fun W => by simp [execOp, go_sem, Act.eval]; rfl)
    · cases ho; exact .laid _ _ _ _ _ rfl rfl (hnew 0 _ 4 rfl rfl rfl) (hnew 1 _ 5 rfl rfl rfl) rfl rfl rfl
    · cases ho; exact .told (by decide) rfl (fun W => by simp [execOp, go_sem, Act.eval]; rfl)
    · cases ho; exact .laid _ _ _ _ _ rfl rfl (hnew 0 _ 4 rfl rfl rfl) (hnew 3 _ 6 rfl rfl rfl) rfl rfl rfl
    · cases ho; exact .told (by decide) rfl (fun W => by simp [execOp, go_sem, Act.eval]; rfl)
    · cases ho; exact .laid _ _ _ _ _ rfl rfl (hnew 0 _ 4 rfl rfl rfl) (hnew 5 _ 7 rfl rfl rfl) rfl rfl rfl
    · cases ho; exact .told (by decide) rfl (fun W => by simp [execOp, go_sem, Act.eval]; rfl)
    · cases ho; exact .laid _ _ _ _ _ rfl rfl (hnew 0 _ 4 rfl rfl rfl) (hnew 7 _ 8 rfl rfl rfl) rfl rfl rfl
    · cases ho; exact .told (by decide) rfl (fun W => by simp [execOp, go_sem, Act.eval]; rfl)
    · cases ho; exact .laid _ _ _ _ _ rfl rfl (hnew 0 _ 4 rfl rfl rfl) (hnew 9 _ 9 rfl rfl rfl) rfl rfl rfl
    · cases ho; exact .told (by decide) rfl (fun W => by simp [execOp, go_sem, Act.eval]; rfl)
    · cases ho; exact .laid _ _ _ _ _ rfl rfl (hnew 0 _ 4 rfl rfl rfl) (hnew 11 _ 10 rfl rfl rfl) rfl rfl rfl
    · cases ho; exact .told (by decide) rfl (fun W => by simp [execOp, go_sem, Act.eval]; rfl)
    · cases ho; exact .laid _ _ _ _ _ rfl rfl (hnew 0 _ 4 rfl rfl rfl) (hnew 13 _ 11 rfl rfl rfl) rfl rfl rfl
    · cases ho; exact .told (by decide) rfl (fun W => by simp [execOp, go_sem, Act.eval]; rfl)
    · cases ho; exact .laid _ _ _ _ _ rfl rfl (hnew 0 _ 4 rfl rfl rfl) (hnew 15 _ 12 rfl rfl rfl) rfl rfl rfl
    · cases ho; exact .told (by decide) rfl (fun W => by simp [execOp, go_sem, Act.eval]; rfl)
    · cases ho; exact .laid _ _ _ _ _ rfl rfl (hnew 0 _ 4 rfl rfl rfl) (hnew 17 _ 13 rfl rfl rfl) rfl rfl rfl
    · cases ho; exact .told (by decide) rfl (fun W => by simp [execOp, go_sem, Act.eval]; rfl)
    · cases ho; exact .laid _ _ _ _ _ rfl rfl (hnew 0 _ 4 rfl rfl rfl) (hnew 19 _ 14 rfl rfl rfl) rfl rfl rfl
    · cases ho; exact .told (by decide) rfl (fun W => by simp [execOp, go_sem, Act.eval]; rfl)
    · cases ho; have h1 := hold 1 (by kernel_rfl); exact .told (by decide) rfl (fun W => by simp [execOp, go_sem, Act.eval, h1]; rfl)
    · cases ho; exact .laid _ _ _ _ _ rfl rfl (hnew 0 _ 4 rfl rfl rfl) (hnew 21 _ 15 rfl rfl rfl) (hnew 22 _ 16 rfl rfl rfl) rfl rfl
    · cases ho; exact .told (by decide) rfl (fun W => by simp [execOp, go_sem, Act.eval]; rfl)
    · cases ho; have h1 := hold 1 (by kernel_rfl); exact .told (by decide) rfl (fun W => by simp [execOp, go_sem, Act.eval, h1]; rfl)
    · cases ho; exact .laid _ _ _ _ _ rfl rfl (hnew 0 _ 4 rfl rfl rfl) (hnew 24 _ 17 rfl rfl rfl) (hnew 25 _ 18 rfl rfl rfl) rfl rfl
    · cases ho; exact .told (by decide) rfl (fun W => by simp [execOp, go_sem, Act.eval]; rfl)
    · cases ho; have h1 := hold 1 (by kernel_rfl); exact .told (by decide) rfl (fun W => by simp [execOp, go_sem, Act.eval, h1]; rfl)
    · cases ho; exact .laid _ _ _ _ _ rfl rfl (hnew 0 _ 4 rfl rfl rfl) (hnew 27 _ 19 rfl rfl rfl) (hnew 28 _ 20 rfl rfl rfl) rfl rfl
    · cases ho; exact .told (by decide) rfl (fun W => by simp [execOp, go_sem, Act.eval]; rfl)
    · cases ho; exact .laid _ _ _ _ _ rfl rfl (hnew 0 _ 4 rfl rfl rfl) (hnew 30 _ 21 rfl rfl rfl) rfl rfl rfl
    · cases ho; exact .told (by decide) rfl (fun W => by simp [execOp, go_sem, Act.eval]; rfl)
    · cases ho; exact .laid _ _ _ _ _ rfl rfl (hnew 0 _ 4 rfl rfl rfl) (hnew 32 _ 22 rfl rfl rfl) rfl rfl rfl
    · cases ho; exact .told (by decide) rfl (fun W => by simp [execOp, go_sem, Act.eval]; rfl)
    · cases ho; exact .laid _ _ _ _ _ rfl rfl (hnew 0 _ 4 rfl rfl rfl) (hnew 34 _ 23 rfl rfl rfl) rfl rfl rfl
    · cases ho; exact .told (by decide) rfl (fun W => by simp [execOp, go_sem, Act.eval]; rfl)
    · cases ho; exact .laid _ _ _ _ _ rfl rfl (hnew 0 _ 4 rfl rfl rfl) (hnew 36 _ 24 rfl rfl rfl) rfl rfl rfl
    · cases ho; have h1 := hnew 0 _ 4 rfl rfl rfl; exact .told (by decide) rfl (fun W => by simp [execOp, go_sem, Act.eval, h1]; rfl)
    · cases ho; have h1 := hnew 38 _ 25 rfl rfl rfl; exact .told (by decide) rfl (fun W => by simp [execOp, go_sem, Act.eval, h1]; rfl)

  · intro a es clock hd hs hold hnew hj
    rename_i hK
    refine hK _ _ ?_
    have hj' : HasJust es (pairs32 ⟨w.heap.size,0,none⟩) := hj
    clear hj hK
    have ha : a = ⟨(#[Value.map none, .pointer (some ⟨w.heap.size, 0, none⟩), .map (some (w.heap.size+1)), .int .u32 32, .map (some (w.heap.size+1)), .agg #[.int .u8 0, .int .i16 0], .agg #[.int .u8 16, .int .i16 0], .agg #[.int .u8 32, .int .i16 0], .agg #[.int .u8 48, .int .i16 0], .agg #[.int .u8 48, .int .i16 1], .agg #[.int .u8 144, .int .i16 0], .agg #[.int .u8 144, .int .i16 1], .agg #[.int .u8 64, .int .i16 0], .agg #[.int .u8 80, .int .i16 0], .agg #[.int .u8 160, .int .i16 0], .agg #[.int .u8 96, .int .i16 0], .func (.func 75) #[] #[.pointer (some ⟨w.heap.size, 0, none⟩)], .agg #[.int .u8 112, .int .i16 0], .func (.func 76) #[] #[.pointer (some ⟨w.heap.size, 0, none⟩)], .agg #[.int .u8 192, .int .i16 0], .func (.func 77) #[] #[.pointer (some ⟨w.heap.size, 0, none⟩)], .agg #[.int .u8 128, .int .i16 0], .agg #[.int .u8 176, .int .i16 0], .agg #[.int .u8 176, .int .i16 8], .agg #[.int .u8 176, .int .i16 16], .map (some (w.heap.size+1)), undef, undef, undef, undef, undef] : Array Value), []⟩ := act_lit hd hs (fun t ht => by
      have ht' : t = 0 ∨ t = 1 ∨ t = 2 ∨ t = 3 ∨ t = 4 ∨ t = 5 ∨ t = 6 ∨ t = 7 ∨ t = 8 ∨ t = 9 ∨ t = 10 ∨ t = 11 ∨ t = 12 ∨ t = 13 ∨ t = 14 ∨ t = 15 ∨ t = 16 ∨ t = 17 ∨ t = 18 ∨ t = 19 ∨ t = 20 ∨ t = 21 ∨ t = 22 ∨ t = 23 ∨ t = 24 ∨ t = 25 ∨ t = 26 ∨ t = 27 ∨ t = 28 ∨ t = 29 ∨ t = 30 := by
        have : t < 31 := ht
        omega
      rcases ht' with rfl | rfl | rfl | rfl | rfl | rfl | rfl | rfl | rfl | rfl | rfl | rfl | rfl | rfl | rfl | rfl | rfl | rfl | rfl | rfl | rfl | rfl | rfl | rfl | rfl | rfl | rfl | rfl | rfl | rfl | rfl
      · exact hold 0 (by kernel_rfl)
      · exact hold 1 (by kernel_rfl)
      · exact hnew 39 _ 2 rfl rfl
      · exact hold 3 (by kernel_rfl)
      · exact hnew 0 _ 4 rfl rfl
      · exact hnew 1 _ 5 rfl rfl
      · exact hnew 3 _ 6 rfl rfl
      · exact hnew 5 _ 7 rfl rfl
      · exact hnew 7 _ 8 rfl rfl
      · exact hnew 9 _ 9 rfl rfl
      · exact hnew 11 _ 10 rfl rfl
      · exact hnew 13 _ 11 rfl rfl
      · exact hnew 15 _ 12 rfl rfl
      · exact hnew 17 _ 13 rfl rfl
      · exact hnew 19 _ 14 rfl rfl
      · exact hnew 21 _ 15 rfl rfl
      · exact hnew 22 _ 16 rfl rfl
      · exact hnew 24 _ 17 rfl rfl
      · exact hnew 25 _ 18 rfl rfl
      · exact hnew 27 _ 19 rfl rfl
      · exact hnew 28 _ 20 rfl rfl
      · exact hnew 30 _ 21 rfl rfl
      · exact hnew 32 _ 22 rfl rfl
      · exact hnew 34 _ 23 rfl rfl
      · exact hnew 36 _ 24 rfl rfl
      · exact hnew 38 _ 25 rfl rfl
      · exact hold 26 (by kernel_rfl)
      · exact hold 27 (by kernel_rfl)
      · exact hold 28 (by kernel_rfl)
      · exact hold 29 (by kernel_rfl)
      · exact hold 30 (by kernel_rfl))
    clear hd hs hold hnew
    subst ha
    obtain ⟨W, hW⟩ : ∃ W : World, W = (w.alloc (Obj.cells #[Value.int .u32 32] 40)).drew.alloc (Obj.map es clock) := ⟨_, rfl⟩
    rw [← hW]
    have hc : W.cell? ⟨w.heap.size, 0, none⟩ = some (.int .u32 32) := by rw [hW]; exact cell_two _ _ _ _
    have hheap : W.heap[w.heap.size+1]? = some (.map es clock) := by rw [hW]; exact heap_two _ _ _
    have hbel : Below w.heap.size w W := by rw [hW]; exact (((Below.refl _ _).alloc (Nat.le_refl _) _).drew).alloc (by simp) _
    have hsz : W.heap.size = w.heap.size + 2 := by rw [hW]; simp
    have R' := put_by (show Below w.heap.size w W ∧ W.heap.size = w.heap.size + 2 ∧ W.heap[w.heap.size+1]? = some (.map es clock) ∧ W.cell? ⟨w.heap.size, 0, none⟩ = some (.int .u32 32) from ⟨hbel, hsz, hheap, hc⟩)
    have hj3 := put_by hj'
    clear hj' hW hheap hsz hbel
    go_wp2
    go_ret
    exact ⟨es, clock, rfl, R'.out.1, R'.out.2.1, R'.out.2.2.1, R'.out.2.2.2, hj3.out⟩

end Go.Proofs.YtmlkbpmchcdldaaGreat
