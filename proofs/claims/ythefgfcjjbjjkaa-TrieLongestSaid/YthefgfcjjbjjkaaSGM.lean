/-
  The texts SF, SGA, SGB, SGC as one.
-/
import Derived.Test.YthefgfcjjbjjkaaRows
import Derived.Shelf.SlSortCmp.Whole1
import Derived.Test.YthefgfcjjbjjkaaTCC
import Derived.Lib.BytesEntry
import Derived.Lib.Bytealg

/-
  The library's SortFunc, as it stands in this program.
-/
namespace Go.Proofs.Ythefgfcjjbjjkaa
open Go.RowKit Go.Sort Go.Shelf
set_option linter.unusedVariables false
def Try.sortF_ren : Go.Shelf.Ren := ⟨fun | 6 => 48 | 15 => 62 | 14 => 61 | 28 => 79 | 29 => 80 | 20 => 71 | 21 => 72 | 22 => 73 | 23 => 74 | 24 => 75 | 25 => 76 | 26 => 77 | 27 => 78 | 46 => 84 | 47 => 85 | 48 => 86 | 49 => 87 | 50 => 88 | 57 => 89 | n => n, fun | 22 => 49 | 24 => 35 | 25 => 89 | 3 => 3 | 39 => 91 | 0 => 0 | 53 => 129 | 55 => 36 | 4 => 4 | 46 => 122 | 45 => 121 | 50 => 126 | 5 => 5 | 9 => 9 | 66 => 134 | 70 => 138 | 76 => 140 | 77 => 141 | n => n, fun | n => n⟩
theorem Try.sortF : Go.Proofs.SlLaysF.n6 Try.prog Try.sortF_ren := {
  mixed := by kernel_rfl
  f6 := ⟨Try.f48.name, by decide, Try.func48.trans (congrArg some (by kernel_rfl))⟩
  f14 := ⟨Try.f61.name, by decide, Try.func61.trans (congrArg some (by kernel_rfl))⟩
  f15 := Try.func62.trans (congrArg some (by kernel_rfl))
  f20 := ⟨Try.f71.name, by decide, Try.func71.trans (congrArg some (by kernel_rfl))⟩
  f21 := ⟨Try.f72.name, by decide, Try.func72.trans (congrArg some (by kernel_rfl))⟩
  f22 := ⟨Try.f73.name, by decide, Try.func73.trans (congrArg some (by kernel_rfl))⟩
  f23 := ⟨Try.f74.name, by decide, Try.func74.trans (congrArg some (by kernel_rfl))⟩
  f24 := ⟨Try.f75.name, by decide, Try.func75.trans (congrArg some (by kernel_rfl))⟩
  f25 := ⟨Try.f76.name, by decide, Try.func76.trans (congrArg some (by kernel_rfl))⟩
  f26 := ⟨Try.f77.name, by decide, Try.func77.trans (congrArg some (by kernel_rfl))⟩
  f27 := ⟨Try.f78.name, by decide, Try.func78.trans (congrArg some (by kernel_rfl))⟩
  f28 := Try.func79.trans (congrArg some (by kernel_rfl))
  f29 := Try.func80.trans (congrArg some (by kernel_rfl))
  f46 := ⟨Try.f84.name, by decide, Try.func84.trans (congrArg some (by kernel_rfl))⟩
  f47 := Try.func85.trans (congrArg some (by kernel_rfl))
  f48 := Try.func86.trans (congrArg some (by kernel_rfl))
  f49 := ⟨Try.f87.name, by decide, Try.func87.trans (congrArg some (by kernel_rfl))⟩
  f50 := ⟨Try.f88.name, by decide, Try.func88.trans (congrArg some (by kernel_rfl))⟩
  f57 := ⟨Try.f89.name, by decide, Try.func89.trans (congrArg some (by kernel_rfl))⟩
  t0 := Try.underlying0
  a0 := Try.isAgg0
  z0 := Try.sizeOf0
  v0 := Try.zeroValue0
  t3 := Try.underlying3
  a3 := Try.isAgg3
  z3 := Try.sizeOf3
  v3 := Try.zeroValue3
  t4 := Try.underlying4
  a4 := Try.isAgg4
  z4 := Try.sizeOf4
  v4 := Try.zeroValue4
  t5 := Try.underlying5
  a5 := Try.isAgg5
  z5 := Try.sizeOf5
  v5 := Try.zeroValue5
  t9 := Try.underlying9
  a9 := Try.isAgg9
  z9 := Try.sizeOf9
  v9 := Try.zeroValue9
  t22 := Try.underlying49
  a22 := Try.isAgg49
  z22 := Try.sizeOf49
  v22 := Try.zeroValue49
  a24 := Try.isAgg35
  z24 := Try.sizeOf35
  t25 := Try.underlying89
  a25 := Try.isAgg89
  z25 := Try.sizeOf89
  v25 := Try.zeroValue89
  t39 := Try.underlying91
  a39 := Try.isAgg91
  z39 := Try.sizeOf91
  v39 := Try.zeroValue91
  t45 := Try.underlying121
  a45 := Try.isAgg121
  z45 := Try.sizeOf121
  v45 := Try.zeroValue121
  t46 := Try.underlying122
  a46 := Try.isAgg122
  z46 := Try.sizeOf122
  v46 := Try.zeroValue122
  t50 := Try.underlying126
  a50 := Try.isAgg126
  z50 := Try.sizeOf126
  v50 := Try.zeroValue126
  t53 := Try.underlying129
  a53 := Try.isAgg129
  z53 := Try.sizeOf129
  v53 := Try.zeroValue129
  t55 := Try.underlying36
  a55 := Try.isAgg36
  z55 := Try.sizeOf36
  v55 := Try.zeroValue36
  t66 := Try.underlying134
  a66 := Try.isAgg134
  z66 := Try.sizeOf134
  v66 := Try.zeroValue134
  t70 := Try.underlying138
  a70 := Try.isAgg138
  z70 := Try.sizeOf138
  v70 := Try.zeroValue138
  t76 := Try.underlying140
  a76 := Try.isAgg140
  z76 := Try.sizeOf140
  v76 := Try.zeroValue140
  t77 := Try.underlying141
  a77 := Try.isAgg141
  z77 := Try.sizeOf141
  v77 := Try.zeroValue141 }
end Go.Proofs.Ythefgfcjjbjjkaa

/-
  inOrder: what two plain keys compare to, in worlds told outright.
-/
namespace Go.Proofs.Ythefgfcjjbjjkaa
open Go.RowKit
set_option linter.unusedVariables false
set_option linter.unusedSimpArgs false

/-- A world behind another: its blocks as they were, more drawn, more blocks. -/
def Gr (w w' : World) : Prop := Below w.heap.size w w' ∧ w.drawn ≤ w'.drawn
theorem Gr.refl (w : World) : Gr w w := ⟨Below.refl _ _, Nat.le_refl _⟩
theorem Gr.trans {a b c : World} (h : Gr a b) (k : Gr b c) : Gr a c := ⟨h.1.trans (k.1.mono h.1.size), Nat.le_trans h.2 k.2⟩
theorem Gr.ex {w w' : World} (h : Gr w w') : ∃ q os', w' = Go.Sort.grow (w.drewN q) os' := by
  obtain ⟨⟨h1, h2, h3, h4, h5⟩, h6⟩ := h
  refine ⟨w'.drawn - w.drawn, w'.heap.extract w.heap.size w'.heap.size, ?_⟩
  obtain ⟨hp, tp, dr, o, ou⟩ := w'
  simp only at h1 h2 h3 h4 h5 h6
  subst h1 h2 h3
  unfold Go.Sort.grow World.drewN
  simp only [World.mk.injEq, and_true, true_and]
  refine ⟨?_, by omega⟩
  refine Array.ext_getElem? fun k => ?_
  by_cases hk : k < w.heap.size
  · rw [Array.getElem?_append_left hk, h5 k hk]
  · rw [Array.getElem?_append_right (by omega), Array.getElem?_extract]
    by_cases hk2 : k < hp.size
    · rw [if_pos (by omega)]
      congr 1
      omega
    · rw [if_neg (by omega), Array.getElem?_eq_none (by omega)]
theorem isNaN_any (x : Int) (w : World) : Calls Try.prog 81 #[.int .i64 x] w fun e w' => e = .returned (.bool false) ∧ w = w' := by
  go_enter Try.func81, Try.ntmps81
  go_wp2
  go_ret
  exact ⟨by simp, rfl⟩
set_option maxHeartbeats 1000000 in
theorem compareInt_any (x y : Int) (w : World) : Calls Try.prog 64 #[.int .i64 x, .int .i64 y] w fun e w' => e = .returned (.int .i64 (Lib.compareInt x y)) ∧ w = w' := by
  go_enter Try.func64, Try.ntmps64
  go_wp2_with (go_at_call 81; refine (isNaN_any _ _).mono ?_; rintro e w' ⟨rfl, rfl⟩)
  all_goals (go_ret; refine ⟨?_, rfl⟩; unfold Lib.compareInt; (repeat' split) <;> first | rfl | (exfalso; omega))
theorem run_compareRows (ad ad' : Addr) (n n' c c' B : Nat) (l l' : List Int) (w : World) (h : Rd w B 1 (some ad) n (u8s l)) (h' : Rd w B 1 (some ad') n' (u8s l')) (hn : 0 < n) (hn' : 0 < n') :
    (Extern.BytealgCompare.compare #[.slice (some ad) n c, .slice (some ad') n' c']).run Try.prog w = .ok (.int .i64 (Lib.compareBytes (Lib.bytesOf l) (Lib.bytesOf l'))) w := by
  have hl : l.length = n := by have := h.1; simpa [u8s] using this
  have hl' : l'.length = n' := by have := h'.1; simpa [u8s] using this
  obtain ⟨a1, e1, _, hc⟩ := h.2 hn
  obtain ⟨a2, e2, _, hc'⟩ := h'.2 hn'
  injection e1 with e1
  injection e2 with e2
  subst e1 e2
  have r1 := Lib.run_loadBytesX (P := Try.prog) w l ad .empty (fun j x hj => by simpa using hc j (.int .u8 x) (by simp [u8s, hj]))
  have r2 := Lib.run_loadBytesX (P := Try.prog) w l' ad' .empty (fun j x hj => by simpa using hc' j (.int .u8 x) (by simp [u8s, hj]))
  rw [hl] at r1
  rw [hl'] at r2
  change Sem.run Try.prog (do pure (goInt (Extern.BytealgCompare.cmp (← Extern.Bytes.bytesOf (.slice (some ad) n c)) (← Extern.Bytes.bytesOf (.slice (some ad') n' c'))))) w = _
  simp only [Extern.Bytes.bytesOf, Sem.run_bind, Sem.run_pure, r1, r2, Result.andThen]
  rw [Lib.cmp_eq]
  simp [goInt]
set_option maxRecDepth 100000 in
set_option maxHeartbeats 1000000 in
theorem bytesCompare_any (ad ad' : Addr) (n n' c c' B : Nat) (l l' : List Int) (w : World) (h : Rd w B 1 (some ad) n (u8s l)) (h' : Rd w B 1 (some ad') n' (u8s l')) (hn : 0 < n) (hn' : 0 < n') :
    Calls Try.prog 65 #[.slice (some ad) n c, .slice (some ad') n' c'] w fun e w' => e = .returned (.int .i64 (Lib.compareBytes (Lib.bytesOf l) (Lib.bytesOf l'))) ∧ w = w' := by
  have H := hide (run_compareRows ad ad' n n' c c' B l l' w h h' hn hn')
  clear h h'
  go_enter Try.func65, Try.ntmps65
  go_wp2
  rw [run_callFunc_extern Try.func82 (by kernel_rfl) (by kernel_rfl) (by kernel_rfl) (e := Extern.BytealgCompare.compare) (by kernel_rfl), H.out]
  simp only [Result.andThen]
  rw [Oper.upon_value]
  go_wp2
  go_ret
  exact ⟨rfl, rfl⟩
def orI (a b : Int) : Int := if a = 0 then b else a
set_option maxRecDepth 100000 in
set_option maxHeartbeats 1000000 in
theorem or_any (g : Nat) (a b : Int) (w : World) (h0 : w.cell? ⟨g, 0, none⟩ = some (.int .i64 a)) (h1 : w.cell? ⟨g, 1, none⟩ = some (.int .i64 b)) :
    Calls Try.prog 63 #[.slice (some ⟨g, 0, none⟩) 2 2] w fun e w' => e = .returned (.int .i64 (orI a b)) ∧ Gr w w' := by
  go_enter Try.func63, Try.ntmps63
  by_cases ha : a = 0
  · have da : ((0 : Int) != 0) = false := rfl
    by_cases hb : b = 0
    · subst ha hb
      go_wp2
      refine wp_loop_rounds 3 ?_
      rw [rounds_succ]
      go_wp2
      rw [rounds_succ]
      go_wp2
      rw [rounds_succ]
      go_wp2
      go_ret
      exact ⟨rfl, Gr.refl _⟩
    · subst ha
      have db : (b != 0) = true := by simpa using hb
      go_wp2
      refine wp_loop_rounds 3 ?_
      rw [rounds_succ]
      go_wp2
      rw [rounds_succ]
      go_wp2
      go_ret
      exact ⟨rfl, Gr.refl _⟩
  · have da : (a != 0) = true := by simpa using ha
    go_wp2
    refine wp_loop_rounds 3 ?_
    rw [rounds_succ]
    go_wp2
    go_ret
    exact ⟨by simp [orI, ha], Gr.refl _⟩
def inO (x y : List Int) : Int := orI (Lib.compareInt (bcN x : Nat) (bcN y : Nat)) (Lib.compareBytes (Lib.bytesOf x) (Lib.bytesOf y))
set_option maxRecDepth 100000 in
set_option maxHeartbeats 4000000 in
theorem inOrder_any (ad ad' : Addr) (n n' c c' B : Nat) (l l' : List Int) (w : World) (h : Rd w B 1 (some ad) n (u8s l)) (h' : Rd w B 1 (some ad') n' (u8s l')) (hn : 4 ≤ n) (hn' : 4 ≤ n') (hc : n ≤ c) (hc' : n' ≤ c') (hk : ∀ b ∈ l, IsByte b) (hk' : ∀ b ∈ l', IsByte b) :
    Calls Try.prog 49 #[.slice (some ad) n c, .slice (some ad') n' c'] w fun e w' => e = .returned (.int .i64 (inO l l')) ∧ Gr w w' := by
  have H1 := hide (count_any (some ad) n c B l w hk h hn hc)
  have H2 := hide (count_any (some ad') n' c' B l' w hk' h' hn' hc')
  have H3 := hide (bytesCompare_any ad ad' n n' c c' B l l' w h h' (by omega) (by omega))
  clear h h' hk hk'
  unfold inO
  generalize Lib.compareBytes (Lib.bytesOf l) (Lib.bytesOf l') = cb at *
  generalize bcN l = x at *
  generalize bcN l' = y at *
  go_enter Try.func49, Try.ntmps49
  go_wp2_with (first
    | (go_at_call 59; with_reducible refine H1.out.mono ?_; rintro e w1 ⟨rfl, hW⟩; subst hW)
    | (go_at_call 59; with_reducible refine H2.out.mono ?_; rintro e w1 ⟨rfl, hW⟩; subst hW)
    | (go_at_call 64; refine (compareInt_any _ _ _).mono ?_; rintro e w1 ⟨rfl, hW⟩; subst hW)
    | (go_at_call 65; refine H3.out.mono ?_; rintro e w1 ⟨rfl, hW⟩; subst hW)
    | (go_at_call 63; refine stop_here ?_))
  show Hid _
  refine start_here ?_
  have hx := World.alloc_heap_new w (.cells #[.int .i64 (Lib.compareInt x y), .int .i64 cb] 3)
  refine (or_any w.heap.size _ _ _ ((blk_cell hx 0).trans rfl) ((blk_cell hx 1).trans rfl)).mono ?_
  rintro e w1 ⟨rfl, hg⟩
  have HG : Hid (Gr w w1) := hide (Gr.trans ⟨below1 _ _, Nat.le_refl _⟩ hg)
  clear hg hx
  go_wp2
  go_ret
  exact ⟨rfl, HG.out⟩
end Go.Proofs.Ythefgfcjjbjjkaa

/-
  The keys in their order: told by slices.SortFunc.
-/
namespace Go.Proofs.Ythefgfcjjbjjkaa
open Go.RowKit
set_option linter.unusedVariables false
set_option linter.unusedSimpArgs false

section
open Lib
theorem cb_self : ∀ a : List UInt8, compareBytes a a = 0
  | [] => rfl
  | x :: a => by
    have : ¬ x < x := UInt8.lt_irrefl x
    simp only [compareBytes, this, if_false]
    exact cb_self a
theorem u8_tri (x y : UInt8) : x < y ∨ x = y ∨ y < x := by
  simp only [UInt8.lt_iff_toNat_lt, ← UInt8.toNat_inj]
  omega
theorem cb_anti : ∀ a b : List UInt8, compareBytes b a = - compareBytes a b
  | [], [] => rfl
  | [], _ :: _ => rfl
  | _ :: _, [] => rfl
  | x :: a, y :: b => by
    have ih := cb_anti a b
    simp only [compareBytes, UInt8.lt_iff_toNat_lt]
    by_cases h1 : x.toNat < y.toNat
    · have h2 : ¬ y.toNat < x.toNat := by omega
      simp [h1, h2]
    · by_cases h2 : y.toNat < x.toNat
      · simp [h1, h2]
      · simp [h1, h2, ih]
theorem cb_trans : ∀ a b c : List UInt8, compareBytes a b ≤ 0 → compareBytes b c ≤ 0 → compareBytes a c ≤ 0 ∧ ((compareBytes a b < 0 ∨ compareBytes b c < 0) → compareBytes a c < 0)
  | [], [], [] => by simp [compareBytes]
  | [], [], _ :: _ => by simp [compareBytes]
  | [], _ :: _, [] => by simp [compareBytes]
  | [], _ :: _, _ :: _ => by simp [compareBytes]
  | _ :: _, [], _ => by simp [compareBytes]
  | _ :: _, _ :: _, [] => by simp [compareBytes]
  | x :: a, y :: b, z :: c => by
    have ih := cb_trans a b c
    simp only [compareBytes, UInt8.lt_iff_toNat_lt]
    by_cases h1 : x.toNat < y.toNat
    · by_cases h3 : y.toNat < z.toNat
      · have h5 : x.toNat < z.toNat := by omega
        simp [h1, h3, h5]
      · by_cases h4 : z.toNat < y.toNat
        · simp [h3, h4]
        · have h5 : x.toNat < z.toNat := by omega
          simp [h1, h3, h4, h5]
    · by_cases h2 : y.toNat < x.toNat
      · simp [h1, h2]
      · by_cases h3 : y.toNat < z.toNat
        · have h5 : x.toNat < z.toNat := by omega
          simp [h1, h2, h3, h5]
        · by_cases h4 : z.toNat < y.toNat
          · simp [h3, h4]
          · have h5 : ¬ x.toNat < z.toNat := by omega
            have h6 : ¬ z.toNat < x.toNat := by omega
            simpa [h1, h2, h3, h4, h5, h6] using ih
end
theorem inO_lt (x y : List Int) : Go.Proofs.ltOf inO x y = true ↔ bcN x < bcN y ∨ (bcN x = bcN y ∧ Lib.compareBytes (Lib.bytesOf x) (Lib.bytesOf y) < 0) := by
  unfold Go.Proofs.ltOf inO orI Lib.compareInt
  rw [decide_eq_true_iff]
  by_cases h1 : bcN x < bcN y
  · have h2 : ((bcN x : Nat) : Int) < (bcN y : Nat) := by omega
    simp [h1, h2]
  · by_cases h3 : bcN y < bcN x
    · have h2 : ¬ ((bcN x : Nat) : Int) < (bcN y : Nat) := by omega
      have h4 : ((bcN y : Nat) : Int) < (bcN x : Nat) := by omega
      simp [h1, h2, h3, h4]
      omega
    · have h2 : ¬ ((bcN x : Nat) : Int) < (bcN y : Nat) := by omega
      have h4 : ¬ ((bcN y : Nat) : Int) < (bcN x : Nat) := by omega
      have h5 : bcN x = bcN y := by omega
      simp [h1, h2, h3, h4, h5]
theorem inO_no (x y : List Int) : Go.Proofs.ltOf inO x y = false ↔ bcN y < bcN x ∨ (bcN x = bcN y ∧ Lib.compareBytes (Lib.bytesOf y) (Lib.bytesOf x) ≤ 0) := by
  rw [← Bool.not_eq_true, inO_lt, cb_anti (Lib.bytesOf x) (Lib.bytesOf y)]
  omega
theorem inO_swo : Go.Sort.SWO (Go.Proofs.ltOf inO) where
  irrefl x := by
    rw [inO_no, cb_self]
    exact .inr ⟨rfl, Int.le_refl _⟩
  trans x y z h1 h2 := by
    rw [inO_lt] at *
    have h3 := cb_trans (Lib.bytesOf x) (Lib.bytesOf y) (Lib.bytesOf z)
    omega
  ntrans x y z h1 h2 := by
    rw [inO_no] at *
    have h3 := cb_trans (Lib.bytesOf z) (Lib.bytesOf y) (Lib.bytesOf x)
    omega
/-- A key that is told: a row of the call's own. -/
structure TK where
  g : Nat
  n : Nat
  c : Nat
  l : List Int
def TK.sl (r : TK) : Value := .slice (some ⟨r.g, 0, none⟩) r.n r.c
def TK.Is (w : World) (r : TK) : Prop := w.ownsRow 0 5 1 r.sl r.n (u8s r.l) ∧ 4 ≤ r.n ∧ ∀ b ∈ r.l, IsByte b
theorem TK.Is.kept {F : Nat → Prop} {w w' : World} {r : TK} (h : r.Is w) (hk : Kept F w w') (hF : F r.g) : r.Is w' :=
  ⟨owns_kept h.1 hk (fun g e => by simp [TK.sl, Value.ownBlock] at e; exact e ▸ hF), h.2⟩
theorem TK.Is.cap {w : World} {r : TK} (h : r.Is w) : r.n ≤ r.c := own_cap h.1
theorem TK.Is.rd {w : World} {r : TK} (h : r.Is w) : Rd w w.heap.size 1 (some ⟨r.g, 0, none⟩) r.n (u8s r.l) :=
  (Rd.of_owns h.1).mono (row_lt (w := w) (g := r.g) (cap := r.c) (e := 5) (sz := 1) (n := r.n) h.1)
theorem TK.Is.blk {w : World} {r : TK} (h : r.Is w) : ∃ cur, w.heap[r.g]? = some (.cells cur 5 (0, 0)) := by
  rcases h.1.2 with ⟨e, _⟩ | ⟨g, cap, cur, e, _, h2, _⟩
  · cases e
  · unfold TK.sl at e
    injection e with e1 e2 e3
    injection e1 with e1
    injection e1 with e1 _
    subst e1
    exact ⟨cur, h2⟩
theorem sortWorld_kept {α : Type} [Inhabited α] (enc : α → Value) (w : World) (blk off m : Nat) (dk : Array α) (os : Array Obj) : Kept (fun g => g ≠ blk) w (Go.Proofs.sortWorld enc w blk off m dk os) := by
  refine ⟨rfl, rfl, rfl, ?_, fun k hk hne => ?_⟩
  · unfold Go.Proofs.sortWorld
    rw [Go.Sort.size_grow, Go.Sort.size_putRow]
    exact Nat.le_add_right _ _
  · unfold Go.Proofs.sortWorld
    rw [Go.Sort.heap_grow_old _ _ (by rw [Go.Sort.size_putRow]; exact hk)]
    show (Go.Sort.mapBlock (Go.Sort.ahead w m) blk _).heap[k]? = _
    unfold Go.Sort.mapBlock
    simp only [Array.getElem?_modify, Go.Sort.heap_ahead]
    rw [if_neg (fun e => hne e.symm)]
/-- Keys that are told in a row that is the call's own are sorted: the same keys, in another order. -/
theorem sort_any (g c : Nat) (rs : List TK) (w : World) (hr : w.ownsRow 0 35 1 (.slice (some ⟨g, 0, none⟩) rs.length c) rs.length (rs.map TK.sl)) (hne : rs ≠ []) (his : ∀ r ∈ rs, r.Is w) (hn : rs.length ≤ 1000000) :
    Calls Try.prog 48 #[.slice (some ⟨g, 0, none⟩) rs.length c, .func (.func 49) #[] #[]] w fun e w' => e = .returned (.tuple #[]) ∧
      ∃ rs' : List TK, rs'.Perm rs ∧ Rd w' w'.heap.size 1 (some ⟨g, 0, none⟩) rs.length (rs'.map TK.sl) ∧ Kept (fun k => k ≠ g) w w' := by
  have hg : g < w.heap.size := row_lt (w := w) (g := g) (cap := c) (e := 35) (sz := 1) (n := rs.length) hr
  obtain ⟨cur, hb⟩ : ∃ cur, w.heap[g]? = some (.cells cur 35 (0, 0)) := by
    rcases hr.2 with ⟨e, _⟩ | ⟨g', cap, cur, e, _, h2, _⟩
    · cases e
    · injection e with e1 e2 e3
      injection e1 with e1
      injection e1 with e1 _
      subst e1
      exact ⟨cur, h2⟩
  have hng : ∀ r ∈ rs, r.g ≠ g := fun r hm e => by
    obtain ⟨c2, h2⟩ := (his r hm).blk
    rw [e, hb] at h2
    injection h2 with h2
    injection h2 with _ h2
    exact absurd h2 (by decide)
  let α := { r : TK // r.Is w ∧ r.g ≠ g }
  let ds : List α := rs.attach.map fun x => ⟨x.1, his x.1 x.2, hng x.1 x.2⟩
  have hds : ds.map (fun x => x.1) = rs := by
    simp only [ds, List.map_map]
    exact List.attach_map_subtype_val rs
  have hlen : ds.length = rs.length := by simp [ds]
  obtain ⟨r0, hr0⟩ : ∃ r0, r0 ∈ ds := by
    cases hd : ds with
    | nil => rw [hd] at hlen; exact absurd (List.length_eq_zero_iff.1 hlen.symm) hne
    | cons x xs => exact ⟨x, by simp⟩
  haveI : Inhabited α := ⟨r0⟩
  let enc : α → Value := fun x => x.1.sl
  have h1 : Go.Proofs.OneCell enc := fun _ => rfl
  have hcells := hr.cells (g := g) rfl
  have hat : ∀ j, j < ds.toArray.size → (rs.map TK.sl)[j]? = some (enc (ds.toArray[j]!)) := fun j hj => by
    have hj2 : j < ds.length := by simpa using hj
    rw [← hds, List.map_map, List.getElem?_map, List.getElem?_eq_getElem hj2]
    simp [enc, hj2]
  have hH : Go.Sort.Holds enc w g 0 ds.toArray := fun j hj => by
    have h2 := hcells j _ (hat j hj)
    rw [add_own] at h2
    rw [Nat.zero_add]
    exact ⟨h2, Joins.unfrozen_of_block hb j⟩
  have hcmp : Go.Proofs.CmpLays1 Try.prog 49 #[] enc (fun x y => inO x.1.l y.1.l) g 0 ds.toArray.size w := fun m os dk _ x y => by
    have hk := sortWorld_kept enc w g 0 m dk os
    have hx := x.2.1.kept hk x.2.2
    have hy := y.2.1.kept hk y.2.2
    refine (inOrder_any ⟨x.1.g, 0, none⟩ ⟨y.1.g, 0, none⟩ x.1.n y.1.n x.1.c y.1.c _ x.1.l y.1.l _ hx.rd hy.rd hx.2.1 hy.2.1 hx.cap hy.cap hx.2.2 hy.2.2).mono ?_
    rintro e w' ⟨rfl, hG⟩
    exact ⟨rfl, hG.ex⟩
  have hO : Go.Sort.SWO (Go.Proofs.ltOf fun x y : α => inO x.1.l y.1.l) := ⟨fun x => inO_swo.irrefl x.1.l, fun x y z => inO_swo.trans x.1.l y.1.l z.1.l, fun x y z => inO_swo.ntrans x.1.l y.1.l z.1.l⟩
  have hsz : ds.toArray.size = rs.length := by simp [hlen]
  have hS := Any.slices_SortFunc Try.sortF enc h1 (fun x y => inO x.1.l y.1.l) hO 49 #[] g 0 c ds.toArray w (enters_of Try.func49 (by kernel_rfl) rfl) hcmp hH hg (by omega)
  rw [hsz] at hS
  change Calls Try.prog 48 _ _ _ at hS
  refine hS.mono ?_
  rintro e w' ⟨rfl, d', m, os, ⟨p1, p2, p3⟩, _, rfl⟩
  have hH' := Go.Proofs.holds_sortWorld enc w g 0 m ds.toArray d' os hg hH p1
  have hds' : d'.size = rs.length := by omega
  refine ⟨rfl, d'.toList.map (fun x => x.1), ?_, ⟨by simp [hds'], fun _ => ⟨_, rfl, Nat.lt_of_lt_of_le hg (sortWorld_kept enc w g 0 m d' os).size, fun j u hu => ?_⟩⟩, sortWorld_kept enc w g 0 m d' os⟩
  · rw [← hds]
    refine List.Perm.map _ ?_
    rw [← hsz] at p3
    have e1 : d'.extract 0 ds.toArray.size = d' := by rw [← p1]; exact Array.extract_size
    have e2 : ds.toArray.extract 0 ds.toArray.size = ds.toArray := Array.extract_size
    rw [e1, e2] at p3
    simpa using p3
  · rw [add_own]
    simp only [List.map_map, List.getElem?_map, Option.map_eq_some_iff] at hu
    obtain ⟨x, hx, rfl⟩ := hu
    have hj : j < d'.size := by
      have := (List.getElem?_eq_some_iff.1 hx).1
      simpa using this
    have h2 := (hH' j hj).1
    rw [Nat.zero_add] at h2
    rw [h2]
    have : d'[j]! = x := by
      rw [getElem!_pos d' j hj]
      have := (List.getElem?_eq_some_iff.1 hx).2
      simpa using this
    rw [this]
    rfl
end Go.Proofs.Ythefgfcjjbjjkaa

/-
  Keys of any trie: the keys of its places, in their order.
-/
namespace Go.Proofs.Ythefgfcjjbjjkaa
open Go.RowKit
set_option linter.unusedVariables false
set_option linter.unusedSimpArgs false

/-- The plain keys of places. -/
def keysP (P : List PL) : List (List Int) := P.filterMap fun r => r.k.map fun x => x.2
theorem keysP_no {P : List PL} {i : Nat} {r : PL} (hr : P[i]? = some r) (hk : r.k = none) : keysP (P.take (i + 1)) = keysP (P.take i) := by
  unfold keysP
  rw [List.take_add_one, hr, List.filterMap_append]
  simp [hk]
theorem keysP_yes {P : List PL} {i g : Nat} {l : List Int} {r : PL} (hr : P[i]? = some r) (hk : r.k = some (g, l)) : keysP (P.take (i + 1)) = keysP (P.take i) ++ [l] := by
  unfold keysP
  rw [List.take_add_one, hr, List.filterMap_append]
  simp [hk]
theorem keysP_len (P : List PL) : (keysP P).length ≤ P.length := List.length_filterMap_le _ _
theorem rowsInfo : (Try.prog.info? 35).map (fun i => (i.zero, i.size, i.bytes)) = some (some (.slice none 0 0), 1, 24) := by kernel_rfl
theorem key_own {w : World} {g : Nat} {l : List Int} (h : w.heap[g]? = some (.cells (u8s l).toArray 5 (0, 0))) (hn : l.length ≤ 1024) : w.ownsRow 0 5 1 (.slice (some ⟨g, 0, none⟩) l.length l.length) l.length (u8s l) :=
  ⟨by simp [u8s], .inr ⟨g, l.length, _, rfl, Nat.zero_le _, h, Nat.le_refl _, by unfold maxLen; omega, by simp [u8s], by rw [List.take_of_length_le (by simp [u8s])]⟩⟩
theorem own_cells3 {w : World} {e : TypeId} {sz n : Nat} {v : Value} {xs : List Value} {g : Nat} (h : w.ownsRow 0 e sz v n xs) (hg : v.ownBlock = some g) : ∃ cur, w.heap[g]? = some (.cells cur e (0, 0)) := by
  rcases h.2 with ⟨h0, _⟩ | ⟨g', cap, cur, h0, _, h2, _⟩
  · rw [h0] at hg; cases hg
  · rw [h0] at hg
    simp only [Value.ownBlock, Option.some.injEq] at hg
    subst hg
    exact ⟨cur, h2⟩
/-- Keys that are told, in memory. -/
structure KeysAt (w : World) (A : Option Addr) (n : Nat) (rs : List TK) : Prop where
  row : Rd w w.heap.size 1 A n (rs.map TK.sl)
  each : ∀ r ∈ rs, r.Is w
theorem KeysAt.below {w w' : World} {A : Option Addr} {n : Nat} {rs : List TK} (h : KeysAt w A n rs) (hb : Below w.heap.size w w') : KeysAt w' A n rs :=
  ⟨(h.row.below hb).mono hb.size, fun r hr => (h.each r hr).kept (Kept.of_below hb : Kept (fun _ => True) _ _) trivial⟩
/-- Keys as they are gathered. -/
structure KeysIn (w0 w : World) (v : Value) (rs : List TK) : Prop where
  row : w.ownsRow 0 35 1 v rs.length (rs.map TK.sl)
  low : ∀ g, v.ownBlock = some g → w0.heap.size ≤ g
  each : ∀ r ∈ rs, r.Is w ∧ w0.heap.size ≤ r.g
  below : Below w0.heap.size w0 w
theorem KeysIn.later {w0 w w' : World} {v : Value} {rs : List TK} (h : KeysIn w0 w v rs) (hb : Below w.heap.size w w') : KeysIn w0 w' v rs :=
  ⟨owns_kept_below h.row hb, h.low, fun r hr => ⟨(h.each r hr).1.kept (Kept.of_below hb : Kept (fun _ => True) _ _) trivial, (h.each r hr).2⟩, h.below.trans (hb.mono h.below.size)⟩
theorem KeysIn.more {w0 w w' : World} {v v' : Value} {rs : List TK} {r : TK} (h : KeysIn w0 w v rs) (hr : r.Is w) (hg : w0.heap.size ≤ r.g) (hl : Longer w w' 35 1 v v' (rs.length + 1) (rs.map TK.sl ++ [r.sl])) : KeysIn w0 w' v' (rs ++ [r]) := by
  have hoff : ∀ s : TK, s.Is w → ∀ g, v.ownBlock = some g → s.g ≠ g := fun s hs g e1 e2 => by
    obtain ⟨cur, hc⟩ := own_cells3 h.row e1
    obtain ⟨c2, h2⟩ := hs.blk
    rw [e2, hc] at h2
    injection h2 with h2
    injection h2 with _ h2
    exact absurd h2 (by decide)
  have hk : Kept (fun g => v.ownBlock ≠ some g) w w' := (Kept.refl _ w).grown hl.2.1 (fun g e _ hh => hh e)
  refine ⟨by rw [List.length_append, List.map_append]; exact hl.1, longer_from hl h.below.size h.low, fun s hs => ?_, longer_below h.below h.below.size h.low hl⟩
  rcases List.mem_append.1 hs with hs | hs
  · exact ⟨(h.each s hs).1.kept hk (fun e => hoff s (h.each s hs).1 _ e rfl), (h.each s hs).2⟩
  · simp at hs
    subst hs
    exact ⟨hr.kept hk (fun e => hoff s hr _ e rfl), hg⟩
set_option maxRecDepth 100000 in
set_option maxHeartbeats 4000000 in
theorem keys_any (B : Nat) (t : TP) (P : List PL) (N : List Bool → Nat) (w : World) (h : Tri w B t P N) :
    Calls Try.prog 23 #[.pointer (some ⟨t.tb, 0, none⟩)] w fun e w' => ∃ (A : Option Addr) (c : Nat) (rs : List TK), e = .returned (.slice A rs.length c) ∧ (rs.map TK.l).Perm (keysP P) ∧ KeysAt w' A rs.length rs ∧ Below w.heap.size w w' := by
  have HM := hide (is_yes t.tb w ((h.c 0).trans rfl))
  have c4 : w.cell? ⟨t.tb, 4, none⟩ = some (.slice (some ⟨t.cb, 0, none⟩) t.n t.n) := (h.c 4).trans rfl
  have hmany := h.many
  have hlen := h.len
  have hkb := h.kbig
  have H := hide h
  obtain ⟨i0, hi0, hz0, hz1, hz2⟩ := info_parts rowsInfo
  clear h
  go_enter Try.func23, Try.ntmps23
  go_wp2_with (go_at_call 46; refine HM.out.mono ?_; rintro e w' ⟨rfl, rfl⟩)
  clear c4
  go_loopw [3, 15] (fun q p wr => ∃ (i : Nat) (rs : List TK), i ≤ t.n ∧ p = .int .i64 i ∧ rs.map TK.l = keysP (P.take i) ∧ KeysIn w wr q rs ∧ (rs = [] → q = .slice none 0 0)) (fun _ p _ => t.n - (intOf p).toNat)
  case atStart => exact ⟨0, [], Nat.zero_le _, rfl, rfl, ⟨owns_nil _ _ _, fun g e => by simp [Value.ownBlock] at e, fun r hr => by simp at hr, Below.refl _ _⟩, fun _ => rfl⟩
  case round =>
    obtain ⟨i, rs, hi, rfl, hrs, hin, hnil⟩ := hrel
    have hrl : rs.length ≤ t.n := by
      have h1 := congrArg List.length hrs
      have h2 := keysP_len (P.take i)
      simp at h1
      rw [List.length_take] at h2
      omega
    by_cases hlt : i < t.n
    · have hr : P[i]? = some P[i] := List.getElem?_eq_getElem (by omega)
      obtain ⟨r, hrr⟩ : ∃ r, r = P[i] := ⟨_, rfl⟩
      rw [← hrr] at hr
      have hb := hin.below
      obtain ⟨c0, c1, c2⟩ := (H.out.below (Nat.le_refl _) hb).at_ hr
      have hx := World.alloc_heap_new wr (.cells #[.int .i64 i, .slice (some ⟨r.g, 0, none⟩) t.sz t.sz, kslV r.k] 77)
      have hb1 := below1 wr (.cells #[.int .i64 i, .slice (some ⟨r.g, 0, none⟩) t.sz t.sz, kslV r.k] 77)
      have hfr := hide (free_any (.int .i64 i) (.slice (some ⟨r.g, 0, none⟩) t.sz t.sz) r.k (wr.alloc (.cells #[.int .i64 i, .slice (some ⟨r.g, 0, none⟩) t.sz t.sz, kslV r.k] 77)))
      cases hk : r.k with
      | none =>
        rw [hk] at hfr c2 hb1
        simp only [kslV, Option.isNone_none] at hfr c2 hb1
        have HIN := hide (hin.later hb1)
        have HRS : Hid (rs.map TK.l = keysP (P.take (i + 1))) := hide (by rw [keysP_no hr hk]; exact hrs)
        clear hb hr hrr hk hb1 hx hin hrs
        go_wp2_with (go_at_call 47; refine hfr.out.mono ?_; rintro e w' ⟨rfl, hb2⟩; have HB3 := hide hb2; clear hb2)
        go_roundw
        case rel => exact ⟨i + 1, rs, by omega, by go_num, HRS.out, HIN.out.later HB3.out, hnil⟩
        case measure => simp [intOf]; omega
      | some y =>
        obtain ⟨g, l⟩ := y
        rw [hk] at hfr c2 hb1 hx
        simp only [kslV, Option.isNone_some] at hfr c2 hb1 hx
        have HIN := hide (hin.later hb1)
        have HRS : Hid (rs.map TK.l ++ [l] = keysP (P.take (i + 1))) := hide (by rw [keysP_yes hr hk, hrs])
        obtain ⟨kh, kl, kby, _⟩ := (H.out.below (Nat.le_refl _) hb).key r (List.mem_of_getElem? hr) g l hk
        have HKO := hide (owns_kept_below (key_own kh (by omega)) hb1)
        have HKY : Hid (∀ b ∈ l, IsByte b) := hide kby
        have HX := hide hx
        have hl5 : 5 ≤ l.length ∧ l.length ≤ 36 := by omega
        clear kl
        clear hnil hb hr hrr hk hb1 hx hin hrs kh kby
        go_wp2_with (go_at_call 47; refine stop_here ?_)
        show Hid _
        refine start_here ?_
        refine hfr.out.mono ?_
        rintro e w2 ⟨rfl, hb2⟩
        have HIN2 := hide (HIN.out.later hb2)
        have HKO2 := hide (owns_kept_below HKO.out hb2)
        have c2' : w2.cell? ⟨wr.heap.size, 2, none⟩ = some (.slice (some ⟨g, 0, none⟩) l.length l.length) := (blk_cell ((hb2.block _ (at_lt HX.out)).trans HX.out) 2).trans rfl
        clear hb2 HIN HKO HX
        go_wp2_with (go_at_call 45; refine stop_here ?_)
        show Hid _
        refine start_here ?_
        refine (clone_any (some ⟨g, 0, none⟩) l.length l.length l w2 HKO2.out (by omega)).mono ?_
        rintro e w3 ⟨⟨A3, n3, cp3⟩, rfl, hov, hb3⟩
        have HIN3 := hide (HIN2.out.later hb3)
        obtain ⟨g3, c3, hg3⟩ := ownsRow_succ (k := l.length - 1) (by rw [show l.length - 1 + 1 = l.length by omega]; exact hov.1)
        rw [show l.length - 1 + 1 = l.length by omega] at hg3
        injection hg3 with e1 e2 e3
        simp only at e1 e2 e3
        subst e1 e2 e3
        have HOV := hide hov
        have hb4 := below1 w3 (.cells #[.slice (some ⟨g3, 0, none⟩) l.length cp3] 35)
        have hx4 := World.alloc_heap_new w3 (.cells #[.slice (some ⟨g3, 0, none⟩) l.length cp3] 35)
        have HIN4 := hide (HIN3.out.later hb4)
        have HR4 : Hid (TK.Is (w3.alloc (.cells #[.slice (some ⟨g3, 0, none⟩) l.length cp3] 35)) ⟨g3, l.length, cp3, l⟩) := hide ⟨owns_kept_below HOV.out.1 hb4, by show 4 ≤ l.length; omega, HKY.out⟩
        have HG4 : Hid (w.heap.size ≤ g3) := hide (Nat.le_trans HIN2.out.below.size (HOV.out.2 g3 rfl))
        have HRD : Hid (Rd (w3.alloc (.cells #[.slice (some ⟨g3, 0, none⟩) l.length cp3] 35)) (w3.heap.size + 1) 1 (some ⟨w3.heap.size, 0, none⟩) 1 [TK.sl ⟨g3, l.length, cp3, l⟩]) := hide ⟨rfl, fun _ => ⟨_, rfl, Nat.lt_succ_self _, fun j u hu => by
          rw [add_own]
          match j, hu with
          | 0, hu => simp at hu; subst hu; exact (blk_cell hx4 0).trans rfl⟩⟩
        clear hb3 hov hb4 hx4 c2'
        go_wp2_with (with_reducible refine stop_append ?_)
        show Hid _
        refine start_here ?_
        refine wpList_append_rd _ rfl _ _ _ rfl 35 i0 _ 1 24 Try.underlying49 hi0 hz0 hz1 hz2 rfl (by decide) _ rs.length (rs.map TK.sl) rfl HIN4.out.row (w3.heap.size + 1) (some ⟨w3.heap.size, 0, none⟩) 1 1 [TK.sl ⟨g3, l.length, cp3, l⟩] rfl HRD.out nofun (fun u hu => by simp at hu; subst hu; rfl) (by unfold maxLen; omega) (by omega) ?_
        intro v5 w5 hl5
        have HIN5 := hide (HIN4.out.more HR4.out HG4.out hl5)
        clear hl5
        go_wp2
        go_roundw
        case rel => exact ⟨i + 1, rs ++ [⟨g3, l.length, cp3, l⟩], by omega, by go_num, by rw [List.map_append]; exact HRS.out, HIN5.out, fun e => by simp at e⟩
        case measure => simp [intOf]; omega
    · have hin' : i = t.n := by omega
      have HIN := hide hin
      have HRS : Hid (rs.map TK.l = keysP P) := hide (by rw [hrs, hin', ← hlen, List.take_length])
      clear hin hrs
      by_cases h0 : rs = []
      · subst h0
        obtain rfl := hnil rfl
        go_wp2_with (go_at_call 48; refine (sort_none _ _).mono ?_; rintro e w' ⟨rfl, rfl⟩)
        go_ret
        exact ⟨none, 0, [], rfl, by rw [← HRS.out], ⟨⟨rfl, fun h => absurd h (Nat.lt_irrefl 0)⟩, fun r hr => by simp at hr⟩, HIN.out.below⟩
      · obtain ⟨g, c, rfl⟩ := ownsRow_succ (k := rs.length - 1) (by rw [show rs.length - 1 + 1 = rs.length by have := List.length_pos_iff.2 h0; omega]; exact HIN.out.row)
        rw [show rs.length - 1 + 1 = rs.length by have := List.length_pos_iff.2 h0; omega] at HIN ⊢
        have HLOW : Hid (w.heap.size ≤ g) := hide (HIN.out.low g rfl)
        have HS := hide (sort_any g c rs wr HIN.out.row h0 (fun r hr => (HIN.out.each r hr).1) (by omega))
        go_wp2_with (go_at_call 48; refine stop_here ?_)
        show Hid _
        refine start_here ?_
        refine HS.out.mono ?_
        rintro e w' ⟨rfl, rs', hp, hrd, hkp⟩
        have HP := hide hp
        have HRD := hide hrd
        have HKP := hide hkp
        clear hp hrd hkp
        go_wp2
        go_ret
        refine ⟨some ⟨g, 0, none⟩, c, rs', by rw [HP.out.length_eq]; rfl, ?_, ⟨by rw [HP.out.length_eq]; exact HRD.out, fun r hr => ?_⟩, ?_⟩
        · rw [← HRS.out]
          exact HP.out.map _
        · have hm := HP.out.mem_iff.1 hr
          refine (HIN.out.each r hm).1.kept HKP.out (fun e => ?_)
          obtain ⟨cur, hc⟩ := own_cells3 HIN.out.row (g := g) rfl
          obtain ⟨c2, h2⟩ := (HIN.out.each r hm).1.blk
          rw [e, hc] at h2
          injection h2 with h2
          injection h2 with _ h2
          exact absurd h2 (by decide)
        · exact HIN.out.below.trans (HKP.out.to_below (fun k hk => by have := HLOW.out; omega) HIN.out.below.size)
end Go.Proofs.Ythefgfcjjbjjkaa
