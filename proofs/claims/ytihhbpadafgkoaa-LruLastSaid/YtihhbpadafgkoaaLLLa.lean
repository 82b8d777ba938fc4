/-
  The texts LUG, LUS, LUV, LUT, USPC, PB, LLruLast as one.
-/
import Derived.Test.YtihhbpadafgkoaaUOPS
import Derived.Test.YtihhbpadafgkoaaKB
import Derived.Test.YtihhbpadafgkoaaLUR
import Derived.Test.YtihhbpadafgkoaaUOPD
import Derived.ProofKit
import Derived.SizedLaws
import Derived.Carry
import Derived.Deep.Slices
import Derived.Deep.Fields
import Derived.Test.YtihhbpadafgkoaaRows
import Derived.WalkKit
import Derived.OpenShut
import Derived.Lib.SmallJoins
import Derived.ChangeMaps5

/-
  light: are deeds few enough?
-/
namespace Go.Proofs.Ytihhbpadafgkoaa
open Go.RowKit
set_option linter.unusedVariables false

def LightD (ds : List ADo) (i : Nat) : Prop := ∀ (j : Nat) (d : ADo), j < i → ds[j]? = some d → d.k.n ≤ 80 ∧ d.v.n ≤ 80
theorem LightD.next {ds : List ADo} {i : Nat} {d : ADo} (h : LightD ds i) (hd : ds[i]? = some d) (h1 : d.k.n ≤ 80) (h2 : d.v.n ≤ 80) : LightD ds (i + 1) := fun j e hj he => by
  by_cases hji : j = i
  · subst hji
    rw [hd] at he
    injection he with he
    subst he
    exact ⟨h1, h2⟩
  · exact h j e (by omega) he
def Light (key val ent : Int) (m : Nat) (ds : List ADo) : Prop := ent ≤ 40 ∧ val ≤ 80 ∧ key ≤ 80 ∧ m ≤ 60 ∧ ∀ d ∈ ds, d.k.n ≤ 80 ∧ d.v.n ≤ 80
def LightTold (key val ent : Int) (m : Nat) (ds : List ADo) (w : World) (e : Ending) (w' : World) : Prop := ∃ b : Bool, e = .returned (.bool b) ∧ (b = true → Light key val ent m ds) ∧ Below w.heap.size w w'
set_option maxRecDepth 100000 in
set_option maxHeartbeats 1000000 in
theorem light_any (k key val ent : Int) (A : Option Addr) (m c B : Nat) (ds : List ADo) (w : World) (h : ADos w B A m ds) (hB : B ≤ w.heap.size) (hm : m ≤ 140737488351232) :
    Calls Try.prog 8 #[.agg #[.int .u8 k, .int .i64 key, .int .i64 val, .int .i64 ent], .slice A m c] w (LightTold key val ent m ds w) := by
  have hx := World.alloc_heap_new w (.cells #[.int .u8 k, .int .i64 key, .int .i64 val, .int .i64 ent] 24)
  have hb := below1 w (.cells #[.int .u8 k, .int .i64 key, .int .i64 val, .int .i64 ent] 24)
  have b1 := (blk_cell hx 1).trans rfl
  have b2 := (blk_cell hx 2).trans rfl
  have b3 := (blk_cell hx 3).trans rfl
  have HH := hide (h.below (hb.mono hB))
  have HB := hide hb
  clear h hx hb
  by_cases h1 : (40 : Int) < ent
  · have d1 : decide (40 < ent) = true := decide_eq_true h1
    go_enter Try.func8, Try.ntmps8
    go_wp2
    go_ret
    exact ⟨false, rfl, nofun, HB.out⟩
  have d1 : decide (40 < ent) = false := decide_eq_false h1
  by_cases h2 : (80 : Int) < val
  · have d2 : decide (80 < val) = true := decide_eq_true h2
    go_enter Try.func8, Try.ntmps8
    go_wp2
    go_ret
    exact ⟨false, rfl, nofun, HB.out⟩
  have d2 : decide (80 < val) = false := decide_eq_false h2
  by_cases h3 : (80 : Int) < key
  · have d3 : decide (80 < key) = true := decide_eq_true h3
    go_enter Try.func8, Try.ntmps8
    go_wp2
    go_ret
    exact ⟨false, rfl, nofun, HB.out⟩
  have d3 : decide (80 < key) = false := decide_eq_false h3
  by_cases h4 : (60 : Int) < (m : Int)
  · have d4 : decide ((60 : Int) < (m : Int)) = true := decide_eq_true h4
    go_enter Try.func8, Try.ntmps8
    go_wp2
    go_ret
    exact ⟨false, rfl, nofun, HB.out⟩
  have d4 : decide ((60 : Int) < (m : Int)) = false := decide_eq_false h4
  have hm6 : m ≤ 60 := by omega
  have HS := hide (show ent ≤ 40 ∧ val ≤ 80 ∧ key ≤ 80 by omega)
  clear h1 h2 h3 h4
  go_enter Try.func8, Try.ntmps8
  go_wp2
  clear d1 d2 d3 d4 b1 b2 b3
  generalize w.alloc (.cells #[.int .u8 k, .int .i64 key, .int .i64 val, .int .i64 ent] 24) = w1 at *
  go_loopw [5] (fun u wr => ∃ j : Nat, j ≤ m ∧ u = .int .i64 j ∧ wr = w1 ∧ LightD ds j) (fun u _ => m - (intOf u).toNat)
  case atStart => exact ⟨0, Nat.zero_le _, rfl, rfl, fun i d hi => by omega⟩
  case round =>
    obtain ⟨j, hj, rfl, rfl, hs⟩ := hrel
    have HL := hide hs
    clear hs
    by_cases hjm : j < m
    · obtain ⟨ad, d, rfl, hd, _, hc⟩ := HH.out.cell hjm
      have c1 := hc 1 _ rfl
      rw [add_parts ad _ 1 (by decide)] at c1
      have c2 := hc 2 _ rfl
      rw [add_parts ad _ 2 (by decide)] at c2
      have HD := hide hd
      have j0 : (0 : Int) ≤ (j : Int) := by omega
      have j1 : (j : Int) < (m : Int) := by omega
      have dm : decide ((j : Int) < (m : Int)) = true := decide_eq_true j1
      clear hd hc
      by_cases hk : (80 : Int) < (d.k.n : Int)
      · have dk : decide ((80 : Int) < (d.k.n : Int)) = true := decide_eq_true hk
        go_wp2
        go_ret
        exact ⟨false, rfl, nofun, HB.out⟩
      have dk : decide ((80 : Int) < (d.k.n : Int)) = false := decide_eq_false hk
      by_cases hv : (80 : Int) < (d.v.n : Int)
      · have dv : decide ((80 : Int) < (d.v.n : Int)) = true := decide_eq_true hv
        go_wp2
        go_ret
        exact ⟨false, rfl, nofun, HB.out⟩
      have dv : decide ((80 : Int) < (d.v.n : Int)) = false := decide_eq_false hv
      have HL2 := hide (HL.out.next HD.out (by omega) (by omega))
      go_wp2
      go_roundw
      case rel => exact ⟨j + 1, by omega, by go_num, trivial, HL2.out⟩
      case measure => simp [intOf]; omega
    · obtain rfl : j = m := by omega
      have hl := HH.out.len
      have dm : decide ((j : Int) < (j : Int)) = false := decide_eq_false (by omega)
      have HF : Hid (Light key val ent j ds) := hide ⟨HS.out.1, HS.out.2.1, HS.out.2.2, hm6, fun d hd => by
        obtain ⟨i, hi⟩ := List.mem_iff_getElem?.1 hd
        have h1 := (List.getElem?_eq_some_iff.1 hi).1
        exact HL.out i d (by omega) hi⟩
      clear hl
      go_wp2
      go_ret
      exact ⟨true, rfl, fun _ => HF.out, HB.out⟩
end Go.Proofs.Ytihhbpadafgkoaa

/-
  LruLast: the law's own rows.
-/
namespace Go.Proofs.Ytihhbpadafgkoaa
open Go.RowKit Go.Maps
set_option linter.unusedVariables false
set_option linter.unusedSimpArgs false

structure SL where
  A : Option Addr
  n : Nat
  c : Nat
def SL.v (s : SL) : Value := .slice s.A s.n s.c
/-- n rows of bytes read as ls. -/
structure RowsRd (w : World) (B : Nat) (A : Option Addr) (n : Nat) (ls : List (List Int)) (vs : List SL) : Prop where
  len : ls.length = n
  lev : vs.length = n
  rd : Rd w B 1 A n (vs.map SL.v)
  each : ∀ (i : Nat) (s : SL) (l : List Int), vs[i]? = some s → ls[i]? = some l → s.n = l.length ∧ Rd w B 1 s.A s.n (u8s l)
theorem RowsRd.below {w w' : World} {B n : Nat} {A : Option Addr} {ls : List (List Int)} {vs : List SL} (h : RowsRd w B A n ls vs) (hb : Below B w w') : RowsRd w' B A n ls vs :=
  ⟨h.len, h.lev, h.rd.below hb, fun i s l hi hl => ⟨(h.each i s l hi hl).1, (h.each i s l hi hl).2.below hb⟩⟩
set_option maxRecDepth 100000 in
set_option maxHeartbeats 1000000 in
theorem sameRows_yes (A A' : Option Addr) (n c c' B : Nat) (ls : List (List Int)) (vs vs' : List SL) (w : World) (h : RowsRd w B A n ls vs) (h' : RowsRd w B A' n ls vs') (hB : B ≤ w.heap.size) (hn : n ≤ 1000000) (hl : ∀ l ∈ ls, l.length ≤ 1000000) :
    Calls Try.prog 25 #[.slice A n c, .slice A' n c'] w fun e w' => e = .returned (.bool true) ∧ Below w.heap.size w w' := by
  have H := hide h
  have H' := hide h'
  have HL := hide hl
  clear h h' hl
  go_enter Try.func25, Try.ntmps25
  go_wp2
  go_loopw [5] (fun p wr => ∃ k : Nat, k ≤ n ∧ p = .int .i64 k ∧ Below w.heap.size w wr) (fun p _ => n - (intOf p).toNat)
  case atStart => exact ⟨0, Nat.zero_le _, rfl, Below.refl _ _⟩
  case round =>
    obtain ⟨k, hk, rfl, hb⟩ := hrel
    by_cases hlt : k < n
    · have h1 := H.out.below (hb.mono hB)
      have h2 := H'.out.below (hb.mono hB)
      obtain ⟨ad, rfl, _, hc⟩ := h1.rd.2 (by omega)
      obtain ⟨ad', rfl, _, hc'⟩ := h2.rd.2 (by omega)
      obtain ⟨s, hs⟩ : ∃ s, vs[k]? = some s := ⟨vs[k]'(by rw [h1.lev]; exact hlt), List.getElem?_eq_getElem _⟩
      obtain ⟨s', hs'⟩ : ∃ s, vs'[k]? = some s := ⟨vs'[k]'(by rw [h2.lev]; exact hlt), List.getElem?_eq_getElem _⟩
      obtain ⟨l, hl⟩ : ∃ l, ls[k]? = some l := ⟨ls[k]'(by rw [h1.len]; exact hlt), List.getElem?_eq_getElem _⟩
      have q1 : wr.cell? (ad.add k) = some (.slice s.A s.n s.c) := hc k _ (by rw [List.getElem?_map, hs]; rfl)
      have q2 : wr.cell? (ad'.add k) = some (.slice s'.A s'.n s'.c) := hc' k _ (by rw [List.getElem?_map, hs']; rfl)
      obtain ⟨e1, r1⟩ := h1.each k s l hs hl
      obtain ⟨e2, r2⟩ := h2.each k s' l hs' hl
      have hll := HL.out l (List.mem_of_getElem? hl)
      obtain ⟨sA, sn, sc⟩ := s
      obtain ⟨tA, tn, tc⟩ := s'
      simp only at q1 q2 e1 e2 r1 r2
      subst e1
      subst e2
      have HC := hide (sameBytes_yes sA tA l.length sc tc B l wr.drew (r1.mono (Nat.le_refl _)) (r2.mono (Nat.le_refl _)) (Nat.le_trans hB hb.size) hll)
      have HBB := hide hb
      have k0 : (0 : Int) ≤ (k : Int) := by omega
      have k1 : (k : Int) < (n : Int) := by omega
      clear h1 h2 hc hc' hs hs' hl r1 r2 hb
      generalize l.length = ln at *
      go_wp2
      refine wp_region_still_tail 8 (by kernel_rfl) (by kernel_rfl) ?_
      simp only [List.take_succ_cons, List.take_zero, List.drop_succ_cons, List.drop_zero]
      repeat still_step
      refine wpStill_nil ?_
      go_wp2_with (go_at_call 19; refine HC.out.mono ?_; rintro e w2 ⟨rfl, hb⟩; have HB2 := hide hb; clear hb)
      go_roundw
      case rel => exact ⟨k + 1, by omega, by go_num, HBB.out.trans ((Below.refl _ wr).drew |>.mono HBB.out.size |>.trans (HB2.out.mono HBB.out.size))⟩
      case measure => simp [intOf]; omega
    · obtain rfl : k = n := by omega
      go_wp2
      go_ret
      exact ⟨rfl, hb⟩
def KR.s (r : KR) : SL := ⟨some ⟨r.g, 0, none⟩, r.k.length, r.cap⟩
theorem KeysTold.rows {w : World} {B n c : Nat} {A : Option Addr} {rs : List KR} (h : KeysTold w B (.slice A n c) rs) : n = rs.length ∧ RowsRd w w.heap.size A rs.length (rs.map fun r => ints r.k) (rs.map KR.s) := by
  obtain ⟨A2, c2, e, hr⟩ := owns_slice h.row
  injection e with e1 e2 e3
  subst e1
  refine ⟨e2, by simp, by simp, ?_, fun i s l hi hl => ?_⟩
  · rw [List.map_map]
    exact hr
  · rw [List.getElem?_map] at hi hl
    cases hrs : rs[i]? with
    | none => rw [hrs] at hi; cases hi
    | some r =>
      rw [hrs] at hi hl
      simp at hi hl
      subst hi
      subst hl
      exact ⟨by simp [KR.s, ints], ((h.each r (List.mem_of_getElem? hrs)).1).rd⟩
theorem below_in {w0 W w' : World} (h : Below w0.heap.size w0 W) (hb : Below W.heap.size W w') : Below w0.heap.size w0 w' := h.trans (hb.mono h.size)
theorem InB.krow {w : World} {B : Nat} {r : ARow} (h : InB w B r) : KRow w B r.A r.n r.bs := ⟨h.rd, h.nil, h.byte⟩
theorem InB.blk {w : World} {B : Nat} {r : ARow} (h : InB w B r) (hn : 0 < r.n) : ∀ ad, r.A = some ad → ad.block < B := fun ad e => by
  obtain ⟨ad2, e2, hb, _⟩ := h.rd.2 hn
  rw [e] at e2
  injection e2 with e2
  subst e2
  exact hb
theorem InB.mono {w : World} {B B' : Nat} {r : ARow} (h : InB w B r) (hB : B ≤ B') : InB w B' r := ⟨h.rd.mono hB, h.nil, h.le, h.cap, h.byte⟩
theorem Rd.keptS {F : Nat → Prop} {w w' : World} {B sz n : Nat} {A : Option Addr} {xs : List Value} (h : Rd w B sz A n xs) (hk : Kept F w w') (hF : 0 < n → ∀ ad, A = some ad → F ad.block) (hB : B ≤ w.heap.size) : Rd w' B sz A n xs := ⟨h.1, fun hn => by
  obtain ⟨ad, e, hb, hc⟩ := h.2 hn
  refine ⟨ad, e, hb, fun j u hu => ?_⟩
  have h1 := hc j u hu
  have h2 := hk.block ad.block (by omega) (hF hn ad e)
  unfold World.cell? at h1 ⊢
  rw [block_add] at h1 ⊢
  rw [h2]
  exact h1⟩
/-- Two rows that grow. -/
structure Inn (Wi wq : World) (va vb : Value) (Ra Rb : List ARow) : Prop where
  a : wq.ownsRow 0 35 1 va Ra.length (Ra.map ARow.sl)
  b : wq.ownsRow 0 35 1 vb Rb.length (Rb.map ARow.sl)
  alow : ∀ g, va.ownBlock = some g → Wi.heap.size ≤ g
  blow : ∀ g, vb.ownBlock = some g → Wi.heap.size ≤ g
  sep : ∀ g, va.ownBlock = some g → vb.ownBlock ≠ some g
  below : Below Wi.heap.size Wi wq
section
variable {Wi wq W2 w3 : World} {va vb v' : Value} {Ra Rb : List ARow} {r : ARow}
theorem Inn.start (Wi : World) : Inn Wi Wi (.slice none 0 0) (.slice none 0 0) [] [] :=
  ⟨owns_nil _ _ _, owns_nil _ _ _, (fun g hg => by cases hg), (fun g hg => by cases hg), (fun g hg => by cases hg), Below.refl _ _⟩
theorem Inn.later (h : Inn Wi wq va vb Ra Rb) (hb : Below wq.heap.size wq W2) : Inn Wi W2 va vb Ra Rb :=
  ⟨owns_kept_below h.a hb, owns_kept_below h.b hb, h.alow, h.blow, h.sep, below_in h.below hb⟩
theorem Inn.addA (h : Inn Wi wq va vb Ra Rb) (hb : Below wq.heap.size wq W2) (hl : Longer W2 w3 35 1 va v' (Ra.length + 1) (Ra.map ARow.sl ++ [r.sl])) : Inn Wi w3 v' vb (Ra ++ [r]) Rb := by
  have h2 := h.later hb
  have hvb : ∀ g, vb.ownBlock = some g → g < W2.heap.size := fun g hg => (h2.b.lt g hg).2
  refine ⟨by rw [List.length_append, List.map_append]; exact hl.1, owns_kept h2.b ((Kept.refl _ W2).grown (F := fun g => va.ownBlock ≠ some g) hl.2.1 (fun g e _ hh => hh e)) (fun g hg e => h.sep g e hg), fun g hg => ?_, h.blow, fun g hg e => ?_, ?_⟩
  · rcases hl.2.2 with h3 | h3
    · exact h.alow g (h3 ▸ hg)
    · rw [h3] at hg
      injection hg with hg
      have := h2.below.size
      omega
  · rcases hl.2.2 with h3 | h3
    · exact h.sep g (h3 ▸ hg) e
    · rw [h3] at hg
      injection hg with hg
      have := hvb g e
      omega
  · exact h2.below.grown hl.2.1 h2.below.size (fun g e => h.alow g e)
theorem Inn.swap (h : Inn Wi wq va vb Ra Rb) : Inn Wi wq vb va Rb Ra := ⟨h.b, h.a, h.blow, h.alow, fun g h1 h2 => h.sep g h2 h1, h.below⟩
theorem Inn.addB (h : Inn Wi wq va vb Ra Rb) (hb : Below wq.heap.size wq W2) (hl : Longer W2 w3 35 1 vb v' (Rb.length + 1) (Rb.map ARow.sl ++ [r.sl])) : Inn Wi w3 va v' Ra (Rb ++ [r]) := (h.swap.addA hb hl).swap
end
/-- The blocks of the law's rows. -/
def RowBl (A7 A8 : Option Addr) (n g : Nat) : Prop := 0 < n ∧ ((∃ ad, A7 = some ad ∧ ad.block = g) ∨ ∃ ad, A8 = some ad ∧ ad.block = g)
structure RowsK (W : World) (A7 A8 : Option Addr) (M : List MP) : Prop where
  k : Rd W W.heap.size 1 A7 M.length (M.map fun m => m.1.sl)
  v : Rd W W.heap.size 1 A8 M.length (M.map fun m => m.2.sl)
theorem RowsK.lt {W : World} {A7 A8 : Option Addr} {M : List MP} (h : RowsK W A7 A8 M) : ∀ g, RowBl A7 A8 M.length g → g < W.heap.size := fun g ⟨h0, h1⟩ => by
  rcases h1 with ⟨ad, e, rfl⟩ | ⟨ad, e, rfl⟩
  · obtain ⟨ad2, e2, hb, _⟩ := h.k.2 h0
    rw [e] at e2; injection e2 with e2; subst e2; exact hb
  · obtain ⟨ad2, e2, hb, _⟩ := h.v.2 h0
    rw [e] at e2; injection e2 with e2; subst e2; exact hb
theorem RowsK.kept {W W' : World} {A7 A8 : Option Addr} {M : List MP} {S : Nat → Prop} (h : RowsK W A7 A8 M) (hk : Kept S W W') (hS : ∀ g, RowBl A7 A8 M.length g → S g) : RowsK W' A7 A8 M :=
  ⟨(h.k.keptS hk (fun hn ad e => hS _ ⟨hn, .inl ⟨ad, e, rfl⟩⟩) (Nat.le_refl _)).mono hk.size, (h.v.keptS hk (fun hn ad e => hS _ ⟨hn, .inr ⟨ad, e, rfl⟩⟩) (Nat.le_refl _)).mono hk.size⟩
theorem RowsK.below {W W' : World} {A7 A8 : Option Addr} {M : List MP} (h : RowsK W A7 A8 M) (hb : Below W.heap.size W W') : RowsK W' A7 A8 M := h.kept (S := fun _ => True) (Kept.of_below hb) (fun _ _ => trivial)
theorem RowsK.cells {W : World} {A7 A8 : Option Addr} {M : List MP} {j : Nat} (h : RowsK W A7 A8 M) (hj : j < M.length) : ∃ a7 a8 m, A7 = some a7 ∧ A8 = some a8 ∧ M[j]? = some m ∧ ∀ W', Below W.heap.size W W' → W'.cell? (a7.add j) = some (.slice m.1.A m.1.n m.1.c) ∧ W'.cell? (a8.add j) = some (.slice m.2.A m.2.n m.2.c) := by
  obtain ⟨a7, e7, b7, h7⟩ := h.k.2 (by omega)
  obtain ⟨a8, e8, b8, h8⟩ := h.v.2 (by omega)
  have hm : M[j]? = some M[j] := List.getElem?_eq_getElem hj
  refine ⟨a7, a8, M[j], e7, e8, hm, fun W' hb => ⟨?_, ?_⟩⟩
  · exact (hb.cell (by rw [block_add]; exact b7)).trans (h7 j _ (by rw [List.getElem?_map, hm]; rfl))
  · exact (hb.cell (by rw [block_add]; exact b8)).trans (h8 j _ (by rw [List.getElem?_map, hm]; rfl))
def MIn (w : World) (M : List MP) : Prop := ∀ m ∈ M, InB w w.heap.size m.1 ∧ InB w w.heap.size m.2 ∧ m.1.n ≤ 80 ∧ m.2.n ≤ 80
theorem MIn.sub {w : World} {M M' : List MP} (h : MIn w M) (hs : ∀ m ∈ M', m ∈ M) : MIn w M' := fun m hm => h m (hs m hm)
/-- Two rows that were grown are the law's rows. -/
theorem Inn.rows {Wi wq : World} {A A' : Option Addr} {c c' : Nat} {M : List MP} (h : Inn Wi wq (.slice A M.length c) (.slice A' M.length c') (M.map (·.1)) (M.map (·.2))) : RowsK wq A A' M := by
  have h1 := h.a
  have h2 := h.b
  rw [List.length_map, List.map_map] at h1 h2
  exact ⟨Rd.of_own h1, Rd.of_own h2⟩
theorem Inn.new {Wi wq : World} {A A' : Option Addr} {c c' n n' : Nat} {Ra Rb : List ARow} (h : Inn Wi wq (.slice A n c) (.slice A' n' c') Ra Rb) {k : Nat} : ∀ g, RowBl A A' k g → 0 < n → 0 < n' → Wi.heap.size ≤ g := fun g ⟨h0, h1⟩ hn hn' => by
  rcases h1 with ⟨ad, e, rfl⟩ | ⟨ad, e, rfl⟩
  · rcases h.a.2 with ⟨e2, _⟩ | ⟨g, cap, cur, e2, _⟩
    · injection e2 with e2; rw [e2] at e; cases e
    · injection e2 with e2; rw [e2] at e; injection e with e; subst e; exact h.alow g (by rw [e2]; rfl)
  · rcases h.b.2 with ⟨e2, _⟩ | ⟨g, cap, cur, e2, _⟩
    · injection e2 with e2; rw [e2] at e; cases e
    · injection e2 with e2; rw [e2] at e; injection e with e; subst e; exact h.blow g (by rw [e2]; rfl)
/-- .. without the eldest. -/
theorem Inn.cut {Wi wq : World} {A A' : Option Addr} {c c' : Nat} {M : List MP} (h : Inn Wi wq (.slice A M.length c) (.slice A' M.length c') (M.map (·.1)) (M.map (·.2))) (h0 : 0 < M.length) :
    ∃ A2 c2 A3 c3, (∀ W, (Instr.slice 49 (.slice A M.length c) (some (.int .i64 1)) none none).run Try.prog W = .ok (.slice A2 (M.length - 1) c2) W) ∧ (∀ W, (Instr.slice 49 (.slice A' M.length c') (some (.int .i64 1)) none none).run Try.prog W = .ok (.slice A3 (M.length - 1) c3) W) ∧
      RowsK wq A2 A3 (M.drop 1) ∧ ∀ g, RowBl A2 A3 (M.length - 1) g → Wi.heap.size ≤ g := by
  have h1 := h.a
  have h2 := h.b
  rw [List.length_map, List.map_map] at h1 h2
  have hinf : (Try.prog.info? 35).map (·.size) = some 1 := by kernel_rfl
  obtain ⟨A2, c2, r1, p1⟩ := cut_rest (P := Try.prog) Try.underlying49 hinf h1 1 (by omega)
  obtain ⟨A3, c3, r2, p2⟩ := cut_rest (P := Try.prog) Try.underlying49 hinf h2 1 (by omega)
  have d1 := cut_rd h1 1 (M.length - 1) (by omega) p1
  have d2 := cut_rd h2 1 (M.length - 1) (by omega) p2
  have hl : (M.drop 1).length = M.length - 1 := by simp
  have q1 : ((M.map (ARow.sl ∘ fun x => x.1)).drop 1).take (M.length - 1) = (M.drop 1).map fun m => m.1.sl := by
    rw [← List.map_drop, List.take_of_length_le (by simp)]
    rfl
  have q2 : ((M.map (ARow.sl ∘ fun x => x.2)).drop 1).take (M.length - 1) = (M.drop 1).map fun m => m.2.sl := by
    rw [← List.map_drop, List.take_of_length_le (by simp)]
    rfl
  rw [q1] at d1
  rw [q2] at d2
  refine ⟨A2, c2, A3, c3, r1, r2, ⟨by rw [hl]; exact d1, by rw [hl]; exact d2⟩, fun g ⟨g0, hg⟩ => ?_⟩
  obtain ⟨ga, ea, ea2⟩ := p1 g0
  obtain ⟨gb, eb, eb2⟩ := p2 g0
  rcases hg with ⟨ad, e, rfl⟩ | ⟨ad, e, rfl⟩
  · rw [ea2] at e; injection e with e; subst e
    exact h.alow ga (by rw [ea]; rfl)
  · rw [eb2] at e; injection e with e; subst e
    exact h.blow gb (by rw [eb]; rfl)
end Go.Proofs.Ytihhbpadafgkoaa

/-
  LruLast: each key is looked up once more, each at a place of its own.
-/
namespace Go.Proofs.Ytihhbpadafgkoaa
open Go.RowKit Go.Maps
set_option linter.unusedVariables false
set_option linter.unusedSimpArgs false

theorem boolInfo : (Try.prog.info? 4).map (fun i => (i.zero, i.size, i.bytes)) = some (some (.bool false), 1, 1) := by kernel_rfl
theorem bool_parts : ∃ i, Try.prog.info? 4 = some i ∧ i.zero = some (.bool false) ∧ i.size = 1 ∧ i.bytes = 1 := by
  have h := boolInfo
  cases hi : Try.prog.info? 4 with
  | none => rw [hi] at h; cases h
  | some i =>
    rw [hi] at h
    simp only [Option.map_some, Option.some.injEq, Prod.mk.injEq] at h
    exact ⟨i, rfl, h.1, h.2.1, h.2.2⟩
theorem bools_cells (n : Nat) : madeCells #[Value.bool false] n = (List.replicate n (Value.bool false)).toArray := by
  apply Array.ext'
  apply List.ext_getElem
  · simp [size_madeCells]
  · intro i h1 h2
    simp [madeCells, Nat.mod_one]
theorem bools_made (n : Nat) (hn : n ≤ 16777216) (W : World) : (Instr.makeSlice 64 (.int .i64 (n : Int)) (.int .i64 (n : Int))).run Try.prog W = .ok (.slice (some ⟨W.heap.size, 0, none⟩) n n) (W.alloc (.cells (List.replicate n (Value.bool false)).toArray 4)) := by
  obtain ⟨i0, hi, hz0, hz1, hz2⟩ := bool_parts
  have := run_make (P := Try.prog) W 64 4 i0 _ Try.underlying64 hi hz0 .i64 .i64 (n : Int) (n : Int) (by omega) (by omega) (by rw [hz2]; omega) (by omega)
  rw [hz1] at this
  rw [← bools_cells]
  simpa [Value.cells] using this
def usedB (T : List (LK × MP)) (i p : Nat) : Bool := (T.take i).any fun t => t.1.p == p
def usedC (n : Nat) (T : List (LK × MP)) (i : Nat) : List Value := (List.range n).map fun p => Value.bool (usedB T i p)
theorem usedC_at {n : Nat} {T : List (LK × MP)} {i p : Nat} (h : p < n) : (usedC n T i)[p]? = some (.bool (usedB T i p)) := by
  unfold usedC
  rw [List.getElem?_map, List.getElem?_range h]
  rfl
theorem usedC_0 (n : Nat) (T : List (LK × MP)) : usedC n T 0 = List.replicate n (.bool false) := by
  apply List.ext_getElem?
  intro p
  by_cases h : p < n
  · rw [usedC_at h, List.getElem?_replicate]
    simp [h, usedB]
  · rw [List.getElem?_eq_none (by simp [usedC]; omega), List.getElem?_eq_none (by simp; omega)]
theorem usedB_next {T : List (LK × MP)} {i p : Nat} {t : LK × MP} (h : T[i]? = some t) : usedB T (i + 1) p = (usedB T i p || t.1.p == p) := by
  unfold usedB
  rw [List.take_add_one, h, Option.toList_some, List.any_append]
  simp
theorem usedC_next {n : Nat} {T : List (LK × MP)} {i : Nat} {t : LK × MP} (h : T[i]? = some t) (hp : t.1.p < n) : (usedC n T i).set t.1.p (.bool true) = usedC n T (i + 1) := by
  apply List.ext_getElem?
  intro p
  by_cases hpn : p < n
  · rw [usedC_at hpn, usedB_next h]
    by_cases e : t.1.p = p
    · subst e
      rw [List.getElem?_set_self (by simp [usedC]; exact hp)]
      simp
    · rw [List.getElem?_set_ne e, usedC_at hpn]
      have : (t.1.p == p) = false := by simpa using e
      rw [this, Bool.or_false]
  · rw [List.getElem?_eq_none (by simp [usedC]; omega), List.getElem?_eq_none (by simp [usedC]; omega)]
/-- The links in whatever order, the places as they were. -/
def FinS (B b mb cb e ks sz : Nat) (T : List (LK × MP)) (P : List HS) (S : Nat → Prop) (W : World) : Prop := ∃ L, Lru W B b mb cb e ks sz L P ∧ L.Perm (T.map (·.1)) ∧ ∀ g, S g → ¬ OfU b mb cb e sz L P g
section
variable {W W' w : World} {B b mb cb e ks sz N : Nat} {M : List MP} {S : Nat → Prop} {T : List (LK × MP)} {P : List HS}
theorem FinS.below (h : FinS B b mb cb e ks sz T P S W) (hb : Below W.heap.size W W') : FinS B b mb cb e ks sz T P S W' := by
  obtain ⟨L, h1, h2⟩ := h
  exact ⟨L, h1.below hb, h2⟩
theorem FinS.set (h : FinS B b mb cb e ks sz T P S W) {g i : Nat} (hg : S g) (u : Value) : FinS B b mb cb e ks sz T P S (W.setCell ⟨g, i, none⟩ u) := by
  obtain ⟨L, h1, h2, h3⟩ := h
  exact ⟨L, h1.kept (kept_set _ _ _ _) (fun g' ho e2 => h3 g hg (e2 ▸ ho)), h2, h3⟩
theorem place_free (h : Fits ks (T.map (·.1)) P) {i : Nat} {t : LK × MP} (ht : T[i]? = some t) : usedB T i t.1.p = false := by
  unfold usedB
  rw [List.any_eq_false]
  intro t' ht'
  obtain ⟨i', hi'⟩ := List.mem_iff_getElem?.1 ht'
  have hlt : i' < i := by
    have := (List.getElem?_eq_some_iff.1 hi').1
    rw [List.length_take] at this
    omega
  rw [List.getElem?_take_of_lt hlt] at hi'
  intro e2
  have e3 : t'.1.p = t.1.p := by simpa using e2
  have ek := h.place (List.mem_map_of_mem (f := (·.1)) (List.mem_of_getElem? hi')) (List.mem_map_of_mem (f := (·.1)) (List.mem_of_getElem? ht)) e3
  have k1 : ((T.map (·.1)).map LK.k)[i']? = some t.1.k := by rw [List.getElem?_map, List.getElem?_map, hi']; simp [ek]
  have k2 : ((T.map (·.1)).map LK.k)[i]? = some t.1.k := by rw [List.getElem?_map, List.getElem?_map, ht]; rfl
  have := nodup_at h.keys k1 k2
  omega
def LookF (B b mb cb e ks sz : Nat) (T : List (LK × MP)) (P : List HS) (S : Nat → Prop) (p : Nat) (w : World) (en : Ending) (w' : World) : Prop := en = .returned (.tuple #[.int .i64 p, .int .i64 0]) ∧ FinS B b mb cb e ks sz T P S w' ∧ Kept S w w' ∧ Below B w w'
theorem look_fin {i : Nat} {t : LK × MP} (h : FinS B b mb cb e ks sz T P S w) (hS : ∀ g, S g → g < w.heap.size) (hB : B ≤ w.heap.size) (ht : T[i]? = some t) (hg : Good P t) (C : Nat) (hr : KRow w C t.2.1.A t.2.1.n t.2.1.bs) :
    Calls Try.prog 13 #[.pointer (some ⟨b, 0, none⟩), .slice t.2.1.A t.2.1.n t.2.1.c] w (LookF B b mb cb e ks sz T P S t.1.p w) := by
  obtain ⟨L, h1, h2, h3⟩ := h
  have hm : t.1 ∈ L := h2.mem_iff.2 (List.mem_map_of_mem (List.mem_of_getElem? ht))
  obtain ⟨j, hf, hj⟩ := mem_find h1.fit hm
  have hk := h1.fit.find_some hf hj
  obtain ⟨s, hs1, hs2⟩ := h1.fit.at_ t.1 hm
  have hkl := h1.fit.keyl _ s _ hs1 hs2
  have hlen : t.2.1.n = ks := by
    rw [hg.1] at hkl
    have := Rd.ints hr.rd
    simp [kb] at hkl
    omega
  rw [hg.1] at hf hk
  refine (lookup_any B b mb cb e ks sz L P t.2.1.A t.2.1.n t.2.1.c C t.2.1.bs w h1 hr).mono ?_
  rintro en w' ⟨rfl, hgo⟩
  have e1 : lookE ks t.2.1.n P (kb t.2.1.bs) = ((t.1.p : Int), 0) := by unfold lookE; rw [if_pos hlen, hk]
  have e2 : renL ks t.2.1.n L (kb t.2.1.bs) = L.eraseIdx j ++ [t.1] := by unfold renL; rw [if_pos hlen, hf]; simp [hj]
  rw [e2] at hgo
  have hp := erase_perm hj
  refine ⟨by rw [e1], ⟨_, hgo.1, hp.trans h2, fun g hg' ho => ?_⟩, hgo.2.1.mono (fun g hg' => h3 g hg'), below_len h1 hgo hB⟩
  rcases hgo.2.2 g ho with h4 | h4
  · exact h3 g hg' h4
  · have := hS g hg'
    omega
theorem val_fin {t : LK × MP} {s : HS} (h : FinS B b mb cb e ks sz T P S w) (hs : P[t.1.p]? = some s) :
    Calls Try.prog 17 #[.pointer (some ⟨b, 0, none⟩), .int .i64 t.1.p] w (ValTold sz s.bs w) := by
  obtain ⟨L, h1, h2, h3⟩ := h
  exact value_yes B b mb cb e ks sz t.1.p L P s w h1 hs
/-- The law's keys as rows. -/
theorem rows_law {w0 : World} {A7 A8 : Option Addr} {W0 : World} (h : RowsK W A7 A8 M) (hm : MIn W0 M) (hb : Below W0.heap.size W0 W) : RowsRd W W.heap.size A7 M.length (M.map fun m => m.1.bs) (M.map fun m => ⟨m.1.A, m.1.n, m.1.c⟩) := by
  refine ⟨by simp, by simp, ?_, fun i s l hi hl => ?_⟩
  · rw [List.map_map]
    exact h.k
  · rw [List.getElem?_map] at hi hl
    cases hmi : M[i]? with
    | none => rw [hmi] at hi; cases hi
    | some m =>
      rw [hmi] at hi hl
      simp at hi hl
      subst hi
      subst hl
      have hI := (hm m (List.mem_of_getElem? hmi)).1.below hb
      exact ⟨(Rd.ints hI.rd).symm, hI.rd.mono hb.size⟩
theorem keys_law {rs : List KR} (h : LSI B b mb cb e ks sz N M S W T P) (hr : rs.map KR.k = (T.map (·.1)).map LK.k) : (rs.map fun r => ints r.k) = M.map fun m => m.1.bs := by
  have e1 : (rs.map fun r => ints r.k) = (rs.map KR.k).map ints := by rw [List.map_map]; rfl
  rw [e1, hr, h.keysOf, List.map_map]
  exact List.map_congr_left fun m hm => ints_kb (h.byteM m hm)
end
end Go.Proofs.Ytihhbpadafgkoaa

/-
  LruLast's walk.
-/
namespace Go.Proofs.Ytihhbpadafgkoaa
open Go.RowKit Go.Maps
set_option linter.unusedVariables false
set_option linter.unusedSimpArgs false

structure LastR (w : World) (Bz b mb cb eb ks sz n : Nat) (M : List MP) (A7 A8 : Option Addr) (W : World) : Prop where
  ls : LS Bz b mb cb eb ks sz n M (RowBl A7 A8 M.length) W
  rows : RowsK W A7 A8 M
  ins : MIn w M
  below : Below w.heap.size w W
  size : Bz ≤ W.heap.size
section
variable {w : World} {Bz b mb cb eb ks sz n : Nat} {M : List MP} {A7 A8 : Option Addr} {W W' : World}
theorem LastR.later (h : LastR w Bz b mb cb eb ks sz n M A7 A8 W) (hb : Below W.heap.size W W') : LastR w Bz b mb cb eb ks sz n M A7 A8 W' :=
  ⟨h.ls.below hb, h.rows.below hb, h.ins, below_in h.below hb, Nat.le_trans h.size hb.size⟩
end
theorem val_cases : ∀ (M : List MP) (v : ARow) (key : List Int), valM1 v M key = v ∨ ∃ m ∈ M, valM1 v M key = m.2
  | [], v, key => .inl rfl
  | x :: M, v, key => by
    unfold valM1
    rw [List.foldl_cons]
    rcases val_cases M (if x.1.bs = key then x.2 else v) key with h | ⟨m, hm, h⟩
    · unfold valM1 at h
      rw [h]
      split
      · exact .inr ⟨x, by simp, rfl⟩
      · exact .inl rfl
    · unfold valM1 at h
      exact .inr ⟨m, by simp [hm], h⟩
theorem rem_sub {M : List MP} {key : List Int} : ∀ m ∈ remM M key, m ∈ M := fun m hm => (List.mem_filter.1 hm).1
theorem rem_len (M : List MP) (key : List Int) : (remM M key).length ≤ M.length := List.length_filter_le _ _
theorem one_sl (r : ARow) : ∀ u ∈ [Value.slice r.A r.n r.c], u.oneCell' = true := fun u hu => by rw [List.mem_singleton] at hu; subst hu; rfl
set_option maxRecDepth 100000 in
set_option maxHeartbeats 20000000 in
theorem law_lruLast (k key val ent : Int) (QA : Option Addr) (m c : Nat) (ds : List ADo) (w : World) (hk : 0 ≤ k ∧ k < 256) (hq : ADos w w.heap.size QA m ds) (hmc : m ≤ 140737488351232) :
    Calls Try.prog 5 #[.agg #[.int .u8 k, .int .i64 key, .int .i64 val, .int .i64 ent], .slice QA m c] w fun e w' => e = .returned (.bool true) ∧ Below w.heap.size w w' := by
  obtain ⟨i0f, hi0, hz0, hz1, hz2⟩ := info_parts rows22
  have q0 := World.alloc_heap_new w (.cells #[.int .u8 k, .int .i64 key, .int .i64 val, .int .i64 ent] 24)
  have hb1 := below1 w (.cells #[.int .u8 k, .int .i64 key, .int .i64 val, .int .i64 ent] 24)
  generalize hW1 : w.alloc (.cells #[.int .u8 k, .int .i64 key, .int .i64 val, .int .i64 ent] 24) = W1 at q0 hb1
  replace hW1 := hide hW1
  have HB := hide hb1
  have HX1 := hide q0
  have HC : Hid (∀ W, Below W1.heap.size W1 W → W.cell? ⟨w.heap.size, 0, none⟩ = some (.int .u8 k) ∧ W.cell? ⟨w.heap.size, 1, none⟩ = some (.int .i64 key) ∧ W.cell? ⟨w.heap.size, 2, none⟩ = some (.int .i64 val) ∧ W.cell? ⟨w.heap.size, 3, none⟩ = some (.int .i64 ent)) := hide (fun W hb => by
    have h1 := (hb.block _ (at_lt q0)).trans q0
    refine ⟨?_, ?_, ?_, ?_⟩ <;> (rw [blk_cell h1]; rfl))
  have HQ := hide hq
  clear q0 hb1 hq
  go_enter Try.func5, Try.ntmps5
  go_upto_region 1 with fail
  refine Eq.mp (congrArg (Code.wp Try.prog _ _ _) hW1.out.symm) ?_
  go_wp2_with fail
  refine (awake_any W1).mono ?_
  rintro e w2 ⟨rfl, hb⟩
  have HB2 := hide hb
  have HW2 := hide (below_in HB.out hb)
  clear hb
  obtain ⟨s0, s1, s2, s3⟩ := HC.out w2 HB2.out
  go_wp2_with fail
  refine (light_any k key val ent QA m c w.heap.size ds w2 (HQ.out.below HW2.out) HW2.out.size hmc).mono ?_
  rintro e w3 ⟨bl, rfl, hl, hb⟩
  have HB3 := hide (below_in HB2.out hb)
  have HL := hide hl
  clear hb hl s0 s1 s2 s3
  obtain ⟨s0, s1, s2, s3⟩ := HC.out w3 HB3.out
  have HBW3 := hide (below_in HB.out HB3.out)
  cases bl
  · go_wp2_with fail
    go_ret
    exact ⟨rfl, HBW3.out⟩
  have HLI := hide (HL.out rfl)
  clear HL
  go_wp2_with fail
  clear s0 s1 s2 s3
  by_cases he : newE k key val ent = 0
  case neg =>
    have hne : (newE k key val ent != 0) = true := by simpa using he
    have HNO := hide (new_no k key val ent w3 hk he)
    generalize newE k key val ent = ne at *
    refine HNO.out.mono ?_
    rintro e w4 ⟨rfl, hb⟩
    have HB4 := hide (below_in HBW3.out hb)
    clear hb he
    go_wp2_with fail
    go_ret
    exact ⟨rfl, HB4.out⟩
  case pos =>
    obtain ⟨rfl, hsp, n1, n2, n3, n4, n5, n6⟩ := newE_yes he
    obtain ⟨ks, rfl⟩ : ∃ n : Nat, key = n := ⟨key.toNat, by omega⟩
    obtain ⟨sz, rfl⟩ : ∃ n : Nat, val = n := ⟨val.toNat, by omega⟩
    obtain ⟨n, rfl⟩ : ∃ n : Nat, ent = n := ⟨ent.toNat, by omega⟩
    clear he
    refine (new_yes n ks sz w3 hsp (by omega) (by omega) (by omega)).mono ?_
    rintro e w4 ⟨b, mb, cb, eb, s, rfl, ha, hb⟩
    have hPl := zHSs_len s sz n
    generalize zHSs s sz n = P at ha hPl
    obtain ⟨Bz, hBz⟩ : ∃ Bz, Bz = w3.heap.size := ⟨_, rfl⟩
    rw [← hBz] at ha hb
    have HBZ : Hid (w.heap.size ≤ Bz ∧ w.heap.size < Bz) := hide (by
      have h1 := HBW3.out.size
      have h2 := at_lt ((HB3.out.block _ (at_lt HX1.out)).trans HX1.out)
      exact ⟨by omega, by omega⟩)
    have HBW4 : Hid (Below w.heap.size w w4) := hide (HBW3.out.trans (hb.mono HBZ.out.1))
    have HXB : Hid (∀ W, Below Bz w3 W → W.cell? ⟨w.heap.size, 3, none⟩ = some (.int .i64 n)) := hide (fun W hbW => by
      have h1 := (hbW.block _ HBZ.out.2).trans ((HB3.out.block _ (at_lt HX1.out)).trans HX1.out)
      rw [blk_cell h1]
      rfl)
    have HB4 : Hid (Below Bz w3 w4) := hide hb
    have h0 : LS Bz b mb cb eb ks sz n [] (RowBl none none 0) w4 := ⟨[], P, ha, hPl, rfl, (fun t ht => by cases ht), fun g ⟨hg, _⟩ => by omega⟩
    have HST : Hid (LastR w Bz b mb cb eb ks sz n [] none none w4) := hide ⟨h0, ⟨Rd.nil, Rd.nil⟩, (fun m hm => by cases hm), HBW4.out, by rw [hBz]; exact (hBz ▸ hb).size⟩
    clear ha hb hPl hBz hsp h0 HBW4
    go_wp2_with fail
    go_loopw [7, 8, 9] (fun v7 v8 u wr => ∃ (i : Nat) (M : List MP) (A7 A8 : Option Addr) (c7 c8 : Nat), i ≤ m ∧ u = .int .i64 i ∧ v7 = .slice A7 M.length c7 ∧ v8 = .slice A8 M.length c8 ∧ LastR w Bz b mb cb eb ks sz n M A7 A8 wr ∧ Below Bz w3 wr) (fun _ _ u _ => m - (intOf u).toNat)
    case atStart => exact ⟨0, [], none, none, 0, 0, Nat.zero_le _, rfl, rfl, rfl, HST.out, HB4.out⟩
    case round =>
      obtain ⟨i, M, A7, A8, c7, c8, hi, rfl, rfl, rfl, hR, hB3r⟩ := hrel
      have HR := hide hR
      have HBR := hide hB3r
      have hm60 : m ≤ 60 := HLI.out.2.2.2.1
      have hn40 : (n : Int) ≤ 40 := HLI.out.1
      have hML : M.length ≤ n := by obtain ⟨T, P, h⟩ := hR.ls; exact h.lenN
      clear hR hB3r
      by_cases him : i < m
      · obtain ⟨ad, d, rfl, hd, _, hc⟩ := (HQ.out.below HR.out.below).cell him
        have HI := hide (HQ.out.inner d (List.mem_of_getElem? hd))
        have HDL := hide (HLI.out.2.2.2.2 d (List.mem_of_getElem? hd))
        have f0 : wr.cell? (ad.add (i * 6)) = some (.int .i64 d.what) := hc 0 _ rfl
        have f1 := hc 1 _ rfl
        have f2 := hc 2 _ rfl
        have f3 := hc 3 _ rfl
        have f4 := hc 4 _ rfl
        have f5 := hc 5 _ rfl
        rw [add_parts ad _ 1 (by decide)] at f1
        rw [add_parts ad _ 2 (by decide)] at f2
        rw [add_parts ad _ 3 (by decide)] at f3
        rw [add_parts ad _ 4 (by decide)] at f4
        rw [add_parts ad _ 5 (by decide)] at f5
        have i0 : (0 : Int) ≤ (i : Int) := by omega
        have i1 : (i : Int) < (m : Int) := by omega
        have dm : decide ((i : Int) < (m : Int)) = true := decide_eq_true i1
        clear hc hd
        go_upto_region 13 with fail
        have hbx := below1 wr (.cells #[.int .i64 d.what, .slice d.k.A d.k.n d.k.c, .slice d.v.A d.v.n d.v.c, .int .u64 d.fl, .int .i64 d.pl, .int .i64 d.of] 38)
        have hxx := World.alloc_heap_new wr (.cells #[.int .i64 d.what, .slice d.k.A d.k.n d.k.c, .slice d.v.A d.v.n d.v.c, .int .u64 d.fl, .int .i64 d.pl, .int .i64 d.of] 38)
        clear f0 f1 f2 f3 f4 f5
        generalize wr.alloc (.cells #[.int .i64 d.what, .slice d.k.A d.k.n d.k.c, .slice d.v.A d.v.n d.v.c, .int .u64 d.fl, .int .i64 d.pl, .int .i64 d.of] 38) = wx at hbx hxx ⊢
        have HRX := hide (HR.out.later hbx)
        have HBX3 : Hid (Below Bz w3 wx) := hide (HBR.out.trans (hbx.mono HR.out.size))
        have HXX := hide hxx
        have HLS : Hid (LS Bz b mb cb eb ks sz n M (fun g => RowBl A7 A8 M.length g ∨ g = wr.heap.size) wx) := hide ((HR.out.ls.on (fun g hg => hg.imp id (fun e => Nat.le_of_eq e.symm))).below hbx)
        have HSL : Hid (∀ g, (RowBl A7 A8 M.length g ∨ g = wr.heap.size) → g < wx.heap.size) := hide (fun g hg => by
          rcases hg with hg | rfl
          · exact HRX.out.rows.lt g hg
          · exact at_lt HXX.out)
        have HKR : Hid (KRow wx w.heap.size d.k.A d.k.n d.k.bs) := hide ((HI.out.k.below HRX.out.below).krow)
        have f0 : wx.cell? ⟨wr.heap.size, 0, none⟩ = some (.int .i64 d.what) := (blk_cell hxx 0).trans rfl
        have f1 : wx.cell? ⟨wr.heap.size, 1, none⟩ = some (.slice d.k.A d.k.n d.k.c) := (blk_cell hxx 1).trans rfl
        have f2 : wx.cell? ⟨wr.heap.size, 2, none⟩ = some (.slice d.v.A d.v.n d.v.c) := (blk_cell hxx 2).trans rfl
        have f3 : wx.cell? ⟨wr.heap.size, 3, none⟩ = some (.int .u64 d.fl) := (blk_cell hxx 3).trans rfl
        generalize hXe : wr.heap.size = X at HXX HLS HSL f0 f1 f2 f3 ⊢
        clear hbx hxx dm
        go_wp2_with fail
        refine (pick_any d.what 9 wx (by decide) (by decide) HI.out.what.1 HI.out.what.2).mono ?_
        rintro e wx' ⟨kk, hkk, rfl, rfl⟩
        by_cases hk6 : (6 : Int) ≤ (kk : Int)
        · have d6 : decide ((6 : Int) ≤ (kk : Int)) = true := decide_eq_true hk6
          go_wp2_with fail
          go_roundw
          case rel => exact ⟨i + 1, M, A7, A8, c7, c8, by omega, by go_num, rfl, rfl, HRX.out, HBX3.out⟩
          case measure => simp [intOf]; omega
        have d6 : decide ((6 : Int) ≤ (kk : Int)) = false := decide_eq_false hk6
        by_cases hk1 : (kk : Int) ≤ 1
        · have d1 : decide ((kk : Int) ≤ 1) = true := decide_eq_true hk1
          go_wp2_with fail
          refine (look_ls d.k d.v w.heap.size wx HLS.out HSL.out HRX.out.size HKR.out).mono ?_
          rintro e w5 ⟨pp, er, rfl, hT⟩
          obtain ⟨t1, t2, t3⟩ := hT
          have ROWS5 := hide (HRX.out.rows.kept t2 (fun g hg => .inl hg))
          have BOX5 := hide ((t2.block _ (at_lt HXX.out) (.inr rfl)).trans HXX.out)
          have BW5 : Hid (Below w.heap.size w w5) := hide (HRX.out.below.trans (t1.mono HBZ.out.1))
          have BB5 : Hid (Below Bz w3 w5) := hide (HBX3.out.trans t1)
          have SZ5 : Hid (Bz ≤ w5.heap.size) := hide (Nat.le_trans HRX.out.size t1.size)
          clear f0 f1 f2 f3 t1 t2
          rcases t3 with ⟨hne, hls⟩ | ⟨rfl, hls⟩
          · have hnb : (er != 0) = true := by simpa using hne
            have HFIN : Hid (LastR w Bz b mb cb eb ks sz n M A7 A8 w5) := hide ⟨hls.on (fun g hg => .inl (.inl hg)), ROWS5.out, HR.out.ins, BW5.out, SZ5.out⟩
            clear hls
            go_wp2_with fail
            go_roundw
            case rel => exact ⟨i + 1, M, A7, A8, c7, c8, by omega, by go_num, rfl, rfl, HFIN.out, BB5.out⟩
            case measure => simp [intOf]; omega
          · have LS5 := hide hls
            clear hls
            have BOXF : Hid (∀ W, Below w5.heap.size w5 W → W.cell? ⟨X, 1, none⟩ = some (.slice d.k.A d.k.n d.k.c) ∧ W.cell? ⟨X, 2, none⟩ = some (.slice d.v.A d.v.n d.v.c)) := hide (fun W hbW => by
              have h1 := (hbW.block _ (at_lt BOX5.out)).trans BOX5.out
              exact ⟨by rw [blk_cell h1]; rfl, by rw [blk_cell h1]; rfl⟩)
            have HZ5 := hide (Below.refl w5.heap.size w5)
            obtain ⟨f1, f2⟩ := BOXF.out w5 HZ5.out
            have INN0 := hide (Inn.start w5)
            go_wp2_with fail
            clear f1 f2
            go_loopw [13, 14, 15, 16] (fun v va vb u wq => ∃ j : Nat, j ≤ M.length ∧ u = .int .i64 j ∧ v = .slice (valM1 d.v (M.take j) d.k.bs).A (valM1 d.v (M.take j) d.k.bs).n (valM1 d.v (M.take j) d.k.bs).c ∧ Inn w5 wq va vb ((remM (M.take j) d.k.bs).map (·.1)) ((remM (M.take j) d.k.bs).map (·.2))) (fun _ _ _ u _ => M.length - (intOf u).toNat)
            case atStart => exact ⟨0, Nat.zero_le _, rfl, rfl, INN0.out⟩
            case round =>
              obtain ⟨j, hj, rfl, rfl, hI⟩ := hrel
              have INN := hide hI
              clear hI
              by_cases hjm : j < M.length
              · obtain ⟨a7, a8, mm, rfl, rfl, hmm, hcel⟩ := ROWS5.out.cells hjm
                have HCEL := hide hcel
                have HMM := hide hmm
                obtain ⟨g1, g2, g3, g4⟩ := HR.out.ins mm (List.mem_of_getElem? hmm)
                have G1 := hide g1
                have hrl := rem_len (M.take j) d.k.bs
                have htl : (M.take j).length = j := by rw [List.length_take]; omega
                have j0 : (0 : Int) ≤ (j : Int) := by omega
                have j1 : (j : Int) < (M.length : Int) := by omega
                have dj : decide ((j : Int) < (M.length : Int)) = true := decide_eq_true j1
                obtain ⟨x1, x2⟩ := hcel wr INN.out.below
                obtain ⟨f1, f2⟩ := BOXF.out wr INN.out.below
                have BWq : Hid (Below w.heap.size w wr) := hide (below_in BW5.out INN.out.below)
                have HSM := hide (same_any mm.1.A d.k.A mm.1.n d.k.n mm.1.c d.k.c w.heap.size mm.1.bs d.k.bs wr.drew (G1.out.below BWq.out.drew).rd (HI.out.k.below BWq.out.drew).rd BWq.out.size (by omega) (by have := HDL.out.1; omega))
                obtain ⟨sm, hsm⟩ : ∃ sm, decide (mm.1.bs = d.k.bs) = sm := ⟨_, rfl⟩
                rw [hsm] at HSM
                have HSME := hide hsm
                clear hcel hmm g1 g2 hsm
                go_wp2_with fail
                refine wp_region_still_tail 6 (by kernel_rfl) (by kernel_rfl) ?_
                simp only [List.take_succ_cons, List.take_zero, List.drop_succ_cons, List.drop_zero]
                repeat still_step
                refine wpStill_nil ?_
                go_wp2_with (go_at_call 29; refine stop_here ?_)
                refine start_here ?_
                refine HSM.out.mono ?_
                rintro e w6 ⟨rfl, hb⟩
                have INN6 := hide ((INN.out.later (Below.refl _ _).drew).later hb)
                clear hb
                obtain ⟨y1, y2⟩ := HCEL.out w6 INN6.out.below
                clear x1 x2 f1 f2
                cases sm
                · have hne : mm.1.bs ≠ d.k.bs := of_decide_eq_false HSME.out
                  have e1 := rem_take M d.k.bs HMM.out
                  rw [if_neg hne] at e1
                  have E1 := hide e1
                  have e2 := val_take d.v M d.k.bs HMM.out
                  rw [if_neg hne] at e2
                  have E2 := hide e2
                  clear e2
                  clear e1 hne HSM
                  have ll1 : ((remM (M.take j) d.k.bs).map (fun x : MP => x.1)).length ≤ 60 := by rw [List.length_map]; omega
                  have ll2 : ((remM (M.take j) d.k.bs).map (fun x : MP => x.2)).length ≤ 60 := by rw [List.length_map]; omega
                  have hbz := below1 w6 (.cells #[.slice mm.1.A mm.1.n mm.1.c] 35)
                  have HRD := hide (cells_rd w6 [.slice mm.1.A mm.1.n mm.1.c] 35 1 1 rfl)
                  have HOW := hide ((INN6.out.later hbz).a)
                  have HBZ1 := hide hbz
                  clear hbz
                  go_wp2_with (with_reducible refine stop_append ?_)
                  show Hid _
                  refine start_here ?_
                  refine wpList_append_rd2 rfl _ _ _ _ rfl 35 i0f _ 1 24 Try.underlying49 Try.underlying49 hi0 hz0 hz1 hz2 rfl (by decide) _ ((remM (M.take j) d.k.bs).map (fun x : MP => x.1)).length (((remM (M.take j) d.k.bs).map (fun x : MP => x.1)).map ARow.sl) rfl HOW.out (w6.heap.size + 1) (some ⟨w6.heap.size, 0, none⟩) 1 1 [.slice mm.1.A mm.1.n mm.1.c] rfl HRD.out (fun h => by cases h) (one_sl _) (by unfold maxLen; omega) (by omega) ?_
                  intro v' w7 hl
                  have INN7 := hide (INN6.out.addA (r := mm.1) HBZ1.out hl)
                  obtain ⟨vaA, vac, rfl, _⟩ := owns_slice hl.1
                  clear hl HRD HOW HBZ1
                  obtain ⟨z1, z2⟩ := HCEL.out w7 INN7.out.below
                  clear y1 y2
                  have hbz := below1 w7 (.cells #[.slice mm.2.A mm.2.n mm.2.c] 35)
                  have HRD := hide (cells_rd w7 [.slice mm.2.A mm.2.n mm.2.c] 35 1 1 rfl)
                  have HOW := hide ((INN7.out.later hbz).b)
                  have HBZ1 := hide hbz
                  clear hbz
                  go_wp2_with (with_reducible refine stop_append ?_)
                  show Hid _
                  refine start_here ?_
                  refine wpList_append_rd2 rfl _ _ _ _ rfl 35 i0f _ 1 24 Try.underlying49 Try.underlying49 hi0 hz0 hz1 hz2 rfl (by decide) _ ((remM (M.take j) d.k.bs).map (fun x : MP => x.2)).length (((remM (M.take j) d.k.bs).map (fun x : MP => x.2)).map ARow.sl) rfl HOW.out (w7.heap.size + 1) (some ⟨w7.heap.size, 0, none⟩) 1 1 [.slice mm.2.A mm.2.n mm.2.c] rfl HRD.out (fun h => by cases h) (one_sl _) (by unfold maxLen; omega) (by omega) ?_
                  intro v' w8 hl
                  have INN8 := hide (INN7.out.addB (r := mm.2) HBZ1.out hl)
                  obtain ⟨vbA, vbc, rfl, _⟩ := owns_slice hl.1
                  clear hl HRD HOW HBZ1
                  clear z1 z2
                  go_wp2_with fail
                  go_roundw
                  case rel => exact ⟨j + 1, by omega, by go_num, by rw [E2.out], by have h9 := INN8.out; rw [List.length_map, List.length_map] at h9; rw [E1.out, List.map_append, List.map_append]; exact h9⟩
                  case measure => simp [intOf]; omega
                · have heq : mm.1.bs = d.k.bs := of_decide_eq_true HSME.out
                  have e1 := rem_take M d.k.bs HMM.out
                  rw [if_pos heq] at e1
                  have E1 := hide e1
                  have e2 := val_take d.v M d.k.bs HMM.out
                  rw [if_pos heq] at e2
                  have E2 := hide e2
                  clear e2
                  clear e1 heq HSM
                  go_wp2_with fail
                  go_roundw
                  case rel => exact ⟨j + 1, by omega, by go_num, by rw [E2.out], by rw [E1.out]; exact INN6.out⟩
                  case measure => simp [intOf]; omega
              · obtain rfl : j = M.length := by omega
                have dj : decide ((M.length : Int) < (M.length : Int)) = false := decide_eq_false (by omega)
                have htk : M.take M.length = M := List.take_length
                rw [htk] at INN
                rw [htk]
                have hrl := rem_len M d.k.bs
                obtain ⟨f1, f2⟩ := BOXF.out wr INN.out.below
                clear htk
                have ll1 : ((remM M d.k.bs).map (fun x : MP => x.1)).length ≤ 60 := by rw [List.length_map]; omega
                have ll2 : ((remM M d.k.bs).map (fun x : MP => x.2)).length ≤ 60 := by rw [List.length_map]; omega
                have hqv : InB w w.heap.size (valM1 d.v M d.k.bs) ∧ (valM1 d.v M d.k.bs).n ≤ 80 := by
                  rcases val_cases M d.v d.k.bs with h | ⟨m1, h1, h⟩ <;> rw [h]
                  · exact ⟨HI.out.v, HDL.out.2⟩
                  · exact ⟨(HR.out.ins m1 h1).2.1, (HR.out.ins m1 h1).2.2.2⟩
                have HQV := hide hqv
                clear hqv
                obtain ⟨vv, hvv⟩ : ∃ vv, vv = (valM1 d.v M d.k.bs) := ⟨_, rfl⟩
                rw [← hvv] at HQV LS5 ⊢
                clear hvv
                have hbz := below1 wr (.cells #[.slice d.k.A d.k.n d.k.c] 35)
                have HRD := hide (cells_rd wr [.slice d.k.A d.k.n d.k.c] 35 1 1 rfl)
                have HOW := hide ((INN.out.later hbz).a)
                have HBZ1 := hide hbz
                clear hbz
                go_wp2_with (with_reducible refine stop_append ?_)
                show Hid _
                refine start_here ?_
                refine wpList_append_rd2 rfl _ _ _ _ rfl 35 i0f _ 1 24 Try.underlying49 Try.underlying49 hi0 hz0 hz1 hz2 rfl (by decide) _ ((remM M d.k.bs).map (fun x : MP => x.1)).length (((remM M d.k.bs).map (fun x : MP => x.1)).map ARow.sl) rfl HOW.out (wr.heap.size + 1) (some ⟨wr.heap.size, 0, none⟩) 1 1 [.slice d.k.A d.k.n d.k.c] rfl HRD.out (fun h => by cases h) (one_sl _) (by unfold maxLen; omega) (by omega) ?_
                intro v' w7 hl
                have INN7 := hide (INN.out.addA (r := d.k) HBZ1.out hl)
                obtain ⟨vaA, vac, rfl, _⟩ := owns_slice hl.1
                clear hl HRD HOW HBZ1
                have hbz := below1 w7 (.cells #[.slice vv.A vv.n vv.c] 35)
                have HRD := hide (cells_rd w7 [.slice vv.A vv.n vv.c] 35 1 1 rfl)
                have HOW := hide ((INN7.out.later hbz).b)
                have HBZ1 := hide hbz
                clear hbz
                go_wp2_with (with_reducible refine stop_append ?_)
                show Hid _
                refine start_here ?_
                refine wpList_append_rd2 rfl _ _ _ _ rfl 35 i0f _ 1 24 Try.underlying49 Try.underlying49 hi0 hz0 hz1 hz2 rfl (by decide) _ ((remM M d.k.bs).map (fun x : MP => x.2)).length (((remM M d.k.bs).map (fun x : MP => x.2)).map ARow.sl) rfl HOW.out (w7.heap.size + 1) (some ⟨w7.heap.size, 0, none⟩) 1 1 [.slice vv.A vv.n vv.c] rfl HRD.out (fun h => by cases h) (one_sl _) (by unfold maxLen; omega) (by omega) ?_
                intro v' w8 hl
                have INN8 := hide (INN7.out.addB (r := vv) HBZ1.out hl)
                obtain ⟨vbA, vbc, rfl, _⟩ := owns_slice hl.1
                clear hl HRD HOW HBZ1
                obtain ⟨M2, hM2⟩ : ∃ M2, M2 = remM M d.k.bs ++ [(d.k, vv)] := ⟨_, rfl⟩
                rw [← hM2] at LS5
                have hl2 : M2.length = (remM M d.k.bs).length + 1 := by rw [hM2]; simp
                have hp1 : M2.map (·.1) = (remM M d.k.bs).map (fun x : MP => x.1) ++ [d.k] := by rw [hM2]; simp
                have hp2 : M2.map (·.2) = (remM M d.k.bs).map (fun x : MP => x.2) ++ [vv] := by rw [hM2]; simp
                rw [← hp1, ← hp2, List.length_map, List.length_map] at INN8
                simp only [List.length_map]
                generalize (remM M d.k.bs).length + 1 = q2 at hl2 INN8 ⊢
                subst hl2
                have HIN2 : Hid (MIn w M2) := hide (fun m1 hm1 => by
                  rw [hM2] at hm1
                  rcases List.mem_append.1 hm1 with h1 | h1
                  · exact HR.out.ins m1 (rem_sub m1 h1)
                  · rw [List.mem_singleton] at h1
                    subst h1
                    exact ⟨HI.out.k, HQV.out.1, HDL.out.1, HQV.out.2⟩)
                have hlen2 : M2.length ≤ 41 := by rw [hM2]; simp; omega
                clear hp1 hp2 ll1 ll2 HQV hM2
                have BW8 := hide (below_in BW5.out INN8.out.below)
                have BB8 : Hid (Below Bz w3 w8) := hide (BB5.out.trans (INN8.out.below.mono SZ5.out))
                have SZ8 : Hid (Bz ≤ w8.heap.size) := hide (Nat.le_trans SZ5.out INN8.out.below.size)
                have x3 := HXB.out w8 BB8.out
                clear f1 f2
                by_cases hov : (n : Int) < (M2.length : Int)
                · have dov : decide ((n : Int) < (M2.length : Int)) = true := decide_eq_true hov
                  obtain ⟨A2, c2, A3, c3, r1, r2, rk, rl⟩ := INN8.out.cut (by omega)
                  have R1 := r1 w8
                  have R2 := r2 w8
                  have hd1 : (M2.drop 1).length = M2.length - 1 := by simp
                  have hfin : LastR w Bz b mb cb eb ks sz n (M2.drop 1) A2 A3 w8 := by
                    refine ⟨?_, rk, HIN2.out.sub (fun m1 h1 => List.mem_of_mem_drop h1), BW8.out, SZ8.out⟩
                    have h1 := LS5.out
                    unfold trimN at h1
                    rw [if_pos (by omega)] at h1
                    exact (h1.on (fun g hg => .inr (rl g (by rw [← hd1]; exact hg)))).below INN8.out.below
                  rw [← hd1] at R1 R2
                  have HFIN := hide hfin
                  clear r1 r2 rk rl hfin hd1
                  go_wp2_with fail
                  go_roundw
                  case rel => exact ⟨i + 1, M2.drop 1, A2, A3, c2, c3, by omega, by go_num, by simp, by simp, HFIN.out, BB8.out⟩
                  case measure => simp [intOf]; omega
                · have dov : decide ((n : Int) < (M2.length : Int)) = false := decide_eq_false hov
                  have hfin : LastR w Bz b mb cb eb ks sz n M2 vaA vbA w8 := by
                    refine ⟨?_, INN8.out.rows, HIN2.out, BW8.out, SZ8.out⟩
                    have h1 := LS5.out
                    rw [trim_le (by omega)] at h1
                    exact (h1.on (fun g hg => .inr (INN8.out.new g hg hg.1 hg.1))).below INN8.out.below
                  have HFIN := hide hfin
                  clear hfin
                  go_wp2_with fail
                  go_roundw
                  case rel => exact ⟨i + 1, M2, vaA, vbA, vac, vbc, by omega, by go_num, rfl, rfl, HFIN.out, BB8.out⟩
                  case measure => simp [intOf]; omega
        have d1 : decide ((kk : Int) ≤ 1) = false := decide_eq_false hk1
        by_cases hk5 : kk = 5
        · subst hk5
          go_wp2_with fail
          refine (del_ls d.k w.heap.size wx HLS.out HSL.out HRX.out.size HKR.out).mono ?_
          rintro e w5 ⟨er, rfl, hT⟩
          obtain ⟨t1, t2, t3⟩ := hT
          have ROWS5 := hide (HRX.out.rows.kept t2 (fun g hg => .inl hg))
          have BOX5 := hide ((t2.block _ (at_lt HXX.out) (.inr rfl)).trans HXX.out)
          have BW5 : Hid (Below w.heap.size w w5) := hide (HRX.out.below.trans (t1.mono HBZ.out.1))
          have BB5 : Hid (Below Bz w3 w5) := hide (HBX3.out.trans t1)
          have SZ5 : Hid (Bz ≤ w5.heap.size) := hide (Nat.le_trans HRX.out.size t1.size)
          clear f0 f1 f2 f3 t1 t2
          rcases t3 with ⟨hne, hls⟩ | ⟨rfl, hls⟩
          · have hnb : (er != 0) = true := by simpa using hne
            have HFIN : Hid (LastR w Bz b mb cb eb ks sz n M A7 A8 w5) := hide ⟨hls.on (fun g hg => .inl (.inl hg)), ROWS5.out, HR.out.ins, BW5.out, SZ5.out⟩
            clear hls
            go_wp2_with fail
            go_roundw
            case rel => exact ⟨i + 1, M, A7, A8, c7, c8, by omega, by go_num, rfl, rfl, HFIN.out, BB5.out⟩
            case measure => simp [intOf]; omega
          · have LS5 := hide hls
            clear hls
            have BOXF : Hid (∀ W, Below w5.heap.size w5 W → W.cell? ⟨X, 1, none⟩ = some (.slice d.k.A d.k.n d.k.c) ∧ W.cell? ⟨X, 2, none⟩ = some (.slice d.v.A d.v.n d.v.c)) := hide (fun W hbW => by
              have h1 := (hbW.block _ (at_lt BOX5.out)).trans BOX5.out
              exact ⟨by rw [blk_cell h1]; rfl, by rw [blk_cell h1]; rfl⟩)
            have HZ5 := hide (Below.refl w5.heap.size w5)
            obtain ⟨f1, f2⟩ := BOXF.out w5 HZ5.out
            have INN0 := hide (Inn.start w5)
            go_wp2_with fail
            clear f1 f2
            go_loopw [13, 14, 15, 16] (fun v va vb u wq => ∃ j : Nat, j ≤ M.length ∧ u = .int .i64 j ∧ v = .slice d.v.A d.v.n d.v.c ∧ Inn w5 wq va vb ((remM (M.take j) d.k.bs).map (·.1)) ((remM (M.take j) d.k.bs).map (·.2))) (fun _ _ _ u _ => M.length - (intOf u).toNat)
            case atStart => exact ⟨0, Nat.zero_le _, rfl, rfl, INN0.out⟩
            case round =>
              obtain ⟨j, hj, rfl, rfl, hI⟩ := hrel
              have INN := hide hI
              clear hI
              by_cases hjm : j < M.length
              · obtain ⟨a7, a8, mm, rfl, rfl, hmm, hcel⟩ := ROWS5.out.cells hjm
                have HCEL := hide hcel
                have HMM := hide hmm
                obtain ⟨g1, g2, g3, g4⟩ := HR.out.ins mm (List.mem_of_getElem? hmm)
                have G1 := hide g1
                have hrl := rem_len (M.take j) d.k.bs
                have htl : (M.take j).length = j := by rw [List.length_take]; omega
                have j0 : (0 : Int) ≤ (j : Int) := by omega
                have j1 : (j : Int) < (M.length : Int) := by omega
                have dj : decide ((j : Int) < (M.length : Int)) = true := decide_eq_true j1
                obtain ⟨x1, x2⟩ := hcel wr INN.out.below
                obtain ⟨f1, f2⟩ := BOXF.out wr INN.out.below
                have BWq : Hid (Below w.heap.size w wr) := hide (below_in BW5.out INN.out.below)
                have HSM := hide (same_any mm.1.A d.k.A mm.1.n d.k.n mm.1.c d.k.c w.heap.size mm.1.bs d.k.bs wr.drew (G1.out.below BWq.out.drew).rd (HI.out.k.below BWq.out.drew).rd BWq.out.size (by omega) (by have := HDL.out.1; omega))
                obtain ⟨sm, hsm⟩ : ∃ sm, decide (mm.1.bs = d.k.bs) = sm := ⟨_, rfl⟩
                rw [hsm] at HSM
                have HSME := hide hsm
                clear hcel hmm g1 g2 hsm
                go_wp2_with fail
                refine wp_region_still_tail 6 (by kernel_rfl) (by kernel_rfl) ?_
                simp only [List.take_succ_cons, List.take_zero, List.drop_succ_cons, List.drop_zero]
                repeat still_step
                refine wpStill_nil ?_
                go_wp2_with (go_at_call 29; refine stop_here ?_)
                refine start_here ?_
                refine HSM.out.mono ?_
                rintro e w6 ⟨rfl, hb⟩
                have INN6 := hide ((INN.out.later (Below.refl _ _).drew).later hb)
                clear hb
                obtain ⟨y1, y2⟩ := HCEL.out w6 INN6.out.below
                clear x1 x2 f1 f2
                cases sm
                · have hne : mm.1.bs ≠ d.k.bs := of_decide_eq_false HSME.out
                  have e1 := rem_take M d.k.bs HMM.out
                  rw [if_neg hne] at e1
                  have E1 := hide e1
                  clear e1 hne HSM
                  have ll1 : ((remM (M.take j) d.k.bs).map (fun x : MP => x.1)).length ≤ 60 := by rw [List.length_map]; omega
                  have ll2 : ((remM (M.take j) d.k.bs).map (fun x : MP => x.2)).length ≤ 60 := by rw [List.length_map]; omega
                  have hbz := below1 w6 (.cells #[.slice mm.1.A mm.1.n mm.1.c] 35)
                  have HRD := hide (cells_rd w6 [.slice mm.1.A mm.1.n mm.1.c] 35 1 1 rfl)
                  have HOW := hide ((INN6.out.later hbz).a)
                  have HBZ1 := hide hbz
                  clear hbz
                  go_wp2_with (with_reducible refine stop_append ?_)
                  show Hid _
                  refine start_here ?_
                  refine wpList_append_rd2 rfl _ _ _ _ rfl 35 i0f _ 1 24 Try.underlying49 Try.underlying49 hi0 hz0 hz1 hz2 rfl (by decide) _ ((remM (M.take j) d.k.bs).map (fun x : MP => x.1)).length (((remM (M.take j) d.k.bs).map (fun x : MP => x.1)).map ARow.sl) rfl HOW.out (w6.heap.size + 1) (some ⟨w6.heap.size, 0, none⟩) 1 1 [.slice mm.1.A mm.1.n mm.1.c] rfl HRD.out (fun h => by cases h) (one_sl _) (by unfold maxLen; omega) (by omega) ?_
                  intro v' w7 hl
                  have INN7 := hide (INN6.out.addA (r := mm.1) HBZ1.out hl)
                  obtain ⟨vaA, vac, rfl, _⟩ := owns_slice hl.1
                  clear hl HRD HOW HBZ1
                  obtain ⟨z1, z2⟩ := HCEL.out w7 INN7.out.below
                  clear y1 y2
                  have hbz := below1 w7 (.cells #[.slice mm.2.A mm.2.n mm.2.c] 35)
                  have HRD := hide (cells_rd w7 [.slice mm.2.A mm.2.n mm.2.c] 35 1 1 rfl)
                  have HOW := hide ((INN7.out.later hbz).b)
                  have HBZ1 := hide hbz
                  clear hbz
                  go_wp2_with (with_reducible refine stop_append ?_)
                  show Hid _
                  refine start_here ?_
                  refine wpList_append_rd2 rfl _ _ _ _ rfl 35 i0f _ 1 24 Try.underlying49 Try.underlying49 hi0 hz0 hz1 hz2 rfl (by decide) _ ((remM (M.take j) d.k.bs).map (fun x : MP => x.2)).length (((remM (M.take j) d.k.bs).map (fun x : MP => x.2)).map ARow.sl) rfl HOW.out (w7.heap.size + 1) (some ⟨w7.heap.size, 0, none⟩) 1 1 [.slice mm.2.A mm.2.n mm.2.c] rfl HRD.out (fun h => by cases h) (one_sl _) (by unfold maxLen; omega) (by omega) ?_
                  intro v' w8 hl
                  have INN8 := hide (INN7.out.addB (r := mm.2) HBZ1.out hl)
                  obtain ⟨vbA, vbc, rfl, _⟩ := owns_slice hl.1
                  clear hl HRD HOW HBZ1
                  clear z1 z2
                  go_wp2_with fail
                  go_roundw
                  case rel => exact ⟨j + 1, by omega, by go_num, rfl, by have h9 := INN8.out; rw [List.length_map, List.length_map] at h9; rw [E1.out, List.map_append, List.map_append]; exact h9⟩
                  case measure => simp [intOf]; omega
                · have heq : mm.1.bs = d.k.bs := of_decide_eq_true HSME.out
                  have e1 := rem_take M d.k.bs HMM.out
                  rw [if_pos heq] at e1
                  have E1 := hide e1
                  clear e1 heq HSM
                  go_wp2_with fail
                  go_roundw
                  case rel => exact ⟨j + 1, by omega, by go_num, rfl, by rw [E1.out]; exact INN6.out⟩
                  case measure => simp [intOf]; omega
              · obtain rfl : j = M.length := by omega
                have dj : decide ((M.length : Int) < (M.length : Int)) = false := decide_eq_false (by omega)
                have htk : M.take M.length = M := List.take_length
                rw [htk] at INN
                have hrl := rem_len M d.k.bs
                obtain ⟨f1, f2⟩ := BOXF.out wr INN.out.below
                clear htk
                obtain ⟨vaA, vac, rfl, _⟩ := owns_slice INN.out.a
                obtain ⟨vbA, vbc, rfl, _⟩ := owns_slice INN.out.b
                obtain ⟨M2, hM2⟩ : ∃ M2, M2 = remM M d.k.bs := ⟨_, rfl⟩
                rw [← hM2] at LS5 INN hrl ⊢
                rw [List.length_map, List.length_map] at INN
                rw [List.length_map, List.length_map]
                have INN8 := INN
                obtain ⟨w8, hw8⟩ : ∃ w8, w8 = wr := ⟨_, rfl⟩
                rw [← hw8] at INN8 f1 f2 ⊢
                have HIN2 : Hid (MIn w M2) := hide (fun m1 hm1 => by
                  rw [hM2] at hm1
                  exact HR.out.ins m1 (rem_sub m1 hm1))
                have hlen2 : M2.length ≤ 41 := by omega
                clear hM2 hw8
                have BW8 := hide (below_in BW5.out INN8.out.below)
                have BB8 : Hid (Below Bz w3 w8) := hide (BB5.out.trans (INN8.out.below.mono SZ5.out))
                have SZ8 : Hid (Bz ≤ w8.heap.size) := hide (Nat.le_trans SZ5.out INN8.out.below.size)
                have x3 := HXB.out w8 BB8.out
                clear f1 f2
                by_cases hov : (n : Int) < (M2.length : Int)
                · omega
                · have dov : decide ((n : Int) < (M2.length : Int)) = false := decide_eq_false hov
                  have hfin : LastR w Bz b mb cb eb ks sz n M2 vaA vbA w8 := by
                    refine ⟨?_, INN8.out.rows, HIN2.out, BW8.out, SZ8.out⟩
                    have h1 := LS5.out
                    rw [trim_le (by omega)] at h1
                    exact (h1.on (fun g hg => .inr (INN8.out.new g hg hg.1 hg.1))).below INN8.out.below
                  have HFIN := hide hfin
                  clear hfin
                  go_wp2_with fail
                  go_roundw
                  case rel => exact ⟨i + 1, M2, vaA, vbA, vac, vbc, by omega, by go_num, rfl, rfl, HFIN.out, BB8.out⟩
                  case measure => simp [intOf]; omega
        · have d5 : ((kk : Int) == 5) = false := by simp; omega
          have d5n : ((kk : Int) != 5) = true := by simp; omega
          go_wp2_with fail
          refine (upd_ls d.k d.v w.heap.size w.heap.size d.fl wx HLS.out HSL.out HRX.out.size HKR.out (HI.out.v.below HRX.out.below).rd HBZ.out.1 (fun h0 ad e => by have := HI.out.v.blk h0 ad e; have := HBZ.out.1; omega)).mono ?_
          rintro e w5 ⟨er, rfl, hT⟩
          obtain ⟨t1, t2, t3⟩ := hT
          have ROWS5 := hide (HRX.out.rows.kept t2 (fun g hg => .inl hg))
          have BOX5 := hide ((t2.block _ (at_lt HXX.out) (.inr rfl)).trans HXX.out)
          have BW5 : Hid (Below w.heap.size w w5) := hide (HRX.out.below.trans (t1.mono HBZ.out.1))
          have BB5 : Hid (Below Bz w3 w5) := hide (HBX3.out.trans t1)
          have SZ5 : Hid (Bz ≤ w5.heap.size) := hide (Nat.le_trans HRX.out.size t1.size)
          clear f0 f1 f2 f3 t1 t2
          rcases t3 with ⟨hne, hls⟩ | ⟨rfl, hls⟩
          · have hnb : (er != 0) = true := by simpa using hne
            have HFIN : Hid (LastR w Bz b mb cb eb ks sz n M A7 A8 w5) := hide ⟨hls.on (fun g hg => .inl (.inl hg)), ROWS5.out, HR.out.ins, BW5.out, SZ5.out⟩
            clear hls
            go_wp2_with fail
            go_roundw
            case rel => exact ⟨i + 1, M, A7, A8, c7, c8, by omega, by go_num, rfl, rfl, HFIN.out, BB5.out⟩
            case measure => simp [intOf]; omega
          · have LS5 := hide hls
            clear hls
            have BOXF : Hid (∀ W, Below w5.heap.size w5 W → W.cell? ⟨X, 1, none⟩ = some (.slice d.k.A d.k.n d.k.c) ∧ W.cell? ⟨X, 2, none⟩ = some (.slice d.v.A d.v.n d.v.c)) := hide (fun W hbW => by
              have h1 := (hbW.block _ (at_lt BOX5.out)).trans BOX5.out
              exact ⟨by rw [blk_cell h1]; rfl, by rw [blk_cell h1]; rfl⟩)
            have HZ5 := hide (Below.refl w5.heap.size w5)
            obtain ⟨f1, f2⟩ := BOXF.out w5 HZ5.out
            have INN0 := hide (Inn.start w5)
            go_wp2_with fail
            clear f1 f2
            go_loopw [13, 14, 15, 16] (fun v va vb u wq => ∃ j : Nat, j ≤ M.length ∧ u = .int .i64 j ∧ v = .slice d.v.A d.v.n d.v.c ∧ Inn w5 wq va vb ((remM (M.take j) d.k.bs).map (·.1)) ((remM (M.take j) d.k.bs).map (·.2))) (fun _ _ _ u _ => M.length - (intOf u).toNat)
            case atStart => exact ⟨0, Nat.zero_le _, rfl, rfl, INN0.out⟩
            case round =>
              obtain ⟨j, hj, rfl, rfl, hI⟩ := hrel
              have INN := hide hI
              clear hI
              by_cases hjm : j < M.length
              · obtain ⟨a7, a8, mm, rfl, rfl, hmm, hcel⟩ := ROWS5.out.cells hjm
                have HCEL := hide hcel
                have HMM := hide hmm
                obtain ⟨g1, g2, g3, g4⟩ := HR.out.ins mm (List.mem_of_getElem? hmm)
                have G1 := hide g1
                have hrl := rem_len (M.take j) d.k.bs
                have htl : (M.take j).length = j := by rw [List.length_take]; omega
                have j0 : (0 : Int) ≤ (j : Int) := by omega
                have j1 : (j : Int) < (M.length : Int) := by omega
                have dj : decide ((j : Int) < (M.length : Int)) = true := decide_eq_true j1
                obtain ⟨x1, x2⟩ := hcel wr INN.out.below
                obtain ⟨f1, f2⟩ := BOXF.out wr INN.out.below
                have BWq : Hid (Below w.heap.size w wr) := hide (below_in BW5.out INN.out.below)
                have HSM := hide (same_any mm.1.A d.k.A mm.1.n d.k.n mm.1.c d.k.c w.heap.size mm.1.bs d.k.bs wr.drew (G1.out.below BWq.out.drew).rd (HI.out.k.below BWq.out.drew).rd BWq.out.size (by omega) (by have := HDL.out.1; omega))
                obtain ⟨sm, hsm⟩ : ∃ sm, decide (mm.1.bs = d.k.bs) = sm := ⟨_, rfl⟩
                rw [hsm] at HSM
                have HSME := hide hsm
                clear hcel hmm g1 g2 hsm
                go_wp2_with fail
                refine wp_region_still_tail 6 (by kernel_rfl) (by kernel_rfl) ?_
                simp only [List.take_succ_cons, List.take_zero, List.drop_succ_cons, List.drop_zero]
                repeat still_step
                refine wpStill_nil ?_
                go_wp2_with (go_at_call 29; refine stop_here ?_)
                refine start_here ?_
                refine HSM.out.mono ?_
                rintro e w6 ⟨rfl, hb⟩
                have INN6 := hide ((INN.out.later (Below.refl _ _).drew).later hb)
                clear hb
                obtain ⟨y1, y2⟩ := HCEL.out w6 INN6.out.below
                clear x1 x2 f1 f2
                cases sm
                · have hne : mm.1.bs ≠ d.k.bs := of_decide_eq_false HSME.out
                  have e1 := rem_take M d.k.bs HMM.out
                  rw [if_neg hne] at e1
                  have E1 := hide e1
                  clear e1 hne HSM
                  have ll1 : ((remM (M.take j) d.k.bs).map (fun x : MP => x.1)).length ≤ 60 := by rw [List.length_map]; omega
                  have ll2 : ((remM (M.take j) d.k.bs).map (fun x : MP => x.2)).length ≤ 60 := by rw [List.length_map]; omega
                  have hbz := below1 w6 (.cells #[.slice mm.1.A mm.1.n mm.1.c] 35)
                  have HRD := hide (cells_rd w6 [.slice mm.1.A mm.1.n mm.1.c] 35 1 1 rfl)
                  have HOW := hide ((INN6.out.later hbz).a)
                  have HBZ1 := hide hbz
                  clear hbz
                  go_wp2_with (with_reducible refine stop_append ?_)
                  show Hid _
                  refine start_here ?_
                  refine wpList_append_rd2 rfl _ _ _ _ rfl 35 i0f _ 1 24 Try.underlying49 Try.underlying49 hi0 hz0 hz1 hz2 rfl (by decide) _ ((remM (M.take j) d.k.bs).map (fun x : MP => x.1)).length (((remM (M.take j) d.k.bs).map (fun x : MP => x.1)).map ARow.sl) rfl HOW.out (w6.heap.size + 1) (some ⟨w6.heap.size, 0, none⟩) 1 1 [.slice mm.1.A mm.1.n mm.1.c] rfl HRD.out (fun h => by cases h) (one_sl _) (by unfold maxLen; omega) (by omega) ?_
                  intro v' w7 hl
                  have INN7 := hide (INN6.out.addA (r := mm.1) HBZ1.out hl)
                  obtain ⟨vaA, vac, rfl, _⟩ := owns_slice hl.1
                  clear hl HRD HOW HBZ1
                  obtain ⟨z1, z2⟩ := HCEL.out w7 INN7.out.below
                  clear y1 y2
                  have hbz := below1 w7 (.cells #[.slice mm.2.A mm.2.n mm.2.c] 35)
                  have HRD := hide (cells_rd w7 [.slice mm.2.A mm.2.n mm.2.c] 35 1 1 rfl)
                  have HOW := hide ((INN7.out.later hbz).b)
                  have HBZ1 := hide hbz
                  clear hbz
                  go_wp2_with (with_reducible refine stop_append ?_)
                  show Hid _
                  refine start_here ?_
                  refine wpList_append_rd2 rfl _ _ _ _ rfl 35 i0f _ 1 24 Try.underlying49 Try.underlying49 hi0 hz0 hz1 hz2 rfl (by decide) _ ((remM (M.take j) d.k.bs).map (fun x : MP => x.2)).length (((remM (M.take j) d.k.bs).map (fun x : MP => x.2)).map ARow.sl) rfl HOW.out (w7.heap.size + 1) (some ⟨w7.heap.size, 0, none⟩) 1 1 [.slice mm.2.A mm.2.n mm.2.c] rfl HRD.out (fun h => by cases h) (one_sl _) (by unfold maxLen; omega) (by omega) ?_
                  intro v' w8 hl
                  have INN8 := hide (INN7.out.addB (r := mm.2) HBZ1.out hl)
                  obtain ⟨vbA, vbc, rfl, _⟩ := owns_slice hl.1
                  clear hl HRD HOW HBZ1
                  clear z1 z2
                  go_wp2_with fail
                  go_roundw
                  case rel => exact ⟨j + 1, by omega, by go_num, rfl, by have h9 := INN8.out; rw [List.length_map, List.length_map] at h9; rw [E1.out, List.map_append, List.map_append]; exact h9⟩
                  case measure => simp [intOf]; omega
                · have heq : mm.1.bs = d.k.bs := of_decide_eq_true HSME.out
                  have e1 := rem_take M d.k.bs HMM.out
                  rw [if_pos heq] at e1
                  have E1 := hide e1
                  clear e1 heq HSM
                  go_wp2_with fail
                  go_roundw
                  case rel => exact ⟨j + 1, by omega, by go_num, rfl, by rw [E1.out]; exact INN6.out⟩
                  case measure => simp [intOf]; omega
              · obtain rfl : j = M.length := by omega
                have dj : decide ((M.length : Int) < (M.length : Int)) = false := decide_eq_false (by omega)
                have htk : M.take M.length = M := List.take_length
                rw [htk] at INN
                have hrl := rem_len M d.k.bs
                obtain ⟨f1, f2⟩ := BOXF.out wr INN.out.below
                clear htk
                have ll1 : ((remM M d.k.bs).map (fun x : MP => x.1)).length ≤ 60 := by rw [List.length_map]; omega
                have ll2 : ((remM M d.k.bs).map (fun x : MP => x.2)).length ≤ 60 := by rw [List.length_map]; omega
                have hqv : InB w w.heap.size d.v ∧ d.v.n ≤ 80 := by
                  skip
                  exact ⟨HI.out.v, HDL.out.2⟩
                  skip
                have HQV := hide hqv
                clear hqv
                have hbz := below1 wr (.cells #[.slice d.k.A d.k.n d.k.c] 35)
                have HRD := hide (cells_rd wr [.slice d.k.A d.k.n d.k.c] 35 1 1 rfl)
                have HOW := hide ((INN.out.later hbz).a)
                have HBZ1 := hide hbz
                clear hbz
                go_wp2_with (with_reducible refine stop_append ?_)
                show Hid _
                refine start_here ?_
                refine wpList_append_rd2 rfl _ _ _ _ rfl 35 i0f _ 1 24 Try.underlying49 Try.underlying49 hi0 hz0 hz1 hz2 rfl (by decide) _ ((remM M d.k.bs).map (fun x : MP => x.1)).length (((remM M d.k.bs).map (fun x : MP => x.1)).map ARow.sl) rfl HOW.out (wr.heap.size + 1) (some ⟨wr.heap.size, 0, none⟩) 1 1 [.slice d.k.A d.k.n d.k.c] rfl HRD.out (fun h => by cases h) (one_sl _) (by unfold maxLen; omega) (by omega) ?_
                intro v' w7 hl
                have INN7 := hide (INN.out.addA (r := d.k) HBZ1.out hl)
                obtain ⟨vaA, vac, rfl, _⟩ := owns_slice hl.1
                clear hl HRD HOW HBZ1
                have hbz := below1 w7 (.cells #[.slice d.v.A d.v.n d.v.c] 35)
                have HRD := hide (cells_rd w7 [.slice d.v.A d.v.n d.v.c] 35 1 1 rfl)
                have HOW := hide ((INN7.out.later hbz).b)
                have HBZ1 := hide hbz
                clear hbz
                go_wp2_with (with_reducible refine stop_append ?_)
                show Hid _
                refine start_here ?_
                refine wpList_append_rd2 rfl _ _ _ _ rfl 35 i0f _ 1 24 Try.underlying49 Try.underlying49 hi0 hz0 hz1 hz2 rfl (by decide) _ ((remM M d.k.bs).map (fun x : MP => x.2)).length (((remM M d.k.bs).map (fun x : MP => x.2)).map ARow.sl) rfl HOW.out (w7.heap.size + 1) (some ⟨w7.heap.size, 0, none⟩) 1 1 [.slice d.v.A d.v.n d.v.c] rfl HRD.out (fun h => by cases h) (one_sl _) (by unfold maxLen; omega) (by omega) ?_
                intro v' w8 hl
                have INN8 := hide (INN7.out.addB (r := d.v) HBZ1.out hl)
                obtain ⟨vbA, vbc, rfl, _⟩ := owns_slice hl.1
                clear hl HRD HOW HBZ1
                obtain ⟨M2, hM2⟩ : ∃ M2, M2 = remM M d.k.bs ++ [(d.k, d.v)] := ⟨_, rfl⟩
                rw [← hM2] at LS5
                have hl2 : M2.length = (remM M d.k.bs).length + 1 := by rw [hM2]; simp
                have hp1 : M2.map (·.1) = (remM M d.k.bs).map (fun x : MP => x.1) ++ [d.k] := by rw [hM2]; simp
                have hp2 : M2.map (·.2) = (remM M d.k.bs).map (fun x : MP => x.2) ++ [d.v] := by rw [hM2]; simp
                rw [← hp1, ← hp2, List.length_map, List.length_map] at INN8
                simp only [List.length_map]
                generalize (remM M d.k.bs).length + 1 = q2 at hl2 INN8 ⊢
                subst hl2
                have HIN2 : Hid (MIn w M2) := hide (fun m1 hm1 => by
                  rw [hM2] at hm1
                  rcases List.mem_append.1 hm1 with h1 | h1
                  · exact HR.out.ins m1 (rem_sub m1 h1)
                  · rw [List.mem_singleton] at h1
                    subst h1
                    exact ⟨HI.out.k, HQV.out.1, HDL.out.1, HQV.out.2⟩)
                have hlen2 : M2.length ≤ 41 := by rw [hM2]; simp; omega
                clear hp1 hp2 ll1 ll2 HQV hM2
                have BW8 := hide (below_in BW5.out INN8.out.below)
                have BB8 : Hid (Below Bz w3 w8) := hide (BB5.out.trans (INN8.out.below.mono SZ5.out))
                have SZ8 : Hid (Bz ≤ w8.heap.size) := hide (Nat.le_trans SZ5.out INN8.out.below.size)
                have x3 := HXB.out w8 BB8.out
                clear f1 f2
                by_cases hov : (n : Int) < (M2.length : Int)
                · have dov : decide ((n : Int) < (M2.length : Int)) = true := decide_eq_true hov
                  obtain ⟨A2, c2, A3, c3, r1, r2, rk, rl⟩ := INN8.out.cut (by omega)
                  have R1 := r1 w8
                  have R2 := r2 w8
                  have hd1 : (M2.drop 1).length = M2.length - 1 := by simp
                  have hfin : LastR w Bz b mb cb eb ks sz n (M2.drop 1) A2 A3 w8 := by
                    refine ⟨?_, rk, HIN2.out.sub (fun m1 h1 => List.mem_of_mem_drop h1), BW8.out, SZ8.out⟩
                    have h1 := LS5.out
                    unfold trimN at h1
                    rw [if_pos (by omega)] at h1
                    exact (h1.on (fun g hg => .inr (rl g (by rw [← hd1]; exact hg)))).below INN8.out.below
                  rw [← hd1] at R1 R2
                  have HFIN := hide hfin
                  clear r1 r2 rk rl hfin hd1
                  go_wp2_with fail
                  go_roundw
                  case rel => exact ⟨i + 1, M2.drop 1, A2, A3, c2, c3, by omega, by go_num, by simp, by simp, HFIN.out, BB8.out⟩
                  case measure => simp [intOf]; omega
                · have dov : decide ((n : Int) < (M2.length : Int)) = false := decide_eq_false hov
                  have hfin : LastR w Bz b mb cb eb ks sz n M2 vaA vbA w8 := by
                    refine ⟨?_, INN8.out.rows, HIN2.out, BW8.out, SZ8.out⟩
                    have h1 := LS5.out
                    rw [trim_le (by omega)] at h1
                    exact (h1.on (fun g hg => .inr (INN8.out.new g hg hg.1 hg.1))).below INN8.out.below
                  have HFIN := hide hfin
                  clear hfin
                  go_wp2_with fail
                  go_roundw
                  case rel => exact ⟨i + 1, M2, vaA, vbA, vac, vbc, by omega, by go_num, rfl, rfl, HFIN.out, BB8.out⟩
                  case measure => simp [intOf]; omega
      · obtain rfl : i = m := by omega
        have dm : decide ((i : Int) < (i : Int)) = false := decide_eq_false (by omega)
        obtain ⟨T, P2, hls⟩ := HR.out.ls
        have HLS := hide hls
        have HKA := hide (keys_any Bz b mb cb eb ks sz _ P2 wr hls.lru)
        clear hls
        go_wp2_with fail
        refine HKA.out.mono ?_
        rintro e w5 ⟨v, rs, rfl, hkt, hkk, hb⟩
        obtain ⟨Ak, ck, rfl, _⟩ := owns_slice hkt.row
        obtain ⟨_, hrr⟩ := hkt.rows
        have hml := keys_law HLS.out hkk
        have hrn : rs.length = M.length := by simpa using congrArg List.length hml
        rw [hml, hrn] at hrr
        have R5 := hide (HR.out.later hb)
        have B5 : Hid (Below Bz w3 w5) := hide (HBR.out.trans (hb.mono HR.out.size))
        have hlr := rows_law (w0 := w) R5.out.rows R5.out.ins R5.out.below
        have FS5 : Hid (FinS Bz b mb cb eb ks sz T P2 (RowBl A7 A8 M.length) w5) := hide (FinS.below ⟨_, HLS.out.lru, List.Perm.refl _, HLS.out.off⟩ hb)
        have HSR := hide (sameRows_yes Ak A7 M.length ck c7 w5.heap.size _ _ _ w5 hrr hlr (Nat.le_refl _) (by omega) (fun l hl => by
          obtain ⟨m1, h1, rfl⟩ := List.mem_map.1 hl
          have h2 := (R5.out.ins m1 h1)
          have := Rd.ints h2.1.rd
          omega))
        have HMT : Hid (M = T.map (·.2)) := hide HLS.out.row
        have HGD : Hid (∀ t ∈ T, Good P2 t) := hide HLS.out.good
        have HPN : Hid (P2.length = n) := hide HLS.out.len
        have HFT : Hid (Fits ks (T.map (·.1)) P2) := hide HLS.out.lru.fit
        have HPB : Hid (∀ (p : Nat) (s : HS), P2[p]? = some s → s.bs.length = sz) := hide (fun p s hs => HLS.out.lru.len hs)
        rw [hrn]
        clear hkt hkk hrr hml hrn hlr hb HKA HLS
        go_wp2_with fail
        refine HSR.out.mono ?_
        rintro e w6 ⟨rfl, hb⟩
        have R6 := hide (R5.out.later hb)
        have B6 : Hid (Below Bz w3 w6) := hide (B5.out.trans (hb.mono R5.out.size))
        have FS6 := hide (FS5.out.below hb)
        clear hb HSR
        have x3 := HXB.out w6 B6.out
        have hbm := fun W => bools_made n (by omega) W
        have hbz := below1 w6 (.cells (List.replicate n (Value.bool false)).toArray 4)
        have hxx := World.alloc_heap_new w6 (.cells (List.replicate n (Value.bool false)).toArray 4)
        have hbmw := hbm w6
        clear hbm
        generalize hU : w6.heap.size = U at hbmw
        generalize w6.alloc (.cells (List.replicate n (Value.bool false)).toArray 4) = w7 at hbmw hbz hxx
        rw [hU] at hxx
        have HU := hide hU
        have R7 := hide (R6.out.later hbz)
        have B7 : Hid (Below Bz w3 w7) := hide (B6.out.trans (hbz.mono R6.out.size))
        have FS7 : Hid (FinS Bz b mb cb eb ks sz T P2 (fun g => RowBl A7 A8 M.length g ∨ g = U) w7) := hide (by
          obtain ⟨L, f1, f2, f3⟩ := FS6.out
          refine ⟨L, f1.below hbz, f2, fun g hg ho => ?_⟩
          rcases hg with hg | rfl
          · exact f3 g hg ho
          · have := f1.lt _ ho
            omega)
        have UX7 : Hid (w7.heap[U]? = some (.cells (usedC n T 0).toArray 4)) := hide (by rw [usedC_0]; exact hxx)
        clear hbz hxx hU
        go_wp2_with fail
        clear x3 hbmw
        go_loopw [18] (fun u wq => ∃ i : Nat, i ≤ M.length ∧ u = .int .i64 i ∧ FinS Bz b mb cb eb ks sz T P2 (fun g => RowBl A7 A8 M.length g ∨ g = U) wq ∧ wq.heap[U]? = some (.cells (usedC n T i).toArray 4) ∧ RowsK wq A7 A8 M ∧ Below w.heap.size w wq ∧ Below Bz w3 wq ∧ Bz ≤ wq.heap.size) (fun u _ => M.length - (intOf u).toNat)
        case atStart => exact ⟨0, Nat.zero_le _, rfl, FS7.out, UX7.out, R7.out.rows, R7.out.below, B7.out, R7.out.size⟩
        case round =>
          obtain ⟨i2, hi2, rfl, g1, g2, g3, g4, g5, g6⟩ := hrel
          have G1 := hide g1
          have G2 := hide g2
          have G3 := hide g3
          have G4 := hide g4
          have G5 := hide g5
          have G6 := hide g6
          clear g1 g2 g3 g4 g5 g6
          by_cases him2 : i2 < M.length
          · have dm2 : decide ((i2 : Int) < (M.length : Int)) = true := decide_eq_true (by omega)
            have j0 : (0 : Int) ≤ (i2 : Int) := by omega
            have j1 : (i2 : Int) < (M.length : Int) := by omega
            obtain ⟨a7, a8, mm, rfl, rfl, hmm, hcel⟩ := G3.out.cells him2
            obtain ⟨x1, x2⟩ := hcel wr (Below.refl _ _)
            obtain ⟨t, ht, htm⟩ : ∃ t, T[i2]? = some t ∧ t.2 = mm := by
              have h1 := hmm
              rw [HMT.out, List.getElem?_map] at h1
              cases hT2 : T[i2]? with
              | none => rw [hT2] at h1; cases h1
              | some t => rw [hT2] at h1; exact ⟨t, rfl, by simpa using h1⟩
            have HT := hide ht
            have hgd := HGD.out t (List.mem_of_getElem? ht)
            have HGT := hide hgd
            obtain ⟨m1, m2, m3, m4⟩ := HR.out.ins mm (List.mem_of_getElem? hmm)
            have M1 := hide m1
            have M2 := hide m2
            obtain ⟨_, _, s, hs1, hs2⟩ := hgd
            have hpl : t.1.p < n := by rw [← HPN.out]; exact (List.getElem?_eq_some_iff.1 hs1).1
            have HS1 := hide hs1
            have HS2 : Hid (s.bs = mm.2.bs) := hide (by rw [hs2, htm])
            have HMM := hide hmm
            subst htm
            have HLK := hide (look_fin G1.out (fun g hg => by
              rcases hg with hg | rfl
              · exact G3.out.lt g hg
              · exact at_lt G2.out) G6.out ht HGT.out w.heap.size ((M1.out.below G4.out).krow))
            clear hcel hmm ht m1 m2 hs1 hs2
            go_wp2_with fail
            refine HLK.out.mono ?_
            rintro e w8 ⟨rfl, q1, q2, q3⟩
            have F8 := hide q1
            have U8 := hide ((q2.block _ (at_lt G2.out) (.inr rfl)).trans G2.out)
            have R8 := hide (G3.out.kept q2 (fun g hg => .inl hg))
            have W8 : Hid (Below w.heap.size w w8) := hide (G4.out.trans (q3.mono HBZ.out.1))
            have B8 : Hid (Below Bz w3 w8) := hide (G5.out.trans q3)
            have Z8 : Hid (Bz ≤ w8.heap.size) := hide (Nat.le_trans G6.out q3.size)
            have x3 := HXB.out w8 B8.out
            have uc : w8.cell? ⟨U, t.1.p, none⟩ = some (.bool false) := by
              rw [blk_cell U8.out]
              have := usedC_at (T := T) (i := i2) hpl
              rw [place_free HFT.out HT.out] at this
              simpa using this
            have uf : w8.frozen? ⟨U, t.1.p, none⟩ = false := by simp [World.frozen?, U8.out]
            have p0 : decide ((t.1.p : Int) < 0) = false := decide_eq_false (by omega)
            have p1 : decide ((n : Int) ≤ (t.1.p : Int)) = false := decide_eq_false (by omega)
            have p2 : (0 : Int) ≤ (t.1.p : Int) := by omega
            have p3 : (t.1.p : Int) < (n : Int) := by omega
            have U9 : Hid ((w8.setCell ⟨U, t.1.p, none⟩ (.bool true)).heap[U]? = some (.cells (usedC n T (i2 + 1)).toArray 4)) := hide (by
              have h1 := set_at_heap U8.out t.1.p (.bool true)
              rw [h1, ← usedC_next HT.out hpl]
              simp)
            have F9 := hide (F8.out.set (g := U) (i := t.1.p) (.inr rfl) (.bool true))
            have KS : Hid (Kept (fun g => g ≠ U) w8 (w8.setCell ⟨U, t.1.p, none⟩ (.bool true))) := hide (kept_set _ _ _ _)
            have UB : Hid (Bz ≤ U ∧ ∀ g, RowBl (some a7) (some a8) M.length g → g ≠ U) := hide ⟨by have := R6.out.size; have := HU.out; omega, fun g hg e2 => by
              have := R6.out.rows.lt g hg
              have := HU.out
              omega⟩
            have S9 : Hid ((w8.setCell ⟨U, t.1.p, none⟩ (.bool true)).heap.size = w8.heap.size) := hide (by simp [World.setCell])
            clear q1 q2 q3
            go_wp2_with fail
            generalize w8.setCell ⟨U, t.1.p, none⟩ (.bool true) = w9 at U9 F9 KS S9 ⊢
            have R9 := hide (R8.out.kept KS.out (fun g hg => UB.out.2 g hg))
            have W9 : Hid (Below w.heap.size w w9) := hide (W8.out.trans (KS.out.to_below (fun g hg e2 => by have := UB.out.1; have := HBZ.out.1; omega) W8.out.size))
            have B9 : Hid (Below Bz w3 w9) := hide (B8.out.trans (KS.out.to_below (fun g hg e2 => by have := UB.out.1; omega) Z8.out))
            have Z9 : Hid (Bz ≤ w9.heap.size) := hide (by rw [S9.out]; exact Z8.out)
            clear uc uf x3 p0 p1 p2 p3 x1 x2
            refine (val_fin F9.out HS1.out).mono ?_
            rintro e w10 ⟨v, rfl, ho, hb⟩
            obtain ⟨Av, cv, rfl, hrd⟩ := owns_slice ho.1
            have R10 := hide (R9.out.below hb)
            have W10 := hide (below_in W9.out hb)
            have B10 : Hid (Below Bz w3 w10) := hide (B9.out.trans (hb.mono Z9.out))
            have Z10 : Hid (Bz ≤ w10.heap.size) := hide (Nat.le_trans Z9.out hb.size)
            have F10 := hide (F9.out.below hb)
            have U10 := hide ((hb.block _ (at_lt U9.out)).trans U9.out)
            have hcel2 := R10.out.cells him2
            obtain ⟨b7, b8, mm2, e7, e8, hmm2, hc2⟩ := hcel2
            injection e7 with e7
            injection e8 with e8
            subst e7 e8
            rw [HMM.out] at hmm2
            injection hmm2 with hmm2
            subst hmm2
            obtain ⟨x1, x2⟩ := hc2 w10 (Below.refl _ _)
            have hsz80 : sz ≤ 80 := by
              have h1 := HPB.out _ _ HS1.out
              rw [HS2.out] at h1
              have := Rd.ints (M2.out.rd)
              omega
            have HSM := hide (same_any Av t.2.2.A sz t.2.2.n cv t.2.2.c w10.heap.size s.bs t.2.2.bs w10 hrd ((M2.out.below W10.out).rd.mono W10.out.size) (Nat.le_refl _) (by omega) (by omega))
            rw [show decide (s.bs = t.2.2.bs) = true from decide_eq_true HS2.out] at HSM
            clear ho hb hrd hc2
            go_wp2_with fail
            refine HSM.out.mono ?_
            rintro e w11 ⟨rfl, hb⟩
            have FIN : Hid (FinS Bz b mb cb eb ks sz T P2 (fun g => RowBl (some a7) (some a8) M.length g ∨ g = U) w11 ∧ w11.heap[U]? = some (.cells (usedC n T (i2 + 1)).toArray 4) ∧ RowsK w11 (some a7) (some a8) M ∧ Below w.heap.size w w11 ∧ Below Bz w3 w11 ∧ Bz ≤ w11.heap.size) := hide
              ⟨F10.out.below hb, (hb.block _ (at_lt U10.out)).trans U10.out, R10.out.below hb, below_in W10.out hb, B10.out.trans (hb.mono Z10.out), Nat.le_trans Z10.out hb.size⟩
            clear hb x1 x2 HSM
            go_wp2_with fail
            go_roundw
            case rel => exact ⟨i2 + 1, by omega, by go_num, FIN.out⟩
            case measure => simp [intOf]; omega
          · obtain rfl : i2 = M.length := by omega
            have dm2 : decide ((M.length : Int) < (M.length : Int)) = false := decide_eq_false (by omega)
            go_wp2_with fail
            go_ret
            exact ⟨rfl, G4.out⟩
end Go.Proofs.Ytihhbpadafgkoaa

/-
  A make that came in is opened.
-/
namespace Go.Proofs.Ytihhbpadafgkoaa
open Go.ChangeShapes Go.WideShapes Go.ChangeAt Go.RowKit Go.Deep
set_option linter.unusedVariables false
structure ASpec where
  k : Int
  key : Int
  val : Int
  ent : Int
def ASpec.cells (s : ASpec) : List Value := [.int .u8 s.k, .int .i64 s.key, .int .i64 s.val, .int .i64 s.ent]
theorem u8_of_wf {n : Int} (h : (Lit.int .u8 n).wf = true) : 0 ≤ n ∧ n < 256 := by
  simp [Lit.wf, IntKind.min, IntKind.max, IntKind.bits, IntKind.signed] at h
  exact ⟨h.1, by omega⟩
structure ASpec.Is (s : ASpec) : Prop where
  k : 0 ≤ s.k ∧ s.k < 256
  key : I64 s.key
  val : I64 s.val
  ent : I64 s.ent
section
variable {H : Type} {enc : TypeId × Value → H} {W : World}
theorem spec_struct : ∃ fs : Array Field, Try.prog.underlying 24 = some (.struct fs) ∧ oneCellFields Try.prog fs = true ∧ Try.prog.cellsOf 24 = fs.size ∧ fs.toList.map (·.type) = [22, 3, 3, 3] := ⟨_, Try.underlying24, by kernel_rfl, by kernel_rfl, by kernel_rfl⟩
theorem view_spec {fuel : Nat} {cs : List Value} {x : DataW H × List MemPlace} (hx : Szd 24 x.1) (h : DataW.trod enc Try.prog W 0 (fun _ => true) true fuel 24 cs = some x) : ∃ s : ASpec, s.Is ∧ cs = s.cells := by
  obtain ⟨hl, n, hf⟩ := view_sized spec_struct hx h
  match cs, hl with
  | [v0, v1, v2, v3], _ =>
    obtain ⟨m0, rfl, w0⟩ := int_of Try.underlying22 (hf 0 22 v0 rfl rfl)
    obtain ⟨m1, rfl, w1⟩ := int_of Try.underlying3 (hf 1 3 v1 rfl rfl)
    obtain ⟨m2, rfl, w2⟩ := int_of Try.underlying3 (hf 2 3 v2 rfl rfl)
    obtain ⟨m3, rfl, w3⟩ := int_of Try.underlying3 (hf 3 3 v3 rfl rfl)
    exact ⟨⟨m0, m1, m2, m3⟩, ⟨u8_of_wf w0, i64_of_wf w1, i64_of_wf w2, i64_of_wf w3⟩, rfl⟩
end
end Go.Proofs.Ytihhbpadafgkoaa

/-
  What is left behind a law's call that makes new memory alone: the last step of each law.
-/
namespace Go.Proofs.Ytihhbpadafgkoaa
open Go.ChangeShapes Go.WideShapes Go.ChangeAt Go.RowKit Go.Deep
set_option linter.unusedVariables false

section
variable {H : Type} {enc : TypeId × Value → H} {P : Program}
/-- The arguments read as they did, what was there is as it was. -/
theorem post_new {f : Func} {s : ChangeSpec} {apart fresh handsOn again : Bool} {W W' : World} {args : Array Value} {v : Value} {ds gs : List (DataW H)} {before pa pv : List MemPlace}
    (hW : DataW.Whole enc P f.params.toList s.vars apart W args.toList ds gs before)
    (hres : ∀ (b : Nat) (sp : Nat → Bool) (hd : Bool), DataW.TrodAll enc P W' b sp hd f.resultTypes.toList (v.resultList f.resultTypes.size) (s.fn H (ds ++ gs)).results [])
    (hargs : ∀ sp : Nat → Bool, (∀ p ∈ before, sp p.block = true) → DataW.TrodAll enc P W' 0 sp true f.params.toList args.toList (s.fn H (ds ++ gs)).args pa)
    (hvars : ∀ sp : Nat → Bool, (∀ p ∈ before, sp p.block = true) → DataW.TrodVars enc P W' sp s.vars (s.fn H (ds ++ gs)).vars pv)
    (hps : before = pa ++ pv) (hb : Below W.heap.size W W')
    (hok : ∀ (j : Nat) (t : TypeId) (r : Value), f.resultTypes[j]? = some t → (v.resultList f.resultTypes.size)[j]? = some r → Value.okWide P W' .any 0 t r) :
    s.post enc P f apart fresh handsOn again W args v W' := by
  have old : ∀ p ∈ before, p.block < W.heap.size := fun p hp => hW.lt p hp
  have low : ∀ p ∈ before, decide (p.block < W.heap.size) = true := fun p hp => by simpa using old p hp
  have inv : ∀ p, p ∈ pv → p ∈ before := fun p hp => by rw [hps]; exact List.mem_append_right _ hp
  refine ⟨ds, gs, before, [], pa, pv, hW, hres _ _ _, hargs (fun b => decide (b < W.heap.size)) low, hvars _ low, World.keptBut_mono (fun p hp => ⟨hp, ?_⟩) (hb.frame (· ∈ before)), fun _ => ⟨hok, ?_⟩⟩
  · rw [hps, List.mem_append] at hp
    exact .inr hp
  · obtain ⟨_, _, _, _, _, hfz, hnd⟩ := hW
    refine ⟨_, _, ([] ++ pa) ++ pv, ⟨[] ++ pa, pv, trodAll_append (hargs _ (fun _ _ => rfl)) (hres _ _ _), hvars _ (fun _ _ => rfl), rfl, fun b off hp => ?_, fun ha => ?_⟩, fun p hp _ => ?_⟩
    · have hin : MemPlace.cell b off ∈ before := by rw [hps]; simpa using hp
      rw [hb.frozen (old _ hin)]
      exact hfz b off hin
    · have h := hnd ha
      rw [hps] at h
      simpa using h
    · rw [hps]
      simpa using hp
/-- An argument reads as it did, whatever of its spare room is looked at. -/
theorem Below.reads {t : TypeId} (hl : laidOutB P = true) (hr : P.readableRec t = true) (hrow : t < P.types.size) {W W' : World} {v : Value} {d : DataW H} {ps : List MemPlace}
    (h : DataW.Trod enc P W 0 (fun _ => true) true t v d ps) (hb : Below W.heap.size W W') (hlt : ∀ x ∈ ps, x.block < W.heap.size) (sp : Nat → Bool) (hsp : ∀ x ∈ ps, sp x.block = true) :
    DataW.Trod enc P W' 0 sp true t v d ps :=
  WideElems.Trod_stays hl hr hrow h (fun x hx => hb.same (hlt x hx)) hsp
end
end Go.Proofs.Ytihhbpadafgkoaa

/-
  Proved: of all keys that were looked up or updated with success, and not deleted since, just those as many as there is room for are there that were so last, in that order, each with what it was updated with last at a place of its own: LruLast answers true for every make and all deeds, and each argument reads behind the call as it read before. No condition.
-/
namespace Go.Proofs.Ytihhbpadafgkoaa.lruLast
open Go.ChangeShapes Go.WideShapes Go.ChangeAt Go.RowKit Go.Joins
set_option linter.unusedVariables false

theorem own : ownKnob Try.prog.godebug = none := by kernel_rfl
theorem laidOut : laidOutB Try.prog = true := by kernel_rfl

set_option maxRecDepth 100000 in
set_option maxHeartbeats 2000000 in
theorem lifted (os : Os) (started : os.Started) (H : Type) (enc : TypeId × Value → H) :
    ReturnsInHanded {} Try.checked os 5 .any (Rows.lruLastSpec.pre6 enc Try.prog Try.f5 Rows.lruLastRow.domain false) (Rows.lruLastSpec.post enc Try.prog Try.f5 false true false false) := by
  refine returnsInHanded_of_change_sized (C := Try.checked) own started (by kernel_rfl) Try.func5
    (ChangeSpec.witness6 (enc := enc) (C := Try.checked) false ⟨#[], #[.agg #[.int .u8 0, .int .i64 0, .int .i64 0, .int .i64 0], .slice none 0 0], []⟩ 8 (by kernel_rfl) (by kernel_rfl) (by kernel_rfl) (by kernel_rfl)) ?_
  intro W base args ds gs before hval0 hW _ hsz0 _
  have hsz : (DataW.weightsEach Try.prog (Try.f5.params.toList ++ Rows.lruLastSpec.plain.varTypes Try.prog) (ds ++ gs)).all (· ≤ reachBytes) = true := hsz0
  clear hsz0
  have hval : ∀ (j : Nat) t v, Try.f5.params[j]? = some t → args[j]? = some v → Value.okWide Try.prog W .any base t v := hval0
  have hW' := hW
  obtain ⟨p, q, hA0, hV, rfl, _, _⟩ := hW
  have hA : DataW.TrodAll enc Try.prog W 0 (fun _ => true) true Try.f5.params.toList args.toList ds p := hA0
  rw [Try.params5] at hA hval hsz
  obtain ⟨v0, vs0, d0, ds0, p0, q0, hargs, rfl, rfl, h0, r0⟩ := trodAll_cons hA
  obtain ⟨v1, vs1, d1, ds1, p1, q1, rfl, rfl, rfl, h1, r1⟩ := trodAll_cons r0
  obtain ⟨rfl, rfl, rfl⟩ := trodAll_nil r1
  obtain rfl : args = #[v0, v1] := by cases args; simp_all
  obtain ⟨rfl, rfl⟩ := trodVars_none hV
  have k0 := h0
  obtain ⟨cs0, rfl, _⟩ := okWide_struct Try.underlying24 (hval 0 24 v0 rfl rfl)
  obtain ⟨fu0, hf0⟩ := h0
  have z0 : Szd 24 d0 := fun n hn => by
    have := List.all_eq_true.1 hsz n (DataW.weights_mem_each (j := 0) (t := 24) (d := d0) rfl rfl n hn)
    simpa using this
  obtain ⟨y0, is0, e0⟩ := view_spec z0 hf0
  have g0 : cs0 = y0.cells.toArray := by
    have e0 : cs0.toList = y0.cells := e0
    rw [← e0]
  subst g0
  have k1 := h1
  obtain ⟨a1, n1, c1, rfl⟩ := okWide_slice Try.underlying25 (hval 1 25 v1 rfl rfl)
  obtain ⟨fu1, hf1⟩ := h1
  have z1 : Szd 25 d1 := fun n hn => by
    have := List.all_eq_true.1 hsz n (DataW.weights_mem_each (j := 1) (t := 25) (d := d1) rfl rfl n hn)
    simpa using this
  obtain ⟨A1, m1, cc1, l1, e1, is1, le1, lc1⟩ := view_dos z1 hf1
  simp [Value.cells] at e1
  obtain ⟨rfl, rfl, rfl⟩ := e1
  clear hA0 hval0
  simp only [List.append_nil] at hW'
  have hlt : ∀ x ∈ p0 ++ (p1), x.block < W.heap.size := fun x hx => by simpa using hW'.lt x (by simpa using hx)
  refine (law_lruLast y0.k y0.key y0.val y0.ent a1 n1 c1 l1 W is0.k is1 (Nat.le_trans le1 lc1)).mono fun e W' ⟨he, hb⟩ => ?_
  subst he
  exact ⟨_, rfl, post_new hW' (fun _ _ _ => (trodAll_cons_mk (shut_bool Try.underlying4 _) trodAll_mk0)) (fun sp hsp => (trodAll_cons_mk (Below.reads laidOut (by kernel_rfl) (of_decide_eq_true (by kernel_rfl)) k0 hb (fun x hx => hlt x (by simp [hx])) sp (fun x hx => hsp x (by simp [hx]))) (trodAll_cons_mk (Below.reads laidOut (by kernel_rfl) (of_decide_eq_true (by kernel_rfl)) k1 hb (fun x hx => hlt x (by simp [hx])) sp (fun x hx => hsp x (by simp [hx]))) trodAll_mk0))) (fun _ _ => rfl) (by simp) hb (ok_one (by kernel_rfl) rfl (okWide_bool_mk Try.underlying4 _))⟩

theorem over : Rows.lruLastRow.holds Try.pinned (OpenSpec.ofChange Rows.lruLastSpec) :=
  OpenClaim.holds_of_wide 5 Try.f5 rfl rfl rfl rfl rfl rfl rfl ⟨rfl, rfl, rfl, rfl, rfl⟩ rfl rfl rfl rfl rfl (by kernel_rfl) Try.func5 (by kernel_rfl)
    (of_decide_eq_true (by kernel_rfl)) (by unfold Func.isWrapper; first | (rw [if_pos (by decide +kernel)]; kernel_rfl) | (rw [if_neg (by decide +kernel)]; exact ⟨rfl, rfl⟩))
    (fun os started H enc _ => lifted os started H enc)

/-- The given statement. -/
theorem proved : Rows.LruLastSaid :=
  over
#print axioms proved
end Go.Proofs.Ytihhbpadafgkoaa.lruLast
