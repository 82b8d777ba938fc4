/-
  Helpers that rise, the error of a table, rows that rise, short tables, fields found, in one text.
-/
import Derived.Test.YtedjmgiblkjonaaH6
import Derived.Test.YtedjmgiblkjonaaF2
import Derived.Test.YtedjmgiblkjonaaH4
import Derived.Test.YtedjmgiblkjonaaE5
namespace Go.Proofs.Ytedjmgiblkjonaa
open Go.RowKit Go.Maps
set_option linter.unusedVariables false

def helpAbv (q x : HelpX) : Bool := decide (orM [cmpM q.id x.id, cmpM q.mj x.mj, cmpM q.mn x.mn] < 0)
set_option maxRecDepth 100000 in
set_option maxHeartbeats 2000000 in
theorem helpAbv_any (q x : HelpX) (w : World) : Calls Try.prog 47 #[.agg #[.int .i64 q.id, .int .i64 q.mj, .int .i64 q.mn, .int .u8 q.ck, .slice q.A q.lx.length q.c, .int .u8 q.rk, .int .i64 q.lo, .int .i64 q.hi, .int .i64 q.sz], .agg #[.int .i64 x.id, .int .i64 x.mj, .int .i64 x.mn, .int .u8 x.ck, .slice x.A x.lx.length x.c, .int .u8 x.rk, .int .i64 x.lo, .int .i64 x.hi, .int .i64 x.sz]] w fun e w' => e = .returned (.bool (helpAbv q x)) ∧ Below w.heap.size w w' := by
  obtain ⟨i1, mj1, mn1, k1, A1, c1, l1, r1, lo1, hi1, s1⟩ := q
  obtain ⟨i2, mj2, mn2, k2, A2, c2, l2, r2, lo2, hi2, s2⟩ := x
  have HR : Hid (helpAbv ⟨i1, mj1, mn1, k1, A1, c1, l1, r1, lo1, hi1, s1⟩ ⟨i2, mj2, mn2, k2, A2, c2, l2, r2, lo2, hi2, s2⟩ = decide (orM [cmpM i1 i2, cmpM mj1 mj2, cmpM mn1 mn2] < 0)) := hide rfl
  simp only at HR ⊢
  generalize helpAbv ⟨i1, mj1, mn1, k1, A1, c1, l1, r1, lo1, hi1, s1⟩ ⟨i2, mj2, mn2, k2, A2, c2, l2, r2, lo2, hi2, s2⟩ = rb at *
  generalize l1.length = n1
  generalize l2.length = n2
  have h1 := hide (fun w => cmp_any i1 i2 w)
  have h2 := hide (fun w => cmp_any mj1 mj2 w)
  have h3 := hide (fun w => cmp_any mn1 mn2 w)
  generalize cmpM i1 i2 = v1 at *
  generalize cmpM mj1 mj2 = v2 at *
  generalize cmpM mn1 mn2 = v3 at *
  have HO : Hid (∀ W : World, Calls Try.prog 76 #[.slice (some ⟨W.heap.size, 0, none⟩) 3 3] (W.alloc (.cells #[.int .i64 v1, .int .i64 v2, .int .i64 v3] 3)).drew fun e w' => e = .returned (.int .i64 (orM [v1, v2, v3])) ∧ (W.alloc (.cells #[.int .i64 v1, .int .i64 v2, .int .i64 v3] 3)).drew = w') := hide (fun W =>
    or_any (some ⟨W.heap.size, 0, none⟩) 3 3 (W.heap.size + 1) [v1, v2, v3] _ (cells_rd W [.int .i64 v1, .int .i64 v2, .int .i64 v3] 3 1 3 rfl) (by omega))
  generalize orM [v1, v2, v3] = ov at *
  go_enter Try.func47, Try.ntmps47
  go_wp2_with fail
  refine name_world (fun W2 hW2 => ?_)
  obtain ⟨b1, b2⟩ := two_boxes w (.cells #[.int .i64 i1, .int .i64 mj1, .int .i64 mn1, .int .u8 k1, .slice A1 n1 c1, .int .u8 r1, .int .i64 lo1, .int .i64 hi1, .int .i64 s1] 32) (.cells #[.int .i64 i2, .int .i64 mj2, .int .i64 mn2, .int .u8 k2, .slice A2 n2 c2, .int .u8 r2, .int .i64 lo2, .int .i64 hi2, .int .i64 s2] 32)
  have lb := below2 w (.cells #[.int .i64 i1, .int .i64 mj1, .int .i64 mn1, .int .u8 k1, .slice A1 n1 c1, .int .u8 r1, .int .i64 lo1, .int .i64 hi1, .int .i64 s1] 32) (.cells #[.int .i64 i2, .int .i64 mj2, .int .i64 mn2, .int .u8 k2, .slice A2 n2 c2, .int .u8 r2, .int .i64 lo2, .int .i64 hi2, .int .i64 s2] 32)
  rw [← hW2] at b1 b2 lb
  clear hW2
  have y10 := blk_cell b1 0
  have y11 := blk_cell b1 1
  have y12 := blk_cell b1 2
  have y20 := blk_cell b2 0
  have y21 := blk_cell b2 1
  have y22 := blk_cell b2 2
  simp only [List.getElem?_toArray, List.getElem?_cons_zero, List.getElem?_cons_succ] at y10 y11 y12 y20 y21 y22
  have z1 := at_lt b1
  have z2 := at_lt b2
  have LB := hide lb
  clear b1 b2 lb
  generalize w.heap.size + 1 = g2 at *
  go_region_held3 (fun W => W.cell? ⟨w.heap.size, 0, none⟩ = some (.int .i64 i1) ∧ W.cell? ⟨w.heap.size, 1, none⟩ = some (.int .i64 mj1) ∧ W.cell? ⟨w.heap.size, 2, none⟩ = some (.int .i64 mn1) ∧ W.cell? ⟨g2, 0, none⟩ = some (.int .i64 i2) ∧ W.cell? ⟨g2, 1, none⟩ = some (.int .i64 mj2) ∧ W.cell? ⟨g2, 2, none⟩ = some (.int .i64 mn2)) (first | exact ⟨y10, y11, y12, y20, y21, y22⟩ | go_keep)
    (first
      | (go_at_call 77; ((with_reducible refine (h1.out _).mono ?_)); rintro e w9 ⟨rfl, rfl⟩)
      | (go_at_call 77; ((with_reducible refine (h2.out _).mono ?_)); rintro e w9 ⟨rfl, rfl⟩)
      | (go_at_call 77; ((with_reducible refine (h3.out _).mono ?_)); rintro e w9 ⟨rfl, rfl⟩)
      | (go_at_call 76; ((refine (HO.out _).mono ?_)); rintro e w9 ⟨rfl, rfl⟩))
  all_goals
    clear y10 y11 y12 y20 y21 y22
    go_wp2
    go_ret
    exact ⟨by rw [HR.out]; rfl, (LB.out.alloc LB.out.size _).drew⟩
end Go.Proofs.Ytedjmgiblkjonaa
namespace Go.Proofs.Ytedjmgiblkjonaa
open Go.RowKit Go.Maps
set_option linter.unusedVariables false

def typeE (x : TypeX) : Int := typeM x.name x.ctx x.lo x.hi x.fl x.nl
def helpE (x : HelpX) : Int := helperM x.id x.mj x.mn x.ck x.rk x.lo x.hi x.sz x.lx
/-- What rows of types and helpers hold of each: where their rows lie. -/
def TypesOk (W : World) (B : Nat) (l : List TypeX) : Prop := ∀ x ∈ l, x.name.size ≤ maxLen ∧ Rd W B 4 x.F x.fl.length (fcells x.fl) ∧ Rd W B 3 x.N x.nl.length (ncells x.nl) ∧ (x.fl.length ≤ 1000000 ∧ x.fl.length ≤ x.fc ∧ x.fc ≤ maxLen) ∧ x.nl.length ≤ 1000000 ∧ x.nl.length ≤ x.nc ∧ x.nc ≤ maxLen
def HelpsOk (W : World) (B : Nat) (l : List HelpX) : Prop := ∀ x ∈ l, Rd W B 4 x.A x.lx.length (xcells x.lx) ∧ ArgsOk W B x.lx ∧ x.lx.length ≤ 1000000 ∧ x.lx.length ≤ x.c ∧ x.c ≤ maxLen
theorem TypesOk.below {W W' : World} {B : Nat} {l : List TypeX} (h : TypesOk W B l) (hb : Below B W W') : TypesOk W' B l := fun x hx => by
  obtain ⟨h1, h2, h3, h4⟩ := h x hx
  exact ⟨h1, h2.below hb, h3.below hb, h4⟩
theorem HelpsOk.below {W W' : World} {B : Nat} {l : List HelpX} (h : HelpsOk W B l) (hb : Below B W W') : HelpsOk W' B l := fun x hx => by
  obtain ⟨h1, h2, h3⟩ := h x hx
  exact ⟨h1.below hb, h2.below hb, h3⟩
theorem typeE_any {W : World} {B : Nat} {l : List TypeX} (h : TypesOk W B l) (x : TypeX) (hx : x ∈ l) (X : World) (hX : Below B W X) (hB : B ≤ X.heap.size) :
    Calls Try.prog 21 #[.agg #[.string x.name, .int .i64 x.ctx, .slice x.F x.fl.length x.fc, .slice x.N x.nl.length x.nc, .int .i64 x.lo, .int .i64 x.hi]] X fun e w' => e = .returned (.int .i64 (typeE x)) ∧ Below X.heap.size X w' := by
  obtain ⟨h1, h2, h3, ⟨h4, h5, h6⟩, h7, h8, h9⟩ := h x hx
  exact type_any x.name x.ctx x.lo x.hi x.F x.N x.fl.length x.fc x.nl.length x.nc B x.fl x.nl X h1 (h2.below hX) (h3.below hX) hB h4 h5 h6 h7 h8 h9
theorem helpE_any {W : World} {B : Nat} {l : List HelpX} (h : HelpsOk W B l) (x : HelpX) (hx : x ∈ l) (X : World) (hX : Below B W X) (hB : B ≤ X.heap.size) :
    Calls Try.prog 15 #[.agg #[.int .i64 x.id, .int .i64 x.mj, .int .i64 x.mn, .int .u8 x.ck, .slice x.A x.lx.length x.c, .int .u8 x.rk, .int .i64 x.lo, .int .i64 x.hi, .int .i64 x.sz]] X fun e w' => e = .returned (.int .i64 (helpE x)) ∧ Below X.heap.size X w' := by
  obtain ⟨h1, h2, h3, h4, h5⟩ := h x hx
  exact helper_any x.id x.mj x.mn x.ck x.rk x.lo x.hi x.sz x.A x.lx.length x.c B x.lx X (h1.below hX) (h2.below hX) hB h3 h4 h5
def tableM (pv : ByteArray) (tl : List TypeX) (hl : List HelpX) : Int :=
  if nameM pv.data.toList = false then 2 else if 16 < tl.length then 3 else if 64 < hl.length then 3 else if riseM typeE typeAbv 7 tl ≠ 0 then riseM typeE typeAbv 7 tl else riseM helpE helpAbv 7 hl
set_option maxRecDepth 100000 in
set_option maxHeartbeats 4000000 in
theorem table_any (pv : ByteArray) (T H : Option Addr) (n tc m hc B : Nat) (tl : List TypeX) (hl : List HelpX) (w : World) (hs : pv.size ≤ maxLen) (hp : Rd w B 6 T n (tcells tl)) (hq : Rd w B 9 H m (hcells hl)) (hto : TypesOk w B tl) (hho : HelpsOk w B hl) (hB : B ≤ w.heap.size)
    (hn : n ≤ 1000000) (hnc : n ≤ tc) (htc : tc ≤ maxLen) (hm : m ≤ 1000000) (hmc : m ≤ hc) (hhc : hc ≤ maxLen) :
    Calls Try.prog 20 #[.agg #[.string pv, .slice T n tc, .slice H m hc]] w fun e w' => e = .returned (.int .i64 (tableM pv tl hl)) ∧ Below w.heap.size w w' := by
  have hN : Hid (tableM pv tl hl = if nameM pv.data.toList = false then 2 else if 16 < tl.length then 3 else if 64 < hl.length then 3 else if riseM typeE typeAbv 7 tl ≠ 0 then riseM typeE typeAbv 7 tl else riseM helpE helpAbv 7 hl) := hide rfl
  have hl1 := Rd.tcells_len hp
  have hl2 := Rd.hcells_len hq
  rw [hl1, hl2] at hN
  have b1 := World.alloc_heap_new w (.cells #[.string pv, .slice T n tc, .slice H m hc] 54)
  have l1 := below1 w (.cells #[.string pv, .slice T n tc, .slice H m hc] 54)
  have hNm := hide (fun w => name_any pv w hs)
  go_enter Try.func20, Try.ntmps20
  go_wp2_with fail
  refine name_call (fun W1 hW1 => ?_)
  rw [← hW1] at b1 l1
  clear hW1
  have c1 : ∀ y : Later W1, y.w.cell? ⟨w.heap.size, 1, none⟩ = some (.slice T n tc) := Later.cell (by rw [blk_cell b1]; rfl)
  have c2 : ∀ y : Later W1, y.w.cell? ⟨w.heap.size, 2, none⟩ = some (.slice H m hc) := Later.cell (by rw [blk_cell b1]; rfl)
  have hTy : Hid (∀ y : Later W1, Calls Try.prog 44 #[.slice T n tc, .func (.func 21) #[] #[], .func (.func 45) #[] #[], .int .i64 7] y.w fun e w' => e = .returned (.int .i64 (riseM typeE typeAbv 7 tl)) ∧ Below y.w.heap.size y.w w') := hide (fun y => by
    have h2 := (l1.trans (y.below.mono l1.size)).mono hB
    have hz := Nat.le_trans hB h2.size
    exact rise_type T n tc B tl typeE typeAbv 7 y.w (hp.below h2) hz hn hnc htc (by decide) (fun x hx X hX => typeE_any (hto.below h2) x hx X (hX.mono hz) (Nat.le_trans hz hX.size)) (fun q hq x hx X hX => typeAbv_any q x X))
  have hHe : Hid (∀ y : Later W1, Calls Try.prog 46 #[.slice H m hc, .func (.func 15) #[] #[], .func (.func 47) #[] #[], .int .i64 7] y.w fun e w' => e = .returned (.int .i64 (riseM helpE helpAbv 7 hl)) ∧ Below y.w.heap.size y.w w') := hide (fun y => by
    have h2 := (l1.trans (y.below.mono l1.size)).mono hB
    have hz := Nat.le_trans hB h2.size
    exact rise_help H m hc B hl helpE helpAbv 7 y.w (hq.below h2) hz hm hmc hhc (by decide) (fun x hx X hX => helpE_any (hho.below h2) x hx X (hX.mono hz) (Nat.le_trans hz hX.size)) (fun q hq x hx X hX => helpAbv_any q x X))
  have L1 := hide l1
  clear hp hq hto hho hl1 hl2 b1 l1
  generalize nameM pv.data.toList = nb at *
  generalize riseM typeE typeAbv 7 tl = et at *
  generalize riseM helpE helpAbv 7 hl = eh at *
  ((with_reducible refine (Later.calls0 hNm.out).mono ?_))
  clear hNm
  rintro e w1 ⟨rfl, x, rfl⟩
  have HX := hide (L1.out.trans (x.below.mono L1.out.size))
  cases nb
  · have hR : Hid (tableM pv tl hl = 2) := hide (by rw [hN.out, if_pos rfl])
    clear hN
    go_wp2
    go_ret
    exact ⟨by rw [hR.out]; rfl, HX.out⟩
  · by_cases h16 : 16 < n
    · have hR : Hid (tableM pv tl hl = 3) := hide (by rw [hN.out, if_neg (by simp), if_pos h16])
      have hd : decide (16 < (n : Int)) = true := by simp; omega
      clear hN
      go_wp2
      go_ret
      exact ⟨by rw [hR.out]; rfl, HX.out⟩
    · have hd : decide (16 < (n : Int)) = false := by simp; omega
      by_cases h64 : 64 < m
      · have hR : Hid (tableM pv tl hl = 3) := hide (by rw [hN.out, if_neg (by simp), if_neg h16, if_pos h64])
        have hd2 : decide (64 < (m : Int)) = true := by simp; omega
        clear hN h16
        go_wp2
        go_ret
        exact ⟨by rw [hR.out]; rfl, HX.out⟩
      · have hd2 : decide (64 < (m : Int)) = false := by simp; omega
        have hN2 : Hid (tableM pv tl hl = if et ≠ 0 then et else eh) := hide (by rw [hN.out, if_neg (by simp), if_neg h16, if_neg h64])
        clear hN h16 h64
        go_wp2_with fail
        clear hd hd2
        ((with_reducible refine (Later.callsL x hTy.out).mono ?_))
        rintro e w1 ⟨rfl, y, rfl⟩
        clear hTy HX x
        have HY := hide (L1.out.trans (y.below.mono L1.out.size))
        by_cases he : et = 0
        · subst he
          have hR : Hid (tableM pv tl hl = eh) := hide (by rw [hN2.out, if_neg (by simp)])
          clear hN2
          go_wp2_with fail
          ((with_reducible refine (Later.callsL y hHe.out).mono ?_))
          rintro e w1 ⟨rfl, z, rfl⟩
          clear hHe HY
          have HZ := hide (L1.out.trans (z.below.mono L1.out.size))
          go_wp2
          go_ret
          exact ⟨by rw [hR.out]; rfl, HZ.out⟩
        · have he2 : (et == 0) = false := by simpa using he
          have he3 : (et != 0) = true := by simpa using he
          have hR : Hid (tableM pv tl hl = et) := hide (by rw [hN2.out, if_pos he])
          clear hN2 he
          go_wp2
          go_ret
          exact ⟨by rw [hR.out]; rfl, HY.out⟩
end Go.Proofs.Ytedjmgiblkjonaa
namespace Go.Proofs.Ytedjmgiblkjonaa
open Go.RowKit Go.Maps
set_option linter.unusedVariables false

theorem mem_placed2 {α : Type} (l : List α) (k : Nat) (x : α) (h : l[k]? = some x) : (k, x) ∈ placed 0 l := by
  have gen : ∀ (l : List α) (j k : Nat) (x : α), l[k]? = some x → (j + k, x) ∈ placed j l := by
    intro l
    induction l with
    | nil => intro j k x h; simp at h
    | cons y l ih =>
      intro j k x h
      cases k with
      | zero => simp at h; subst h; simp [placed]
      | succ k =>
        have := ih (j + 1) k x (by simpa using h)
        rw [show j + 1 + k = j + (k + 1) by omega] at this
        simp [placed, this]
  have := gen l 0 k x h
  simpa using this
/-- A row of right elements, each above the one ahead. -/
def Rises {α : Type} (own : α → Int) (abv : α → α → Bool) (l : List α) : Prop := (∀ x ∈ l, own x = 0) ∧ ∀ i x y, l[i]? = some x → l[i + 1]? = some y → abv x y = true
theorem riseM_zero {α : Type} {own : α → Int} {abv : α → α → Bool} {na : Int} {l : List α} (hna : na ≠ 0) : riseM own abv na l = 0 ↔ Rises own abv l := by
  have hat : ∀ k x, l[k]? = some x → (errAt own abv na l (k, x) = 0 ↔ own x = 0 ∧ (∀ j y, k = j + 1 → l[j]? = some y → abv y x = true)) := by
    intro k x hx
    unfold errAt
    by_cases ho : own x = 0
    · simp only [ho, ne_eq, not_true_eq_false, if_false, true_and]
      cases k with
      | zero => simp
      | succ j =>
        have hj : j < l.length := by have := (List.getElem?_eq_some_iff.1 hx).1; omega
        have hq : l[j]? = some l[j] := List.getElem?_eq_getElem hj
        simp only [Nat.add_sub_cancel, hq]
        by_cases ha : abv l[j] x = true
        · simp only [ha, if_true]
          refine ⟨fun _ i y h1 h2 => ?_, fun _ => by simp⟩
          have : i = j := by omega
          subst this
          rw [hq] at h2; cases h2; exact ha
        · simp only [ha]
          refine ⟨fun h => absurd h (by simp [hna]), fun h => absurd (h j _ rfl hq) ha⟩
    · simp [ho]
  have hall : riseM own abv na l = 0 ↔ ∀ p ∈ placed 0 l, errAt own abv na l p = 0 := by
    unfold riseM
    cases hf : (placed 0 l).find? (fun p => errAt own abv na l p != 0) with
    | none =>
      refine ⟨fun _ p hp => ?_, fun _ => rfl⟩
      have := List.find?_eq_none.1 hf p hp
      simpa using this
    | some p =>
      have h1 := List.find?_some hf
      have h2 := List.mem_of_find?_eq_some hf
      refine ⟨fun h => ?_, fun h => h p h2⟩
      simp [h] at h1
  rw [hall]
  constructor
  · intro h
    refine ⟨fun x hx => ?_, fun i x y hx hy => ?_⟩
    · obtain ⟨k, hk⟩ := List.getElem?_of_mem hx
      exact ((hat k x hk).1 (h _ (mem_placed2 l k x hk))).1
    · exact ((hat (i + 1) y hy).1 (h _ (mem_placed2 l (i + 1) y hy))).2 i x rfl hx
  · rintro ⟨h1, h2⟩ ⟨k, x⟩ hp
    obtain ⟨_, hk⟩ := placed_mem l 0 _ hp
    simp only [Nat.sub_zero] at hk
    refine (hat k x hk).2 ⟨h1 x (List.mem_of_getElem? hk), fun j y hj hy => ?_⟩
    subst hj
    exact h2 j y x hy hk
theorem rises_pairwise {α : Type} {own : α → Int} {abv : α → α → Bool} (htr : ∀ a b c, abv a b = true → abv b c = true → abv a c = true) : ∀ l : List α, Rises own abv l ↔ (∀ x ∈ l, own x = 0) ∧ l.Pairwise (fun a b => abv a b = true) := by
  intro l
  refine and_congr_right (fun h0 => ?_)
  clear h0
  induction l with
  | nil => simp
  | cons a l ih =>
    constructor
    · intro h
      have hl : l.Pairwise (fun a b => abv a b = true) := ih.1 (fun i x y hx hy => h (i + 1) x y (by simpa using hx) (by simpa using hy))
      refine List.Pairwise.cons ?_ hl
      intro b hb
      cases l with
      | nil => cases hb
      | cons c l =>
        have hac : abv a c = true := h 0 a c rfl rfl
        rcases List.mem_cons.1 hb with rfl | hb
        · exact hac
        · exact htr a c b hac (List.rel_of_pairwise_cons hl hb)
    · intro h i x y hx hy
      cases i with
      | zero =>
        simp at hx
        subst hx
        exact List.rel_of_pairwise_cons h (List.mem_of_getElem? (by simpa using hy))
      | succ i => exact ih.2 h.of_cons i x y (by simpa using hx) (by simpa using hy)
/-- What is left of a row that rises does so too. -/
theorem rises_sub {α : Type} {own : α → Int} {abv : α → α → Bool} (htr : ∀ a b c, abv a b = true → abv b c = true → abv a c = true) {l m : List α} (hs : m.Sublist l) (h : Rises own abv l) : Rises own abv m := by
  obtain ⟨h1, h2⟩ := (rises_pairwise htr l).1 h
  exact (rises_pairwise htr m).2 ⟨fun x hx => h1 x (hs.subset hx), h2.sublist hs⟩
end Go.Proofs.Ytedjmgiblkjonaa
namespace Go.Proofs.Ytedjmgiblkjonaa
open Go.RowKit Go.Maps
set_option linter.unusedVariables false

theorem helpAbv_iff (q x : HelpX) : helpAbv q x = true ↔ q.id < x.id ∨ (q.id = x.id ∧ (q.mj < x.mj ∨ (q.mj = x.mj ∧ q.mn < x.mn))) := by
  have hc : ∀ a b : Int, cmpM a b = 0 ↔ a = b := by
    intro a b; unfold cmpM; split
    · omega
    · split <;> omega
  have hl : ∀ a b : Int, cmpM a b < 0 ↔ a < b := by
    intro a b; unfold cmpM; split
    · omega
    · split <;> omega
  unfold helpAbv orM
  rw [decide_eq_true_iff]
  have h1 := hc q.id x.id
  have h2 := hc q.mj x.mj
  have l1 := hl q.id x.id
  have l2 := hl q.mj x.mj
  have l3 := hl q.mn x.mn
  generalize cmpM q.id x.id = a at *
  generalize cmpM q.mj x.mj = b at *
  generalize cmpM q.mn x.mn = c at *
  by_cases ha : a = 0
  · subst ha
    have e1 := h1.1 rfl
    by_cases hb : b = 0
    · subst hb
      have e2 := h2.1 rfl
      by_cases hc0 : c = 0
      · subst hc0; simp; omega
      · have : ([0, 0, c].find? fun x => x != 0) = some c := by simp [hc0]
        rw [this]; simp only [Option.getD_some]; omega
    · have : ([0, b, c].find? fun x => x != 0) = some b := by simp [hb]
      rw [this]; simp only [Option.getD_some]; omega
  · have : ([a, b, c].find? fun x => x != 0) = some a := by simp [ha]
    rw [this]; simp only [Option.getD_some]; omega
theorem helpAbv_trans (a b c : HelpX) (h1 : helpAbv a b = true) (h2 : helpAbv b c = true) : helpAbv a c = true := by
  rw [helpAbv_iff] at *
  omega
theorem less_trans : ∀ (a b c : List UInt8), Op.bytesLess a b = true → Op.bytesLess b c = true → Op.bytesLess a c = true := by
  intro a
  induction a with
  | nil => intro b c h1 h2; cases b <;> cases c <;> simp_all [Op.bytesLess]
  | cons x a ih =>
    intro b c h1 h2
    cases b with
    | nil => simp [Op.bytesLess] at h1
    | cons y b =>
      cases c with
      | nil => simp [Op.bytesLess] at h2
      | cons z c =>
        simp only [Op.bytesLess, Bool.or_eq_true, Bool.and_eq_true, decide_eq_true_eq, beq_iff_eq] at h1 h2 ⊢
        rcases h1 with h1 | ⟨rfl, h1⟩
        · rcases h2 with h2 | ⟨rfl, h2⟩
          · exact .inl (UInt8.lt_trans h1 h2)
          · exact .inl h1
        · rcases h2 with h2 | ⟨rfl, h2⟩
          · exact .inl h2
          · exact .inr ⟨rfl, ih _ _ h1 h2⟩
theorem typeAbv_trans (a b c : TypeX) (h1 : typeAbv a b = true) (h2 : typeAbv b c = true) : typeAbv a c = true := less_trans _ _ _ h1 h2
theorem fieldErr_lies {ctx : Int} (hc : 8 ≤ ctx ∧ ctx ≤ 256) {f : FieldM} (h : fieldErr ctx f = 0) : 0 ≤ f.off ∧ 1 ≤ f.size ∧ f.size ≤ 8 ∧ f.off + f.size ≤ ctx := by
  unfold fieldErr at h
  split at h
  · rename_i hb
    rw [Bool.and_eq_true] at hb
    have hl := hb.1
    unfold liesM at hl
    split at hl
    · rename_i hs
      rw [Bool.and_eq_true] at hl
      have hi := hl.1
      unfold inI wrap64 at hi
      simp at hi
      omega
    · cases hl
  · cases h
theorem off_less {ctx : Int} (hc : 8 ≤ ctx ∧ ctx ≤ 256) {l : List FieldM} (hr : Rises (fieldErr ctx) fieldAbv l) : ∀ (d i : Nat) (x y : FieldM), l[i]? = some x → l[i + 1 + d]? = some y → x.off < y.off := by
  have one : ∀ (i : Nat) (x y : FieldM), l[i]? = some x → l[i + 1]? = some y → x.off < y.off := by
    intro i x y hx hy
    have ha := hr.2 i x y hx hy
    have h1 := fieldErr_lies hc (hr.1 x (List.mem_of_getElem? hx))
    unfold fieldAbv wrap64 at ha
    simp at ha
    omega
  intro d
  induction d with
  | zero => exact one
  | succ d ih =>
    intro i x y hx hy
    have hj : i + 1 + d < l.length := by have := (List.getElem?_eq_some_iff.1 hy).1; omega
    have hz : l[i + 1 + d]? = some l[i + 1 + d] := List.getElem?_eq_getElem hj
    have h1 := ih i x _ hx hz
    have h2 := one (i + 1 + d) _ y hz (by rw [← hy]; congr 1)
    omega
theorem field_found {ctx : Int} (hc : 8 ≤ ctx ∧ ctx ≤ 256) {l : List FieldM} (hr : Rises (fieldErr ctx) fieldAbv l) (f : FieldM) (hf : f ∈ l) : l.find? (fun g => g.off == f.off && g.size == f.size) = some f := by
  cases hq : l.find? (fun g => g.off == f.off && g.size == f.size) with
  | none =>
    have := List.find?_eq_none.1 hq f hf
    simp at this
  | some g =>
    have h1 := List.find?_some hq
    obtain ⟨i, hi⟩ := List.getElem?_of_mem hf
    obtain ⟨j, hj⟩ := List.getElem?_of_mem (List.mem_of_find?_eq_some hq)
    simp at h1
    rcases Nat.lt_trichotomy i j with h | h | h
    · have := off_less hc hr (j - i - 1) i f g hi (by rw [show i + 1 + (j - i - 1) = j by omega]; exact hj)
      omega
    · subst h
      rw [hi] at hj
      exact hj.symm
    · have := off_less hc hr (i - j - 1) j g f hj (by rw [show j + 1 + (i - j - 1) = i by omega]; exact hi)
      omega
/-- What a right type holds. -/
theorem typeM_right {nm : ByteArray} {ctx lo hi : Int} {fl : List FieldM} {nl : List NeedM} (h : typeM nm ctx lo hi fl nl = 0) : (8 ≤ ctx ∧ ctx ≤ 256) ∧ Rises (fieldErr ctx) fieldAbv fl := by
  unfold typeM at h
  split at h
  · cases h
  · split at h
    · cases h
    · rename_i hc
      split at h
      · cases h
      · split at h
        · cases h
        · split at h
          · cases h
          · rename_i hf
            have hc2 : inI 8 256 ctx = true := by simpa using hc
            have hf2 : fieldsM ctx fl = true := by simpa using hf
            unfold fieldsM at hf2
            rw [Bool.and_eq_true, Bool.and_eq_true] at hf2
            refine ⟨by unfold inI at hc2; simpa using hc2, (riseM_zero (na := 22) (by decide)).1 (by simpa using hf2.1.1)⟩
end Go.Proofs.Ytedjmgiblkjonaa
namespace Go.Proofs.Ytedjmgiblkjonaa
open Go.RowKit Go.Maps
set_option linter.unusedVariables false

theorem all_takeG {α : Type} (f : α → Bool) (l : List α) (k : Nat) (b : α) (h : l[k]? = some b) (hp : (l.take k).all f = true) (hb : f b = true) : (l.take (k + 1)).all f = true := by
  obtain ⟨h1, h2⟩ := List.getElem?_eq_some_iff.1 h
  rw [List.take_succ_eq_append_getElem h1, List.all_append, hp, h2]
  simp [hb]
def shortT (x : TypeX) : Bool := decide (x.fl.length ≤ 40) && decide (x.nl.length ≤ 80)
def shortA (x : ArgX) : Bool := decide (x.a.maps.length ≤ 20)
def shortH (x : HelpX) : Bool := decide (x.lx.length ≤ 10) && x.lx.all shortA
def SmallTold (tl : List TypeX) (hl : List HelpX) (w : World) (e : Ending) (w' : World) : Prop := ∃ b, e = .returned (.bool b) ∧ (b = true → tl.length ≤ 20 ∧ hl.length ≤ 70 ∧ tl.all shortT = true ∧ hl.all shortH = true) ∧ Below w.heap.size w w'
set_option maxRecDepth 100000 in
set_option maxHeartbeats 4000000 in
theorem small_any (pv : ByteArray) (T H : Option Addr) (n tc m hc B : Nat) (tl : List TypeX) (hl : List HelpX) (w : World) (hs : pv.size ≤ maxLen) (hp : Rd w B 6 T n (tcells tl)) (hq : Rd w B 9 H m (hcells hl)) (hB : B ≤ w.heap.size)
    (hnc : n ≤ tc) (htc : tc ≤ maxLen) (hmc : m ≤ hc) (hhc : hc ≤ maxLen)
    (htl : ∀ x ∈ tl, x.name.size ≤ maxLen ∧ x.fl.length ≤ maxLen ∧ x.nl.length ≤ maxLen) (hhl : ∀ x ∈ hl, x.lx.length ≤ maxLen ∧ Rd w B 4 x.A x.lx.length (xcells x.lx) ∧ ∀ a ∈ x.lx, a.a.maps.length ≤ maxLen) :
    Calls Try.prog 19 #[.agg #[.string pv, .slice T n tc, .slice H m hc]] w (SmallTold tl hl w) := by
  have hl1 := hide (Rd.tcells_len hp)
  have hl2 := hide (Rd.hcells_len hq)
  have HTL := hide htl
  have HHL := hide hhl
  have b1 := World.alloc_heap_new w (.cells #[.string pv, .slice T n tc, .slice H m hc] 54)
  have l1 := below1 w (.cells #[.string pv, .slice T n tc, .slice H m hc] 54)
  have n9 : n ≤ 9223372036854775807 := by unfold maxLen at htc; omega
  have m9 : m ≤ 9223372036854775807 := by unfold maxLen at hhc; omega
  have p9 : pv.size ≤ 9223372036854775807 := by unfold maxLen at hs; omega
  clear htl hhl hnc htc hmc hhc hs
  have L0 := hide l1
  by_cases h300 : 300 < pv.size
  · have hd : decide (300 < (pv.size : Int)) = true := by simp; omega
    clear b1 l1 hp hq
    go_enter Try.func19, Try.ntmps19
    go_wp2
    go_ret
    exact ⟨false, rfl, (fun h => by cases h), L0.out⟩
  · have hd : decide (300 < (pv.size : Int)) = false := by simp; omega
    by_cases h20 : 20 < n
    · have hd2 : decide (20 < (n : Int)) = true := by simp; omega
      clear b1 l1 hp hq
      go_enter Try.func19, Try.ntmps19
      go_wp2
      go_ret
      exact ⟨false, rfl, (fun h => by cases h), L0.out⟩
    · have hd2 : decide (20 < (n : Int)) = false := by simp; omega
      by_cases h70 : 70 < m
      · have hd3 : decide (70 < (m : Int)) = true := by simp; omega
        clear b1 l1 hp hq
        go_enter Try.func19, Try.ntmps19
        go_wp2
        go_ret
        exact ⟨false, rfl, (fun h => by cases h), L0.out⟩
      · have hd3 : decide (70 < (m : Int)) = false := by simp; omega
        go_enter Try.func19, Try.ntmps19
        go_wp2_with fail
        refine name_world (fun W1 hW1 => ?_)
        rw [← hW1] at b1 l1
        clear hW1
        have c0 := blk_cell b1 0
        have c1 := blk_cell b1 1
        have c2 := blk_cell b1 2
        simp only [List.getElem?_toArray, List.getElem?_cons_zero, List.getElem?_cons_succ] at c0 c1 c2
        have HP := hide (hp.below (l1.mono hB))
        have HQ := hide (hq.below (l1.mono hB))
        have L1 := hide l1
        have L1B := hide (l1.mono hB)
        clear hp hq b1 l1
        clear hd hd2 hd3
        go_loop [3] (fun p => ∃ i : Nat, i ≤ n ∧ p = .int .i64 i ∧ (tl.take i).all shortT = true) (fun p => n - (intOf p).toNat)
        case atStart => exact ⟨0, Nat.zero_le _, rfl, by simp⟩
        case round =>
          obtain ⟨i, hi', rfl, htk⟩ := hrel
          have HT := hide htk
          clear htk
          by_cases hlt : i < n
          · obtain ⟨ad, x, rfl, hab, hx, x0, x1, x2, x3, x4, x5⟩ := Rd.type HP.out hlt
            obtain ⟨s1, s2, s3⟩ := HTL.out x (List.mem_of_getElem? hx)
            have HX := hide hx
            have HSH : Hid (shortT x = (decide (x.fl.length ≤ 40) && decide (x.nl.length ≤ 80))) := hide rfl
            clear hx
            unfold maxLen at s1 s2 s3
            generalize x.fl.length = a1 at *
            generalize x.nl.length = a2 at *
            by_cases g300 : 300 < x.name.size
            · have hd : decide (300 < (x.name.size : Int)) = true := by simp; omega
              go_wp2
              go_ret
              exact ⟨false, rfl, (fun h => by cases h), L1.out⟩
            · have hd : decide (300 < (x.name.size : Int)) = false := by simp; omega
              by_cases g40 : 40 < a1
              · have hd2 : decide (40 < (a1 : Int)) = true := by simp; omega
                go_wp2
                go_ret
                exact ⟨false, rfl, (fun h => by cases h), L1.out⟩
              · have hd2 : decide (40 < (a1 : Int)) = false := by simp; omega
                by_cases g80 : 80 < a2
                · have hd3 : decide (80 < (a2 : Int)) = true := by simp; omega
                  go_wp2
                  go_ret
                  exact ⟨false, rfl, (fun h => by cases h), L1.out⟩
                · have hd3 : decide (80 < (a2 : Int)) = false := by simp; omega
                  have HM := hide (all_takeG shortT tl i x HX.out HT.out (by rw [HSH.out]; simp; omega))
                  go_wp2
                  go_round
                  case rel => exact ⟨i + 1, by omega, by go_num, HM.out⟩
                  case measure => simp [intOf]; omega
          · have HTA : Hid (tl.all shortT = true) := hide (by
              have := HT.out
              rwa [List.take_of_length_le (by rw [hl1.out]; omega)] at this)
            clear HT
            go_wp2_with fail
            go_loop [4] (fun p => ∃ i : Nat, i ≤ m ∧ p = .int .i64 i ∧ (hl.take i).all shortH = true) (fun p => m - (intOf p).toNat)
            case atStart => exact ⟨0, Nat.zero_le _, rfl, by simp⟩
            case round =>
              obtain ⟨j, hj', rfl, htk⟩ := hrel
              have HT := hide htk
              clear htk
              by_cases hlj : j < m
              · obtain ⟨ad, x, rfl, hab, hx, x0, x1, x2, x3, x4, x5, x6, x7, x8⟩ := Rd.help HQ.out hlj
                obtain ⟨s1, s2, s3⟩ := HHL.out x (List.mem_of_getElem? hx)
                have HX := hide hx
                have HA := hide (s2.below L1B.out)
                have HAL := hide (s2.xcells_len)
                have HS3 := hide s3
                clear hx s2 s3 x0 x1 x2 x3 x5 x6 x7 x8
                unfold maxLen at s1
                generalize hal : x.lx.length = a1 at *
                have HLA := hide hal
                clear hal
                by_cases g10 : 10 < a1
                · have hd : decide (10 < (a1 : Int)) = true := by simp; omega
                  go_wp2
                  go_ret
                  exact ⟨false, rfl, (fun h => by cases h), L1.out⟩
                · have hd : decide (10 < (a1 : Int)) = false := by simp; omega
                  go_wp2_with fail
                  clear hd
                  go_loop [5] (fun p => ∃ k : Nat, k ≤ a1 ∧ p = .int .i64 k ∧ (x.lx.take k).all shortA = true) (fun p => a1 - (intOf p).toNat)
                  case atStart => exact ⟨0, Nat.zero_le _, rfl, by simp⟩
                  case round =>
                    obtain ⟨k, hk', rfl, htk⟩ := hrel
                    have HTK := hide htk
                    clear htk
                    by_cases hlk : k < a1
                    · obtain ⟨ad2, y, hA2, hab2, hy, _, _, _, y3⟩ := HA.out.argx hlk
                      have hm := HS3.out y (List.mem_of_getElem? hy)
                      have HY := hide hy
                      have HSA : Hid (shortA y = decide (y.a.maps.length ≤ 20)) := hide rfl
                      clear hy
                      unfold maxLen at hm
                      rw [hA2] at x4
                      clear hA2
                      generalize y.a.maps.length = b1 at *
                      by_cases g20 : 20 < b1
                      · have hd : decide (20 < (b1 : Int)) = true := by simp; omega
                        go_wp2
                        go_ret
                        exact ⟨false, rfl, (fun h => by cases h), L1.out⟩
                      · have hd : decide (20 < (b1 : Int)) = false := by simp; omega
                        have HM := hide (all_takeG shortA x.lx k y HY.out HTK.out (by rw [HSA.out]; simp; omega))
                        go_wp2
                        go_round
                        case rel => exact ⟨k + 1, by omega, by go_num, HM.out⟩
                        case measure => simp [intOf]; omega
                    · have hall : x.lx.all shortA = true := by
                        have := HTK.out
                        rwa [List.take_of_length_le (by rw [HLA.out]; omega)] at this
                      have HM := hide (all_takeG shortH hl j x HX.out HT.out (by unfold shortH; rw [hall, HLA.out]; simp; omega))
                      clear hall
                      go_wp2
                      go_round
                      case rel => exact ⟨j + 1, by omega, by go_num, HM.out⟩
                      case measure => simp [intOf]; omega
              · have HHA : Hid (hl.all shortH = true) := hide (by
                  have := HT.out
                  rwa [List.take_of_length_le (by rw [hl2.out]; omega)] at this)
                clear HT
                go_wp2
                go_ret
                exact ⟨true, rfl, (fun _ => ⟨by rw [hl1.out]; omega, by rw [hl2.out]; omega, HTA.out, HHA.out⟩), L1.out⟩
end Go.Proofs.Ytedjmgiblkjonaa
namespace Go.Proofs.Ytedjmgiblkjonaa
open Go.RowKit Go.Maps
set_option linter.unusedVariables false

set_option maxRecDepth 100000 in
set_option maxHeartbeats 2000000 in
theorem field_there (nm : ByteArray) (ctx lo hi off size : Int) (F N : Option Addr) (n fc nn nc B : Nat) (l : List FieldM) (f : FieldM) (w : World) (hp : Rd w B 4 F n (fcells l)) (hB : B ≤ w.heap.size) (hn : n ≤ 1000000) (hf : l.find? (fun f => f.off == off && f.size == size) = some f) :
    Calls Try.prog 22 #[.agg #[.string nm, .int .i64 ctx, .slice F n fc, .slice N nn nc, .int .i64 lo, .int .i64 hi], .int .i64 off, .int .i64 size] w fun e w' => e = .returned (.tuple #[.agg #[.int .i64 f.off, .int .i64 f.size, .int .u8 f.kind, .bool f.write], .bool true]) ∧ Below w.heap.size w w' := by
  have hll := hide hp.fcells_len
  have HF := hide hf
  clear hf
  obtain ⟨b1, b2⟩ := two_boxes w (.cells #[.string nm, .int .i64 ctx, .slice F n fc, .slice N nn nc, .int .i64 lo, .int .i64 hi] 62) (.cells #[.int .i64 0, .int .i64 0, .int .u8 0, .bool false] 65)
  have l1 := below2 w (.cells #[.string nm, .int .i64 ctx, .slice F n fc, .slice N nn nc, .int .i64 lo, .int .i64 hi] 62) (.cells #[.int .i64 0, .int .i64 0, .int .u8 0, .bool false] 65)
  go_enter Try.func22, Try.ntmps22
  go_wp2_with fail
  refine name_world (fun W1 hW1 => ?_)
  rw [← hW1] at b1 b2 l1
  clear hW1
  have z2 : w.heap.size + 1 < W1.heap.size := at_lt b2
  have B2 := hide b2
  have L1 := hide l1
  have hp1 := hide (hp.below (l1.mono hB))
  clear b1 b2 l1 hp
  generalize hg2 : w.heap.size + 1 = g2 at *
  have HG2 := hide hg2
  clear hg2
  go_loopw [13] (fun p wr => ∃ k : Nat, k ≤ n ∧ p = .int .i64 k ∧ Below W1.heap.size W1 wr ∧ (l.take k).find? (fun f => f.off == off && f.size == size) = none) (fun p _ => n - (intOf p).toNat)
  case atStart => exact ⟨0, Nat.zero_le _, rfl, Below.refl _ _, by simp⟩
  case round =>
    obtain ⟨k, hk, rfl, hb, htk⟩ := hrel
    have HT := hide htk
    clear htk
    by_cases hlt : k < n
    · obtain ⟨ad, ⟨fo, fs, fk, fw⟩, rfl, hab, hx, c0, c1, c2, c3⟩ := (hp1.out.below (hb.mono (Nat.le_trans hB L1.out.size))).field hlt
      have HX := hide hx
      have HB := hide hb
      have zr := hb.size
      have b2 := (hb.block _ (at_lt B2.out)).trans B2.out
      simp only at c0 c1 c2 c3
      by_cases hm : fo = off ∧ fs = size
      · obtain ⟨rfl, rfl⟩ := hm
        have heq := find_take_some (fun f : FieldM => f.off == fo && f.size == fs) l k _ HX.out HT.out (by simp)
        have hff : f = ⟨fo, fs, fk, fw⟩ := by
          have := HF.out.symm.trans heq
          injection this
        subst hff
        have d0 := blk_cell b2 0
        have d1 := blk_cell b2 1
        have d2 := blk_cell b2 2
        have d3 := blk_cell b2 3
        have g0 := Joins.unfrozen_of_block b2 0
        have g1 := Joins.unfrozen_of_block b2 1
        have g2' := Joins.unfrozen_of_block b2 2
        have g3 := Joins.unfrozen_of_block b2 3
        simp only [List.getElem?_toArray, List.getElem?_cons_zero, List.getElem?_cons_succ] at d0 d1 d2 d3
        have zl : g2 < wr.heap.size := at_lt b2
        have BB := hide b2
        clear hb hx heq b2 hk hab
        go_wp2
        obtain ⟨hs, hgr⟩ := store_4 BB.out (.int .i64 fo) (.int .i64 fs) (.int .u8 fk) (.bool fw)
        have hbel := (L1.out.trans (HB.out.mono L1.out.size)).grown hgr (by have := L1.out.size; omega) (fun k e => by cases e; have := HG2.out; omega)
        have hs2 := (Below.heap_alloc _ (.cells #[.int .i64 fo, .int .i64 fs, .int .u8 fk, .bool fw] 65) _ (at_lt hs)).trans hs
        refine bodyPost_ret (v := .tuple #[.agg #[.int .i64 fo, .int .i64 fs, .int .u8 fk, .bool fw], .bool true]) ?_ rfl ⟨rfl, hbel.alloc hbel.size _⟩
        have e0 := blk_cell hs2 0
        have e1 := blk_cell hs2 1
        have e2 := blk_cell hs2 2
        have e3 := blk_cell hs2 3
        simp only [List.getElem?_toArray, List.getElem?_cons_zero, List.getElem?_cons_succ] at e0 e1 e2 e3
        simp [results, Try.results22, go_sem, e0, e1, e2, e3]
      · have hmf : ((fo == off) && (fs == size)) = false := by
          rw [Bool.and_eq_false_iff, beq_eq_false_iff_ne, beq_eq_false_iff_ne]
          by_cases h1 : fo = off
          · exact .inr (fun h2 => hm ⟨h1, h2⟩)
          · exact .inl h1
        have HM := hide (find_take_none (fun f : FieldM => f.off == off && f.size == size) l k _ HX.out HT.out hmf)
        clear hb hx b2
        by_cases h1 : fo = off
        · subst h1
          have h2 : (fs == size) = false := by rw [beq_eq_false_iff_ne]; exact fun h2 => hm ⟨rfl, h2⟩
          clear hm hmf
          go_wp2
          go_roundw
          case rel => exact ⟨k + 1, by omega, by go_num, HB.out.trans ((below1 _ _).mono HB.out.size), HM.out⟩
          case measure => simp [intOf]; omega
        · have h2 : (fo == off) = false := by rw [beq_eq_false_iff_ne]; exact h1
          clear hm hmf h1
          go_wp2
          go_roundw
          case rel => exact ⟨k + 1, by omega, by go_num, HB.out.trans ((below1 _ _).mono HB.out.size), HM.out⟩
          case measure => simp [intOf]; omega
    · exfalso
      have := HT.out
      rw [List.take_of_length_le (by rw [hll.out]; omega)] at this
      rw [HF.out] at this
      cases this
end Go.Proofs.Ytedjmgiblkjonaa
