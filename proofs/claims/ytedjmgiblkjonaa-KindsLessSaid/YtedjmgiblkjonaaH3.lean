/-
  A field's error; how many fields are of a kind; whether a type's fields are right.
-/
import Derived.Test.YtedjmgiblkjonaaH0
import Derived.Test.YtedjmgiblkjonaaH2
import Derived.Test.YtedjmgiblkjonaaHT
namespace Go.Proofs.Ytedjmgiblkjonaa
open Go.RowKit Go.Maps
set_option linter.unusedVariables false

set_option maxRecDepth 100000 in
set_option maxHeartbeats 1000000 in
theorem fieldErr_any (f : FieldM) (ctx : Int) (bt : Nat) (w : World) (hb : w.cell? ⟨bt, 1, none⟩ = some (.int .i64 ctx)) :
    Calls Try.prog 78 #[.agg #[.int .i64 f.off, .int .i64 f.size, .int .u8 f.kind, .bool f.write], .pointer (some ⟨bt, 0, none⟩)] w fun e w' => e = .returned (.int .i64 (fieldErr ctx f)) ∧ Below w.heap.size w w' := by
  have hL := hide (fun w => lies_any f ctx w)
  have hK := hide (fun w => rkind_any f w)
  have hU := hide (fun b w => unless_any b 22 w)
  have HR : Hid (fieldErr ctx f = if (liesM f ctx && rkindM f) = true then 0 else 22) := hide rfl
  have hlt := World.block_lt_of_cell? w _ hb
  generalize liesM f ctx = lb at *
  generalize rkindM f = kb at *
  obtain ⟨o, s, k, r⟩ := f
  simp only at hL hK ⊢
  obtain ⟨c0, c1, c2, c3⟩ := later4 (World.alloc_heap_new w (.cells #[.int .i64 o, .int .i64 s, .int .u8 k, .bool r] 65))
  have HB := hide (below1 w (.cells #[.int .i64 o, .int .i64 s, .int .u8 k, .bool r] 65))
  cases lb
  · go_enter Try.func78, Try.ntmps78
    go_wp2_with fail
    ((with_reducible refine (hL.out _).mono ?_))
    rintro e w1 ⟨rfl, hb1⟩
    have HX := hide (HB.out.trans (hb1.mono HB.out.size))
    clear hb1 c0 c1 c2 c3
    go_wp2_with fail
    ((with_reducible refine (hU.out _ _).mono ?_))
    rintro e w2 ⟨rfl, rfl⟩
    go_wp2
    go_ret
    exact ⟨by rw [HR.out]; rfl, HX.out⟩
  · cases kb
    all_goals
      go_enter Try.func78, Try.ntmps78
      go_wp2_with fail
      ((with_reducible refine (Later.calls0 hL.out).mono ?_))
      rintro e w1 ⟨rfl, x, rfl⟩
      go_wp2_with fail
      ((with_reducible refine (Later.calls x hK.out).mono ?_))
      rintro e w2 ⟨rfl, y, rfl⟩
      have HX := hide (HB.out.trans (y.below.mono HB.out.size))
      clear c0 c1 c2 c3
      go_wp2_with fail
      ((with_reducible refine (hU.out _ _).mono ?_))
      rintro e w2 ⟨rfl, rfl⟩
      go_wp2
      go_ret
      exact ⟨by rw [HR.out]; rfl, HX.out⟩
def countM (l : List FieldM) (k : Int) : Nat := (l.filter fun f => f.kind == k).length
theorem count_more (l : List FieldM) (k : Int) (i : Nat) (f : FieldM) (h : l[i]? = some f) : countM (l.take (i + 1)) k = countM (l.take i) k + if f.kind = k then 1 else 0 := by
  obtain ⟨h1, h2⟩ := List.getElem?_eq_some_iff.1 h
  unfold countM
  rw [List.take_succ_eq_append_getElem h1, List.filter_append, List.length_append, h2]
  by_cases hk : f.kind = k
  · simp [hk]
  · have : (f.kind == k) = false := by simpa using hk
    simp [hk, this]
set_option maxRecDepth 100000 in
set_option maxHeartbeats 1000000 in
theorem count_any (nm : ByteArray) (ctx lo hi k : Int) (F N : Option Addr) (n fc nn nc B : Nat) (l : List FieldM) (w : World) (hp : Rd w B 4 F n (fcells l)) (hB : B ≤ w.heap.size) (hn : n ≤ 1000000) :
    Calls Try.prog 83 #[.agg #[.string nm, .int .i64 ctx, .slice F n fc, .slice N nn nc, .int .i64 lo, .int .i64 hi], .int .u8 k] w fun e w' => e = .returned (.int .i64 (countM l k)) ∧ Below w.heap.size w w' := by
  have hll := hide hp.fcells_len
  have HB0 := hide (below1 w (.cells #[.string nm, .int .i64 ctx, .slice F n fc, .slice N nn nc, .int .i64 lo, .int .i64 hi] 62))
  go_enter Try.func83, Try.ntmps83
  go_wp2
  go_loopw [11, 5] (fun p q wr => ∃ i : Nat, i ≤ n ∧ p = .int .i64 i ∧ q = .int .i64 (countM (l.take i) k) ∧ Below w.heap.size w wr) (fun p _ _ => n - (intOf p).toNat)
  case atStart => exact ⟨0, Nat.zero_le _, rfl, rfl, HB0.out⟩
  case round =>
    obtain ⟨i, hi', rfl, rfl, hb⟩ := hrel
    by_cases hlt : i < n
    · obtain ⟨ad, ⟨fo, fs, fk, fw⟩, rfl, hab, hx, c0, c1, c2, c3⟩ := (hp.below (hb.mono hB)).field hlt
      have hcm := count_more l k i _ hx
      have hcl : countM (l.take i) k ≤ i := Nat.le_trans (List.length_filter_le _ _) (List.length_take_le _ _)
      have HB := hide hb
      simp only at c0 c1 c2 c3 hcm
      clear hb hp hx
      by_cases hk : fk = k
      · subst hk
        rw [if_pos rfl] at hcm
        have HC := hide hcm
        clear hcm
        generalize countM (l.take i) fk = cn at *
        go_wp2
        go_roundw
        case rel => exact ⟨i + 1, by omega, by go_num, by rw [HC.out]; go_num, HB.out.trans ((below1 _ _).mono HB.out.size)⟩
        case measure => simp [intOf]; omega
      · have hk2 : (fk == k) = false := by simpa using hk
        rw [if_neg hk, Nat.add_zero] at hcm
        have HC := hide hcm
        clear hcm hk
        generalize countM (l.take i) k = cn at *
        go_wp2
        go_roundw
        case rel => exact ⟨i + 1, by omega, by go_num, by rw [HC.out]; rfl, HB.out.trans ((below1 _ _).mono HB.out.size)⟩
        case measure => simp [intOf]; omega
    · have HB := hide hb
      have hfull : l.take i = l := List.take_of_length_le (by rw [hll.out]; omega)
      rw [hfull]
      clear hb hp hfull
      go_wp2
      go_ret
      exact ⟨rfl, HB.out⟩
def fieldsM (ctx : Int) (l : List FieldM) : Bool := riseM (fieldErr ctx) fieldAbv 22 l == 0 && (countM l 2 == countM l 3) && decide (countM l 2 ≤ 1)
end Go.Proofs.Ytedjmgiblkjonaa
