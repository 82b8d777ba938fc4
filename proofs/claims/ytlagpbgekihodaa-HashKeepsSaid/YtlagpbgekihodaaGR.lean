/-
  Are a make, and deeds, more than is gone through in time?
-/
import Derived.Test.YtlagpbgekihodaaOPS
import Derived.Test.YtlagpbgekihodaaHR18
import Derived.Deep.QuietTactic
import Derived.BigQuiet
namespace Go.Proofs.Ytlagpbgekihodaa
open Go.RowKit
set_option linter.unusedVariables false

/-- Of the first j deeds none has many bytes. -/
def Small (ds : List ADo) (j nn : Nat) : Prop := ∀ (i : Nat) (d : ADo), i < j → ds[i]? = some d → (d.k.n + d.v.n) / 40 ≤ nn
theorem Small.next {ds : List ADo} {j nn : Nat} {d : ADo} (h : Small ds j nn) (hd : ds[j]? = some d) : Small ds (j + 1) (nn + (d.k.n + d.v.n) / 40) := fun i e hi he => by
  by_cases hij : i = j
  · subst hij
    rw [hd] at he
    injection he with he
    subst he
    omega
  · have := h i e (by omega) he
    omega
/-- What 'great' tells. -/
def GreatTold (ds : List ADo) (w : World) (e : Ending) (w' : World) : Prop := ∃ g : Bool, e = .returned (.bool g) ∧ Below w.heap.size w w' ∧ (g = false → ∀ d ∈ ds, d.k.n ≤ 20000 ∧ d.v.n ≤ 20000)
set_option maxRecDepth 100000 in
set_option maxHeartbeats 2000000 in
theorem great_any (k key val ent : Int) (A : Option Addr) (m c B : Nat) (ds : List ADo) (w : World) (h : ADos w B A m ds) (hB : B ≤ w.heap.size) (hm : m ≤ 140737488351232) :
    Calls Try.prog 13 #[.agg #[.int .u8 k, .int .i64 key, .int .i64 val, .int .i64 ent], .slice A m c] w (GreatTold ds w) := by
  have HH := hide h
  have hx := World.alloc_heap_new w (.cells #[.int .u8 k, .int .i64 key, .int .i64 val, .int .i64 ent] 50)
  have hb0 := below1 w (.cells #[.int .u8 k, .int .i64 key, .int .i64 val, .int .i64 ent] 50)
  have HX := hide hx
  have HB0 := hide hb0
  have hlx := at_lt hx
  clear h hx hb0
  go_enter Try.func13, Try.ntmps13
  go_wp2_with fail
  generalize w.alloc (.cells #[.int .u8 k, .int .i64 key, .int .i64 val, .int .i64 ent] 50) = W1 at *
  go_loopw [5, 6] (fun a b wr => ∃ j nn : Nat, j ≤ m ∧ m ≤ nn ∧ nn ≤ 562949953421312 ∧ a = .int .i64 nn ∧ b = .int .i64 j ∧ Below W1.heap.size W1 wr ∧ Small ds j nn) (fun _ b _ => m - (intOf b).toNat)
  case atStart => exact ⟨0, m, Nat.zero_le _, Nat.le_refl _, by omega, rfl, rfl, Below.refl _ _, fun i d hi => by omega⟩
  case round =>
    obtain ⟨j, nn, hj, hmn, hnn, rfl, rfl, hbr, hs⟩ := hrel
    have HS := hide hs
    have HBR := hide hbr
    have hxr := (hbr.block _ hlx).trans HX.out
    have x2 := (blk_cell hxr 2).trans rfl
    have x3 := (blk_cell hxr 3).trans rfl
    simp at x2 x3
    clear hs hbr hxr
    by_cases hgo : j < m ∧ nn ≤ 300
    · obtain ⟨hjm, hn4⟩ := hgo
      have HHr := (HH.out.below ((HB0.out.trans (HBR.out.mono HB0.out.size)).mono hB))
      obtain ⟨ad, d, rfl, hd, _, hc⟩ := HHr.cell hjm
      have c1 := hc 1 _ rfl
      have c2 := hc 2 _ rfl
      rw [add_parts ad _ 1 (by decide)] at c1
      rw [add_parts ad _ 2 (by decide)] at c2
      have hle1 := (HHr.inner d (List.mem_of_getElem? hd)).k.le
      have hcp1 := (HHr.inner d (List.mem_of_getElem? hd)).k.cap
      have hle2 := (HHr.inner d (List.mem_of_getElem? hd)).v.le
      have hcp2 := (HHr.inner d (List.mem_of_getElem? hd)).v.cap
      have HD := hide hd
      have q1 : decide ((j : Int) < (m : Int)) = true := decide_eq_true (by omega)
      have q2 : decide ((nn : Int) ≤ 300) = true := decide_eq_true (by omega)
      have q3 : IntKind.i64.wrap ((d.k.n : Int) + (d.v.n : Int)) = (d.k.n : Int) + (d.v.n : Int) := IntWalk.i64_in _ (by omega)
      have q4 : ((d.k.n : Int) + (d.v.n : Int)).tdiv 40 = (((d.k.n + d.v.n) / 40 : Nat) : Int) := by
        rw [Int.tdiv_eq_ediv_of_nonneg (by omega)]; omega
      have q5 : IntKind.i64.wrap ((nn : Int) + (((d.k.n + d.v.n) / 40 : Nat) : Int)) = ((nn + (d.k.n + d.v.n) / 40 : Nat) : Int) := by rw [IntWalk.i64_in _ (by omega)]; omega
      replace c1 := Later.cell c1
      replace c2 := Later.cell c2
      have j0 : (0 : Int) ≤ (j : Int) := by omega
      have j1 : (j : Int) < (m : Int) := by omega
      clear hd hc HHr x2 x3
      have hqb : (d.k.n + d.v.n) / 40 ≤ 7036874417767 := by omega
      generalize hq : (d.k.n + d.v.n) / 40 = qq at q4 q5 hqb
      have qq0 : (0 : Int) ≤ (qq : Int) := by omega
      have qq1 : (qq : Int) ≤ 7036874417767 := by omega
      have HQ := hide hq
      clear hq
      go_wp2_with fail
      refine wp_region_later (by kernel_rfl) (by kernel_rfl) ?_
      repeat (first | go_big_quiet_step (fail) | (refine wpQuiet_step (fun K hK => ?_); go_simp; refine hK _ ?_; clear hK K))
      refine wpQuiet_nil ?_
      rintro _ ⟨y, rfl⟩
      have HBY := hide (HBR.out.trans (y.below.mono HBR.out.size))
      clear c1 c2 q3 q4 q5 q1 q2
      generalize y.w = wy at *
      go_wp2
      go_roundw
      case rel => exact ⟨j + 1, nn + qq, by omega, by omega, by omega, by go_num, by go_num, HBY.out, by rw [← HQ.out]; exact HS.out.next HD.out⟩
      case measure => simp [intOf]; omega
    · have hsmall : nn ≤ 300 → ∀ d ∈ ds, d.k.n ≤ 20000 ∧ d.v.n ≤ 20000 := fun hn d hd => by
        obtain ⟨i, hi⟩ := List.mem_iff_getElem?.1 hd
        have h1 := (List.getElem?_eq_some_iff.1 hi).1
        have hl := HH.out.len
        have := HS.out i d (by omega) hi
        omega
      have HSm := hide hsmall
      have HBf := hide (HB0.out.trans (HBR.out.mono HB0.out.size))
      clear hsmall
      by_cases hbig : 300 < nn
      · have q2 : decide ((nn : Int) ≤ 300) = false := decide_eq_false (by omega)
        have q3 : decide ((300 : Int) < (nn : Int)) = true := decide_eq_true (by omega)
        by_cases hjm : j < m
        · have q1 : decide ((j : Int) < (m : Int)) = true := decide_eq_true (by omega)
          clear hgo
          go_wp2
          go_ret
          exact ⟨true, rfl, HBf.out, nofun⟩
        · have q1 : decide ((j : Int) < (m : Int)) = false := decide_eq_false (by omega)
          clear hgo
          go_wp2
          go_ret
          exact ⟨true, rfl, HBf.out, nofun⟩
      · have q1 : decide ((j : Int) < (m : Int)) = false := decide_eq_false (by omega)
        have q1' : decide (j < m) = false := decide_eq_false (by omega)
        have q3 : decide ((300 : Int) < (nn : Int)) = false := decide_eq_false (by omega)
        have hsm := hide (HSm.out (by omega))
        clear hgo
        go_wp2
        all_goals
          go_ret
          exact ⟨_, rfl, HBf.out, fun _ => hsm.out⟩
end Go.Proofs.Ytlagpbgekihodaa
