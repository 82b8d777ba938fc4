/-
  Where a handle stands: rows of six cells, searched by halves.
-/
import Derived.Test.YtgancfllpmgciaaGreatM0
import Derived.Deep.LoopGhost
namespace Go.Proofs.YtgancfllpmgciaaGreat
open Go.RowKit
set_option linter.unusedVariables false

theorem stoInfo : (Tryz.prog.info? 37).isSome = true := by kernel_rfl
theorem eql_same (a : Addr) (w : World) : (binOp .eql 32 (.pointer (some a)) (.pointer (some a))).run Tryz.prog w = .ok (.bool true) w := by
  obtain ⟨j, hj⟩ := Option.isSome_iff_exists.1 stoInfo
  exact run_eql_ptr_same w a Tryz.underlying32 hj
theorem eql_none (a : Addr) (w : World) : (binOp .eql 32 (.pointer none) (.pointer (some a))).run Tryz.prog w = .ok (.bool false) w := by
  have h : ∀ d : Nat, (Op.equalIn (d + 1) 32 (.pointer none) (.pointer (some a))).run Tryz.prog w = .ok false w := fun d => by
    simp [Op.equalIn, run_underlying Tryz.underlying32]
  simp only [binOp]
  simp [Op.equal, Op.maxDepth, h 9999]
set_option maxRecDepth 100000 in
theorem is_yes (b : Nat) (w : World) (h : w.cell? ⟨b, 0, none⟩ = some (.pointer (some ⟨b, 0, none⟩))) :
    Calls Tryz.prog 21 #[.pointer (some ⟨b, 0, none⟩)] w fun e w' => e = .returned (.bool true) ∧ w = w' := by
  have hq := eql_same ⟨b, 0, none⟩ w
  go_enter Tryz.func21, Tryz.ntmps21
  go_wp2
  go_ret
  exact ⟨rfl, rfl⟩
set_option maxRecDepth 100000 in
theorem many_any (b n c : Nat) (A : Option Addr) (w : World) (h : w.cell? ⟨b, 2, none⟩ = some (.slice A n c)) :
    Calls Tryz.prog 23 #[.pointer (some ⟨b, 1, none⟩)] w fun e w' => e = .returned (.int .i64 n) ∧ w = w' := by
  go_enter Tryz.func23, Tryz.ntmps23
  go_wp2
  go_ret
  exact ⟨rfl, rfl⟩
theorem isNaN_any (x : Int) (w : World) : Calls Tryz.prog 72 #[.int .i64 x] w fun e w' => e = .returned (.bool false) ∧ w = w' := by
  go_enter Tryz.func72, Tryz.ntmps72
  go_wp2
  go_ret
  exact ⟨by simp, rfl⟩
def cmpI (x y : Int) : Int := if x < y then -1 else if y < x then 1 else 0
theorem cmpI_neg {x y : Int} (h : cmpI x y < 0) : x < y := by
  unfold cmpI at h
  split at h
  · assumption
  · split at h <;> omega
theorem cmpI_nneg {x y : Int} (h : 0 ≤ cmpI x y) : y ≤ x := by
  unfold cmpI at h
  split at h
  · omega
  · omega
theorem cmpI_zero {x y : Int} (h : cmpI x y = 0) : x = y := by
  unfold cmpI at h
  split at h
  · omega
  · split at h <;> omega
set_option maxHeartbeats 1000000 in
theorem compareInt_any (x y : Int) (w : World) : Calls Tryz.prog 64 #[.int .i64 x, .int .i64 y] w fun e w' => e = .returned (.int .i64 (cmpI x y)) ∧ w = w' := by
  go_enter Tryz.func64, Tryz.ntmps64
  go_wp2_with (go_at_call 72; refine (isNaN_any _ _).mono ?_; rintro e w' ⟨rfl, rfl⟩)
  all_goals (go_ret; refine ⟨?_, rfl⟩; unfold cmpI; (repeat' split) <;> first | rfl | (exfalso; omega))
theorem rowOf_any (r : SE) (x : Int) (w : World) : Calls Tryz.prog 63 #[r.agg, .int .i64 x] w fun e w' => e = .returned (.int .i64 (cmpI r.h x)) ∧ Below w.heap.size w w' := by
  have HB := hide (below1 w (.cells r.cells.toArray 120))
  obtain ⟨h, k, key, val, ent, t, v⟩ := r
  simp only [SE.agg, SE.cells] at *
  go_enter Tryz.func63, Tryz.ntmps63
  go_wp2_with (go_at_call 64; refine (compareInt_any _ _ _).mono ?_; rintro e w' ⟨rfl, rfl⟩)
  go_ret
  exact ⟨rfl, HB.out⟩
/-- How many rows stand ahead of a handle. -/
def ahead (L : List SE) (x : Int) : Nat := L.countP fun r => decide ((r.h : Int) < x)
/-- The boundary of what stands ahead. -/
theorem ahead_of {L : List SE} {x : Int} {i : Nat} (hi : i ≤ L.length) (h1 : ∀ t r, t < i → L[t]? = some r → (r.h : Int) < x) (h2 : ∀ t r, i ≤ t → L[t]? = some r → x ≤ (r.h : Int)) : ahead L x = i := by
  induction L generalizing i with
  | nil => simp at hi; subst hi; rfl
  | cons r L ih =>
    cases i with
    | zero =>
      have := h2 0 r (Nat.le_refl _) rfl
      have h0 := ih (i := 0) (Nat.zero_le _) (fun t r ht => absurd ht (Nat.not_lt_zero _)) (fun t s _ hs => h2 (t + 1) s (Nat.zero_le _) (by simpa using hs))
      unfold ahead at h0 ⊢
      rw [List.countP_cons_of_neg (by simp; omega)]
      exact h0
    | succ i =>
      have := h1 0 r (Nat.succ_pos _) rfl
      have h0 := ih (i := i) (by simpa using hi) (fun t s ht hs => h1 (t + 1) s (by omega) (by simpa using hs)) (fun t s ht hs => h2 (t + 1) s (by omega) (by simpa using hs))
      unfold ahead at h0 ⊢
      rw [List.countP_cons_of_pos (by simp; omega), h0]
/-- The row of a handle, if there is one. -/
def hereE (L : List SE) (x : Int) : Option SE := L.find? fun r => decide ((r.h : Int) = x)
def isAt (L : List SE) (x : Int) : Bool := match L[ahead L x]? with | some r => decide ((r.h : Int) = x) | none => false
theorem up_le {L : List SE} {i j : Nat} {r s : SE} (h : L.Pairwise (fun r s => r.h < s.h)) (hij : i ≤ j) (hr : L[i]? = some r) (hs : L[j]? = some s) : r.h ≤ s.h := by
  have hi := (List.getElem?_eq_some_iff.1 hr)
  have hj := (List.getElem?_eq_some_iff.1 hs)
  rcases Nat.lt_or_eq_of_le hij with hlt | rfl
  · have := List.pairwise_iff_getElem.1 h i j hi.1 hj.1 hlt
    rw [hi.2, hj.2] at this
    omega
  · rw [hr] at hs
    injection hs with hs
    subst hs
    exact Nat.le_refl _
set_option maxRecDepth 100000 in
set_option maxHeartbeats 2000000 in
theorem search_any (A : Option Addr) (c : Nat) (L : List SE) (x : Int) (w : World) (h : Rd w w.heap.size 6 A L.length (rowCells L)) (hA : ∀ ad, A = some ad → ad.off = 0 ∧ ad = ⟨ad.block, 0, none⟩) (hn : L.length ≤ 1000000) (hs : L.Pairwise (fun r s => r.h < s.h)) :
    Calls Tryz.prog 62 #[.slice A L.length c, .int .i64 x, .func (.func 63) #[] #[]] w fun e w' => e = .returned (.tuple #[.int .i64 (ahead L x : Nat), .bool (isAt L x)]) ∧ Below w.heap.size w w' := by
  have hE : ∀ args (W : World), (callFunc 63 args).run Tryz.prog W = .ok (.enter 63 args) W := enters_of Tryz.func63 (by kernel_rfl) rfl
  have HR := hide h
  have HS := hide hs
  have HC : Hid (∀ (W : World) (i : Nat), Below w.heap.size w W → i < L.length → ∃ r g, L[i]? = some r ∧ A = some ⟨g, 0, none⟩ ∧ W.cell? ⟨g, i * 6, none⟩ = some (.int .i64 r.h) ∧ W.cell? ⟨g, i * 6 + 1, none⟩ = some (.int .u8 r.k) ∧ W.cell? ⟨g, i * 6 + 2, none⟩ = some (.int .i64 r.key) ∧ W.cell? ⟨g, i * 6 + 3, none⟩ = some (.int .i64 r.val) ∧ W.cell? ⟨g, i * 6 + 4, none⟩ = some (.int .i64 r.ent) ∧ W.cell? ⟨g, i * 6 + 5, none⟩ = some (.iface r.t r.v)) := hide (fun W i hb hi => by
    have h2 := h.below hb
    obtain ⟨ad, e, _, hc⟩ := h2.2 (by omega)
    obtain ⟨_, e2⟩ := hA ad e
    rw [e2] at hc e
    have hr : L[i]? = some L[i] := List.getElem?_eq_getElem hi
    have hcc : ∀ j u, j < 6 → (L[i]).cells[j]? = some u → W.cell? ⟨ad.block, i * 6 + j, none⟩ = some u := fun j u hj hu => by
      have := hc (i * 6 + j) u (by rw [rowCells_at L i j hj, hr]; exact hu)
      rw [own_add, Nat.zero_add] at this
      exact this
    exact ⟨L[i], ad.block, hr, e, hcc 0 _ (by decide) rfl, hcc 1 _ (by decide) rfl, hcc 2 _ (by decide) rfl, hcc 3 _ (by decide) rfl, hcc 4 _ (by decide) rfl, hcc 5 _ (by decide) rfl⟩)
  have HN := hide hn
  clear h hs hA hn
  go_enter Tryz.func62, Tryz.ntmps62
  go_wp2
  go_loopg [9, 10] L.length (fun kx s9 s10 wr => ∃ lo hi : Nat, s9 = .int .i64 lo ∧ s10 = .int .i64 hi ∧ lo ≤ hi ∧ hi ≤ L.length ∧ hi - lo ≤ kx ∧ Below w.heap.size w wr ∧
    Hid ((∀ t r, t < lo → L[t]? = some r → (r.h : Int) < x) ∧ (∀ t r, hi ≤ t → L[t]? = some r → x ≤ (r.h : Int))))
  case atStart => exact ⟨0, L.length, rfl, rfl, Nat.zero_le _, Nat.le_refl _, by omega, Below.refl _ _, ⟨fun t r ht => absurd ht (Nat.not_lt_zero _), fun t r ht hr => by have := (List.getElem?_eq_some_iff.1 hr).1; omega⟩⟩
  case round =>
    obtain ⟨lo, hi, rfl, rfl, hlh, hin, hg, hb, hI⟩ := hrel
    have HB := hide hb
    have hn2 := HN.out
    by_cases hlt : lo < hi
    · obtain ⟨r, g, hr, rfl, k0, k1, k2, k3, k4, k5⟩ := HC.out wr ((lo + hi) / 2) hb (by omega)
      have hc := rowOf_any r x wr
      unfold SE.agg at hc
      have HRR := hide hr
      have HI := hide hI
      clear hr hb hI
      by_cases hyx : cmpI r.h x < 0
      · go_wp2_with (go_at_fn 63; refine hc.mono ?_; rintro e w' ⟨rfl, hb'⟩)
        go_roundg (hi - ((lo + hi) / 2 + 1))
        case measure => omega
        case rel =>
          have hrx : (r.h : Int) < x := cmpI_neg hyx
          refine ⟨(lo + hi) / 2 + 1, hi, by rw [show ((lo : Int) + (hi : Int)) / 2 + 1 = (((lo + hi) / 2 + 1 : Nat) : Int) by omega], rfl, by omega, hin, Nat.le_refl _, HB.out.trans (hb'.mono HB.out.size), ⟨fun t s ht hs => ?_, HI.out.2⟩⟩
          exact Int.lt_of_le_of_lt (by have := up_le HS.out (by omega) hs HRR.out; omega) hrx
      · go_wp2_with (go_at_fn 63; refine hc.mono ?_; rintro e w' ⟨rfl, hb'⟩)
        go_roundg ((lo + hi) / 2 - lo)
        case measure => omega
        case rel =>
          have hrx : x ≤ (r.h : Int) := cmpI_nneg hyx
          refine ⟨lo, (lo + hi) / 2, rfl, by rw [show ((lo : Int) + (hi : Int)) / 2 = (((lo + hi) / 2 : Nat) : Int) by omega], by omega, by omega, Nat.le_refl _, HB.out.trans (hb'.mono HB.out.size), ⟨HI.out.1, fun t s ht hs => ?_⟩⟩
          exact Int.le_trans hrx (by have := up_le HS.out ht HRR.out hs; omega)
    · obtain rfl : hi = lo := by omega
      have hah := ahead_of hin hI.1 hI.2
      have HA := hide hah
      clear hI hah
      by_cases hn : hi < L.length
      · obtain ⟨r, g, hr, rfl, k0, k1, k2, k3, k4, k5⟩ := HC.out wr hi hb hn
        have hc := rowOf_any r x wr
        unfold SE.agg at hc
        have HIS : Hid (isAt L x = decide ((r.h : Int) = x)) := by unfold isAt; rw [HA.out, hr]; exact rfl
        clear hr hb
        by_cases hyx : cmpI r.h x = 0
        · have hrx := hide (cmpI_zero hyx)
          rw [hyx] at hc
          clear hyx
          go_wp2_with (go_at_fn 63; refine hc.mono ?_; rintro e w' ⟨rfl, hb'⟩)
          go_ret2
          exact ⟨by rw [HA.out, HIS.out, decide_eq_true hrx.out]; simp, HB.out.trans (hb'.mono HB.out.size)⟩
        · have hrx : ¬ (r.h : Int) = x := by intro e; apply hyx; unfold cmpI; rw [if_neg (by omega), if_neg (by omega)]
          go_wp2_with (go_at_fn 63; refine hc.mono ?_; rintro e w' ⟨rfl, hb'⟩)
          go_ret2
          exact ⟨by rw [HA.out, HIS.out, decide_eq_false hrx]; simp [hyx], HB.out.trans (hb'.mono HB.out.size)⟩
      · have HIS : Hid (isAt L x = false) := by unfold isAt; rw [HA.out, List.getElem?_eq_none (by omega)]; exact rfl
        clear hb
        go_wp2
        go_ret2
        exact ⟨by rw [HA.out, HIS.out]; simp, HB.out⟩
end Go.Proofs.YtgancfllpmgciaaGreat
