/-
  Bytes that are lent with marks behind them; they are found as they were; they are written over.
-/
import Derived.Test.YtkpoilcbdcddcaaR6
import Derived.StillTailTactics
namespace Go.Proofs.Ytkpoilcbdcddcaa
open Go.RowKit
set_option linter.unusedVariables false
set_option linter.unusedSimpArgs false

theorem owns_set {w : World} {e : TypeId} {sz g n cap j : Nat} {xs : List Value} (h : w.ownsRow 0 e sz (.slice (some ⟨g, 0, none⟩) n cap) n xs) (hj : j < n * sz) (u : Value) :
    (w.setCell ⟨g, j, none⟩ u).ownsRow 0 e sz (.slice (some ⟨g, 0, none⟩) n cap) n (xs.set j u) := by
  refine ⟨by rw [List.length_set]; exact h.1, ?_⟩
  rcases h.2 with ⟨h0, _⟩ | ⟨g', cap', cur, hv, hb, hg, hnc, hcm, hcs, htake⟩
  · cases h0
  · cases hv
    refine .inr ⟨g, cap, cur.setIfInBounds j u, rfl, hb, ?_, hnc, hcm, by simpa using hcs, ?_⟩
    · simp [World.setCell, Array.getElem?_modify, hg]
    · rw [Array.toList_setIfInBounds, List.take_set, htake]
theorem owns_free {w : World} {e : TypeId} {sz g n cap : Nat} {xs : List Value} (h : w.ownsRow 0 e sz (.slice (some ⟨g, 0, none⟩) n cap) n xs) (j : Nat) : w.frozen? ⟨g, j, none⟩ = false := by
  rcases h.2 with ⟨h0, _⟩ | ⟨g', cap', cur, hv, hb, hg, _⟩
  · cases h0
  · cases hv
    simp [World.frozen?, hg]
theorem owns_at {w : World} {e : TypeId} {sz g n cap j : Nat} {xs : List Value} (h : w.ownsRow 0 e sz (.slice (some ⟨g, 0, none⟩) n cap) n xs) (hj : j < n * sz) : ∃ u, xs[j]? = some u ∧ w.cell? ⟨g, j, none⟩ = some u := by
  have hl : j < xs.length := by rw [h.1]; exact hj
  have hc := h.cells (g := g) rfl j _ (List.getElem?_eq_getElem hl)
  have e : (⟨g, 0, none⟩ : Addr).add j = ⟨g, j, none⟩ := by unfold Addr.add; split <;> simp_all
  rw [e] at hc
  exact ⟨_, List.getElem?_eq_getElem hl, hc⟩
def marks (mk : Nat → List Value) (j : Nat) : List Value := (List.range j).flatMap mk
theorem marks_snoc (mk : Nat → List Value) (j : Nat) : marks mk (j + 1) = marks mk j ++ mk j := by
  unfold marks
  rw [List.range_succ, List.flatMap_append]
  simp
theorem marks_length (mk : Nat → List Value) (sz : Nat) (h : ∀ t, (mk t).length = sz) (j : Nat) : (marks mk j).length = j * sz := by
  induction j with
  | zero => simp [marks]
  | succ j ih => rw [marks_snoc, List.length_append, ih, h, Nat.succ_mul]
theorem marks_at (mk : Nat → List Value) (sz : Nat) (h : ∀ t, (mk t).length = sz) : ∀ (j i t : Nat), i < j → t < sz → (marks mk j)[i * sz + t]? = (mk i)[t]? := by
  intro j
  induction j with
  | zero => intro i t hi; omega
  | succ j ih =>
    intro i t hi ht
    have hl := marks_length mk sz h j
    rw [marks_snoc]
    rcases Nat.lt_or_ge i j with hlt | hge
    · have : i * sz + t < j * sz := by
        have := Nat.mul_le_mul_right sz (show i + 1 ≤ j from hlt)
        rw [Nat.succ_mul] at this
        omega
      rw [List.getElem?_append_left (by rw [hl]; exact this)]
      exact ih i t hlt ht
    · have hij : i = j := by omega
      subst hij
      rw [List.getElem?_append_right (by rw [hl]; omega), hl, Nat.add_sub_cancel_left]
theorem made_row (c : Nat) (hc : c ≤ 4194304) : ∃ C : Array Value, C.size = c ∧ ∀ w : World, (Instr.makeSlice 37 (.int .i64 0) (.int .i64 (c : Int))).run Try.prog w = .ok (.slice (some ⟨w.heap.size, 0, none⟩) 0 c) (w.alloc (.cells C 5)) ∧
    Row (w.alloc (.cells C 5)) w.heap.size c 5 1 0 [] := by
  obtain ⟨i0, hi, hz0, hz1, hz2⟩ := info_parts u8info
  refine ⟨madeCells (Value.int .u8 0).cells (c * i0.size), by rw [size_madeCells, hz1]; omega, fun w => ⟨?_, ?_⟩⟩
  · have := run_make (P := Try.prog) w 37 5 i0 _ Try.underlying37 hi hz0 .i64 .i64 0 (c : Int) (Int.le_refl _) (by omega) (by rw [hz2]; omega) (by omega)
    simpa using this
  · exact World.ownsRow_made w _ c (Nat.zero_le _) (by simp only [maxLen]; omega) (by rw [size_madeCells, hz1])
def markN (k i : Nat) : Int := 1000003 * ((k : Int) + 7) + i
theorem mark_any (k i : Nat) (hk : k ≤ 1000) (hi : i ≤ 1000000000) (w : World) : Calls Try.prog 44 #[.int .i64 k, .int .i64 i] w fun e w' => e = .returned (.int .i64 (markN k i)) ∧ w = w' := by
  go_enter Try.func44, Try.ntmps44
  go_wp2
  go_ret
  exact ⟨by simp [markN], rfl⟩
def markB (k i : Nat) : Int := (markN k i * 11400714819323198485) % 18446744073709551616 / 72057594037927936
set_option maxRecDepth 100000 in
theorem markByte_any (k i : Nat) (hk : k ≤ 1000) (hi : i ≤ 1000000000) (w : World) : Calls Try.prog 36 #[.int .i64 k, .int .i64 i] w fun e w' => e = .returned (.int .u8 (markB k i)) ∧ w = w' := by
  go_enter Try.func36, Try.ntmps36
  go_wp2_with (go_at_call 44; refine (mark_any _ _ hk hi _).mono ?_; rintro e w' ⟨rfl, rfl⟩)
  go_ret
  refine ⟨congrArg (fun n => Ending.returned (.int .u8 n)) ?_, rfl⟩
  have h1 : ∀ n, IntKind.u64.wrap n = n % 18446744073709551616 := fun n => by simp [IntKind.wrap, IntKind.bits, IntKind.signed]
  have h2 : markN k i % 18446744073709551616 = markN k i := by unfold markN; omega
  rw [h1, h1, h2]
  unfold markB
  generalize markN k i * 11400714819323198485 = x
  omega
def mkB (k t : Nat) : List Value := [.int .u8 (markB k t)]
theorem new_mark (w : World) (k t : Nat) : ∀ j u, (mkB k t)[j]? = some u → (w.alloc (.cells (mkB k t).toArray 5)).cell? ((⟨w.heap.size, 0, none⟩ : Addr).add j) = some u := by
  obtain ⟨ad, e, _, h⟩ := (cells_rd w (mkB k t) 5 1 1 rfl).2 (by decide)
  cases e
  exact h
theorem one_mark (k t : Nat) : ∀ u ∈ mkB k t, u.oneCell' = true := by
  intro u hu
  simp only [mkB, List.mem_singleton] at hu
  subst hu
  rfl
theorem marks_byte {k N j : Nat} (hj : j < N) : (marks (mkB k) N)[j]? = some (.int .u8 (markB k j)) := by
  have := marks_at (mkB k) 1 (fun _ => rfl) N j 0 hj (by decide)
  rw [Nat.mul_one, Nat.add_zero] at this
  rw [this]
  rfl
theorem later_mark (k j : Nat) (hk : k ≤ 1000) (hj : j ≤ 1000000000) (w : World) : Calls Try.prog 36 #[.int .i64 k, .int .i64 j] w fun e w' => e = .returned (.int .u8 (markB k j)) ∧ Below w.heap.size w w' :=
  (markByte_any k j hk hj w).mono fun e w' h => ⟨h.1, by rw [h.2]; exact Below.refl _ _⟩
theorem cut_head (S : Option Addr) (q sc h : Nat) (hh : h ≤ sc) (W : World) : (Instr.slice 37 (.slice S q sc) none (some (.int .i64 (h : Int))) none).run Try.prog W = .ok (.slice S h sc) W := by
  obtain ⟨i, hi, hsi⟩ : ∃ i, Try.prog.info? 5 = some i ∧ i.size = 1 := by
    have := u8size
    cases hq : Try.prog.info? 5 with
    | none => rw [hq] at this; cases this
    | some i => rw [hq] at this; exact ⟨i, rfl, by simpa using this⟩
  have hht : Try.prog.underlying 37 = some (.slice (Try.prog.elem 37)) := by simp [Program.elem, Try.underlying37]
  rw [run_slice_h (P := Try.prog) W 37 S q sc hht .i64 h (by omega) (by omega)]
  have : Try.prog.elem 37 = 5 := by simp [Program.elem, Try.underlying37]
  rw [this]
  simp only [sizeOf, typeInfo]
  have ha : S.map (·.add 0) = S := by cases S <;> rfl
  simp [hi, hsi, Result.andThen, sliced, ha]


set_option maxRecDepth 100000 in
set_option maxHeartbeats 1000000 in
theorem lentBytes_any (A : Option Addr) (n c B : Nat) (l : List Int) (w : World) (h : Rd w B 1 A n (u8s l)) (hA : A = none → n = 0) (hB : B ≤ w.heap.size) (hn : n ≤ 1000000) :
    Calls Try.prog 18 #[.slice A n c] w fun e w' => e = .returned (.slice (some ⟨w.heap.size, 0, none⟩) n (n + 12)) ∧ Row w' w.heap.size (n + 12) 5 1 (n + 12) (u8s l ++ marks (mkB 1) 12) ∧ Below w.heap.size w w' := by
  obtain ⟨C, hCs, hmk⟩ := made_row (n + 12) (by omega)
  have hmk1 : ∀ w : World, (Instr.makeSlice 37 (.int .i64 0) (.int .i64 ((n : Int) + 12))).run Try.prog w = .ok (.slice (some ⟨w.heap.size, 0, none⟩) 0 (n + 12)) (w.alloc (.cells C 5)) := fun w => by
    have := (hmk w).1
    rwa [show ((n + 12 : Nat) : Int) = (n : Int) + 12 by omega] at this
  have HM := hide (hmk w).2
  have HA := hide hA
  clear hmk hA
  obtain ⟨i0, hi, hz0, hz1, hz2⟩ := info_parts u8info
  have hr0 : Rd (w.alloc (.cells C 5)) B 1 A n (u8s l) := h.below ((Below.refl _ w).alloc hB _)
  go_enter Try.func18, Try.ntmps18
  go_wp2_with (at_builtin; refine stop_here ?_)
  show Hid _
  refine start_here ?_
  refine wpList_append_rd_fits _ ?c0 (.tmp 9) (.tmp 10) _ rfl 5 i0 1 Try.underlying37 hi hz1 w.heap.size 0 (n + 12) [] rfl HM.out B A n c (u8s l) rfl hr0 HA.out (u8s_one l) (by omega) ?_
  case c0 => rfl
  intro w1 hr1 hg1
  have HB1 := hide (((Below.refl w.heap.size w).alloc (Nat.le_refl _) (.cells C 5)).grown hg1 (by simp) (fun k e => by cases e; exact Nat.le_refl _))
  have HR1 : Hid (Row w1 w.heap.size (n + 12) 5 1 (n + 0) (u8s l ++ marks (mkB 1) 0)) := by
    have e : u8s l ++ marks (mkB 1) 0 = u8s l := by simp [marks]
    rw [e]
    rw [Nat.zero_add] at hr1
    exact hr1
  clear hr1 hg1 HM hmk1 hr0
  go_wp2_with fail
  go_loopw [3, 4] (fun v p wr => ∃ k : Nat, k ≤ 12 ∧ p = .int .i64 k ∧ v = .slice (some ⟨w.heap.size, 0, none⟩) (n + k) (n + 12) ∧ Row wr w.heap.size (n + 12) 5 1 (n + k) (u8s l ++ marks (mkB 1) k) ∧ Below w.heap.size w wr) (fun _ p _ => 12 - (intOf p).toNat)
  case atStart => exact ⟨0, by omega, rfl, by simp, HR1.out, HB1.out⟩
  case round =>
    obtain ⟨k, hk, rfl, rfl, hr, hb⟩ := hrel
    have HR := hide hr
    have HB := hide hb
    clear hr hb HR1 HB1
    by_cases hlt : k < 12
    · go_wp2_with (first
        | (go_at_call 36; refine (markByte_any 1 k (by omega) (by omega) _).mono ?_; rintro e w2 ⟨rfl, rfl⟩)
        | (at_builtin; refine stop_here ?_))
      show Hid _
      refine start_here ?_
      refine wpList_append_rd_fits _ ?c0 (.tmp 16) (.tmp 19) _ rfl 5 i0 1 Try.underlying37 hi hz1 w.heap.size (n + k) (n + 12) _ rfl (World.ownsRow.alloc HR.out _) _ (some ⟨wr.heap.size, 0, none⟩) 1 1 (mkB 1 k) rfl (cells_rd wr (mkB 1 k) 5 1 1 rfl) (fun h => nomatch h) (one_mark 1 k) (by omega) ?_
      case c0 => rfl
      intro w2 hr2 hg2
      have HR2 : Hid (Row w2 w.heap.size (n + 12) 5 1 (n + (k + 1)) (u8s l ++ marks (mkB 1) (k + 1))) := by
        rw [marks_snoc, ← List.append_assoc]
        exact hr2
      have HB2 := hide ((HB.out.alloc HB.out.size (.cells #[.int .u8 (markB 1 k)] 5)).grown hg2 (by simp; have := HB.out.size; omega) (fun j e => by cases e; exact Nat.le_refl _))
      clear hr2 hg2 HR HB
      go_wp2
      go_roundw
      case rel => exact ⟨k + 1, by omega, by go_num, by simp [Nat.add_assoc], HR2.out, HB2.out⟩
      case measure => simp [intOf]; omega
    · have hk12 : k = 12 := by omega
      subst hk12
      go_wp2
      go_ret
      exact ⟨rfl, HR.out, HB.out⟩



theorem byte_at_rd {w : World} {B n k : Nat} {A : Option Addr} {l : List Int} (h : Rd w B 1 A n (u8s l)) (hk : k < n) : ∃ ad b, A = some ad ∧ l[k]? = some b ∧ w.cell? (ad.add k) = some (.int .u8 b) := by
  obtain ⟨ad, e, _, hc⟩ := h.2 (by omega)
  have hl : l.length = n := by have := h.1; simpa [u8s] using this
  obtain ⟨b, hb⟩ : ∃ b, l[k]? = some b := ⟨_, List.getElem?_eq_getElem (by omega)⟩
  exact ⟨ad, b, e, hb, hc k _ (by simp [u8s, hb])⟩
set_option maxRecDepth 100000 in
set_option maxHeartbeats 2000000 in
theorem keptBytes_any (g : Nat) (A : Option Addr) (n c B : Nat) (l : List Int) (w : World) (h : Rd w B 1 A n (u8s l)) (hB : B ≤ w.heap.size) (hr : Row w g (n + 12) 5 1 (n + 12) (u8s l ++ marks (mkB 1) 12)) (hn : n ≤ 1000000) :
    Calls Try.prog 21 #[.slice (some ⟨g, 0, none⟩) n (n + 12), .slice A n c] w fun e w' => e = .returned (.bool true) ∧ Below w.heap.size w w' := by
  have hll : (u8s l).length = n := by have := h.1; omega
  have hgl : g < w.heap.size := (World.ownsRow.lt hr g rfl).2
  have HR := hide hr
  have HH := hide h
  clear hr h
  go_enter Try.func21, Try.ntmps21
  go_wp2
  go_loopw [6] (fun p wr => ∃ k : Nat, k ≤ n + 12 ∧ p = .int .i64 k ∧ Below w.heap.size w wr) (fun p _ => n + 12 - (intOf p).toNat)
  case atStart => exact ⟨0, Nat.zero_le _, rfl, Below.refl _ _⟩
  case round =>
    obtain ⟨k, hk, rfl, hb⟩ := hrel
    have HB := hide hb
    clear hb
    by_cases hlt : k < n
    · obtain ⟨ad, b, rfl, hl, c0⟩ := byte_at_rd (HH.out.below (HB.out.mono hB)) hlt
      obtain ⟨u, hu, d0⟩ := owns_at (row_below HR.out HB.out) (show k < (n + 12) * 1 by omega)
      have hu2 : u = .int .u8 b := by
        rw [List.getElem?_append_left (by omega)] at hu
        simp only [u8s, List.getElem?_map, hl, Option.map_some, Option.some.injEq] at hu
        exact hu.symm
      subst hu2
      have hk2 : k < n + 12 := by omega
      have hd : decide ((k : Int) < (n : Int)) = true := by simp; omega
      have hd2 : decide (n ≤ k) = false := by simp; omega
      clear hl hu
      replace c0 := Later.cell c0
      replace d0 := Later.cell d0
      go_wp2
      refine wp_region_later (by kernel_rfl) (by kernel_rfl) ?_
      repeat (go_big_quiet_step (fail))
      refine wpQuiet_nil ?_
      rintro _ ⟨x, rfl⟩
      have HX := hide (HB.out.trans (x.below.mono HB.out.size))
      go_wp2
      go_roundw
      case rel => exact ⟨k + 1, by omega, by go_num, HX.out⟩
      case measure => simp [intOf]; omega
    · by_cases hle : k < n + 12
      · obtain ⟨u, hu, d0⟩ := owns_at (row_below HR.out HB.out) (show k < (n + 12) * 1 by omega)
        have hu2 : u = .int .u8 (markB 1 (k - n)) := by
          rw [List.getElem?_append_right (by omega), hll, marks_byte (by omega)] at hu
          injection hu with hu
          exact hu.symm
        subst hu2
        have hd : decide ((k : Int) < (n : Int)) = false := by simp; omega
        have hd2 : decide (n ≤ k) = true := by simp; omega
        have HS : Hid ((k : Int) - (n : Int) = ((k - n : Nat) : Int)) := by show (k : Int) - (n : Int) = ((k - n : Nat) : Int); omega
        have HM := hide (fun w => later_mark 1 (k - n) (by omega) (by omega) w)
        replace d0 := Later.cell d0
        clear hu
        go_wp2
        refine wp_region_later (by kernel_rfl) (by kernel_rfl) ?_
        repeat (go_big_quiet_step ((rw [HS.out]; exact Later.calls _ HM.out)))
        refine wpQuiet_nil ?_
        rintro _ ⟨x, rfl⟩
        have HX := hide (HB.out.trans (x.below.mono HB.out.size))
        go_wp2
        go_roundw
        case rel => exact ⟨k + 1, by omega, by go_num, HX.out⟩
        case measure => simp [intOf]; omega
      · have hk12 : k = n + 12 := by omega
        subst hk12
        go_wp2
        go_ret
        exact ⟨rfl, HB.out⟩

set_option maxRecDepth 100000 in
set_option maxHeartbeats 1000000 in
theorem over_any (v : Value) (n : Nat) (xs : List Value) (w : World) (h : w.ownsRow 0 5 1 v n xs) (hn : n ≤ 1000000) :
    Calls Try.prog 17 #[v] w fun e w' => e = .returned (.tuple #[]) ∧ w.grownBy w' v.ownBlock := by
  rcases h.2 with ⟨rfl, rfl⟩ | ⟨g, cap, cur, rfl, h0, hg, hnc, hm, hcs, htk⟩
  · have hcut := cut_head none 0 0 0 (Nat.le_refl _) w
    clear h
    go_enter Try.func17, Try.ntmps17
    go_wp2
    go_loopw [3] (fun u wr => u = .int .i64 0 ∧ wr = w) (fun u _ => (intOf u).toNat)
    case atStart => exact ⟨rfl, rfl⟩
    case round =>
      obtain ⟨rfl, rfl⟩ := hrel
      go_wp2
      exact bodyPost_end (results_none rfl _ _ _) rfl ⟨rfl, ⟨rfl, rfl, rfl, Nat.le_refl _, fun _ _ _ => rfl⟩⟩
  · skip
    have hcb : cap ≤ 9223372036854775807 := by simpa only [maxLen] using hm
    have hrow : w.ownsRow 0 5 1 (.slice (some ⟨g, 0, none⟩) cap cap) cap cur.toList := ⟨by simp [hcs], .inr ⟨g, cap, cur, rfl, h0, hg, Nat.le_refl _, hm, hcs, by rw [List.take_of_length_le (by simp [hcs])]⟩⟩
    have HR := hide hrow
    clear h hrow hg htk
    go_enter Try.func17, Try.ntmps17
    go_wp2
    · simp only [show ((n : Int) + 12).toNat = n + 12 from by omega]
      go_loopw [3] (fun u wr => ∃ k : Nat, k ≤ n + 12 ∧ u = .int .i64 k ∧ (∃ ys, wr.ownsRow 0 5 1 (.slice (some ⟨g, 0, none⟩) cap cap) cap ys) ∧ w.grownBy wr (some g)) (fun u _ => n + 12 - (intOf u).toNat)
      case atStart => exact ⟨0, Nat.zero_le _, rfl, ⟨_, HR.out⟩, ⟨rfl, rfl, rfl, Nat.le_refl _, fun _ _ _ => rfl⟩⟩
      case round =>
        obtain ⟨k, hk, rfl, ⟨ys, hy⟩, hkk⟩ := hrel
        have HY := hide hy
        have HK := hide hkk
        clear hy hkk HR
        by_cases hlt : k < n + 12
        · obtain ⟨u, _, cu⟩ := owns_at HY.out (show k < cap * 1 by omega)
          have hf : wr.frozen? ⟨g, k, none⟩ = false := owns_free HY.out k
          go_wp2_with (go_at_call 36; refine (markByte_any 2 k (by omega) (by omega) _).mono ?_; rintro e w2 ⟨rfl, rfl⟩)
          go_roundw
          case rel => exact ⟨k + 1, by omega, by go_num, ⟨_, owns_set HY.out (by omega) _⟩, grown_row HK.out (grown_set _ _ _ _)⟩
          case measure => simp [intOf]; omega
        · have hk2 : k = n + 12 := by omega
          subst hk2
          go_wp2
          exact bodyPost_end (results_none rfl _ _ _) rfl ⟨rfl, HK.out⟩
    · skip
      go_loopw [3] (fun u wr => ∃ k : Nat, k ≤ cap ∧ u = .int .i64 k ∧ (∃ ys, wr.ownsRow 0 5 1 (.slice (some ⟨g, 0, none⟩) cap cap) cap ys) ∧ w.grownBy wr (some g)) (fun u _ => cap - (intOf u).toNat)
      case atStart => exact ⟨0, Nat.zero_le _, rfl, ⟨_, HR.out⟩, ⟨rfl, rfl, rfl, Nat.le_refl _, fun _ _ _ => rfl⟩⟩
      case round =>
        obtain ⟨k, hk, rfl, ⟨ys, hy⟩, hkk⟩ := hrel
        have HY := hide hy
        have HK := hide hkk
        clear hy hkk HR
        by_cases hlt : k < cap
        · obtain ⟨u, _, cu⟩ := owns_at HY.out (show k < cap * 1 by omega)
          have hf : wr.frozen? ⟨g, k, none⟩ = false := owns_free HY.out k
          go_wp2_with (go_at_call 36; refine (markByte_any 2 k (by omega) (by omega) _).mono ?_; rintro e w2 ⟨rfl, rfl⟩)
          go_roundw
          case rel => exact ⟨k + 1, by omega, by go_num, ⟨_, owns_set HY.out (by omega) _⟩, grown_row HK.out (grown_set _ _ _ _)⟩
          case measure => simp [intOf]; omega
        · have hk2 : k = cap := by omega
          subst hk2
          go_wp2
          exact bodyPost_end (results_none rfl _ _ _) rfl ⟨rfl, HK.out⟩
end Go.Proofs.Ytkpoilcbdcddcaa
