/-
  The document's stack by definition, in memory: Read.
-/
import Derived.Test.YtkpoilcbdcddcaaR3
namespace Go.Proofs.Ytkpoilcbdcddcaa
open Go.RowKit
set_option linter.unusedVariables false
set_option linter.unusedSimpArgs false

theorem arr28 : Try.prog.underlying 28 = some (.array (Try.prog.arrayLen 28) (Try.prog.elem 28)) := by kernel_rfl
theorem len28 : Try.prog.arrayLen 28 = 512 := by kernel_rfl
theorem elem28 : Try.prog.elem 28 = 5 := by kernel_rfl
theorem cut28 (W : World) (b o q : Nat) (h : o + q ≤ 512) : ∃ ad : Addr, (0 < q → ad = (⟨b, 0, none⟩ : Addr).add o) ∧ (Instr.sliceAt 28 (.pointer (some ⟨b, 0, none⟩)) (some (.int .i64 o)) (some (.int .i64 ((o : Int) + q))) none).run Try.prog W = .ok (.slice (some ad) q (512 - o)) W := by
  obtain ⟨i0, hi, hz0, hz1, hz2⟩ := info_parts u8info
  have := run_sliceAt_array_lh W 28 ⟨b, 0, none⟩ arr28 .i64 .i64 o ((o : Int) + q) (by omega) (by omega) (by rw [len28]; omega)
  rw [this, elem28, len28]
  have e : (sizeOf 5).run Try.prog W = .ok 1 W := by simp [sizeOf, typeInfo, hi, hz1]
  rw [e]
  have e2 : ((o : Int) + q).toNat = o + q := by omega
  simp only [Result.andThen_ok, slicedAt, Nat.mul_one, e2, Int.toNat_natCast]
  refine ⟨if 512 = o then ⟨b, 0, none⟩ else (⟨b, 0, none⟩ : Addr).add o, fun hq => by rw [if_neg (by omega)], ?_⟩
  rw [Nat.add_sub_cancel_left]
theorem add_at (b o j : Nat) : ((⟨b, 0, none⟩ : Addr).add o).add j = if o + j = 0 then ⟨b, 0, none⟩ else ⟨b, o + j, none⟩ := by
  unfold Addr.add
  by_cases h1 : o = 0 <;> by_cases h2 : j = 0 <;> simp [h1, h2]
theorem base_add (b o : Nat) : (⟨b, 0, none⟩ : Addr).add o = ⟨b, o, none⟩ := by
  unfold Addr.add
  by_cases h1 : o = 0 <;> simp [h1]
theorem at_add (b o j : Nat) : (⟨b, o, none⟩ : Addr).add j = ⟨b, o + j, none⟩ := by
  unfold Addr.add
  by_cases h1 : j = 0 <;> simp [h1]
theorem RSt.rd {w : World} {b : Nat} {A : AS} {o q : Nat} {l : List Int} (h : RSt w b A) (hg : A.got o q = some l) (hf : o + q ≤ 512) (ad : Addr) (hd : 0 < q → ad = (⟨b, 0, none⟩ : Addr).add o) : Rd w (b + 1) 1 (some ad) q (u8s l) := by
  obtain ⟨hl, hat⟩ := (A.got_iff o q l).1 hg
  obtain ⟨cs, hb, hs⟩ := h
  refine ⟨by simp [u8s, hl], fun hq => ⟨ad, rfl, ?_, fun j u hu => ?_⟩⟩
  · rw [hd hq, base_add]; exact Nat.lt_succ_self b
  · rw [hd hq, base_add, at_add, PS.cell hb]
    simp only [u8s, List.getElem?_map, Option.map_eq_some_iff] at hu
    obtain ⟨x, hx, rfl⟩ := hu
    have hj := (List.getElem?_eq_some_iff.1 hx).1
    obtain ⟨y, hy1, hy2⟩ := hs.byte (o + j) (by omega)
    rw [hy1, hy2 x ((hat j (by omega)).trans hx)]
def RR (w : World) (q : Nat) (r : Option (List Int)) (v : Value) : Prop := (r = .none ∧ v = .slice .none 0 0) ∨ ∃ l S c, r = some l ∧ v = .slice S q c ∧ Rd w w.heap.size 1 S q (u8s l)
set_option maxRecDepth 100000 in
set_option maxHeartbeats 4000000 in
theorem rread_any (b : Nat) (A : AS) (off n : Int) (w : World) (h : RSt w b A) :
    Calls Try.prog 15 #[.pointer (some ⟨b, 0, none⟩), .int .i64 off, .int .i64 n] w fun e w' => ∃ v, e = .returned (.tuple #[v, .int .i64 (readM A off n).2]) ∧ RR w' n.toNat (readM A off n).1 v ∧ Below w.heap.size w w' := by
  by_cases h1 : n < 0
  · rw [show readM A off n = (.none, 2) by simp [readM, h1]]
    have e1 : decide (n < 0) = true := decide_eq_true h1
    clear h
    go_enter Try.func15, Try.ntmps15
    go_wp2
    go_ret2
    exact ⟨_, rfl, .inl ⟨rfl, rfl⟩, Below.refl _ _⟩
  have e1 : decide (n < 0) = false := decide_eq_false h1
  by_cases h2 : 512 < n
  · rw [show readM A off n = (.none, 2) by simp [readM, h2]]
    have e2 : decide (512 < n) = true := decide_eq_true h2
    clear h
    go_enter Try.func15, Try.ntmps15
    go_wp2
    go_ret2
    exact ⟨_, rfl, .inl ⟨rfl, rfl⟩, Below.refl _ _⟩
  have e2 : decide (512 < n) = false := decide_eq_false h2
  have HT := hide (fun w => there_any off n w (by omega) (by omega))
  by_cases h3' : placedB off n = false
  · rw [show readM A off n = (.none, 32) by simp [readM, e1, e2, h3']]
    rw [h3'] at HT
    clear h
    go_enter Try.func15, Try.ntmps15
    go_wp2_with (go_at_call 34; refine (HT.out _).mono ?_; rintro e w1 ⟨rfl, rfl⟩)
    go_ret2
    exact ⟨_, rfl, .inl ⟨rfl, rfl⟩, Below.refl _ _⟩
  have h3 : placedB off n = true := by simpa using h3'
  rw [h3] at HT
  obtain ⟨h4, h5⟩ := placed_of h3
  obtain ⟨o, rfl⟩ : ∃ o : Nat, off = o := ⟨off.toNat, by omega⟩
  obtain ⟨q, rfl⟩ : ∃ q : Nat, n = q := ⟨n.toNat, by omega⟩
  have HAll := hide (fun W h => all_any b A o q W h (by omega))
  rw [readM_at A o q (by omega) h3, Int.toNat_natCast]
  have HP := hide h
  cases hg : A.got o q with
  | none =>
    rw [hg] at HAll
    clear h
    go_enter Try.func15, Try.ntmps15
    go_wp2_with (first
      | (go_at_call 34; refine (HT.out _).mono ?_; rintro e w1 ⟨rfl, rfl⟩)
      | (go_at_call 35; refine (HAll.out _ HP.out).mono ?_; rintro e w1 ⟨rfl, rfl⟩))
    go_ret2
    exact ⟨_, rfl, .inl ⟨rfl, rfl⟩, Below.refl _ _⟩
  | some l =>
    rw [hg] at HAll
    obtain ⟨ad, had, hc⟩ := cut28 (w.alloc (.cells #[] 5)) b o q (by omega)
    have hbw := below1 w (.cells #[] 5)
    have HRd := hide ((h.below hbw).rd hg (by omega) ad had)
    have hown : (w.alloc (.cells #[] 5)).ownsRow 0 5 1 (.slice (some ⟨w.heap.size, 0, none⟩) 0 0) 0 [] := ⟨rfl, .inr ⟨w.heap.size, 0, #[], rfl, Nat.zero_le _, World.alloc_heap_new w _, Nat.le_refl _, Nat.zero_le _, rfl, rfl⟩⟩
    have HOwn := hide hown
    have HBw := hide hbw
    have hlen : l.length = q := ((A.got_iff o q l).1 hg).1
    obtain ⟨i0, hi, hz0, hz1, hz2⟩ := info_parts u8info
    clear h hown hbw had hg
    go_enter Try.func15, Try.ntmps15
    go_wp2_with (first
      | (go_at_call 34; refine (HT.out _).mono ?_; rintro e w1 ⟨rfl, rfl⟩)
      | (go_at_call 35; refine (HAll.out _ HP.out).mono ?_; rintro e w1 ⟨rfl, rfl⟩)
      | (at_builtin; refine stop_here ?_)
      | fail)
    show Hid _
    refine start_here ?_
    refine wpList_append_rd_w _ ?c0 (.tmp 23) (.tmp 31) 37 rfl 5 i0 _ 1 1 Try.underlying37 hi hz0 hz1 hz2 rfl (by decide) _ 0 [] rfl HOwn.out (b + 1) (some ad) q (512 - o) (u8s l) rfl HRd.out (fun h => nomatch h) (u8s_one l) (by simp only [maxLen]; omega) (by omega) ?_
    case c0 => rfl
    intro v' w3 hl3
    have HL3 := hide hl3
    clear hl3 hc
    go_wp2
    go_ret2
    obtain ⟨g1, g2, _⟩ := HL3.out
    rw [Nat.zero_add, List.nil_append] at g1
    obtain ⟨S, c, rfl, hrd⟩ := owns_slice g1
    exact ⟨_, rfl, .inr ⟨l, S, c, rfl, rfl, hrd⟩, HBw.out.grown g2 HBw.out.size (fun k e => by cases e; exact Nat.le_refl _)⟩
end Go.Proofs.Ytkpoilcbdcddcaa
