/-
  Targets.
-/
import Derived.Test.YtjnmfgkjeofneaaIt6
import Derived.Test.YtjnmfgkjeofneaaRi
namespace Go.Proofs.Ytjnmfgkjeofneaa
open Go.RowKit Go.Maps
set_option linter.unusedVariables false

theorem faultE_zero {i r f t : Bool} (h : faultE i r f t = 0) : i = true ∧ r = true ∧ f = true ∧ t = true := by
  cases i <;> cases r <;> cases f <;> cases t <;> simp [faultE] at h ⊢
/-- Of a program that is taken each instruction is fine. -/
theorem check_fine {l : List Ins} (h : (checkM l).2 = 0) : ∀ p ∈ fsts 0 false l, errM l p = 0 := by
  intro p hp
  obtain ⟨h0, h1⟩ := check_ok h
  unfold checkM at h
  rw [if_neg (by omega)] at h
  unfold checkL at h
  rcases hq : (fsts 0 false l).find? (fun p => errM l p != 0) with _ | q
  · have := List.find?_eq_none.1 hq p hp
    simpa using this
  · rw [hq] at h
    have := List.find?_some hq
    simp only at h
    rw [h] at this
    simp at this
theorem stays_in {n : Nat} {secs : List Int} {k : Nat} {s : Ins} (h : staysB n secs k s = true) (ht : targetB s = true) : 0 ≤ targetI k s ∧ targetI k s < n ∧ targetI k s ∉ secs := by
  unfold staysB at h
  rw [ht] at h
  simp at h
  exact ⟨h.2.1.1, h.2.1.2, h.2.2⟩
theorem jump_in {l : List Ins} (h : (checkM l).2 = 0) {p : Nat × Ins} (hp : p ∈ fsts 0 false l) : jumpI p = -1 ∨ (0 ≤ jumpI p ∧ jumpI p < l.length ∧ jumpI p ∉ secsM l) := by
  unfold jumpI
  by_cases ht : targetB p.2 = true
  · rw [if_pos ht]
    have := check_fine h p hp
    unfold errM faultM at this
    exact .inr (stays_in (faultE_zero this).2.2.2 ht)
  · rw [if_neg ht]
    exact .inl rfl
theorem wayOf_mem (ps : List (Nat × Ins)) (i : Nat) : wayOf ps i = (-1, -1) ∨ ∃ p ∈ ps, p.1 = i ∧ wayOf ps i = (nextI p, jumpI p) := by
  suffices H : ∀ (qs : List (Nat × Ins)) (acc : Int × Int), qs.foldl (fun acc p => if p.1 = i then (nextI p, jumpI p) else acc) acc = acc ∨ ∃ p ∈ qs, p.1 = i ∧ qs.foldl (fun acc p => if p.1 = i then (nextI p, jumpI p) else acc) acc = (nextI p, jumpI p) from H ps (-1, -1)
  intro qs
  induction qs with
  | nil => exact fun acc => .inl rfl
  | cons p qs ih =>
    intro acc
    rw [List.foldl_cons]
    by_cases e : p.1 = i
    · rw [if_pos e]
      rcases ih (nextI p, jumpI p) with h | ⟨q, h1, h2, h3⟩
      · exact .inr ⟨p, by simp, e, h⟩
      · exact .inr ⟨q, by simp [h1], h2, h3⟩
    · rw [if_neg e]
      rcases ih acc with h | ⟨q, h1, h2, h3⟩
      · exact .inl h
      · exact .inr ⟨q, by simp [h1], h2, h3⟩
theorem way_in {l : List Ins} (h : (checkM l).2 = 0) (i : Nat) : (wayOf (fsts 0 false l) i).2 = -1 ∨ (0 ≤ (wayOf (fsts 0 false l) i).2 ∧ (wayOf (fsts 0 false l) i).2 < l.length) := by
  rcases wayOf_mem (fsts 0 false l) i with e | ⟨p, hp, _, e⟩
  · rw [e]; exact .inl rfl
  · rw [e]
    rcases jump_in h hp with e' | ⟨h1, h2, _⟩
    · exact .inl e'
    · exact .inr ⟨h1, h2⟩
/-- The targets that are told of the first k slots. -/
def jumps (l : List Ins) (k : Nat) : List Int := ((List.range k).map (fun i => (wayOf (fsts 0 false l) i).2)).filter (fun x => x != -1)
def targetsM (l : List Ins) : List Int := if (checkM l).2 = 0 then risen l.length (jumps l l.length) else []
theorem jumps_succ (l : List Ins) (k : Nat) : jumps l (k + 1) = jumps l k ++ (if (wayOf (fsts 0 false l) k).2 = -1 then [] else [(wayOf (fsts 0 false l) k).2]) := by
  unfold jumps
  rw [List.range_succ, List.map_append, List.filter_append]
  congr 1
  by_cases e : (wayOf (fsts 0 false l) k).2 = -1 <;> simp [e]
theorem jumps_length (l : List Ins) (k : Nat) : (jumps l k).length ≤ k := by
  unfold jumps
  have := List.length_filter_le (fun x : Int => x != -1) ((List.range k).map (fun i => (wayOf (fsts 0 false l) i).2))
  simpa using this
theorem jumps_in {l : List Ins} (h : (checkM l).2 = 0) (k : Nat) : ∀ x ∈ jumps l k, 0 ≤ x ∧ x < l.length := by
  intro x hx
  unfold jumps at hx
  rw [List.mem_filter, List.mem_map] at hx
  obtain ⟨⟨i, _, rfl⟩, h2⟩ := hx
  rcases way_in h i with e | e
  · rw [e] at h2; simp at h2
  · exact e
set_option maxRecDepth 100000 in
set_option maxHeartbeats 1000000 in
theorem targets_any (A : Option Addr) (m c B : Nat) (l : List Ins) (w : World) (hp : Rd w B 5 A m (pcells l)) (hB : B ≤ w.heap.size) (hf : ∀ s ∈ l, s.Fits) (r : m ≤ 140737488351232) :
    Calls Try.prog 17 #[.slice A m c] w fun e w' => ∃ v, e = .returned v ∧ w'.ownsRow w.heap.size 3 1 v (targetsM l).length ((targetsM l).map (Value.int .i64)) ∧ Below w.heap.size w w' := by
  have hmm := @run_makeMap Try.prog
  have hll : l.length = m := hp.prg.1
  by_cases hok : (checkM l).2 = 0
  · obtain ⟨h0, h1⟩ := check_ok hok
    rw [hll] at h0 h1
    have hW := hide (ways_yes A m c B l (w.alloc (.map #[] 0)) (hp.below ((below1 w _).mono hB)) (by simp; omega) hf r hok h1 h0)
    have HT : Hid (targetsM l = risen m (jumps l m)) := by
      show targetsM l = _
      unfold targetsM
      rw [if_pos hok, hll]
    have HIN := hide (fun k => jumps_in hok k)
    have HWAY := hide (fun i => way_in hok i)
    have HLL := hide hll
    have HS0 := hide (SetIs.new w)
    clear hok hp hll
    go_enter Try.func17, Try.ntmps17
    go_wp2_with fail
    refine hW.out.mono ?_
    rintro e w1 ⟨g, rfl, hg, hpr, hb⟩
    have HS1 := hide (HS0.out.below hb)
    have HB1 := hide (below1c hb)
    have z1 := hb.size
    simp only [World.size_alloc] at z1 hg
    have HPR := hide hpr
    clear hb hpr hW
    go_wp2
    go_loopw [5, 6, 11] (fun _ _ p wr => ∃ k : Nat, k ≤ m ∧ p = .int .i64 k ∧ SetIs wr w.heap.size (jumps l k) ∧ Pairs wr g m (wayOf (fsts 0 false l)) ∧ Below w.heap.size w wr ∧ w1.heap.size ≤ wr.heap.size) (fun _ _ p _ => m - (intOf p).toNat)
    case atStart => exact ⟨0, by omega, rfl, HS1.out, HPR.out, HB1.out, Nat.le_refl _⟩
    case round =>
      obtain ⟨k, hk, rfl, hset, hprs, hbk, hzk⟩ := hrel
      by_cases hlt : k < m
      · obtain ⟨q0, q1⟩ := hprs.cell hlt
        have HJ := hide (jumps_succ l k)
        have HX := hide (HWAY.out k)
        generalize (wayOf (fsts 0 false l) k).1 = a at q0
        generalize hx : (wayOf (fsts 0 false l) k).2 = x at q1 HJ HX
        have HSET := hide hset
        have HPRS := hide hprs
        have HBK := hide hbk
        have hjl := jumps_length l k
        clear hset hprs hbk hx
        by_cases hx1 : x = -1
        · subst hx1
          go_wp2
          go_roundw
          case rel => exact ⟨k + 1, by omega, by go_num, by rw [HJ.out, if_pos rfl, List.append_nil]; exact HSET.out.below (below1 _ _), HPRS.out.same (Below.heap_alloc _ _ _ HPRS.out.lt), HBK.out.alloc HBK.out.size _, by simp; omega⟩
          case measure => simp [intOf]; omega
        · have hx2 : (x != -1) = true := by simpa using hx1
          have hi : I64 x := by
            have hl2 := HLL.out
            rcases HX.out with e | ⟨e1, e2⟩
            · exact absurd e hx1
            · unfold I64; omega
          go_wp2_with fail
          refine (put_any _ w.heap.size (jumps l k) (HSET.out.below (below1 _ _)) x hi (by unfold maxLen; omega)).mono ?_
          rintro e w2 ⟨rfl, hs2, hg2⟩
          have z2 := hg2.size
          simp only [World.size_alloc] at z2
          have HS2 := hide hs2
          have HP2 := hide (HPRS.out.same ((hg2.block g (by have := HPRS.out.lt; simp; omega) (by simp; omega)).trans (Below.heap_alloc _ _ _ HPRS.out.lt)))
          have HB2 := hide ((HBK.out.alloc HBK.out.size (.cells #[.int .i64 a, .int .i64 x] 33)).grown hg2 (by have := HBK.out.size; simp; omega) (fun k e => by cases e; exact Nat.le_refl _))
          clear hs2 hg2
          go_wp2
          go_roundw
          case rel => exact ⟨k + 1, by omega, by go_num, by rw [HJ.out, if_neg hx1]; exact HS2.out, HP2.out, HB2.out, by omega⟩
          case measure => simp [intOf]; omega
      · have hkm : k = m := by omega
        subst hkm
        have HSET := hide hset
        have HBK := hide hbk
        have hin := HIN.out k
        rw [HLL.out] at hin
        have hR := hide (rising_any wr w.heap.size k (jumps l k) hset (by have := jumps_length l k; omega) hin)
        clear hset hprs hbk hin
        go_wp2_with fail
        refine hR.out.mono ?_
        rintro e w2 ⟨v, rfl, hrow, hb2⟩
        go_wp2
        go_ret
        exact ⟨v, rfl, by rw [HT.out]; exact ownsRow_base_a hrow HBK.out.size, HBK.out.trans (hb2.mono HBK.out.size)⟩
  · have hW := hide (ways_no A m c B l (w.alloc (.map #[] 0)) (hp.below ((below1 w _).mono hB)) (by simp; omega) hf r hok)
    have HT : Hid (targetsM l = []) := by
      show targetsM l = _
      unfold targetsM
      rw [if_neg hok]
    have HS0 := hide (SetIs.new w)
    clear hok hp hll
    go_enter Try.func17, Try.ntmps17
    go_wp2_with fail
    refine hW.out.mono ?_
    rintro e w1 ⟨rfl, hb⟩
    have HS1 := hide (HS0.out.below hb)
    have HB1 := hide (below1c hb)
    clear hb hW
    go_wp2
    refine wp_loop_rounds 1 ?_
    rw [rounds_succ]
    go_wp2_with fail
    refine (rising_any w1 w.heap.size 0 [] HS1.out (by simp) (by simp)).mono ?_
    rintro e w2 ⟨v, rfl, hrow, hb2⟩
    go_wp2
    go_ret
    exact ⟨v, rfl, by rw [HT.out]; exact ownsRow_base_a hrow HB1.out.size, HB1.out.trans (hb2.mono HB1.out.size)⟩
end Go.Proofs.Ytjnmfgkjeofneaa
