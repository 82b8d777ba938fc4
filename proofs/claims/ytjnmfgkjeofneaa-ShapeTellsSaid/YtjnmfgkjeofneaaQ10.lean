/-
  The document's Targets.
-/
import Derived.Test.YtjnmfgkjeofneaaQ9
import Derived.Test.YtjnmfgkjeofneaaL6a
namespace Go.Proofs.Ytjnmfgkjeofneaa
open Go.RowKit Go.Maps
set_option linter.unusedVariables false

theorem risen_succ (k : Nat) (jl : List Int) : risen (k + 1) jl = risen k jl ++ (if ((k : Nat) : Int) ∈ jl then [((k : Nat) : Int)] else []) := by
  unfold risen
  rw [List.range_succ, List.filter_append, List.map_append]
  congr 1
  by_cases h : ((k : Nat) : Int) ∈ jl <;> simp [h]
theorem risen_length (k : Nat) (jl : List Int) : (risen k jl).length ≤ k := by
  unfold risen
  rw [List.length_map]
  have := List.length_filter_le (fun i : Nat => decide ((i : Int) ∈ jl)) (List.range k)
  simpa using this
theorem owns_nil (w : World) (e : TypeId) (sz : Nat) : w.ownsRow 0 e sz (.slice none 0 0) 0 [] := ⟨by simp, .inl ⟨rfl, rfl⟩⟩
/-- Where a program is taken, a jump's target lies within. -/
theorem jump_within {l : List Ins} (h : (checkM l).2 = 0) {k : Nat} {s : Ins} (hs : l[k]? = some s) (hf : s.Fits) (hfk : firstAt l k = true) (hj : jumpsR s.op = true) : 0 ≤ jtR k s ∧ jtR k s < l.length := by
  have h0 := check_fine h _ (first_here hs hfk).2
  rw [one_is hs hf] at h0
  unfold oneR at h0
  split at h0
  · simp at h0
  split at h0
  · simp at h0
  split at h0
  · simp at h0
  split at h0
  · rename_i h24
    rw [h24] at hj
    rw [wide_no] at hj
    cases hj
  split at h0
  · simp at h0
  rename_i hb
  unfold badJump at hb
  rw [hj] at hb
  simp at hb
  omega
theorem targets_no_doc (A : Option Addr) (m c B : Nat) (l : List Ins) (w : World) (hp : Rd w B 5 A m (pcells l)) (hB : B ≤ w.heap.size) (hf : ∀ s ∈ l, s.Fits) (r : m ≤ 140737488351232) (hno : (checkM l).2 ≠ 0) :
    Calls Try.prog 18 #[.slice A m c] w fun e w' => e = .returned (.slice none 0 0) ∧ Below w.heap.size w w' := by
  have hC := hide (check_doc_all A m c B l w hp hB hf r)
  generalize (checkM l).1 = x at hC
  generalize (checkM l).2 = y at hC hno
  have hy : (y == 0) = false := by simpa using hno
  have hy2 : (y != 0) = true := by simpa using hno
  clear hno hp hf
  go_enter Try.func18, Try.ntmps18
  go_wp2_with fail
  refine hC.out.mono ?_
  rintro e w1 ⟨rfl, hb1⟩
  go_wp2
  go_ret
  exact ⟨rfl, hb1⟩

set_option maxRecDepth 100000 in
set_option maxHeartbeats 4000000 in
theorem targets_doc (A : Option Addr) (n c B : Nat) (l : List Ins) (w : World) (hp : Rd w B 5 A n (pcells l)) (hB : B ≤ w.heap.size) (hf : ∀ s ∈ l, s.Fits) (r : n ≤ 140737488351232) (hok : (checkM l).2 = 0) :
    Calls Try.prog 18 #[.slice A n c] w fun e w' => ∃ v, e = .returned v ∧ w'.ownsRow 0 3 1 v (risen n (jumps l n)).length ((risen n (jumps l n)).map (Value.int .i64)) ∧ Below w.heap.size w w' := by
  have hll : l.length = n := hp.prg.1
  have HC := hide (check_doc_all A n c B l w hp hB hf r)
  rw [hok] at HC
  generalize (checkM l).1 = cx at HC
  obtain ⟨h0, h1⟩ := check_ok hok
  rw [hll] at h0 h1
  obtain ⟨C, hmk, hbo⟩ := made_bools n h1
  obtain ⟨i1, hi1, hy0, hy1, hy2⟩ := info_parts intInfo
  have HFR := hide (fun (W : World) (hW : Below w.heap.size w W) => firsts_ref A n c B l W (hp.below (hW.mono hB)) (Nat.le_trans hB hW.size) h1)
  have HW1 := hide (fun (k : Nat) (s : Ins) (hs : l[k]? = some s) (hfk : firstAt l k = true) => jump_within hok hs (hf s (List.mem_of_getElem? hs)) hfk)
  have HJI := hide (fun (k : Nat) (s : Ins) (hs : l[k]? = some s) (hfk : firstAt l k = true) => jumpI_is (k := k) (hf s (List.mem_of_getElem? hs)) (first_isB hok hs hfk))
  have HF := hide hf
  have HP0 := hide hbo
  have HLL := hide hll
  have HRD := hide (fun (W : World) (hW : Below w.heap.size w W) => hp.below (hW.mono hB))
  clear hok hp hf hll hbo
  go_enter Try.func18, Try.ntmps18
  go_wp2_with fail
  refine HC.out.mono ?_
  rintro e w1 ⟨rfl, hb1⟩
  have HB1 := hide hb1
  have hg0 := hb1.size
  clear hb1
  have HBA := hide (HB1.out.alloc hg0 (.cells C 4))
  go_wp2_with fail
  refine (HFR.out _ HBA.out).mono ?_
  rintro e w2 ⟨rfl, hbo, hb2⟩
  simp only [World.size_alloc] at hbo hb2
  have HBO := hide hbo
  have HB2 := hide (HBA.out.trans (hb2.mono (by omega)))
  have HIS := hide (((HP0.out w1).same (hb2.block w1.heap.size (by omega))).ext (f' := fun i => decide (((i : Nat) : Int) ∈ jumps l 0)) (fun i _ => by simp [jumps]))
  have hg1 := hbo.lt
  clear hbo hb2 HP0
  go_wp2_with fail
  go_loopw [7] (fun p wr => ∃ k : Nat, k ≤ n ∧ p = .int .i64 k ∧ Bools wr w1.heap.size n (fun i => decide (((i : Nat) : Int) ∈ jumps l k)) ∧ Bools wr (w1.heap.size + 1) n (fun i => firstAt l i) ∧ Below w.heap.size w wr) (fun p _ => n - (intOf p).toNat)
  case atStart => exact ⟨0, by omega, rfl, HIS.out, HBO.out, HB2.out⟩
  case round =>
    obtain ⟨k, hk, rfl, his, hbo, hb⟩ := hrel
    have HI := hide his
    have HO := hide hbo
    have HB := hide hb
    clear his hbo hb HBO HB2 HIS
    by_cases hlt : k < n
    · obtain ⟨ad, s, rfl, hs, c0, c1, c2, c3, c4⟩ := (HRD.out wr HB.out).slot hlt
      have HS := hide hs
      have hc := HO.out.cell hlt
      have hd : decide ((k : Int) < (n : Int)) = true := by simp; omega
      have hd2 : decide (k < n) = true := by simp; omega
      have HJS := hide (jumps_succ l k)
      clear hs
      cases hfk : firstAt l k
      · rw [hfk] at hc
        have HW := hide (way_not (l := l) (k := k) (by rw [HLL.out]; exact hlt) hfk)
        clear hfk
        go_wp2
        go_roundw
        case rel => exact ⟨k + 1, by omega, by go_num, HI.out.ext (fun i hi => by rw [HJS.out, HW.out]; simp), HO.out, HB.out⟩
        case measure => simp [intOf]; omega
      · rw [hfk] at hc
        have HW := hide (way_first HS.out hfk)
        have HFIT := hide (HF.out s (List.mem_of_getElem? HS.out))
        have hji := HJI.out k s HS.out hfk
        have hwi := HW1.out k s HS.out hfk
        have HJC := hide (jumps_ref s.op s.dst s.src s.off s.imm wr k (by omega) HFIT.out.off HFIT.out.imm)
        obtain ⟨op, dst, src, off, imm⟩ := s
        simp only at c0 c1 c2 c3 c4 HJC hwi hji
        have HJ2 : Hid (jumps l (k + 1) = jumps l k ++ (if jumpI (k, ⟨op, dst, src, off, imm⟩) = -1 then [] else [jumpI (k, ⟨op, dst, src, off, imm⟩)])) := by
          show jumps l (k + 1) = _
          rw [HJS.out, HW.out]
        generalize jumpI (k, ⟨op, dst, src, off, imm⟩) = ji at *
        generalize jtR k ⟨op, dst, src, off, imm⟩ = t at *
        clear hfk HW HJS HFIT
        cases hj : jumpsR op
        · rw [hj] at HJC hji
          replace hji : ji = -1 := by simpa using hji
          subst hji
          clear hwi hj
          go_wp2_with fail
          refine HJC.out.mono ?_
          rintro e w3 ⟨rfl, hb3⟩
          have HB3 := hide hb3
          clear hb3
          go_wp2
          go_roundw
          case rel => exact ⟨k + 1, by omega, by go_num, (HI.out.below HB3.out).ext (fun i hi => by rw [HJ2.out]; simp), HO.out.below HB3.out, HB.out.trans (HB3.out.mono HB.out.size)⟩
          case measure => simp [intOf]; omega
        · rw [hj] at HJC hji
          replace hji : ji = t := by simpa using hji
          subst hji
          obtain ⟨t0, t1⟩ := hwi hj
          rw [HLL.out] at t1
          obtain ⟨j, rfl⟩ := Int.eq_ofNat_of_zero_le t0
          have hjn : j < n := by omega
          have HJ3 : Hid (jumps l (k + 1) = jumps l k ++ [((j : Nat) : Int)]) := by
            show jumps l (k + 1) = _
            rw [HJ2.out, if_neg (by omega)]
          clear hwi hj t0 t1 HJ2
          go_wp2_with fail
          refine HJC.out.mono ?_
          rintro e w3 ⟨rfl, hb3⟩
          have HB3 := hide (HB.out.trans (hb3.mono HB.out.size))
          have HI3 := hide (HI.out.below hb3)
          have HO3 := hide (HO.out.below hb3)
          have q := HI3.out.cell hjn
          have z := HI3.out.free j
          clear hb3
          go_wp2
          go_roundw
          case rel =>
            refine ⟨k + 1, by omega, by go_num, (HI3.out.set j hjn true).ext (fun i hi => ?_), HO3.out.same (Below.heap_setCell _ ⟨w1.heap.size, j, none⟩ _ _ (by simp)), HB3.out.setCell (p := ⟨w1.heap.size, j, none⟩) hg0 _⟩
            rw [HJ3.out]
            by_cases e : i = j
            · subst e
              simp
            · rw [if_neg e, decide_eq_decide, List.mem_append, List.mem_singleton]
              constructor
              · exact fun h => .inl h
              · rintro (h | h)
                · exact h
                · omega
          case measure => simp [intOf]; omega
    · have hkn : k = n := by omega
      subst hkn
      have hd : decide ((k : Int) < (k : Int)) = false := by simp
      have hd2 : decide (k < k) = false := by simp
      clear HRD HF HW1 HJI HFR HC HO
      obtain ⟨wo, hwo⟩ : ∃ wo, wo = wr := ⟨_, rfl⟩
      subst hwo
      go_wp2_with fail
      go_loopw [10, 11] (fun v p wr => ∃ i : Nat, i ≤ k ∧ p = .int .i64 i ∧ wr.ownsRow 0 3 1 v (risen i (jumps l k)).length ((risen i (jumps l k)).map (Value.int .i64)) ∧ (∀ g, v.ownBlock = some g → wo.heap.size ≤ g) ∧ Below wo.heap.size wo wr) (fun _ p _ => k - (intOf p).toNat)
      case atStart => exact ⟨0, by omega, rfl, owns_nil _ _ _, fun g hg => by simp [Value.ownBlock] at hg, Below.refl _ _⟩
      case round =>
        obtain ⟨i, hik, rfl, hown, hblk, hbq⟩ := hrel
        have HOW := hide hown
        have HBK := hide hblk
        have HBQ := hide hbq
        have HRS := hide (risen_succ i (jumps l k))
        have hrl := risen_length i (jumps l k)
        clear hown hblk hbq
        by_cases hil : i < k
        · have hc := (HI.out.below HBQ.out).cell hil
          have hd3 : decide ((i : Int) < (k : Int)) = true := by simp; omega
          have hd4 : decide (i < k) = true := by simp; omega
          by_cases hm : ((i : Nat) : Int) ∈ jumps l k
          · rw [decide_eq_true hm] at hc
            have HR1 : Hid (risen (i + 1) (jumps l k) = risen i (jumps l k) ++ [((i : Nat) : Int)]) := by
              show risen (i + 1) (jumps l k) = _
              rw [HRS.out, if_pos hm]
            clear hm
            have HRN : Hid (Rd (wr.alloc (.cells #[.int .i64 (i : Nat)] 3)) (wr.heap.size + 1) 1 (some ⟨wr.heap.size, 0, none⟩) 1 ([((i : Nat) : Int)].map (Value.int .i64))) := cells_rd wr ([((i : Nat) : Int)].map (Value.int .i64)) 3 1 1 rfl
            go_wp2_with (at_builtin; refine stop_here ?_)
            show Hid _
            refine start_here ?_
            refine wpList_append_rd _ rfl (.tmp 58) (.tmp 60) _ rfl 3 i1 _ 1 8 Try.underlying35 hi1 hy0 hy1 hy2 rfl (by omega) u10 (risen i (jumps l k)).length _ rfl (World.ownsRow.alloc HOW.out _) (wr.heap.size + 1) (some ⟨wr.heap.size, 0, none⟩) 1 1 ([((i : Nat) : Int)].map (Value.int .i64)) rfl HRN.out (fun h => nomatch h) (ints_one _) (by simp [maxLen]; omega) (by omega) ?_
            intro v13 w13 hl13
            have HO13 : Hid (w13.ownsRow 0 3 1 v13 (risen (i + 1) (jumps l k)).length ((risen (i + 1) (jumps l k)).map (Value.int .i64))) := by
              show w13.ownsRow 0 3 1 v13 (risen (i + 1) (jumps l k)).length ((risen (i + 1) (jumps l k)).map (Value.int .i64))
              rw [HR1.out, List.map_append, List.length_append]
              exact hl13.1
            have HB13 := hide (longer_below (HBQ.out.alloc HBQ.out.size (.cells #[.int .i64 (i : Nat)] 3)) (by have := HBQ.out.size; simp; omega) HBK.out hl13)
            have HV13 : Hid (∀ g, v13.ownBlock = some g → wo.heap.size ≤ g) := longer_from hl13 (by have := HBQ.out.size; simp; omega) HBK.out
            clear hl13
            go_wp2_with fail
            go_roundw
            case rel => exact ⟨i + 1, by omega, by go_num, HO13.out, HV13.out, HB13.out⟩
            case measure => simp [intOf]; omega
          · rw [decide_eq_false hm] at hc
            have HR1 : Hid (risen (i + 1) (jumps l k) = risen i (jumps l k)) := by
              show risen (i + 1) (jumps l k) = _
              rw [HRS.out, if_neg hm, List.append_nil]
            clear hm
            go_wp2
            go_roundw
            case rel => exact ⟨i + 1, by omega, by go_num, by rw [HR1.out]; exact HOW.out, HBK.out, HBQ.out⟩
            case measure => simp [intOf]; omega
        · have hie : i = k := by omega
          subst hie
          have hd3 : decide ((i : Int) < (i : Int)) = false := by simp
          have hd4 : decide (i < i) = false := by simp
          go_wp2
          go_ret
          exact ⟨_, rfl, HOW.out, HB.out.trans (HBQ.out.mono HB.out.size)⟩
end Go.Proofs.Ytjnmfgkjeofneaa
