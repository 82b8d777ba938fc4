/-
  The document's error of one instruction: the pure part, and that of a load of 64 bits.
-/
import Derived.Test.YtjnmfgkjeofneaaQ3
namespace Go.Proofs.Ytjnmfgkjeofneaa
open Go.RowKit Go.Maps
set_option linter.unusedVariables false

def firstAt (l : List Ins) (t : Int) : Bool := (firstsL false l)[t.toNat]?.getD true
def badRegs (s : Ins) : Bool := decide (10 < s.dst) || decide (10 < s.src) || s.dst == 10 && wrB s.op
def badJump (l : List Ins) (k : Nat) (s : Ins) : Bool := jumpsR s.op && (decide (jtR k s < 0) || decide ((l.length : Int) ≤ jtR k s) || !firstAt l (jtR k s))
def oneR (l : List Ins) (k : Nat) (s b : Ins) : Int :=
  if opcodeR s.op = false then 20 else if badRegs s = true then 21 else if partsR s = false then 22
  else if s.op = 24 then (if l.length ≤ k + 1 then 23 else if secondR s b = false then 22 else 0)
  else if badJump l k s = true then 23 else 0
theorem wide_no : jumpsR 24 = false := by decide +kernel
theorem one_is {l : List Ins} {k : Nat} {s : Ins} (hl : l[k]? = some s) (hf : s.Fits) : errM l (k, s) = oneR l k s (behindM l k) := by
  have hkn : k < l.length := (List.getElem?_eq_some_iff.1 hl).1
  unfold errM faultM oneR
  simp only
  have hi := opcode_is s.op hf.op
  unfold clsI at hi
  rw [hi]
  cases hI : isB (bits .and .u8 s.op 7) s.op
  · simp [faultE]
  have hr : regsB s = !badRegs s := by
    unfold regsB badRegs
    rw [Bool.eq_iff_iff]
    simp
  rw [hr]
  by_cases hR : badRegs s = true
  · rw [hR]
    simp [faultE]
  have hR : badRegs s = false := by simpa using hR
  rw [hR]
  have hfi := parts_fit s (behindM l k) hf.op (by unfold clsI; exact hI)
  unfold clsI at hfi
  rw [← hfi]
  cases hP : partsR s
  · simp [faultE]
  obtain ⟨j1, j2, _⟩ := jumps_is s.op hf.op (by unfold clsI; exact hI)
  by_cases h24 : s.op = 24
  · have ht : targetB s = false := by
      unfold targetB
      rw [← j1, h24]
      exact wide_no
    unfold staysB
    rw [ht, h24]
    by_cases hn : l.length ≤ k + 1
    · have hb : behindM l k = zeroIns := by
        unfold behindM
        rw [List.getD_eq_getElem?_getD, List.getElem?_eq_none (by omega)]
        rfl
      rw [hb]
      have hs : secondR s zeroIns = true := by
        unfold secondR zeroIns
        simp
      rw [hs]
      simp [faultE, hn, slotsN]
      omega
    · cases hS : secondR s (behindM l k) <;> simp [faultE, hn, slotsN] <;> omega
  · have h24' : (s.op != 24) = true := by simpa using h24
    rw [h24']
    have hst : staysB l.length (secsM l) k s = !badJump l k s := by
      have hsl : slotsN s.op = 1 := by unfold slotsN; rw [if_neg h24]
      have htb : targetB s = jumpsR s.op := j1.symm
      have hti : jumpsR s.op = true → targetI k s = jtR k s := by
        intro hj
        unfold targetI jtR
        rw [if_pos hj]
        by_cases h6 : s.op = 6
        · rw [if_pos h6, if_pos (j2.2 h6)]
        · rw [if_neg h6, if_neg (fun h => h6 (j2.1 h))]
          have : (s.op == 5 || condB s.op) = true := by
            rw [hj] at j1
            have h6' : (s.op == 6) = false := by simpa using h6
            rw [h6', Bool.false_or] at j1
            exact j1.symm
          rw [if_pos this]
      unfold staysB badJump
      rw [hsl, htb]
      cases hj : jumpsR s.op
      · simp; omega
      · rw [hti hj]
        by_cases h0 : 0 ≤ jtR k s
        · by_cases h1 : jtR k s < l.length
          · obtain ⟨t, ht⟩ := Int.eq_ofNat_of_zero_le h0
            rw [ht] at h1 ⊢
            rw [secs_first (by omega)]
            unfold firstAt
            have e1 : decide (k + 1 ≤ l.length) = true := by simp; omega
            have e2 : decide (0 ≤ ((t : Nat) : Int)) = true := by simp
            have e3 : decide (((t : Nat) : Int) < (l.length : Int)) = true := by simp; omega
            have e4 : decide (((t : Nat) : Int) < 0) = false := by simp
            have e5 : decide ((l.length : Int) ≤ ((t : Nat) : Int)) = false := by simp; omega
            rw [e1, e2, e3, e4, e5, Int.toNat_natCast]
            simp
          · simp [h1]
            try omega
        · simp [h0]
          try omega
    rw [hst]
    cases hB : badJump l k s <;> simp [faultE, h24]

theorem Later.cell_alloc {w0 : World} {p : Addr} {v : Value} (h : w0.cell? p = some v) (x : Later w0) (o : Obj) : (x.w.alloc o).cell? p = some v :=
  ((below1 x.w o).cell (World.block_lt_of_cell? _ p (Later.cell h x))).trans (Later.cell h x)
theorem Later.calls_alloc {P : Program} {f : FuncId} {args : Array Value} {w0 : World} {v : Value} (x : Later w0) (o : Obj) (h : ∀ w, Calls P f args w fun e w' => e = .returned v ∧ Below w.heap.size w w') :
    Calls P f args (x.w.alloc o) fun e w' => e = .returned v ∧ ∃ y : Later w0, w' = y.w :=
  (h _).mono fun e w' ⟨he, hb⟩ => ⟨he, ⟨w', x.below.trans ((below1c hb).mono x.below.size)⟩, rfl⟩
theorem Later.new_alloc {w : World} {o : Obj} (x : Later (w.alloc o)) (o' : Obj) : Below w.heap.size w (x.w.alloc o') := (below1c x.below).alloc (below1c x.below).size _
theorem second_no {s b : Ins} (h : (b.op == 0 && b.dst == 0 && b.src == 0 && b.off == 0) = false) : secondR s b = false := by unfold secondR; rw [h]; rfl
theorem second_yes {s b : Ins} (h : (b.op == 0 && b.dst == 0 && b.src == 0 && b.off == 0) = true) : secondR s b = !(s.src == 1 && b.imm != 0) := by unfold secondR; rw [h]; rfl
set_option maxRecDepth 100000 in
set_option maxHeartbeats 4000000 in
theorem one_wide (n cc B k g : Nat) (l : List Ins) (ad : Addr) (op dst src off imm : Int) (w : World) (res : Int) (h : Rd w B 5 (some ad) n (pcells l)) (hB : B ≤ w.heap.size) (hkn : k < n) (hn : n ≤ 4096)
    (c0 : w.cell? (ad.add (k * 5)) = some (.int .u8 op)) (c1 : w.cell? { block := (ad.add (k * 5)).block, off := (ad.add (k * 5)).off + 1 } = some (.int .u8 dst)) (c2 : w.cell? { block := (ad.add (k * 5)).block, off := (ad.add (k * 5)).off + 2 } = some (.int .u8 src))
    (c3 : w.cell? { block := (ad.add (k * 5)).block, off := (ad.add (k * 5)).off + 3 } = some (.int .i16 off)) (c4 : w.cell? { block := (ad.add (k * 5)).block, off := (ad.add (k * 5)).off + 4 } = some (.int .i32 imm))
    (hi : opcodeR op = true) (hf : (⟨op, dst, src, off, imm⟩ : Ins).Fits) (hll : l.length = n) (hr : badRegs ⟨op, dst, src, off, imm⟩ = false) (hp : partsR ⟨op, dst, src, off, imm⟩ = true) (h24 : op = 24) (hg : oneR l k ⟨op, dst, src, off, imm⟩ (behindM l k) = res) :
    Calls Try.prog 28 #[.slice (some ad) n cc, .slice (some ⟨g, 0, none⟩) n n, .int .i64 k] w fun e w' => e = .returned (.int .i64 res) ∧ Below w.heap.size w w' := by
  have hI := hide (fun d s f i w => opcode_any op d s f i w hf.op)
  have hW := hide (fun d s f i w => writes_any op d s f i w)
  have hP := hide (fun w => parts_ref op dst src off imm w hf.op)
  have hQ := hide (fun d s f i w => wide_any op d s f i w)
  have hJ := hide (fun w => jumps_ref op dst src off imm w k (by omega) hf.off hf.imm)
  have HR1 : Hid (res = if n ≤ k + 1 then 23 else if secondR ⟨op, dst, src, off, imm⟩ (behindM l k) = false then 22 else 0) := by
    show res = _
    rw [← hg]
    unfold oneR
    rw [if_neg (by simp [hi]), if_neg (by simp [hr]), if_neg (by simp [hp]), if_pos h24, hll]
  have hjw : jumpsR op = false := by rw [h24]; exact wide_no
  have hq : (op == 24) = true := by simpa using h24
  rw [hi] at hI
  rw [hp] at hP
  rw [hq] at hQ
  rw [hjw] at hJ
  generalize jtR k ⟨op, dst, src, off, imm⟩ = t at hJ
  have hn1 : (k : Int) + 1 ≤ 4097 := by omega
  unfold badRegs at hr
  simp only [Bool.or_eq_false_iff] at hr
  obtain ⟨⟨g1, g2⟩, g3⟩ := hr
  have hcase : (dst == 10) = false ∨ (dst = 10 ∧ wrB op = false) := by
    by_cases h : dst = 10
    · exact .inr ⟨h, by simpa [h] using g3⟩
    · exact .inl (by simpa using h)
  clear hi hp hg h24 hq hjw hf hll g3
  obtain ⟨b0, b1, b2, b3, b4⟩ := later5 (World.alloc_heap_new w (.cells #[.int .u8 op, .int .u8 dst, .int .u8 src, .int .i16 off, .int .i32 imm] 42))
  have b0a := Later.cell_alloc (show (w.alloc (.cells #[.int .u8 op, .int .u8 dst, .int .u8 src, .int .i16 off, .int .i32 imm] 42)).cell? ⟨w.heap.size, 0, none⟩ = some (.int .u8 op) by rw [blk_cell (World.alloc_heap_new w _)]; rfl)
  have b1a := Later.cell_alloc (show (w.alloc (.cells #[.int .u8 op, .int .u8 dst, .int .u8 src, .int .i16 off, .int .i32 imm] 42)).cell? ⟨w.heap.size, 1, none⟩ = some (.int .u8 dst) by rw [blk_cell (World.alloc_heap_new w _)]; rfl)
  have b2a := Later.cell_alloc (show (w.alloc (.cells #[.int .u8 op, .int .u8 dst, .int .u8 src, .int .i16 off, .int .i32 imm] 42)).cell? ⟨w.heap.size, 2, none⟩ = some (.int .u8 src) by rw [blk_cell (World.alloc_heap_new w _)]; rfl)
  have b3a := Later.cell_alloc (show (w.alloc (.cells #[.int .u8 op, .int .u8 dst, .int .u8 src, .int .i16 off, .int .i32 imm] 42)).cell? ⟨w.heap.size, 3, none⟩ = some (.int .i16 off) by rw [blk_cell (World.alloc_heap_new w _)]; rfl)
  have b4a := Later.cell_alloc (show (w.alloc (.cells #[.int .u8 op, .int .u8 dst, .int .u8 src, .int .i16 off, .int .i32 imm] 42)).cell? ⟨w.heap.size, 4, none⟩ = some (.int .i32 imm) by rw [blk_cell (World.alloc_heap_new w _)]; rfl)
  by_cases hk1 : n ≤ k + 1
  · have hres : res = 23 := HR1.out.trans (by rw [if_pos hk1])
    have hd : decide ((n : Int) ≤ (k : Int) + 1) = true := by simp; omega
    clear HR1 hk1
    subst hres
    rcases hcase with h10 | ⟨h10, hw⟩
    all_goals (try (rw [hw] at hW; clear hw; subst h10))
    all_goals
      go_enter Try.func28, Try.ntmps28
      go_wp2_with (first
        | (go_at_call 53; (with_reducible refine (Later.calls0 (hI.out _ _ _ _)).mono ?_); rintro e w1 ⟨rfl, x, rfl⟩)
        | (go_at_call 54; (with_reducible refine (Later.calls _ (hW.out _ _ _ _)).mono ?_); rintro e w1 ⟨rfl, x, rfl⟩)
        | (go_at_call 55; (with_reducible refine (Later.calls _ (hP.out)).mono ?_); rintro e w1 ⟨rfl, x, rfl⟩)
        | (go_at_call 52; (with_reducible refine (Later.calls _ (hQ.out _ _ _ _)).mono ?_); rintro e w1 ⟨rfl, x, rfl⟩))
      go_ret
      exact ⟨rfl, below1c (Later.below _)⟩
  · obtain ⟨ad', ⟨op', dst', src', off', imm'⟩, had, hl', e0, e1, e2, e3, e4⟩ := (h.below ((below1 w (.cells #[.int .u8 op, .int .u8 dst, .int .u8 src, .int .i16 off, .int .i32 imm] 42)).mono hB)).slot (show k + 1 < n by omega)
    cases had
    have hbm : behindM l k = ⟨op', dst', src', off', imm'⟩ := by
      unfold behindM
      rw [List.getD_eq_getElem?_getD, hl']
      rfl
    rw [hbm, if_neg hk1] at HR1
    have hd : decide ((n : Int) ≤ (k : Int) + 1) = false := by simp; omega
    have hkn1 : k + 1 < n := by omega
    simp only at e0 e1 e2 e3 e4
    have e4a := Later.cell_alloc e4
    replace e0 := Later.cell e0
    replace e1 := Later.cell e1
    replace e2 := Later.cell e2
    replace e3 := Later.cell e3
    replace e4 := Later.cell e4
    have hE : ∀ w, (binOp .neq 42 (.agg #[.int .u8 op', .int .u8 dst', .int .u8 src', .int .i16 off', .int .i32 0]) (.agg #[.int .u8 0, .int .u8 0, .int .u8 0, .int .i16 0, .int .i32 0])).run Try.prog w = .ok (.bool (!(op' == 0 && dst' == 0 && src' == 0 && off' == 0))) w := fun w => by
      have := neqIns w op' dst' src' off' 0 0 0 0 0 0
      simpa using this
    clear hbm hl'
    have hn' := @second_no ⟨op, dst, src, off, imm⟩ ⟨op', dst', src', off', imm'⟩
    have hy' := @second_yes ⟨op, dst, src, off, imm⟩ ⟨op', dst', src', off', imm'⟩
    simp only at hn' hy'
    generalize (op' == 0 && dst' == 0 && src' == 0 && off' == 0) = z at hE hn' hy'
    cases z
    · have hres : res = 22 := HR1.out.trans (by rw [if_pos (hn' rfl)])
      clear HR1 hn' hy'
      subst hres
      simp only [Bool.not_false] at hE
      rcases hcase with h10 | ⟨h10, hw⟩
      all_goals (try (rw [hw] at hW; clear hw; subst h10))
      all_goals
        go_enter Try.func28, Try.ntmps28
        go_wp2_with (first
          | (go_at_call 53; (with_reducible refine (Later.calls0 (hI.out _ _ _ _)).mono ?_); rintro e w1 ⟨rfl, x, rfl⟩)
          | (go_at_call 54; (with_reducible refine (Later.calls _ (hW.out _ _ _ _)).mono ?_); rintro e w1 ⟨rfl, x, rfl⟩)
          | (go_at_call 55; (with_reducible refine (Later.calls _ (hP.out)).mono ?_); rintro e w1 ⟨rfl, x, rfl⟩)
          | (go_at_call 52; (with_reducible refine (Later.calls _ (hQ.out _ _ _ _)).mono ?_); rintro e w1 ⟨rfl, x, rfl⟩)
          | (go_at_call 37; (first | (with_reducible refine (Later.calls _ (hJ.out)).mono ?_) | (with_reducible refine (Later.calls_alloc _ _ (hJ.out)).mono ?_)); rintro e w1 ⟨rfl, y, rfl⟩))
        go_ret
        exact ⟨rfl, by first | exact below1c (Later.below _) | exact Later.new_alloc _ _⟩
    · have hz := hy' rfl
      rw [hz] at HR1
      clear hz hn' hy'
      simp only [Bool.not_true] at hE
      by_cases hs1 : src = 1
      · by_cases hi0 : imm' = 0
        · have hres : res = 0 := HR1.out.trans (by simp [hs1, hi0])
          clear HR1
          subst hres hs1 hi0
          rcases hcase with h10 | ⟨h10, hw⟩
          all_goals (try (rw [hw] at hW; clear hw; subst h10))
          all_goals
            go_enter Try.func28, Try.ntmps28
            go_wp2_with (first
              | (go_at_call 53; (with_reducible refine (Later.calls0 (hI.out _ _ _ _)).mono ?_); rintro e w1 ⟨rfl, x, rfl⟩)
              | (go_at_call 54; (with_reducible refine (Later.calls _ (hW.out _ _ _ _)).mono ?_); rintro e w1 ⟨rfl, x, rfl⟩)
              | (go_at_call 55; (with_reducible refine (Later.calls _ (hP.out)).mono ?_); rintro e w1 ⟨rfl, x, rfl⟩)
              | (go_at_call 52; (with_reducible refine (Later.calls _ (hQ.out _ _ _ _)).mono ?_); rintro e w1 ⟨rfl, x, rfl⟩)
              | (go_at_call 37; (first | (with_reducible refine (Later.calls _ (hJ.out)).mono ?_) | (with_reducible refine (Later.calls_alloc _ _ (hJ.out)).mono ?_)); rintro e w1 ⟨rfl, y, rfl⟩))
            go_ret
            exact ⟨rfl, by first | exact below1c (Later.below _) | exact Later.new_alloc _ _⟩
        · have hi0' : (imm' != 0) = true := by simpa using hi0
          have hres : res = 22 := HR1.out.trans (by simp [hs1, hi0])
          clear HR1
          subst hres hs1
          rcases hcase with h10 | ⟨h10, hw⟩
          all_goals (try (rw [hw] at hW; clear hw; subst h10))
          all_goals
            go_enter Try.func28, Try.ntmps28
            go_wp2_with (first
              | (go_at_call 53; (with_reducible refine (Later.calls0 (hI.out _ _ _ _)).mono ?_); rintro e w1 ⟨rfl, x, rfl⟩)
              | (go_at_call 54; (with_reducible refine (Later.calls _ (hW.out _ _ _ _)).mono ?_); rintro e w1 ⟨rfl, x, rfl⟩)
              | (go_at_call 55; (with_reducible refine (Later.calls _ (hP.out)).mono ?_); rintro e w1 ⟨rfl, x, rfl⟩)
              | (go_at_call 52; (with_reducible refine (Later.calls _ (hQ.out _ _ _ _)).mono ?_); rintro e w1 ⟨rfl, x, rfl⟩)
              | (go_at_call 37; (first | (with_reducible refine (Later.calls _ (hJ.out)).mono ?_) | (with_reducible refine (Later.calls_alloc _ _ (hJ.out)).mono ?_)); rintro e w1 ⟨rfl, y, rfl⟩))
            go_ret
            exact ⟨rfl, by first | exact below1c (Later.below _) | exact Later.new_alloc _ _⟩
      · have hs1' : (src == 1) = false := by simpa using hs1
        have hres : res = 0 := HR1.out.trans (by simp [hs1])
        clear HR1
        subst hres
        rcases hcase with h10 | ⟨h10, hw⟩
        all_goals (try (rw [hw] at hW; clear hw; subst h10))
        all_goals
          go_enter Try.func28, Try.ntmps28
          go_wp2_with (first
            | (go_at_call 53; (with_reducible refine (Later.calls0 (hI.out _ _ _ _)).mono ?_); rintro e w1 ⟨rfl, x, rfl⟩)
            | (go_at_call 54; (with_reducible refine (Later.calls _ (hW.out _ _ _ _)).mono ?_); rintro e w1 ⟨rfl, x, rfl⟩)
            | (go_at_call 55; (with_reducible refine (Later.calls _ (hP.out)).mono ?_); rintro e w1 ⟨rfl, x, rfl⟩)
            | (go_at_call 52; (with_reducible refine (Later.calls _ (hQ.out _ _ _ _)).mono ?_); rintro e w1 ⟨rfl, x, rfl⟩)
            | (go_at_call 37; (first | (with_reducible refine (Later.calls _ (hJ.out)).mono ?_) | (with_reducible refine (Later.calls_alloc _ _ (hJ.out)).mono ?_)); rintro e w1 ⟨rfl, y, rfl⟩))
          go_ret
          exact ⟨rfl, by first | exact below1c (Later.below _) | exact Later.new_alloc _ _⟩
end Go.Proofs.Ytjnmfgkjeofneaa
