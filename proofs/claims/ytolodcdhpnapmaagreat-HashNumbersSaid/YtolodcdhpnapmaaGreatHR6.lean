/-
  New: an array, or the error.
-/
import Derived.Test.YtolodcdhpnapmaaGreatHR9
import Derived.Test.YtolodcdhpnapmaaGreatKI4
import Derived.Test.YtolodcdhpnapmaaGreatAP4
namespace Go.Proofs.YtolodcdhpnapmaaGreat
open Go.RowKit Go.Maps
set_option linter.unusedVariables false

/-- What New tells of a make. -/
def newE (k key val ent : Int) : Int := if specM k key val ent = 0 then (if k = 2 then 0 else 9) else specM k key val ent
theorem newE_yes {k key val ent : Int} (h : newE k key val ent = 0) : k = 2 ∧ specM k key val ent = 0 ∧ 1 ≤ key ∧ key ≤ 64 ∧ 1 ≤ val ∧ val ≤ 1024 ∧ 1 ≤ ent ∧ ent ≤ 1024 := by
  unfold newE at h
  by_cases hs : specM k key val ent = 0
  · rw [if_pos hs] at h
    by_cases hk : k = 2
    · subst hk
      have hs2 := hs
      unfold specM at hs2
      rw [show ptM 2 = some ⟨1, 64, 1, 1024, 1, 1024⟩ from rfl] at hs2
      simp only at hs2
      split at hs2
      · rename_i hh
        simp only [inI, Bool.and_eq_true, decide_eq_true_eq] at hh
        refine ⟨rfl, hs, by omega, by omega, by omega, by omega, by omega, by omega⟩
      · cases hs2
    · rw [if_neg hk] at h; cases h
  · rw [if_neg hs] at h; exact absurd h hs
/-- A place of noughts in block g. -/
def zHS (sz g : Nat) : HS := ⟨some ⟨g, 0, none⟩, sz, List.replicate sz 0, none⟩
def zHSs (s sz n : Nat) : List HS := (List.range n).map fun i => zHS sz (s + i)
theorem zHSs_at {s sz n i : Nat} {r : HS} (h : (zHSs s sz n)[i]? = some r) : i < n ∧ r = zHS sz (s + i) := by
  have hi : i < n := by
    have := (List.getElem?_eq_some_iff.1 h).1
    simpa [zHSs] using this
  refine ⟨hi, ?_⟩
  simp [zHSs, hi] at h
  exact h.symm
theorem zHSs_len (s sz n : Nat) : (zHSs s sz n).length = n := by simp [zHSs]
theorem zHSs_madeL (s sz n : Nat) : cellsH sz (zHSs s sz n) = madeL s sz n n := by
  refine pairs_ext (by rw [cellsH_len, zHSs_len]) (fun i hi => ?_)
  have hr : (zHSs s sz n)[i]? = some (zHS sz (s + i)) := by simp [zHSs, hi]
  obtain ⟨h1, h2⟩ := cellsH_at sz _ i _ hr
  rw [h1, h2, if_pos hi]
  exact ⟨rfl, rfl⟩
theorem zHSs_none (s sz n : Nat) : (∀ k, findK (zHSs s sz n) k = none) ∧ takenK (zHSs s sz n) = 0 := by
  refine ⟨fun k => findK_no fun i r hr he => ?_, ?_⟩
  · rw [(zHSs_at hr).2] at he; cases he
  · unfold takenK
    rw [List.countP_eq_zero]
    intro r hr
    obtain ⟨i, hi⟩ := List.mem_iff_getElem?.1 hr
    rw [(zHSs_at hi).2]
    simp [zHS]
theorem owns_new {W : World} {g sz : Nat} (h : W.heap[g]? = some (.cells (u8s (List.replicate sz 0)).toArray 5 (0, 0))) (hs : sz ≤ 1024) : W.ownsRow 0 5 1 (.slice (some ⟨g, 0, none⟩) sz sz) sz (u8s (List.replicate sz 0)) :=
  ⟨by simp [u8s], .inr ⟨g, sz, (u8s (List.replicate sz 0)).toArray, rfl, Nat.zero_le _, h, Nat.le_refl _, by unfold maxLen; omega, by simp [u8s], by simp [u8s]⟩⟩
theorem Hsh.made {W : World} {B b c m s ks sz n : Nat} (hb : W.heap[b]? = some (.cells #[.pointer (some ⟨b, 0, none⟩), .int .i64 ks, .map (some m), .int .i64 sz, .slice (some ⟨c, 0, none⟩) n n] 51 (0, 0)))
    (hc : W.heap[c]? = some (.cells (madeL s sz n n).toArray 84 (0, 0))) (hm : KMap Tryz.prog 9 3 W m 0 (fun _ => none)) (hr : ∀ i, i < n → W.heap[s + i]? = some (.cells (u8s (List.replicate sz 0)).toArray 5 (0, 0)))
    (hB : B ≤ b ∧ B ≤ c ∧ B ≤ m ∧ B ≤ s) (hks : 1 ≤ ks ∧ ks ≤ 64) (hs : 1 ≤ sz ∧ sz ≤ 1024) (hn : 1 ≤ n ∧ n ≤ 1024) : Hsh W B b c m ks sz (zHSs s sz n) := by
  have hl := zHSs_len s sz n
  obtain ⟨hf, ht⟩ := zHSs_none s sz n
  refine ⟨by rw [hl]; exact hb, by rw [zHSs_madeL]; exact hc, by rw [ht]; exact hm.congr (fun l _ => by cases l <;> simp [placeF, hf]), fun i r hi => ?_, ?_, fun i j r t hi hj hij g hg => ?_, fun i j r t k hi hj hk _ => ?_, fun i r k hi hk => ?_, hs, by rw [hl]; exact hn, hks⟩
  · obtain ⟨h1, rfl⟩ := zHSs_at hi
    exact owns_new (hr i h1) hs.2
  · rintro g (rfl | rfl | rfl | ⟨r, hr', hg⟩)
    · exact hB.1
    · exact hB.2.1
    · exact hB.2.2.1
    · obtain ⟨i, hi⟩ := List.mem_iff_getElem?.1 hr'
      obtain ⟨h1, rfl⟩ := zHSs_at hi
      have : s + i = g := by simpa [HS.sl, zHS, Value.ownBlock] using hg
      omega
  · obtain ⟨h1, rfl⟩ := zHSs_at hi
    obtain ⟨h2, rfl⟩ := zHSs_at hj
    intro hg2
    have e1 : s + i = g := by simpa [HS.sl, zHS, Value.ownBlock] using hg
    have e2 : s + j = g := by simpa [HS.sl, zHS, Value.ownBlock] using hg2
    omega
  · rw [(zHSs_at hi).2] at hk; cases hk
  · rw [(zHSs_at hi).2] at hk; cases hk
set_option maxRecDepth 100000 in
set_option maxHeartbeats 1000000 in
theorem newIn_no (k key val ent : Int) (Bp : Nat) (w : World) (hbox : w.heap[Bp]? = some (.cells #[.int .u8 k, .int .i64 key, .int .i64 val, .int .i64 ent] 25 (0, 0))) (hk : 0 ≤ k ∧ k < 256) (he : newE k key val ent ≠ 0) :
    Calls Tryz.prog 10 #[.pointer (some ⟨Bp, 0, none⟩)] w fun e w' => e = .panicked (panicOf (newE k key val ent)) ∧ Below w.heap.size w w' := by
  have HS := hide (spec_any k key val ent w hk)
  have HX := hide hbox
  have c0 := blk_cell hbox 0
  have c1 := blk_cell hbox 1
  have c2 := blk_cell hbox 2
  have c3 := blk_cell hbox 3
  simp at c0 c1 c2 c3
  have HE : Hid (newE k key val ent = if specM k key val ent = 0 then (if k = 2 then 0 else 9) else specM k key val ent) := hide rfl
  generalize newE k key val ent = ne at *
  generalize specM k key val ent = sm at *
  by_cases hs : sm = 0
  · subst hs
    have hk1 : k ≠ 2 := fun h => he (by rw [HE.out, if_pos rfl, if_pos h])
    obtain rfl : ne = 9 := by rw [HE.out, if_pos rfl, if_neg hk1]
    have hkb : (k == 2) = false := by simpa using hk1
    clear hbox he HE hk1
    go_enter Tryz.func10, Tryz.ntmps10
    go_wp2_with (first
      | (go_at_call 11; refine HS.out.mono ?_; rintro e w1 ⟨rfl, hb⟩; have HB := hide hb; have d0 := (hb.cell (p := ⟨Bp, 0, none⟩) (at_lt HX.out)).trans c0; clear hb)
      | (go_at_call 12; ((with_reducible refine (demand_yes _ _).mono ?_)); rintro e w' ⟨rfl, rfl⟩)
      | (go_at_call 12; ((with_reducible refine (demand_no _ _).mono ?_)); rintro e w' ⟨rfl, rfl⟩))
    exact ⟨rfl, rfl, HB.out⟩
  · obtain rfl : ne = sm := by rw [HE.out, if_neg hs]
    have hkb : (ne == 0) = false := by simpa using hs
    clear hbox he HE hs
    go_enter Tryz.func10, Tryz.ntmps10
    go_wp2_with (first
      | (go_at_call 11; refine HS.out.mono ?_; rintro e w1 ⟨rfl, hb⟩; have HB := hide hb; clear hb)
      | (go_at_call 12; ((with_reducible refine (demand_no _ _).mono ?_)); rintro e w' ⟨rfl, rfl⟩))
    exact ⟨rfl, rfl, HB.out⟩
def MapOk (S m : Nat) (W : World) : Prop := S ≤ m ∧ KMap Tryz.prog 9 3 W m 0 (fun _ => none)
def PlOk (S n sz c : Nat) (W : World) : Prop := ∃ s, S ≤ c ∧ c < s ∧ s + n ≤ W.heap.size ∧ W.heap[c]? = some (.cells (madeL s sz n n).toArray 84 (0, 0)) ∧ ∀ i, i < n → W.heap[s + i]? = some (.cells (u8s (List.replicate sz 0)).toArray 5 (0, 0))
theorem MapOk.below {S m : Nat} {W W' : World} (h : MapOk S m W) (hb : Below W.heap.size W W') : MapOk S m W' := ⟨h.1, h.2.same (hb.block m h.2.lt)⟩
theorem PlOk.below {S n sz c : Nat} {W W' : World} (h : PlOk S n sz c W) (hb : Below W.heap.size W W') : PlOk S n sz c W' := by
  obtain ⟨s, h1, h2, h3, h4, h5⟩ := h
  exact ⟨s, h1, h2, Nat.le_trans h3 hb.size, (hb.block c (at_lt h4)).trans h4, fun i hi => (hb.block _ (at_lt (h5 i hi))).trans (h5 i hi)⟩
def hvals (ks m sz c n : Nat) : Array Value := #[.pointer none, .int .i64 ks, .map (some m), .int .i64 sz, .slice (some ⟨c, 0, none⟩) n n]
/-- What lasts of the statement that makes a hash. -/
def TNew (Bp S n ks sz : Nat) (j : Nat) (σ : Nat → Value) (W : World) : Prop :=
  match j with
  | 0 => σ 0 = .pointer (some ⟨Bp, 1, none⟩)
  | 1 => σ 1 = .int .i64 ks
  | 2 => ∃ m, σ 2 = .map (some m) ∧ MapOk S m W
  | 3 => σ 3 = .pointer (some ⟨Bp, 3, none⟩)
  | 4 => σ 4 = .int .i64 n
  | 5 => σ 5 = .pointer (some ⟨Bp, 2, none⟩)
  | 6 => σ 6 = .int .i64 sz
  | 7 => ∃ c, σ 7 = .agg #[.int .i64 sz, .slice (some ⟨c, 0, none⟩) n n] ∧ PlOk S n sz c W
  | 8 => ∃ m c, σ 8 = .agg (hvals ks m sz c n) ∧ MapOk S m W ∧ PlOk S n sz c W
  | 9 => ∃ b m c, σ 9 = .pointer (some ⟨b, 0, none⟩) ∧ S ≤ b ∧ W.heap[b]? = some (.cells (hvals ks m sz c n) 51 (0, 0)) ∧ MapOk S m W ∧ PlOk S n sz c W
  | 10 => ∃ b m c, σ 10 = .pointer (some ⟨b, 0, none⟩) ∧ S ≤ b ∧ W.heap[b]? = some (.cells (hvals ks m sz c n) 51 (0, 0)) ∧ MapOk S m W ∧ PlOk S n sz c W
  | _ => True
theorem TNew.below {Bp S n ks sz j : Nat} {σ : Nat → Value} {W W' : World} (h : TNew Bp S n ks sz j σ W) (hb : Below W.heap.size W W') : TNew Bp S n ks sz j σ W' := by
  unfold TNew at h ⊢
  split at h
  all_goals try exact h
  · obtain ⟨m, h1, h2⟩ := h
    exact ⟨m, h1, h2.below hb⟩
  · obtain ⟨c, h1, h2⟩ := h
    exact ⟨c, h1, h2.below hb⟩
  · obtain ⟨m, c, h1, h2, h3⟩ := h
    exact ⟨m, c, h1, h2.below hb, h3.below hb⟩
  · obtain ⟨b, m, c, h1, h2, h3, h4, h5⟩ := h
    exact ⟨b, m, c, h1, h2, (hb.block b (at_lt h3)).trans h3, h4.below hb, h5.below hb⟩
  · obtain ⟨b, m, c, h1, h2, h3, h4, h5⟩ := h
    exact ⟨b, m, c, h1, h2, (hb.block b (at_lt h3)).trans h3, h4.below hb, h5.below hb⟩
/-- What New leaves of a right make. -/
def NewMade (n ks sz : Nat) (w : World) (e : Ending) (w' : World) : Prop := ∃ b c m s, e = .returned (.pointer (some ⟨b, 0, none⟩)) ∧ Hsh w' w.heap.size b c m ks sz (zHSs s sz n) ∧ Below w.heap.size w w'
set_option maxRecDepth 100000 in
set_option maxHeartbeats 1000000 in
theorem newIn_yes (n ks sz : Nat) (Bp : Nat) (w : World) (hbox : w.heap[Bp]? = some (.cells #[.int .u8 2, .int .i64 ks, .int .i64 sz, .int .i64 n] 25 (0, 0))) (hsp : specM 2 ks sz n = 0) (hks : 1 ≤ ks ∧ ks ≤ 64) (hs : 1 ≤ sz ∧ sz ≤ 1024) (hn : 1 ≤ n ∧ n ≤ 1024) :
    Calls Tryz.prog 10 #[.pointer (some ⟨Bp, 0, none⟩)] w (NewMade n ks sz w) := by
  have HS0 := spec_any 2 ks sz n w (by decide)
  rw [hsp] at HS0
  have HS := hide HS0
  have HX := hide hbox
  have c0 := blk_cell hbox 0
  have c1 := blk_cell hbox 1
  have c2 := blk_cell hbox 2
  have c3 := blk_cell hbox 3
  simp at c0 c1 c2 c3
  have hE : ∀ args (W : World), (callFunc 13 args).run Tryz.prog W = .ok (.enter 13 args) W := enters_of Tryz.func13 (by kernel_rfl) rfl
  have hmm := @run_makeMap Tryz.prog
  clear hbox hsp HS0
  go_enter Tryz.func10, Tryz.ntmps10
  go_wp2_with (first
    | (go_at_call 11; refine HS.out.mono ?_; rintro e w1 ⟨rfl, hb⟩; have HB := hide hb; have d0 := (hb.cell (p := ⟨Bp, 0, none⟩) (at_lt HX.out)).trans c0; clear hb)
    | (go_at_call 12; ((with_reducible refine (demand_yes _ _).mono ?_)); rintro e w' ⟨rfl, rfl⟩))
  rename_i K hK
  have HK := hide hK
  clear hK
  refine wp_tells (by kernel_rfl) (TNew Bp w1.heap.size n ks sz) (fun W => Below w1.heap.size w1 W) (by kernel_rfl) (by kernel_rfl) (by kernel_rfl) (by kernel_rfl) ?_ (Below.refl _ _).drew ?_ ?_
  · intro j oj σ σ' W hj h hs
    have hi : j < 11 := (Array.getElem?_eq_some_iff.1 hj).1
    have h0 := hs j (.inl rfl)
    have hi' : j = 0 ∨ j = 1 ∨ j = 2 ∨ j = 3 ∨ j = 4 ∨ j = 5 ∨ j = 6 ∨ j = 7 ∨ j = 8 ∨ j = 9 ∨ j = 10 := by omega
    rcases hi' with rfl | rfl | rfl | rfl | rfl | rfl | rfl | rfl | rfl | rfl | rfl
    all_goals (simp only [TNew] at h ⊢; rw [h0]; exact h)
  · intro i o ho L a W hi hG hold hT hh
    have hi2 : i < 11 := (Array.getElem?_eq_some_iff.1 ho).1
    have hi' : i = 0 ∨ i = 1 ∨ i = 2 ∨ i = 3 ∨ i = 4 ∨ i = 5 ∨ i = 6 ∨ i = 7 ∨ i = 8 ∨ i = 9 ∨ i = 10 := by omega
    have hk : ∀ {W'}, Below W.heap.size W W' → ∀ j, L j = true → TNew Bp w1.heap.size n ks sz j (sl _ a) W' := fun hb j hj => (hT j hj).below hb
    have hx := (hG.block _ (Nat.lt_of_lt_of_le (at_lt HX.out) HB.out.size)).trans ((HB.out.block _ (at_lt HX.out)).trans HX.out)
    have x1 := blk_cell hx 1
    have x2 := blk_cell hx 2
    have x3 := blk_cell hx 3
    simp at x1 x2 x3
    rcases hi' with rfl | rfl | rfl | rfl | rfl | rfl | rfl | rfl | rfl | rfl | rfl
    · cases ho
      refine step_told (.pointer (some ⟨Bp, 1, none⟩)) ?_ (by decide) hG hT rfl
      have e1 : a.eval (.tmp 0) = .pointer (some ⟨Bp, 0, none⟩) := hold 0 (by kernel_rfl)
      generalize a.eval = ev at e1 ⊢
      simp [execOp, go_sem, e1]
    · cases ho
      refine step_told (.int .i64 ks) ?_ (by decide) hG hT rfl
      have e1 : a.eval (.tmp 14) = .pointer (some ⟨Bp, 1, none⟩) := hT 0 (hh 0 rfl)
      generalize a.eval = ev at e1 ⊢
      simp [execOp, go_sem, e1, x1]
    · cases ho
      refine step_turned (.map (some W.heap.size)) (W.alloc (.map #[] 0)) ?_ (by decide) (hG.alloc hG.size _) (hk (below1 _ _)) ⟨_, rfl, hG.size, KMap.made W⟩
      generalize a.eval = ev
      simp [execOp, go_sem, hmm]
    · cases ho
      refine step_told (.pointer (some ⟨Bp, 3, none⟩)) ?_ (by decide) hG hT rfl
      have e1 : a.eval (.tmp 0) = .pointer (some ⟨Bp, 0, none⟩) := hold 0 (by kernel_rfl)
      generalize a.eval = ev at e1 ⊢
      simp [execOp, go_sem, e1]
    · cases ho
      refine step_told (.int .i64 n) ?_ (by decide) hG hT rfl
      have e1 : a.eval (.tmp 17) = .pointer (some ⟨Bp, 3, none⟩) := hT 3 (hh 3 rfl)
      generalize a.eval = ev at e1 ⊢
      simp [execOp, go_sem, e1, x3]
    · cases ho
      refine step_told (.pointer (some ⟨Bp, 2, none⟩)) ?_ (by decide) hG hT rfl
      have e1 : a.eval (.tmp 0) = .pointer (some ⟨Bp, 0, none⟩) := hold 0 (by kernel_rfl)
      generalize a.eval = ev at e1 ⊢
      simp [execOp, go_sem, e1]
    · cases ho
      refine step_told (.int .i64 sz) ?_ (by decide) hG hT rfl
      have e1 : a.eval (.tmp 19) = .pointer (some ⟨Bp, 2, none⟩) := hT 5 (hh 5 rfl)
      generalize a.eval = ev at e1 ⊢
      simp [execOp, go_sem, e1, x2]
    · cases ho
      have e1 : a.eval (.tmp 18) = .int .i64 n := hT 4 (hh 4 rfl)
      have e2 : a.eval (.tmp 20) = .int .i64 sz := hT 6 (hh 6 rfl)
      refine step_called (f := 13) (args := #[.int .i64 n, .int .i64 sz]) (R := fun v W' => ∃ c, v = .agg #[.int .i64 sz, .slice (some ⟨c, 0, none⟩) n n] ∧ PlOk w1.heap.size n sz c W' ∧ Below W.heap.size W W') ?_ (by decide) ((rowsOf_any n sz hn hs W).mono ?_) ?_
      · have ef : a.eval (.func 13) = .func (.func 13) #[] #[] := rfl
        generalize a.eval = ev at e1 e2 ef ⊢
        simp [execOp, go_sem, e1, e2, ef, hE]
      · rintro e W' ⟨c, s, rfl, h1, h2, h3, h4, h5, h6⟩
        exact ⟨_, rfl, c, rfl, ⟨s, Nat.le_trans hG.size h1, h2, h3, h4, h5⟩, h6⟩
      · rintro v W' ⟨c, rfl, h1, h2⟩
        exact ⟨hG.trans (h2.mono hG.size), hk h2, c, rfl, h1⟩
    · cases ho
      obtain ⟨m, e2, hm⟩ : ∃ m, a.eval (.tmp 16) = .map (some m) ∧ MapOk w1.heap.size m W := hT 2 (hh 2 rfl)
      obtain ⟨c, e3, hc⟩ : ∃ c, a.eval (.tmp 21) = .agg #[.int .i64 sz, .slice (some ⟨c, 0, none⟩) n n] ∧ PlOk w1.heap.size n sz c W := hT 7 (hh 7 rfl)
      have e1 : a.eval (.tmp 15) = .int .i64 ks := hT 1 (hh 1 rfl)
      refine step_told (.agg (hvals ks m sz c n)) ?_ (by decide) hG hT ⟨m, c, rfl, hm, hc⟩
      generalize a.eval = ev at e1 e2 e3 ⊢
      simp [execOp, go_sem, e1, e2, e3, hvals]
    · cases ho
      obtain ⟨m, c, e1, hm, hc⟩ : ∃ m c, a.eval (.tmp 22) = .agg (hvals ks m sz c n) ∧ MapOk w1.heap.size m W ∧ PlOk w1.heap.size n sz c W := hT 8 (hh 8 rfl)
      have hb1 := below1 W (.cells (hvals ks m sz c n) 51)
      refine step_turned (.pointer (some ⟨W.heap.size, 0, none⟩)) (W.alloc (.cells (hvals ks m sz c n) 51)) ?_ (by decide) (hG.alloc hG.size _) (hk hb1) ⟨_, m, c, rfl, hG.size, World.alloc_heap_new W _, hm.below hb1, hc.below hb1⟩
      generalize a.eval = ev at e1 ⊢
      simp [execOp, go_sem, e1, hvals]
    · cases ho
      obtain ⟨b, m, c, e1, g1, g2, g3, g4⟩ : ∃ b m c, a.eval (.tmp 23) = .pointer (some ⟨b, 0, none⟩) ∧ w1.heap.size ≤ b ∧ W.heap[b]? = some (.cells (hvals ks m sz c n) 51 (0, 0)) ∧ MapOk w1.heap.size m W ∧ PlOk w1.heap.size n sz c W := hT 9 (hh 9 rfl)
      refine step_told (.pointer (some ⟨b, 0, none⟩)) ?_ (by decide) hG hT ⟨b, m, c, rfl, g1, g2, g3, g4⟩
      generalize a.eval = ev at e1 ⊢
      simp [execOp, go_sem, e1]
  · intro a W hd hsz hold hT hG
    obtain ⟨b, m, c, e1, g1, g2, g3, g4⟩ : ∃ b m c, a.tmps.getD 3 undef = .pointer (some ⟨b, 0, none⟩) ∧ w1.heap.size ≤ b ∧ W.heap[b]? = some (.cells (hvals ks m sz c n) 51 (0, 0)) ∧ MapOk w1.heap.size m W ∧ PlOk w1.heap.size n sz c W := hT 10 (by decide)
    have HKq := HK.out
    refine HKq _ _ ?_
    clear HKq
    obtain ⟨f, hf, ha⟩ := act_puts [14, 15, 16, 17, 18, 19, 20, 21, 22, 23, 3] (fun t ht => by
      by_cases h : t ∈ [14, 15, 16, 17, 18, 19, 20, 21, 22, 23, 3]
      · exact h
      · exfalso
        simp [unwritten] at ht
        simp only [List.mem_cons, not_or] at h
        obtain ⟨h0, h1, h2, h3, h4, h5, h6, h7, h8, h9, h10, _⟩ := h
        exact absurd (ht (fun e => h0 e.symm) (fun e => h1 e.symm) (fun e => h2 e.symm) (fun e => h3 e.symm) (fun e => h4 e.symm) (fun e => h5 e.symm) (fun e => h6 e.symm) (fun e => h7 e.symm) (fun e => h8 e.symm) (fun e => h9 e.symm)) (fun e => h10 e.symm)) (fun t ht => by
      have hsz : t < 29 := by
        simp only [List.mem_cons, List.mem_nil_iff, or_false] at ht
        omega
      exact hsz) hd hsz hold
    rw [← hf 3] at e1
    have HG := hide hG
    have G2 := hide g2
    have G3 := hide g3
    have G4 := hide g4
    have cb0 : W.cell? ⟨b, 0, none⟩ = some (.pointer none) := (blk_cell g2 0).trans rfl
    have fb0 : W.frozen? ⟨b, 0, none⟩ = false := Joins.unfrozen_of_block g2 0
    subst ha
    clear hd hsz hold hT hf hG g2 g3 g4 hE hmm HK
    simp only [List.foldl_cons, List.foldl_nil, e1, Act.put, List.setIfInBounds_toArray, List.set_cons_succ, List.set_cons_zero]
    go_wp2
    have hfin : NewMade n ks sz w (.returned (.pointer (some ⟨b, 0, none⟩))) (W.setCell ⟨b, 0, none⟩ (.pointer (some ⟨b, 0, none⟩))) := by
      obtain ⟨q1, q2⟩ := G3.out
      obtain ⟨s, q3, q4, q5, q6, q7⟩ := G4.out
      have hne : ∀ g, (∀ o, W.heap[g]? = some o → ∀ cs, o ≠ .cells cs 51 (0, 0)) → g < W.heap.size → (W.setCell ⟨b, 0, none⟩ (.pointer (some ⟨b, 0, none⟩))).heap[g]? = W.heap[g]? := fun g hg hl => Below.heap_setCell _ ⟨b, 0, none⟩ _ g (fun e => by
        have : g = b := e
        subst this
        exact hg _ G2.out _ rfl)
      refine ⟨b, c, m, s, rfl, Hsh.made ?_ ((hne c (fun o ho cs e => ?_) (at_lt q6)).trans q6) (q2.same (hne m (fun o ho cs e => ?_) q2.lt)) (fun i hi => (hne _ (fun o ho cs e => ?_) (at_lt (q7 i hi))).trans (q7 i hi)) ⟨?_, ?_, ?_, ?_⟩ hks hs hn, ?_⟩
      · exact Joins.block_setCell (i := 0) G2.out _
      · rw [q6] at ho; cases ho; injection e with _ e; exact absurd e (by decide)
      · obtain ⟨es, cl, hm⟩ := q2.obj
        rw [hm] at ho; cases ho; cases e
      · rw [q7 i hi] at ho; cases ho; injection e with _ e; exact absurd e (by decide)
      · have := HB.out.size; omega
      · have := HB.out.size; omega
      · have := HB.out.size; omega
      · have := HB.out.size; omega
      · exact (HB.out.trans (HG.out.mono HB.out.size)).setCell (p := ⟨b, 0, none⟩) (by show w.heap.size ≤ b; have := HB.out.size; omega) _
    clear cb0 fb0
    go_ret
    exact hfin
/-- New's answers. -/
theorem new_no (k key val ent : Int) (w : World) (hk : 0 ≤ k ∧ k < 256) (he : newE k key val ent ≠ 0) :
    Calls Tryz.prog 4 #[.agg #[.int .u8 k, .int .i64 key, .int .i64 val, .int .i64 ent]] w fun e w' => e = .returned (.tuple #[.pointer none, .int .i64 (newE k key val ent)]) ∧ Below w.heap.size w w' := by
  have hmf : ∀ (fn : Fn) (first cap : Array Value) (w : World), (Instr.makeFunc fn first cap).run Tryz.prog w = .ok (.func fn first cap) w := fun _ _ _ _ => rfl
  have hF : ∀ (args : Array Value) (W : World), (callFunc 10 args).run Tryz.prog W = .ok (.enter 10 args) W := enters_of Tryz.func10 (by kernel_rfl) rfl
  have hx := World.alloc_heap_new w (.cells #[.int .u8 k, .int .i64 key, .int .i64 val, .int .i64 ent] 25)
  have HC := hide (caughtPtr_no 10 #[.pointer (some ⟨w.heap.size, 0, none⟩)] (newE k key val ent) (w.alloc (.cells #[.int .u8 k, .int .i64 key, .int .i64 val, .int .i64 ent] 25)) hF (fun W hb _ => newIn_no k key val ent _ W ((hb.block _ (at_lt hx)).trans hx) hk he))
  clear hx he hF
  generalize newE k key val ent = ne at *
  go_enter Tryz.func4, Tryz.ntmps4
  go_wp2_with (go_at_call 9; refine HC.out.mono ?_; rintro e w1 ⟨rfl, hb⟩; have HB := hide hb; clear hb)
  go_ret2
  exact ⟨rfl, (below1 w _).trans (HB.out.mono (by simp))⟩
/-- What New tells of a right make. -/
def NewTold (n ks sz : Nat) (w : World) (e : Ending) (w' : World) : Prop := ∃ b c m s, e = .returned (.tuple #[.pointer (some ⟨b, 0, none⟩), .int .i64 0]) ∧ Hsh w' w.heap.size b c m ks sz (zHSs s sz n) ∧ Below w.heap.size w w'
theorem Hsh.lower {w : World} {B B' b cb mb ks sz : Nat} {L : List HS} (h : Hsh w B b cb mb ks sz L) (hB : B' ≤ B) : Hsh w B' b cb mb ks sz L :=
  ⟨h.blk, h.cel, h.map, h.row, fun g hg => Nat.le_trans hB (h.low g hg), h.sep, h.once, h.keyl, h.big, h.many, h.kbig⟩
theorem new_yes (n ks sz : Nat) (w : World) (hsp : specM 2 ks sz n = 0) (hks : 1 ≤ ks ∧ ks ≤ 64) (hs : 1 ≤ sz ∧ sz ≤ 1024) (hn : 1 ≤ n ∧ n ≤ 1024) :
    Calls Tryz.prog 4 #[.agg #[.int .u8 2, .int .i64 ks, .int .i64 sz, .int .i64 n]] w (NewTold n ks sz w) := by
  have hmf : ∀ (fn : Fn) (first cap : Array Value) (w : World), (Instr.makeFunc fn first cap).run Tryz.prog w = .ok (.func fn first cap) w := fun _ _ _ _ => rfl
  have hF : ∀ (args : Array Value) (W : World), (callFunc 10 args).run Tryz.prog W = .ok (.enter 10 args) W := enters_of Tryz.func10 (by kernel_rfl) rfl
  have hx := World.alloc_heap_new w (.cells #[.int .u8 2, .int .i64 ks, .int .i64 sz, .int .i64 n] 25)
  have HC := hide (caughtPtr_ok 10 #[.pointer (some ⟨w.heap.size, 0, none⟩)] (w.alloc (.cells #[.int .u8 2, .int .i64 ks, .int .i64 sz, .int .i64 n] 25))
    (fun x w' => ∃ b c m s, x = some ⟨b, 0, none⟩ ∧ Hsh w' (w.heap.size + 4) b c m ks sz (zHSs s sz n)) hF (fun W hb hz => (newIn_yes n ks sz _ W ((hb.block _ (at_lt hx)).trans hx) hsp hks hs hn).mono (by
      rintro e w' ⟨b, c, m, s, rfl, ha, hb2⟩
      exact ⟨_, rfl, hb2, b, c, m, s, rfl, by rw [hz] at ha; simpa using ha⟩)))
  clear hx hsp hF
  go_enter Tryz.func4, Tryz.ntmps4
  go_wp2_with (go_at_call 9; refine HC.out.mono ?_; rintro e w1 ⟨x, rfl, hb, w0, ⟨b, c, m, s, rfl, ha⟩, hnr⟩; have HB := hide hb; have HA := hide ha; have HN := hide hnr; clear hb ha hnr)
  have hfin : NewTold n ks sz w (.returned (.tuple #[.pointer (some ⟨b, 0, none⟩), .int .i64 0])) w1 :=
    ⟨b, c, m, s, rfl, (HA.out.kept HN.out (fun g hg => .inr (by have := HA.out.low g hg; simp; omega))).lower (by omega), (below1 w _).trans (HB.out.mono (by simp))⟩
  go_ret2
  exact hfin
end Go.Proofs.YtolodcdhpnapmaaGreat
