/-
  New: an lru, or the error.
-/
import Derived.Test.YtihhbpadafgkoaaLUD
import Derived.Test.YtihhbpadafgkoaaUR5
import Derived.Test.YtihhbpadafgkoaaKI4
namespace Go.Proofs.Ytihhbpadafgkoaa
open Go.RowKit Go.Maps
set_option linter.unusedVariables false
set_option linter.unusedSimpArgs false

/-- What New tells of a make. -/
def newE (k key val ent : Int) : Int := if specM k key val ent = 0 then (if k = 3 then 0 else 9) else specM k key val ent
theorem newE_yes {k key val ent : Int} (h : newE k key val ent = 0) : k = 3 ∧ specM k key val ent = 0 ∧ 1 ≤ key ∧ key ≤ 64 ∧ 1 ≤ val ∧ val ≤ 1024 ∧ 1 ≤ ent ∧ ent ≤ 1024 := by
  unfold newE at h
  by_cases hs : specM k key val ent = 0
  · rw [if_pos hs] at h
    by_cases hk : k = 3
    · subst hk
      have hs2 := hs
      unfold specM at hs2
      rw [show ptM 3 = some ⟨1, 64, 1, 1024, 1, 1024⟩ from rfl] at hs2
      simp only at hs2
      split at hs2
      · rename_i hh
        simp only [inI, Bool.and_eq_true, decide_eq_true_eq] at hh
        refine ⟨rfl, hs, by omega, by omega, by omega, by omega, by omega, by omega⟩
      · cases hs2
    · rw [if_neg hk] at h; cases h
  · rw [if_neg hs] at h; exact absurd h hs
/-- A place of noughts in block g. -/
def zHS (sz g : Nat) : HS := ⟨some ⟨g, 0, none⟩, sz, List.replicate sz 0, none⟩
def zHSs (s sz n : Nat) : List HS := (List.range n).map fun i => zHS sz (s + i)
theorem zHSs_at {s sz n i : Nat} {r : HS} (h : (zHSs s sz n)[i]? = some r) : i < n ∧ r = zHS sz (s + i) := by
  have hi : i < n := by
    have := (List.getElem?_eq_some_iff.1 h).1
    simpa [zHSs] using this
  refine ⟨hi, ?_⟩
  simp [zHSs, hi] at h
  exact h.symm
theorem zHSs_len (s sz n : Nat) : (zHSs s sz n).length = n := by simp [zHSs]
theorem zHSs_madeL (s sz n : Nat) : cellsH sz (zHSs s sz n) = madeL s sz n n := by
  refine pairs_ext (by rw [cellsH_len, zHSs_len]) (fun i hi => ?_)
  have hr : (zHSs s sz n)[i]? = some (zHS sz (s + i)) := by simp [zHSs, hi]
  obtain ⟨h1, h2⟩ := cellsH_at sz _ i _ hr
  rw [h1, h2, if_pos hi]
  exact ⟨rfl, rfl⟩
theorem zHSs_none (s sz n : Nat) : (∀ k, findK (zHSs s sz n) k = none) ∧ takenK (zHSs s sz n) = 0 := by
  refine ⟨fun k => findK_no fun i r hr he => ?_, ?_⟩
  · rw [(zHSs_at hr).2] at he; cases he
  · unfold takenK
    rw [List.countP_eq_zero]
    intro r hr
    obtain ⟨i, hi⟩ := List.mem_iff_getElem?.1 hr
    rw [(zHSs_at hi).2]
    simp [zHS]
theorem owns_new {W : World} {g sz : Nat} (h : W.heap[g]? = some (.cells (u8s (List.replicate sz 0)).toArray 5 (0, 0))) (hs : sz ≤ 1024) : W.ownsRow 0 5 1 (.slice (some ⟨g, 0, none⟩) sz sz) sz (u8s (List.replicate sz 0)) :=
  ⟨by simp [u8s], .inr ⟨g, sz, (u8s (List.replicate sz 0)).toArray, rfl, Nat.zero_le _, h, Nat.le_refl _, by unfold maxLen; omega, by simp [u8s], by simp [u8s]⟩⟩

set_option maxRecDepth 100000 in
theorem chainOf_any (w : World) : Calls Try.prog 31 #[] w fun en w' => ∃ e, en = .returned (.agg #[.pointer (some ⟨e, 0, none⟩)]) ∧ w.heap.size ≤ e ∧ LinkAt w' e [] 0 e e ∧ Below w.heap.size w w' := by
  go_enter Try.func31, Try.ntmps31
  go_wp2_with fail
  obtain ⟨q0, q1⟩ := two_boxes w (.cells #[.pointer (some ⟨w.heap.size + 1, 0, none⟩)] 56) (.cells #[encStr [], .int .i64 0, .pointer (some ⟨w.heap.size + 1, 0, none⟩), .pointer (some ⟨w.heap.size + 1, 0, none⟩)] 79)
  have hb := below2 w (.cells #[.pointer (some ⟨w.heap.size + 1, 0, none⟩)] 56) (.cells #[encStr [], .int .i64 0, .pointer (some ⟨w.heap.size + 1, 0, none⟩), .pointer (some ⟨w.heap.size + 1, 0, none⟩)] 79)
  have k0 := blk_cell q0 0
  show bodyPost _ _ _ _ _ ((w.alloc (.cells #[.pointer (some ⟨w.heap.size + 1, 0, none⟩)] 56)).alloc (.cells #[encStr [], .int .i64 0, .pointer (some ⟨w.heap.size + 1, 0, none⟩), .pointer (some ⟨w.heap.size + 1, 0, none⟩)] 79))
  generalize (w.alloc (.cells #[.pointer (some ⟨w.heap.size + 1, 0, none⟩)] 56)).alloc (.cells #[encStr [], .int .i64 0, .pointer (some ⟨w.heap.size + 1, 0, none⟩), .pointer (some ⟨w.heap.size + 1, 0, none⟩)] 79) = W at *
  have hfin : ∃ e, Ending.returned (.agg #[.pointer (some ⟨w.heap.size + 1, 0, none⟩)]) = .returned (.agg #[.pointer (some ⟨e, 0, none⟩)]) ∧ w.heap.size ≤ e ∧ LinkAt W e [] 0 e e ∧ Below w.heap.size w W := ⟨_, rfl, by omega, q1, hb⟩
  simp at k0
  exact bodyPost_ret (v := .agg #[.pointer (some ⟨w.heap.size + 1, 0, none⟩)]) (by simp [results, Try.results31, go_sem, k0]) rfl hfin
def MapOk (S m : Nat) (W : World) : Prop := S ≤ m ∧ GMap Try.prog ptrR 9 W m 0 (fun _ => none)
def PlOk (S n sz c : Nat) (W : World) : Prop := ∃ s, S ≤ c ∧ c < s ∧ s + n ≤ W.heap.size ∧ W.heap[c]? = some (.cells (madeL s sz n n).toArray 90 (0, 0)) ∧ ∀ i, i < n → W.heap[s + i]? = some (.cells (u8s (List.replicate sz 0)).toArray 5 (0, 0))
def ChOk (S e : Nat) (W : World) : Prop := S ≤ e ∧ LinkAt W e [] 0 e e
theorem MapOk.below {S m : Nat} {W W' : World} (h : MapOk S m W) (hb : Below W.heap.size W W') : MapOk S m W' := ⟨h.1, h.2.same (hb.block m h.2.lt)⟩
theorem PlOk.below {S n sz c : Nat} {W W' : World} (h : PlOk S n sz c W) (hb : Below W.heap.size W W') : PlOk S n sz c W' := by
  obtain ⟨s, h1, h2, h3, h4, h5⟩ := h
  exact ⟨s, h1, h2, Nat.le_trans h3 hb.size, (hb.block c (at_lt h4)).trans h4, fun i hi => (hb.block _ (at_lt (h5 i hi))).trans (h5 i hi)⟩
theorem ChOk.below {S e : Nat} {W W' : World} (h : ChOk S e W) (hb : Below W.heap.size W W') : ChOk S e W' := ⟨h.1, LinkAt.below h.2 hb⟩
def uvals (ks m e sz c n : Nat) : Array Value := #[.pointer none, .int .i64 ks, .map (some m), .pointer (some ⟨e, 0, none⟩), .int .i64 sz, .slice (some ⟨c, 0, none⟩) n n]
/-- What lasts of the statement that makes an lru. -/
def TNew (Bp S n ks sz : Nat) (j : Nat) (σ : Nat → Value) (W : World) : Prop :=
  match j with
  | 0 => σ 0 = .pointer (some ⟨Bp, 1, none⟩)
  | 1 => σ 1 = .int .i64 ks
  | 2 => ∃ m, σ 2 = .map (some m) ∧ MapOk S m W
  | 3 => ∃ e, σ 3 = .agg #[.pointer (some ⟨e, 0, none⟩)] ∧ ChOk S e W
  | 4 => σ 4 = .pointer (some ⟨Bp, 3, none⟩)
  | 5 => σ 5 = .int .i64 n
  | 6 => σ 6 = .pointer (some ⟨Bp, 2, none⟩)
  | 7 => σ 7 = .int .i64 sz
  | 8 => ∃ c, σ 8 = .agg #[.int .i64 sz, .slice (some ⟨c, 0, none⟩) n n] ∧ PlOk S n sz c W
  | 9 => ∃ m e c, σ 9 = .agg (uvals ks m e sz c n) ∧ MapOk S m W ∧ ChOk S e W ∧ PlOk S n sz c W
  | 10 => ∃ b m e c, σ 10 = .pointer (some ⟨b, 0, none⟩) ∧ S ≤ b ∧ W.heap[b]? = some (.cells (uvals ks m e sz c n) 61 (0, 0)) ∧ MapOk S m W ∧ ChOk S e W ∧ PlOk S n sz c W
  | 11 => ∃ b m e c, σ 11 = .pointer (some ⟨b, 0, none⟩) ∧ S ≤ b ∧ W.heap[b]? = some (.cells (uvals ks m e sz c n) 61 (0, 0)) ∧ MapOk S m W ∧ ChOk S e W ∧ PlOk S n sz c W
  | _ => True
theorem TNew.below {Bp S n ks sz j : Nat} {σ : Nat → Value} {W W' : World} (h : TNew Bp S n ks sz j σ W) (hb : Below W.heap.size W W') : TNew Bp S n ks sz j σ W' := by
  unfold TNew at h ⊢
  split at h
  all_goals try exact h
  · obtain ⟨m, h1, h2⟩ := h
    exact ⟨m, h1, h2.below hb⟩
  · obtain ⟨c, h1, h2⟩ := h
    exact ⟨c, h1, h2.below hb⟩
  · obtain ⟨c, h1, h2⟩ := h
    exact ⟨c, h1, h2.below hb⟩
  · obtain ⟨m, e, c, h1, h2, h3, h4⟩ := h
    exact ⟨m, e, c, h1, h2.below hb, h3.below hb, h4.below hb⟩
  · obtain ⟨b, m, e, c, h1, h2, h3, h4, h5, h6⟩ := h
    exact ⟨b, m, e, c, h1, h2, (hb.block b (at_lt h3)).trans h3, h4.below hb, h5.below hb, h6.below hb⟩
  · obtain ⟨b, m, e, c, h1, h2, h3, h4, h5, h6⟩ := h
    exact ⟨b, m, e, c, h1, h2, (hb.block b (at_lt h3)).trans h3, h4.below hb, h5.below hb, h6.below hb⟩
def GB (w1 : World) (_ : Nat → Bool) (W : World) : Prop := Below w1.heap.size w1 W
/-- What New tells of a right make. -/
def NewTold (n ks sz : Nat) (w : World) (en : Ending) (w' : World) : Prop := ∃ b m c e s, en = .returned (.tuple #[.pointer (some ⟨b, 0, none⟩), .int .i64 0]) ∧ Lru w' w.heap.size b m c e ks sz [] (zHSs s sz n) ∧ Below w.heap.size w w'
theorem Lru.made {W : World} {B b m c e s ks sz n : Nat} (hb : W.heap[b]? = some (.cells #[.pointer (some ⟨b, 0, none⟩), .int .i64 ks, .map (some m), .pointer (some ⟨e, 0, none⟩), .int .i64 sz, .slice (some ⟨c, 0, none⟩) n n] 61 (0, 0)))
    (hc : W.heap[c]? = some (.cells (madeL s sz n n).toArray 90 (0, 0))) (hm : GMap Try.prog ptrR 9 W m 0 (fun _ => none)) (he : LinkAt W e [] 0 e e) (hr : ∀ i, i < n → W.heap[s + i]? = some (.cells (u8s (List.replicate sz 0)).toArray 5 (0, 0)))
    (hB : B ≤ b ∧ B ≤ m ∧ B ≤ c ∧ B ≤ e ∧ B ≤ s) (hks : 1 ≤ ks ∧ ks ≤ 64) (hs : 1 ≤ sz ∧ sz ≤ 1024) (hn : 1 ≤ n ∧ n ≤ 1024) : Lru W B b m c e ks sz [] (zHSs s sz n) := by
  have hl := zHSs_len s sz n
  obtain ⟨hf, ht⟩ := zHSs_none s sz n
  refine ⟨by rw [hl]; exact hb, hm.congr (fun l _ => by cases l <;> rfl), ⟨fun _ => e, fun _ => e, Lnk.none e _ _ rfl rfl, by simp, he, nofun⟩, by rw [zHSs_madeL]; exact hc, fun i r hi => ?_, ?_, fun i j r t hi hj hij g hg => ?_, ⟨by simp, nofun, fun i r k hi hk => ?_, ht, fun i r k hi hk => ?_⟩, hs, by rw [hl]; exact hn, hks⟩
  · obtain ⟨h1, rfl⟩ := zHSs_at hi
    exact owns_new (hr i h1) hs.2
  · rintro g (rfl | rfl | rfl | hg | ⟨r, hr', hg⟩)
    · exact hB.1
    · exact hB.2.1
    · exact hB.2.2.1
    · simp at hg; rw [hg]; exact hB.2.2.2.1
    · obtain ⟨i, hi⟩ := List.mem_iff_getElem?.1 hr'
      obtain ⟨h1, rfl⟩ := zHSs_at hi
      have : s + i = g := by simpa [HS.sl, zHS, Value.ownBlock] using hg
      omega
  · obtain ⟨h1, rfl⟩ := zHSs_at hi
    obtain ⟨h2, rfl⟩ := zHSs_at hj
    intro hg2
    have e1 : s + i = g := by simpa [HS.sl, zHS, Value.ownBlock] using hg
    have e2 : s + j = g := by simpa [HS.sl, zHS, Value.ownBlock] using hg2
    omega
  · rw [(zHSs_at hi).2] at hk; cases hk
  · rw [(zHSs_at hi).2] at hk; cases hk
set_option maxRecDepth 100000 in
set_option maxHeartbeats 1000000 in
theorem new_no (k key val ent : Int) (w : World) (hk : 0 ≤ k ∧ k < 256) (he : newE k key val ent ≠ 0) :
    Calls Try.prog 9 #[.agg #[.int .u8 k, .int .i64 key, .int .i64 val, .int .i64 ent]] w fun e w' => e = .returned (.tuple #[.pointer none, .int .i64 (newE k key val ent)]) ∧ Below w.heap.size w w' := by
  have hb1 := below1 w (.cells #[.int .u8 k, .int .i64 key, .int .i64 val, .int .i64 ent] 24)
  have hx := World.alloc_heap_new w (.cells #[.int .u8 k, .int .i64 key, .int .i64 val, .int .i64 ent] 24)
  have HS := hide (spec_any k key val ent (w.alloc (.cells #[.int .u8 k, .int .i64 key, .int .i64 val, .int .i64 ent] 24)) hk)
  have HX := hide hx
  have HB1 := hide hb1
  have HE : Hid (newE k key val ent = if specM k key val ent = 0 then (if k = 3 then 0 else 9) else specM k key val ent) := hide rfl
  clear hx hb1
  generalize newE k key val ent = ne at *
  generalize specM k key val ent = sm at *
  by_cases hs : sm = 0
  · subst hs
    have hk1 : k ≠ 3 := fun h => he (by rw [HE.out, if_pos rfl, if_pos h])
    obtain rfl : ne = 9 := by rw [HE.out, if_pos rfl, if_neg hk1]
    have hkb : (k == 3) = false := by simpa using hk1
    have hkb2 : (k != 3) = true := by simpa using hk1
    clear he HE hk1
    go_enter Try.func9, Try.ntmps9
    go_wp2_with (go_at_call 30; refine HS.out.mono ?_; rintro e w1 ⟨rfl, hb⟩; have HB := hide (HB1.out.trans (hb.mono HB1.out.size)); have d0 : w1.cell? ⟨w.heap.size, 0, none⟩ = some (.int .u8 k) := (blk_cell ((hb.block _ (at_lt HX.out)).trans HX.out) 0).trans rfl; clear hb)
    go_ret2
    exact ⟨rfl, HB.out⟩
  · obtain rfl : ne = sm := by rw [HE.out, if_neg hs]
    have hkb : (ne == 0) = false := by simpa using hs
    have hkb2 : (ne != 0) = true := by simpa using hs
    clear he HE hs
    go_enter Try.func9, Try.ntmps9
    go_wp2_with (go_at_call 30; refine HS.out.mono ?_; rintro e w1 ⟨rfl, hb⟩; have HB := hide (HB1.out.trans (hb.mono HB1.out.size)); clear hb)
    go_ret2
    exact ⟨rfl, HB.out⟩
set_option maxRecDepth 100000 in
set_option maxHeartbeats 2000000 in
theorem new_yes (n ks sz : Nat) (w : World) (hsp : specM 3 ks sz n = 0) (hks : 1 ≤ ks ∧ ks ≤ 64) (hs : 1 ≤ sz ∧ sz ≤ 1024) (hn : 1 ≤ n ∧ n ≤ 1024) :
    Calls Try.prog 9 #[.agg #[.int .u8 3, .int .i64 ks, .int .i64 sz, .int .i64 n]] w (NewTold n ks sz w) := by
  have hb1 := below1 w (.cells #[.int .u8 3, .int .i64 ks, .int .i64 sz, .int .i64 n] 24)
  have hx := World.alloc_heap_new w (.cells #[.int .u8 3, .int .i64 ks, .int .i64 sz, .int .i64 n] 24)
  have HS0 := spec_any 3 ks sz n (w.alloc (.cells #[.int .u8 3, .int .i64 ks, .int .i64 sz, .int .i64 n] 24)) (by decide)
  rw [hsp] at HS0
  have HS := hide HS0
  have HX0 := hide hx
  have HB1 := hide hb1
  have hE : ∀ args (W : World), (callFunc 32 args).run Try.prog W = .ok (.enter 32 args) W := enters_of Try.func32 (by kernel_rfl) rfl
  have hEC : ∀ args (W : World), (callFunc 31 args).run Try.prog W = .ok (.enter 31 args) W := enters_of Try.func31 (by kernel_rfl) rfl
  have hmm := @run_makeMap Try.prog
  clear hx hb1 hsp HS0
  go_enter Try.func9, Try.ntmps9
  go_wp2_with (go_at_call 30; refine stop_here ?_)
  show Hid _
  refine start_here ?_
  refine HS.out.mono ?_
  rintro e w1 ⟨rfl, hb⟩
  generalize w.alloc (.cells #[.int .u8 3, .int .i64 ks, .int .i64 sz, .int .i64 n] 24) = w0 at *
  have HB := hide hb
  have HX := HX0
  have d0 : w1.cell? ⟨w.heap.size, 0, none⟩ = some (.int .u8 3) := (blk_cell ((hb.block _ (at_lt HX.out)).trans HX.out) 0).trans rfl
  obtain ⟨Bp, hBp⟩ : ∃ Bp, Bp = w.heap.size := ⟨_, rfl⟩
  rw [← hBp] at HX d0 ⊢
  clear hb hBp HX0
  go_wp2_with fail
  rename_i K hK
  refine wp_tells4 (by kernel_rfl) (TNew Bp w1.heap.size n ks sz) (GB w1) (by kernel_rfl) (by kernel_rfl) (by kernel_rfl) (by kernel_rfl) ?_ ?_ ?_ ?_
  · intro q oj σ σ' W hj h hs
    have hi : q < 12 := (Array.getElem?_eq_some_iff.1 hj).1
    have h0 := hs q (.inl rfl)
    have hi' : q = 0 ∨ q = 1 ∨ q = 2 ∨ q = 3 ∨ q = 4 ∨ q = 5 ∨ q = 6 ∨ q = 7 ∨ q = 8 ∨ q = 9 ∨ q = 10 ∨ q = 11 := by omega
    rcases hi' with rfl | rfl | rfl | rfl | rfl | rfl | rfl | rfl | rfl | rfl | rfl | rfl
    all_goals (simp only [TNew] at h ⊢; rw [h0]; exact h)
  · exact (Below.refl _ _).drew
  · intro q o ho L a W hi hG hold hT hcl hh
    have hi2 : q < 12 := (Array.getElem?_eq_some_iff.1 ho).1
    have hi' : q = 0 ∨ q = 1 ∨ q = 2 ∨ q = 3 ∨ q = 4 ∨ q = 5 ∨ q = 6 ∨ q = 7 ∨ q = 8 ∨ q = 9 ∨ q = 10 ∨ q = 11 := by omega
    have hG0 : Below w1.heap.size w1 W := hG
    have hk : ∀ {W'}, Below W.heap.size W W' → ∀ j, L j = true → TNew Bp w1.heap.size n ks sz j (sl _ a) W' := fun hb j hj => (hT j hj).below hb
    rcases hi' with rfl | rfl | rfl | rfl | rfl | rfl | rfl | rfl | rfl | rfl | rfl | rfl
    · cases ho
      refine step4_told (.pointer (some ⟨Bp, 1, none⟩)) ?_ (by decide) hG hT rfl
      have e0 : a.eval (.tmp 1) = .pointer (some ⟨Bp, 0, none⟩) := hold 1 (unyet_of (by kernel_rfl))
      generalize a.eval = ev at e0 ⊢
      simp [execOp, go_sem, e0]
    · cases ho
      have hx := (hG0.block _ (Nat.lt_of_lt_of_le (at_lt HX.out) HB.out.size)).trans ((HB.out.block _ (at_lt HX.out)).trans HX.out)
      have x1 : W.cell? ⟨Bp, 1, none⟩ = some (.int .i64 ks) := (blk_cell hx 1).trans rfl
      refine step4_told (.int .i64 ks) ?_ (by decide) hG hT rfl
      have e0 : a.eval (.tmp 14) = .pointer (some ⟨Bp, 1, none⟩) := hT 0 (hh 0 rfl)
      generalize a.eval = ev at e0 ⊢
      simp [execOp, go_sem, e0, x1]
    · cases ho
      refine step4_turned (.map (some W.heap.size)) (W.alloc (.map #[] 0)) ?_ (by decide) (show GB w1 _ _ from hG0.alloc hG0.size _) (hk (below1 _ _)) ⟨_, rfl, hG0.size, GMap.made W⟩
      generalize a.eval = ev
      simp [execOp, go_sem, hmm]
    · cases ho
      refine step4_called (R := fun v W' => ∃ e, v = .agg #[.pointer (some ⟨e, 0, none⟩)] ∧ ChOk w1.heap.size e W' ∧ Below W.heap.size W W') ?_ (by decide) ((chainOf_any W).mono ?_) ?_
      · have ef : a.eval (.func 31) = .func (.func 31) #[] #[] := rfl
        generalize a.eval = ev at ef ⊢
        simp [execOp, go_sem, ef, hEC]
      · rintro en W' ⟨e, rfl, h1, h2, h3⟩
        exact ⟨_, rfl, e, rfl, ⟨Nat.le_trans hG0.size h1, h2⟩, h3⟩
      · rintro v W' ⟨e, rfl, h1, h2⟩
        exact ⟨hG0.trans (h2.mono hG0.size), hk h2, e, rfl, h1⟩
    · cases ho
      refine step4_told (.pointer (some ⟨Bp, 3, none⟩)) ?_ (by decide) hG hT rfl
      have e0 : a.eval (.tmp 1) = .pointer (some ⟨Bp, 0, none⟩) := hold 1 (unyet_of (by kernel_rfl))
      generalize a.eval = ev at e0 ⊢
      simp [execOp, go_sem, e0]
    · cases ho
      have hx := (hG0.block _ (Nat.lt_of_lt_of_le (at_lt HX.out) HB.out.size)).trans ((HB.out.block _ (at_lt HX.out)).trans HX.out)
      have x3 : W.cell? ⟨Bp, 3, none⟩ = some (.int .i64 n) := (blk_cell hx 3).trans rfl
      refine step4_told (.int .i64 n) ?_ (by decide) hG hT rfl
      have e0 : a.eval (.tmp 18) = .pointer (some ⟨Bp, 3, none⟩) := hT 4 (hh 4 rfl)
      generalize a.eval = ev at e0 ⊢
      simp [execOp, go_sem, e0, x3]
    · cases ho
      refine step4_told (.pointer (some ⟨Bp, 2, none⟩)) ?_ (by decide) hG hT rfl
      have e0 : a.eval (.tmp 1) = .pointer (some ⟨Bp, 0, none⟩) := hold 1 (unyet_of (by kernel_rfl))
      generalize a.eval = ev at e0 ⊢
      simp [execOp, go_sem, e0]
    · cases ho
      have hx := (hG0.block _ (Nat.lt_of_lt_of_le (at_lt HX.out) HB.out.size)).trans ((HB.out.block _ (at_lt HX.out)).trans HX.out)
      have x2 : W.cell? ⟨Bp, 2, none⟩ = some (.int .i64 sz) := (blk_cell hx 2).trans rfl
      refine step4_told (.int .i64 sz) ?_ (by decide) hG hT rfl
      have e0 : a.eval (.tmp 20) = .pointer (some ⟨Bp, 2, none⟩) := hT 6 (hh 6 rfl)
      generalize a.eval = ev at e0 ⊢
      simp [execOp, go_sem, e0, x2]
    · cases ho
      have e1 : a.eval (.tmp 19) = .int .i64 n := hT 5 (hh 5 rfl)
      have e2 : a.eval (.tmp 21) = .int .i64 sz := hT 7 (hh 7 rfl)
      refine step4_called (f := 32) (args := #[.int .i64 n, .int .i64 sz]) (R := fun v W' => ∃ c, v = .agg #[.int .i64 sz, .slice (some ⟨c, 0, none⟩) n n] ∧ PlOk w1.heap.size n sz c W' ∧ Below W.heap.size W W') ?_ (by decide) ((rowsOf_any n sz hn hs W).mono ?_) ?_
      · have ef : a.eval (.func 32) = .func (.func 32) #[] #[] := rfl
        generalize a.eval = ev at e1 e2 ef ⊢
        simp [execOp, go_sem, e1, e2, ef, hE]
      · rintro e W' ⟨c, s, rfl, h1, h2, h3, h4, h5, h6⟩
        exact ⟨_, rfl, c, rfl, ⟨s, Nat.le_trans hG0.size h1, h2, h3, h4, h5⟩, h6⟩
      · rintro v W' ⟨c, rfl, h1, h2⟩
        exact ⟨hG0.trans (h2.mono hG0.size), hk h2, c, rfl, h1⟩
    · cases ho
      have e0 : a.eval (.tmp 15) = .int .i64 ks := hT 1 (hh 1 rfl)
      obtain ⟨m, e1, h1⟩ : ∃ m, a.eval (.tmp 16) = .map (some m) ∧ MapOk w1.heap.size m W := hT 2 (hh 2 rfl)
      obtain ⟨e, e2, h2⟩ : ∃ e, a.eval (.tmp 17) = .agg #[.pointer (some ⟨e, 0, none⟩)] ∧ ChOk w1.heap.size e W := hT 3 (hh 3 rfl)
      obtain ⟨c, e3, h3⟩ : ∃ c, a.eval (.tmp 22) = .agg #[.int .i64 sz, .slice (some ⟨c, 0, none⟩) n n] ∧ PlOk w1.heap.size n sz c W := hT 8 (hh 8 rfl)
      refine step4_told (.agg (uvals ks m e sz c n)) ?_ (by decide) hG hT ⟨m, e, c, rfl, h1, h2, h3⟩
      generalize a.eval = ev at e0 e1 e2 e3 ⊢
      simp [execOp, go_sem, e0, e1, e2, e3, uvals]
    · cases ho
      obtain ⟨m, e, c, e1, h1, h2, h3⟩ : ∃ m e c, a.eval (.tmp 23) = .agg (uvals ks m e sz c n) ∧ MapOk w1.heap.size m W ∧ ChOk w1.heap.size e W ∧ PlOk w1.heap.size n sz c W := hT 9 (hh 9 rfl)
      have hb2 := below1 W (.cells (uvals ks m e sz c n) 61)
      refine step4_turned (.pointer (some ⟨W.heap.size, 0, none⟩)) (W.alloc (.cells (uvals ks m e sz c n) 61)) ?_ (by decide) (show GB w1 _ _ from hG0.alloc hG0.size _) (hk hb2) ⟨W.heap.size, m, e, c, rfl, hG0.size, World.alloc_heap_new W _, h1.below hb2, h2.below hb2, h3.below hb2⟩
      generalize a.eval = ev at e1 ⊢
      simp [execOp, go_sem, e1, uvals]
    · cases ho
      obtain ⟨b, m, e, c, e1, h1⟩ : ∃ b m e c, a.eval (.tmp 24) = .pointer (some ⟨b, 0, none⟩) ∧ w1.heap.size ≤ b ∧ W.heap[b]? = some (.cells (uvals ks m e sz c n) 61 (0, 0)) ∧ MapOk w1.heap.size m W ∧ ChOk w1.heap.size e W ∧ PlOk w1.heap.size n sz c W := hT 10 (hh 10 rfl)
      refine step4_told (.pointer (some ⟨b, 0, none⟩)) ?_ (by decide) hG hT ⟨b, m, e, c, rfl, h1⟩
      generalize a.eval = ev at e1 ⊢
      simp [execOp, go_sem, e1]
  · intro a W hd hsz hold hT hG
    obtain ⟨b, m, e, c, e5, h1, h2, h3, h4, h5⟩ : ∃ b m e c, a.tmps.getD 5 undef = .pointer (some ⟨b, 0, none⟩) ∧ w1.heap.size ≤ b ∧ W.heap[b]? = some (.cells (uvals ks m e sz c n) 61 (0, 0)) ∧ MapOk w1.heap.size m W ∧ ChOk w1.heap.size e W ∧ PlOk w1.heap.size n sz c W := hT 11 (by decide)
    obtain ⟨f, hf, ha⟩ := act_puts [14, 15, 16, 17, 18, 19, 20, 21, 22, 23, 24, 5] (fun t ht => by
      by_cases h : t ∈ [14, 15, 16, 17, 18, 19, 20, 21, 22, 23, 24, 5]
      · exact h
      · exfalso
        simp [unwritten] at ht
        simp only [List.mem_cons, not_or] at h
        obtain ⟨h0, h1, h2, h3, h4, h5, h6, h7, h8, h9, h10, h11, _⟩ := h
        exact absurd (ht (fun e => h0 e.symm) (fun e => h1 e.symm) (fun e => h2 e.symm) (fun e => h3 e.symm) (fun e => h4 e.symm) (fun e => h5 e.symm) (fun e => h6 e.symm) (fun e => h7 e.symm) (fun e => h8 e.symm) (fun e => h9 e.symm) (fun e => h10 e.symm)) (fun e => h11 e.symm)) (fun t ht => by
      have hsz : t < 30 := by
        simp only [List.mem_cons, List.mem_nil_iff, or_false] at ht
        omega
      exact hsz) hd hsz hold
    rw [← hf 5] at e5
    have cb0 : W.cell? ⟨b, 0, none⟩ = some (.pointer none) := (blk_cell h2 0).trans rfl
    have fb0 := Joins.unfrozen_of_block h2 0
    have H1 := hide h1
    have H2 := hide h2
    have H3 := hide h3
    have H4 := hide h4
    have H5 := hide h5
    have HG : Hid (Below w1.heap.size w1 W) := hide hG
    subst ha
    clear hd hsz hold hT hf hG h1 h2 h3 h4 h5 d0
    show K _ _
    refine hK _ _ ?_
    clear hK
    simp only [List.foldl_cons, List.foldl_nil, e5]
    obtain ⟨u14, hu14⟩ : ∃ u, u = f 14 := ⟨_, rfl⟩
    obtain ⟨u15, hu15⟩ : ∃ u, u = f 15 := ⟨_, rfl⟩
    obtain ⟨u16, hu16⟩ : ∃ u, u = f 16 := ⟨_, rfl⟩
    obtain ⟨u17, hu17⟩ : ∃ u, u = f 17 := ⟨_, rfl⟩
    obtain ⟨u18, hu18⟩ : ∃ u, u = f 18 := ⟨_, rfl⟩
    obtain ⟨u19, hu19⟩ : ∃ u, u = f 19 := ⟨_, rfl⟩
    obtain ⟨u20, hu20⟩ : ∃ u, u = f 20 := ⟨_, rfl⟩
    obtain ⟨u21, hu21⟩ : ∃ u, u = f 21 := ⟨_, rfl⟩
    obtain ⟨u22, hu22⟩ : ∃ u, u = f 22 := ⟨_, rfl⟩
    obtain ⟨u23, hu23⟩ : ∃ u, u = f 23 := ⟨_, rfl⟩
    obtain ⟨u24, hu24⟩ : ∃ u, u = f 24 := ⟨_, rfl⟩
    rw [← hu14, ← hu15, ← hu16, ← hu17, ← hu18, ← hu19, ← hu20, ← hu21, ← hu22, ← hu23, ← hu24]
    clear hu14 hu15 hu16 hu17 hu18 hu19 hu20 hu21 hu22 hu23 hu24 e5
    go_simp
    go_wp2
    have hfin : NewTold n ks sz w (.returned (.tuple #[.pointer (some ⟨b, 0, none⟩), .int .i64 0])) (W.setCell ⟨b, 0, none⟩ (.pointer (some ⟨b, 0, none⟩))) := by
      have hbs := H1.out
      have hw1 := HB.out.size
      have hw0 := HB1.out.size
      obtain ⟨q1, q2⟩ := H3.out
      obtain ⟨r1, r2⟩ := H4.out
      obtain ⟨s, p1, p2, p3, p4, p5⟩ := H5.out
      have hne : ∀ g o, W.heap[g]? = some o → (∀ cs : Array Value, o ≠ Obj.cells cs 61 (0, 0)) → (W.setCell ⟨b, 0, none⟩ (.pointer (some ⟨b, 0, none⟩))).heap[g]? = W.heap[g]? := fun g o ho hh => set_off (fun e2 => by
        rw [e2, H2.out] at ho
        injection ho with ho
        exact hh _ ho.symm)
      refine ⟨b, m, c, e, s, rfl, Lru.made (set_at_heap H2.out 0 _) ((hne c _ p4 (fun cs e2 => by injection e2 with _ e2; exact absurd e2 (by decide))).trans p4) (q2.same ?_) (LinkAt.same r2 (hne e _ r2 (fun cs e2 => by injection e2 with _ e2; exact absurd e2 (by decide)))) (fun i hi => (hne _ _ (p5 i hi) (fun cs e2 => by injection e2 with _ e2; exact absurd e2 (by decide))).trans (p5 i hi)) ⟨by omega, by omega, by omega, by omega, by omega⟩ hks hs hn, ?_⟩
      · obtain ⟨es, cl, hm⟩ := q2.obj
        exact hne m _ hm (fun cs e2 => by cases e2)
      · exact (HB1.out.trans ((HB.out.trans (HG.out.mono HB.out.size)).mono HB1.out.size)).setCell (p := ⟨b, 0, none⟩) (by show w.heap.size ≤ b; omega) _
    clear cb0 fb0
    go_ret2
    exact hfin
end Go.Proofs.Ytihhbpadafgkoaa
