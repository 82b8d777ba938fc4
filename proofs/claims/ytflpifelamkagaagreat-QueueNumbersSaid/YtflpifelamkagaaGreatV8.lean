/-
  The chapter's examples hold.
-/
import Derived.Test.YtflpifelamkagaaGreatV7
import Derived.Lib.SmallJoins
import Derived.Laws.IdiomStrings
namespace Go.Proofs.YtflpifelamkagaaGreat
open Go.RowKit
set_option linter.unusedVariables false

theorem conv_rd {W : World} {B n c : Nat} {A : Option Addr} (l : List UInt8) (hn : l.length = n) (h0 : 0 < n) (h : Rd W B 1 A n (u8s (l.map fun x => (x.toNat : Int)))) : (convert 36 9 (.slice A n c)).run Tryz.prog W = .ok (.string ⟨l.toArray⟩) W := by
  subst hn
  obtain ⟨ad, rfl, _, hc⟩ := h.2 h0
  refine run_convert_bytes_back W 36 9 5 ad c l Tryz.underlying36 Tryz.underlying5 Tryz.underlying9 (fun j hj => hc j _ ?_)
  simp [u8s, hj]
theorem below1m (w : World) (l : List Value) (fr : Nat × Nat) : Below w.heap.size w (w.alloc (.cells l.toArray 5 fr)) := (Below.refl _ _).alloc (Nat.le_refl _) _
/-- A byte that is written out. -/
def mk1 (w : World) (x : Int) : World := w.alloc (.cells (u8s [x]).toArray 5 (1, 2))
theorem mk1_below (w : World) (x : Int) : Below w.heap.size w (mk1 w x) := below1m w (u8s [x]) (1, 2)
theorem mk1_size (w : World) (x : Int) : (mk1 w x).heap.size = w.heap.size + 1 := by simp [mk1]
theorem hmk1 (w : World) (x : Int) (n : Nat) (hn : n = w.heap.size) : (convert 36 36 (.slice (some ⟨n, 0, none⟩) 1 1)).run Tryz.prog (w.alloc (.cells #[.int .u8 x] 5)) = .ok (.slice (some ⟨n, 0, none⟩) 1 1) (mk1 w x) := by
  subst hn
  exact Joins.run_convert_bytes_const_at (P := Tryz.prog) w 36 5 #[.int .u8 x] 1 1 w.heap.size rfl Tryz.underlying36 Tryz.underlying5
section
variable {W : World} {B b sz n c : Nat} {st : Bool} {A : Option Addr} {L : List QR}
theorem Que.low_ {w' : World} (h : Que W B b st sz n A c L) (hk : Kept (fun g => g ≠ b ∧ (Value.slice A 0 0).ownBlock ≠ some g) W w') : Below B W w' :=
  hk.to_below (fun g hg => ⟨fun e => by have := h.low g (.inl e); omega, fun e => by have := h.low g (.inr (.inl e)); omega⟩) h.B_le
theorem push_ex (x : Int) (h : Que W B b st 1 2 A c L) (hL : L.length < 2) : Calls Tryz.prog 16 #[.pointer (some ⟨b, 0, none⟩), .slice (some ⟨W.heap.size, 0, none⟩) 1 1, .int .u64 0] (mk1 W x) fun e w' =>
    e = .returned (.int .i64 0) ∧ ∃ A' c' r, r.bs = [x] ∧ Que w' B b st 1 2 A' c' (L ++ [r]) ∧ Below B W w' := by
  have hb1 := mk1_below W x
  have hh := h.below hb1
  have hr := rd_mark W [x] 1 rfl (1, 2)
  refine (push_room _ 1 (W.heap.size + 1) [x] 0 hh hL hr (by rw [mk1_size]; exact Nat.le_refl _) (.inl rfl)).mono ?_
  rintro e w' ⟨rfl, A', c', r, h1, h2, h3, _⟩
  exact ⟨rfl, A', c', r, h1, h2, (hb1.mono h.B_le).trans (hh.low_ h3)⟩
theorem over_ex (x : Int) (h : Que W B b st 1 2 A c L) (hL : L.length = 2) : Calls Tryz.prog 16 #[.pointer (some ⟨b, 0, none⟩), .slice (some ⟨W.heap.size, 0, none⟩) 1 1, .int .u64 2] (mk1 W x) fun e w' =>
    e = .returned (.int .i64 0) ∧ ∃ A' c' r, r.bs = [x] ∧ Que w' B b st 1 2 A' c' (L.drop 1 ++ [r]) ∧ Below B W w' := by
  have hb1 := mk1_below W x
  have hh := h.below hb1
  have hr := rd_mark W [x] 1 rfl (1, 2)
  refine (push_over _ 1 (W.heap.size + 1) [x] hh hL hr (by rw [mk1_size]; exact Nat.le_refl _) (fun g hg e => by have := h.lt g hg; simp at e; omega)).mono ?_
  rintro e w' ⟨rfl, A', c', r, h1, h2, h3, _⟩
  exact ⟨rfl, A', c', r, h1, h2, (hb1.mono h.B_le).trans (hh.low_ h3)⟩
theorem full_ex (x : Int) (h : Que W B b st 1 2 A c L) (hL : L.length = 2) : Calls Tryz.prog 16 #[.pointer (some ⟨b, 0, none⟩), .slice (some ⟨W.heap.size, 0, none⟩) 1 1, .int .u64 0] (mk1 W x) fun e w' =>
    e = .returned (.int .i64 8) ∧ Que w' B b st 1 2 A c L ∧ Below B W w' := by
  have hb1 := mk1_below W x
  have hh := h.below hb1
  refine (push_full _ 1 hh hL).mono ?_
  rintro e w' ⟨rfl, hb⟩
  exact ⟨rfl, hh.below hb, (hb1.trans (hb.mono hb1.size)).mono h.B_le⟩
/-- A row of a queue stays where it is taken out. -/
theorem pop_ex (r : QR) (h : Que W B b st 1 2 A c L) (hr : L[atI st L.length]? = some r) : Calls Tryz.prog 11 #[.pointer (some ⟨b, 0, none⟩)] W fun e w' =>
    e = .returned (.tuple #[.slice (some ⟨r.g, 0, none⟩) 1 r.c, .int .i64 0]) ∧ Que w' B b st 1 2 A c (L.eraseIdx (atI st L.length)) ∧ Below B W w' ∧ (∀ s ∈ L, w'.ownsRow 0 5 1 (QR.sl 1 s) 1 (u8s s.bs)) := by
  have h0 : 0 < L.length := by have := (List.getElem?_eq_some_iff.1 hr).1; omega
  refine (pop_some h h0).mono ?_
  rintro e w' ⟨r', hr', rfl, h1, h2⟩
  rw [hr] at hr'
  cases hr'
  refine ⟨rfl, h1, h.low_ h2, fun s hs => owns_kept (h.row s hs) h2 (fun k hk => ?_)⟩
  have e : s.g = k := by simpa [QR.sl, Value.ownBlock] using hk
  subst e
  exact ⟨h.b_r hs, h.out_r hs⟩
end
theorem conv_row {W : World} {r : QR} (x : UInt8) (h : W.ownsRow 0 5 1 (QR.sl 1 r) 1 (u8s r.bs)) (hx : r.bs = [(x.toNat : Int)]) : (convert 36 9 (.slice (some ⟨r.g, 0, none⟩) 1 r.c)).run Tryz.prog W = .ok (.string ⟨#[x]⟩) W :=
  conv_rd [x] rfl (by omega) (by have := Rd.of_own h; rw [hx] at this; exact this)
set_option maxRecDepth 100000 in
set_option maxHeartbeats 8000000 in
theorem awake_any (w : World) : Calls Tryz.prog 6 #[] w fun e w' => e = .returned (.bool true) ∧ Below w.heap.size w w' := by
  obtain ⟨q0, q1⟩ := two_boxes w (.cells #[.int .u8 5, .int .u8 6] 22) (.cells #[.string { data := #[98, 99] }, .string { data := #[99, 98] }] 9)
  have hb2 := below2 w (.cells #[.int .u8 5, .int .u8 6] 22) (.cells #[.string { data := #[98, 99] }, .string { data := #[99, 98] }] 9)
  have hz2 : ((w.alloc (.cells #[.int .u8 5, .int .u8 6] 22)).alloc (.cells #[.string { data := #[98, 99] }, .string { data := #[99, 98] }] 9)).heap.size = w.heap.size + 2 := by simp
  go_enter Tryz.func6, Tryz.ntmps6
  go_wp2_with fail
  generalize (w.alloc (.cells #[.int .u8 5, .int .u8 6] 22)).alloc (.cells #[.string { data := #[98, 99] }, .string { data := #[99, 98] }] 9) = W2 at *
  have HC : Hid (∀ W, Below W2.heap.size W2 W → W.cell? ⟨w.heap.size, 0, none⟩ = some (.int .u8 5) ∧ W.cell? ⟨w.heap.size, 1, none⟩ = some (.int .u8 6) ∧ W.cell? ⟨w.heap.size + 1, 0, none⟩ = some (.string { data := #[98, 99] }) ∧ W.cell? ⟨w.heap.size + 1, 1, none⟩ = some (.string { data := #[99, 98] })) := hide (fun W hb => by
    have h1 := (hb.block _ (at_lt q0)).trans q0
    have h2 := (hb.block _ (at_lt q1)).trans q1
    exact ⟨(blk_cell h1 0).trans rfl, (blk_cell h1 1).trans rfl, (blk_cell h2 0).trans rfl, (blk_cell h2 1).trans rfl⟩)
  have HB2 := hide hb2
  have HZ2 := hide hz2
  clear q0 q1 hb2 hz2
  go_loopw [3] (fun q wr => ∃ k : Nat, k ≤ 2 ∧ q = .int .i64 k ∧ Below W2.heap.size W2 wr) (fun q _ => 2 - (intOf q).toNat)
  case atStart => exact ⟨0, by omega, rfl, Below.refl _ _⟩
  case round =>
    obtain ⟨k, hk, rfl, hb⟩ := hrel
    have hk3 : k = 0 ∨ k = 1 ∨ k = 2 := by omega
    obtain ⟨k1, k2, k3, k4⟩ := HC.out wr hb
    have HB0 := hide hb
    clear hb hk
    rcases hk3 with rfl | rfl | rfl
    · rw [show ((0 : Nat) : Int) = 0 from rfl]
      go_wp2_with fail
      refine (new_yes false 1 2 wr (by omega) (by omega)).mono ?_
      rintro e w1 ⟨b, rfl, ha, hb⟩
      have HA := hide ha
      have HB1 := hide hb
      clear ha hb k1 k2 k3 k4
      have hc1 := hmk1 w1 97 w1.heap.size rfl
      have hz1 := mk1_size w1 97
      go_wp2_with fail
      refine (push_ex 97 HA.out (by simp)).mono ?_
      rintro e w2 ⟨rfl, A1, c1, ra, ha0, ha, hb⟩
      have HA2 := hide ha
      have HB2 := hide (HB1.out.trans (hb.mono (Nat.le_refl _)))
      clear ha hb hc1 hz1 HA HB1
      have hc1 := hmk1 w2 98 w2.heap.size rfl
      have hz1 := mk1_size w2 98
      go_wp2_with fail
      refine (push_ex 98 HA2.out (by simp)).mono ?_
      rintro e w3 ⟨rfl, A2, c2, rb, hb0, ha, hb⟩
      have HA3 := hide ha
      have HB3 := hide (HB2.out.trans (hb.mono (Nat.le_refl _)))
      clear ha hb hc1 hz1 HA2 HB2
      have hc1 := hmk1 w3 99 w3.heap.size rfl
      have hz1 := mk1_size w3 99
      go_wp2_with fail
      refine (full_ex 99 HA3.out (by simp)).mono ?_
      rintro e w4 ⟨rfl, ha, hb⟩
      have HA4 := hide ha
      have HB4 := hide (HB3.out.trans (hb.mono (Nat.le_refl _)))
      clear ha hb hc1 hz1 HA3 HB3
      have hc1 := hmk1 w4 99 w4.heap.size rfl
      have hz1 := mk1_size w4 99
      go_wp2_with fail
      refine (over_ex 99 HA4.out (by simp)).mono ?_
      rintro e w5 ⟨rfl, A3, c3, rc, hc0, ha, hb⟩
      have HA5 := hide ha
      have HB5 := hide (HB4.out.trans (hb.mono (Nat.le_refl _)))
      clear ha hb hc1 hz1 HA4 HB4
      simp only [List.nil_append, List.cons_append, List.drop_succ_cons, List.drop_zero] at HA5
      have HX := hide hb0
      have HY := hide hc0
      clear ha0 hb0 hc0
      go_wp2_with fail
      refine (pop_ex rb HA5.out rfl).mono ?_
      rintro e w6 ⟨rfl, ha, hb, hs⟩
      have HA6 : Hid (Que w6 wr.heap.size b false 1 2 A3 c3 [rc]) := hide ha
      have HB6 := hide (HB5.out.trans hb)
      have HS : Hid (w6.ownsRow 0 5 1 (QR.sl 1 rb) 1 (u8s rb.bs)) := hide (hs _ (by simp))
      have hne : Hid (rb.g ≠ b ∧ (Value.slice A3 0 0).ownBlock ≠ some rb.g) := hide ⟨HA5.out.b_r (by simp), HA5.out.out_r (by simp)⟩
      clear ha hb hs HB5
      go_wp2_with fail
      refine (pop_some HA6.out (by simp)).mono ?_
      rintro e w7 ⟨r', hr', rfl, hrem⟩
      obtain rfl : rc = r' := by simpa [atI] using hr'
      have HS2 := hide (owns_kept HS.out hrem.2 (fun k hk => by
        have e : rb.g = k := by simpa [QR.sl, Value.ownBlock] using hk
        rw [← e]; exact hne.out))
      have HS3 := hide (owns_kept (HA6.out.row rc (by simp)) hrem.2 (fun k hk => by
        have e : rc.g = k := by simpa [QR.sl, Value.ownBlock] using hk
        rw [← e]; exact ⟨HA6.out.b_r (by simp), HA6.out.out_r (by simp)⟩))
      have HB7 := hide (HB6.out.trans (HA6.out.low_ hrem.2))
      have HA7 : Hid (Que w7 wr.heap.size b false 1 2 A3 c3 []) := hide hrem.1
      clear hr' hrem HB6 HA6 HA5 HS
      go_wp2_with fail
      refine (pop_none HA7.out rfl).mono ?_
      rintro e w8 ⟨rfl, hb⟩
      have HB8 := hide (HB7.out.trans (hb.mono HB7.out.size))
      have HK : Hid (∀ x : Later w8, w7.heap.size ≤ x.w.heap.size ∧ Below w7.heap.size w7 x.w) := hide (fun x => ⟨Nat.le_trans hb.size x.below.size, hb.trans (x.below.mono hb.size)⟩)
      have cv0 : ∀ x : Later w8, (convert 36 9 (.slice (some ⟨rb.g, 0, none⟩) 1 rb.c)).run Tryz.prog x.w = .ok (.string ⟨#[98]⟩) x.w := fun x => conv_row 98 (owns_kept_below HS2.out (HK.out x).2) HX.out
      have cv1 : ∀ x : Later w8, (convert 36 9 (.slice (some ⟨rc.g, 0, none⟩) 1 rc.c)).run Tryz.prog x.w = .ok (.string ⟨#[99]⟩) x.w := fun x => conv_row 99 (owns_kept_below HS3.out (HK.out x).2) HY.out
      have cw : ∀ x : Later w8, x.w.cell? ⟨w.heap.size + 1, 0, none⟩ = some (.string { data := #[98, 99] }) := fun x => (HC.out x.w (HB0.out.trans ((HB8.out.trans (x.below.mono (by have := HB8.out.size; omega))).mono HB0.out.size))).2.2.1
      have ca : (({ data := #[98] } : ByteArray) ++ { data := #[99] }).toList = [98, 99] := by decide +kernel
      clear hb HB7 HA7
      go_wp2_with fail
      refine wp_region_later (by kernel_rfl) (by kernel_rfl) ?_
      repeat (first | go_big_quiet_step (fail) | (refine wpQuiet_step (fun K hK => ?_); go_simp; refine hK _ ?_; clear hK K))
      refine wpQuiet_nil ?_
      rintro _ ⟨y, rfl⟩
      clear cv0 cv1 cw ca
      have HY2 := hide (HB8.out.trans (y.below.mono HB8.out.size))
      generalize y.w = wy at *
      go_wp2_with fail
      go_roundw
      case rel => exact ⟨1, by omega, by rfl, HB0.out.trans (HY2.out.mono HB0.out.size)⟩
      case measure => simp [intOf]
    · rw [show ((1 : Nat) : Int) = 1 from rfl]
      go_wp2_with fail
      refine (new_yes true 1 2 wr (by omega) (by omega)).mono ?_
      rintro e w1 ⟨b, rfl, ha, hb⟩
      have HA := hide ha
      have HB1 := hide hb
      clear ha hb k1 k2 k3 k4
      have hc1 := hmk1 w1 97 w1.heap.size rfl
      have hz1 := mk1_size w1 97
      go_wp2_with fail
      refine (push_ex 97 HA.out (by simp)).mono ?_
      rintro e w2 ⟨rfl, A1, c1, ra, ha0, ha, hb⟩
      have HA2 := hide ha
      have HB2 := hide (HB1.out.trans (hb.mono (Nat.le_refl _)))
      clear ha hb hc1 hz1 HA HB1
      have hc1 := hmk1 w2 98 w2.heap.size rfl
      have hz1 := mk1_size w2 98
      go_wp2_with fail
      refine (push_ex 98 HA2.out (by simp)).mono ?_
      rintro e w3 ⟨rfl, A2, c2, rb, hb0, ha, hb⟩
      have HA3 := hide ha
      have HB3 := hide (HB2.out.trans (hb.mono (Nat.le_refl _)))
      clear ha hb hc1 hz1 HA2 HB2
      have hc1 := hmk1 w3 99 w3.heap.size rfl
      have hz1 := mk1_size w3 99
      go_wp2_with fail
      refine (full_ex 99 HA3.out (by simp)).mono ?_
      rintro e w4 ⟨rfl, ha, hb⟩
      have HA4 := hide ha
      have HB4 := hide (HB3.out.trans (hb.mono (Nat.le_refl _)))
      clear ha hb hc1 hz1 HA3 HB3
      have hc1 := hmk1 w4 99 w4.heap.size rfl
      have hz1 := mk1_size w4 99
      go_wp2_with fail
      refine (over_ex 99 HA4.out (by simp)).mono ?_
      rintro e w5 ⟨rfl, A3, c3, rc, hc0, ha, hb⟩
      have HA5 := hide ha
      have HB5 := hide (HB4.out.trans (hb.mono (Nat.le_refl _)))
      clear ha hb hc1 hz1 HA4 HB4
      simp only [List.nil_append, List.cons_append, List.drop_succ_cons, List.drop_zero] at HA5
      have HX := hide hb0
      have HY := hide hc0
      clear ha0 hb0 hc0
      go_wp2_with fail
      refine (pop_ex rc HA5.out rfl).mono ?_
      rintro e w6 ⟨rfl, ha, hb, hs⟩
      have HA6 : Hid (Que w6 wr.heap.size b true 1 2 A3 c3 [rb]) := hide ha
      have HB6 := hide (HB5.out.trans hb)
      have HS : Hid (w6.ownsRow 0 5 1 (QR.sl 1 rc) 1 (u8s rc.bs)) := hide (hs _ (by simp))
      have hne : Hid (rc.g ≠ b ∧ (Value.slice A3 0 0).ownBlock ≠ some rc.g) := hide ⟨HA5.out.b_r (by simp), HA5.out.out_r (by simp)⟩
      clear ha hb hs HB5
      go_wp2_with fail
      refine (pop_some HA6.out (by simp)).mono ?_
      rintro e w7 ⟨r', hr', rfl, hrem⟩
      obtain rfl : rb = r' := by simpa [atI] using hr'
      have HS2 := hide (owns_kept HS.out hrem.2 (fun k hk => by
        have e : rc.g = k := by simpa [QR.sl, Value.ownBlock] using hk
        rw [← e]; exact hne.out))
      have HS3 := hide (owns_kept (HA6.out.row rb (by simp)) hrem.2 (fun k hk => by
        have e : rb.g = k := by simpa [QR.sl, Value.ownBlock] using hk
        rw [← e]; exact ⟨HA6.out.b_r (by simp), HA6.out.out_r (by simp)⟩))
      have HB7 := hide (HB6.out.trans (HA6.out.low_ hrem.2))
      have HA7 : Hid (Que w7 wr.heap.size b true 1 2 A3 c3 []) := hide hrem.1
      clear hr' hrem HB6 HA6 HA5 HS
      go_wp2_with fail
      refine (pop_none HA7.out rfl).mono ?_
      rintro e w8 ⟨rfl, hb⟩
      have HB8 := hide (HB7.out.trans (hb.mono HB7.out.size))
      have HK : Hid (∀ x : Later w8, w7.heap.size ≤ x.w.heap.size ∧ Below w7.heap.size w7 x.w) := hide (fun x => ⟨Nat.le_trans hb.size x.below.size, hb.trans (x.below.mono hb.size)⟩)
      have cv0 : ∀ x : Later w8, (convert 36 9 (.slice (some ⟨rc.g, 0, none⟩) 1 rc.c)).run Tryz.prog x.w = .ok (.string ⟨#[99]⟩) x.w := fun x => conv_row 99 (owns_kept_below HS2.out (HK.out x).2) HY.out
      have cv1 : ∀ x : Later w8, (convert 36 9 (.slice (some ⟨rb.g, 0, none⟩) 1 rb.c)).run Tryz.prog x.w = .ok (.string ⟨#[98]⟩) x.w := fun x => conv_row 98 (owns_kept_below HS3.out (HK.out x).2) HX.out
      have cw : ∀ x : Later w8, x.w.cell? ⟨w.heap.size + 1, 1, none⟩ = some (.string { data := #[99, 98] }) := fun x => (HC.out x.w (HB0.out.trans ((HB8.out.trans (x.below.mono (by have := HB8.out.size; omega))).mono HB0.out.size))).2.2.2
      have ca : (({ data := #[99] } : ByteArray) ++ { data := #[98] }).toList = [99, 98] := by decide +kernel
      clear hb HB7 HA7
      go_wp2_with fail
      refine wp_region_later (by kernel_rfl) (by kernel_rfl) ?_
      repeat (first | go_big_quiet_step (fail) | (refine wpQuiet_step (fun K hK => ?_); go_simp; refine hK _ ?_; clear hK K))
      refine wpQuiet_nil ?_
      rintro _ ⟨y, rfl⟩
      clear cv0 cv1 cw ca
      have HY2 := hide (HB8.out.trans (y.below.mono HB8.out.size))
      generalize y.w = wy at *
      go_wp2_with fail
      go_roundw
      case rel => exact ⟨2, by omega, by rfl, HB0.out.trans (HY2.out.mono HB0.out.size)⟩
      case measure => simp [intOf]
    · rw [show ((2 : Nat) : Int) = 2 from rfl]
      clear k1 k2 k3 k4
      go_wp2
      go_ret
      exact ⟨rfl, HB2.out.trans (HB0.out.mono (by have := HZ2.out; omega))⟩
end Go.Proofs.YtflpifelamkagaaGreat
