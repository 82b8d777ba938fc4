/-
  The chapter's example holds.
-/
import Derived.Test.YtdbflopfcnkjbaaGreatJ5
import Derived.Lib.SmallJoins
import Derived.Laws.IdiomStrings
namespace Go.Proofs.YtdbflopfcnkjbaaGreat
open Go.RowKit
set_option linter.unusedVariables false

theorem conv_rd {W : World} {B n c : Nat} {A : Option Addr} (l : List UInt8) (hn : l.length = n) (h0 : 0 < n) (h : Rd W B 1 A n (u8s (l.map fun x => (x.toNat : Int)))) : (convert 27 9 (.slice A n c)).run Tryz.prog W = .ok (.string ⟨l.toArray⟩) W := by
  subst hn
  obtain ⟨ad, rfl, _, hc⟩ := h.2 h0
  refine run_convert_bytes_back W 27 9 5 ad c l Tryz.underlying27 Tryz.underlying5 Tryz.underlying9 (fun j hj => hc j _ ?_)
  simp [u8s, hj]
/-- Bytes that are written out. -/
def mkN (w : World) (l : List Int) : World := w.alloc (.cells (u8s l).toArray 5 (l.length, l.length + 1))
theorem mkN_below (w : World) (l : List Int) : Below w.heap.size w (mkN w l) := (Below.refl _ _).alloc (Nat.le_refl _) _
theorem mkN_size (w : World) (l : List Int) : (mkN w l).heap.size = w.heap.size + 1 := by simp [mkN]
theorem hmk2 (w : World) (x y : Int) : (convert 27 27 (.slice (some ⟨w.heap.size, 0, none⟩) 2 2)).run Tryz.prog (w.alloc (.cells #[.int .u8 x, .int .u8 y] 5)) = .ok (.slice (some ⟨w.heap.size, 0, none⟩) 2 2) (mkN w [x, y]) :=
  Joins.run_convert_bytes_const_at (P := Tryz.prog) w 27 5 #[.int .u8 x, .int .u8 y] 2 2 w.heap.size rfl Tryz.underlying27 Tryz.underlying5
theorem hmk3 (w : World) (x y z : Int) : (convert 27 27 (.slice (some ⟨w.heap.size, 0, none⟩) 3 3)).run Tryz.prog (w.alloc (.cells #[.int .u8 x, .int .u8 y, .int .u8 z] 5)) = .ok (.slice (some ⟨w.heap.size, 0, none⟩) 3 3) (mkN w [x, y, z]) :=
  Joins.run_convert_bytes_const_at (P := Tryz.prog) w 27 5 #[.int .u8 x, .int .u8 y, .int .u8 z] 3 3 w.heap.size rfl Tryz.underlying27 Tryz.underlying5
section
variable {W w' : World} {B b bx sz : Nat} {L : List RK}
theorem Rng.low1 (h : Rng W B b bx sz L) (hk : Kept (fun g => g ≠ b) W w') : Below B W w' :=
  hk.to_below (fun g hg e => by have := h.low g (.inl e); omega) h.B_le
theorem Rng.low2 (h : Rng W B b bx sz L) (hk : Kept (Off b L) W w') : Below B W w' :=
  hk.to_below (fun g hg => ⟨fun e => by have := h.low g (.inl e); omega, fun r hr e => by have := h.low g (.inr (.inr ⟨r, hr, .inl e⟩)); omega⟩) h.B_le
theorem put_ex (l : List Int) (n : Nat) (hl : l.length = n) (h : Rng W B b bx sz L) (hroom : 8 + n + sumR L ≤ sz) : Calls Tryz.prog 6 #[.pointer (some ⟨b, 0, none⟩), .slice (some ⟨W.heap.size, 0, none⟩) n n] (mkN W l) fun e w' =>
    e = .returned (.int .i64 0) ∧ ∃ r, r.bs = l ∧ Rng w' B b bx sz (L ++ [r]) ∧ Below B W w' := by
  have hb1 := mkN_below W l
  have hh := h.below hb1
  have hr := rd_mark W l n hl (l.length, l.length + 1)
  refine (put_room _ n n (W.heap.size + 1) l hh hr (by rw [mkN_size]; exact Nat.le_refl _) (fun e => by cases e) hroom).mono ?_
  rintro e w' ⟨rfl, r, h1, h2, h3, _⟩
  exact ⟨rfl, r, h1, h2, (hb1.mono h.B_le).trans (hh.low2 h3)⟩
theorem full_ex (l : List Int) (n : Nat) (h : Rng W B b bx sz L) (hn : n ≤ 65536) (hf : sz < 8 + n + sumR L) : Calls Tryz.prog 6 #[.pointer (some ⟨b, 0, none⟩), .slice (some ⟨W.heap.size, 0, none⟩) n n] (mkN W l) fun e w' =>
    e = .returned (.int .i64 8) ∧ Rng w' B b bx sz L ∧ Below B W w' := by
  have hb1 := mkN_below W l
  have hh := h.below hb1
  refine (put_full _ n n hh hn hf).mono ?_
  rintro e w' ⟨rfl, hb⟩
  exact ⟨rfl, hh.below hb, (hb1.trans (hb.mono hb1.size)).mono h.B_le⟩
theorem none_ex (h : Rng W B b bx sz L) (hroom : 8 + sumR L ≤ sz) : Calls Tryz.prog 6 #[.pointer (some ⟨b, 0, none⟩), .slice none 0 0] W fun e w' =>
    e = .returned (.int .i64 0) ∧ ∃ r, r.bs = [] ∧ Rng w' B b bx sz (L ++ [r]) ∧ Below B W w' := by
  refine (put_room none 0 0 0 [] h Rd.nil (Nat.zero_le _) (fun _ => rfl) (by omega)).mono ?_
  rintro e w' ⟨rfl, r, h1, h2, h3, _⟩
  exact ⟨rfl, r, h1, h2, h.low2 h3⟩
theorem room_ex (k : Nat) (h : Rng W B b bx sz L) (hk : sz - sumR L = k) : Calls Tryz.prog 7 #[.pointer (some ⟨b, 0, none⟩)] W fun e w' => e = .returned (.int .i64 k) ∧ Rng w' B b bx sz L ∧ Below W.heap.size W w' := by
  subst hk
  exact (room_yes h).mono (fun e w' hh => ⟨hh.1, h.below hh.2, hh.2⟩)
/-- A record stays where it is taken out. -/
theorem take_ex {r : RK} (h : Rng W B b bx sz (r :: L)) : Calls Tryz.prog 13 #[.pointer (some ⟨b, 0, none⟩)] W fun e w' =>
    e = .returned (.tuple #[.slice r.A r.bs.length r.c, .int .i64 0]) ∧ Rng w' B b bx sz L ∧ Below B W w' ∧ w'.ownsRow 0 5 1 r.sl r.bs.length (u8s r.bs) ∧ Kept (fun g => g ≠ b) W w' := by
  refine (take_some h).mono ?_
  rintro e w' ⟨rfl, h1, h2⟩
  exact ⟨rfl, h1, h.low1 h2, owns_kept (h.row r (by simp)) h2 (fun k hk e => by subst e; exact h.row_b (by simp) hk), h2⟩
end
set_option maxRecDepth 100000 in
set_option maxHeartbeats 8000000 in
theorem awake_any (w : World) : Calls Tryz.prog 9 #[] w fun e w' => e = .returned (.bool true) ∧ Below w.heap.size w w' := by
  go_enter Tryz.func9, Tryz.ntmps9
  go_wp2_with fail
  refine (new_yes 20 w (by omega)).mono ?_
  rintro e w1 ⟨b, bx, rfl, ha, hb⟩
  have HA := hide ha
  have HB1 := hide hb
  clear ha hb
  have hc1 := hmk2 w1 97 98
  have hz1 := mkN_size w1 [97, 98]
  go_wp2_with fail
  refine (put_ex [97, 98] 2 rfl HA.out (by simp [sumR])).mono ?_
  rintro e w2 ⟨rfl, r, hr0, ha, hb⟩
  have HA2 : Hid (Rng w2 w.heap.size b bx 20 [r]) := hide ha
  have HB2 := hide (HB1.out.trans (hb.mono (Nat.le_refl _)))
  have HR0 := hide hr0
  have hs1 : sumR [r] = 10 := by simp [sumR, hr0]
  clear ha hb hc1 hz1 HA HB1
  go_wp2_with fail
  refine (room_ex 10 HA2.out (by rw [hs1])).mono ?_
  rintro e w3 ⟨rfl, ha, hb⟩
  have HA3 := hide ha
  have HB3 := hide (HB2.out.trans (hb.mono HB2.out.size))
  clear ha hb HA2 HB2 hr0
  have hc1 := hmk3 w3 97 98 99
  have hz1 := mkN_size w3 [97, 98, 99]
  go_wp2_with fail
  refine (full_ex [97, 98, 99] 3 HA3.out (by omega) (by rw [hs1]; decide)).mono ?_
  rintro e w4 ⟨rfl, ha, hb⟩
  have HA4 := hide ha
  have HB4 := hide (HB3.out.trans hb)
  clear ha hb hc1 hz1 HA3 HB3
  go_wp2_with fail
  refine (none_ex HA4.out (by rw [hs1]; decide)).mono ?_
  rintro e w5 ⟨rfl, r2, hr2, ha, hb⟩
  have HA5 : Hid (Rng w5 w.heap.size b bx 20 [r, r2]) := hide ha
  have HB5 := hide (HB4.out.trans hb)
  have HR2 := hide hr2
  have hs2 : sumR [r, r2] = 18 := by have := HR0.out; simp [sumR, this, hr2]
  clear ha hb HA4 HB4 hr2
  go_wp2_with fail
  refine (room_ex 2 HA5.out (by rw [hs2])).mono ?_
  rintro e w6 ⟨rfl, ha, hb⟩
  have HA6 := hide ha
  have HB6 := hide (HB5.out.trans (hb.mono HB5.out.size))
  clear ha hb HA5 HB5
  go_wp2_with fail
  refine (take_ex HA6.out).mono ?_
  rintro e w7 ⟨rfl, ha, hb, ho, hk⟩
  have hnb := HA6.out.row_b (r := r) (by simp)
  have HNB := hide hnb
  have HA7 := hide ha
  have HB7 := hide (HB6.out.trans hb)
  have HO7 := hide ho
  have hs3 : sumR [r2] = 8 := by have := HR2.out; simp [sumR, this]
  clear ha hb ho hk hnb HA6 HB6
  go_wp2_with fail
  refine (room_ex 12 HA7.out (by rw [hs3])).mono ?_
  rintro e w8 ⟨rfl, ha, hb⟩
  have HA8 := hide ha
  have HB8 := hide (HB7.out.trans (hb.mono HB7.out.size))
  have HO8 := hide (owns_kept_below HO7.out hb)
  clear ha hb HA7 HB7
  go_wp2_with fail
  refine (take_ex HA8.out).mono ?_
  rintro e w9 ⟨rfl, ha, hb, ho, hk⟩
  have HA9 := hide ha
  have HB9 := hide (HB8.out.trans hb)
  have HO9 := hide (owns_kept HO8.out hk (fun k hk2 e => by subst e; exact HNB.out hk2))
  clear ha hb ho hk HA8 HB8
  go_wp2_with fail
  refine (take_none HA9.out).mono ?_
  rintro e w' ⟨rfl, rfl⟩
  have hl1 : r.bs.length = 2 := by rw [HR0.out]; rfl
  have hl2 : r2.bs.length = 0 := by rw [HR2.out]; rfl
  have hcv : (convert 27 9 (.slice r.A 2 r.c)).run Tryz.prog w9 = .ok (.string ⟨#[97, 98]⟩) w9 := conv_rd [97, 98] rfl (by omega) (by
    have := Rd.of_own HO9.out
    rw [hl1, HR0.out] at this
    exact this)
  rw [hl1, hl2]
  clear hs1 hs2 hs3
  go_wp2
  go_ret
  exact ⟨rfl, HB9.out⟩
end Go.Proofs.YtdbflopfcnkjbaaGreat
