/-
  There and back, at whatever slots and bytes.
-/
import Derived.Test.YtjndmpockfmenaaB1
namespace Go.Proofs.Ytjndmpockfmenaa
open Go.RowKit
set_option linter.unusedVariables false

theorem put_x (k n gx : Nat) (w : World) (bs : List Int) (hn : n = 8 * k) (hk : k ≤ 4096) (hx : Rd w w.heap.size 5 (some ⟨gx, 0, none⟩) k ((slots bs k).flatMap Ins.cells)) (hbs : ∀ b ∈ bs, IsByte b) (hlen : bs.length = n) :
    Calls Try.prog 8 #[.slice (some ⟨gx, 0, none⟩) k k] w fun e w' => ∃ g, e = .returned (.tuple #[.slice (some ⟨g, 0, none⟩) n n, .int .i64 0]) ∧ Made 5 1 n (u8s bs) w w' g n := by
  have h := put_right k k _ w.heap.size (slots bs k) w hk (Rd.prg hx) (Nat.le_refl _) (slots_right bs k hbs).1 (slots_right bs k hbs).2
  rw [bytes_slots bs k (by omega) hbs, ← hn] at h
  exact h
theorem stop_here {p : Prop} (h : Hid p) : p := h
theorem start_here {p : Prop} (h : p) : Hid p := h
theorem longer_below {B : Nat} {w W W' : World} {e : TypeId} {sz n : Nat} {v v' : Value} {xs : List Value} (h : Below B w W) (hB : B ≤ W.heap.size) (hv : ∀ g, v.ownBlock = some g → B ≤ g) (hl : Longer W W' e sz v v' n xs) : Below B w W' :=
  h.grown hl.2.1 hB hv
theorem longer_from {B : Nat} {W W' : World} {e : TypeId} {sz n : Nat} {v v' : Value} {xs : List Value} (hl : Longer W W' e sz v v' n xs) (hB : B ≤ W.heap.size) (hv : ∀ g, v.ownBlock = some g → B ≤ g) : ∀ g, v'.ownBlock = some g → B ≤ g := by
  intro g hg
  rcases hl.2.2 with h | h
  · exact hv g (h ▸ hg)
  · rw [h] at hg
    injection hg with hg
    omega
theorem owns_slice {w : World} {e : TypeId} {sz n : Nat} {v : Value} {xs : List Value} (h : w.ownsRow 0 e sz v n xs) : ∃ A c, v = .slice A n c ∧ Rd w w.heap.size sz A n xs := by
  rcases h.2 with ⟨rfl, rfl⟩ | ⟨g, cap, cur, rfl, hb, hg, rest⟩
  · have : xs = [] := List.eq_nil_of_length_eq_zero (by have := h.1; omega)
    subst this
    exact ⟨none, 0, rfl, Rd.nil⟩
  · exact ⟨_, cap, rfl, (Rd.of_owns h).mono (at_lt hg)⟩
theorem both_rd {w : World} {A : Option Addr} {n0 n1 : Nat} {l m : List Ins} (h : Rd w w.heap.size 5 A (0 + n0 + n1) ([] ++ pcells l ++ pcells m)) : Prg w w.heap.size A (n0 + n1) (l ++ m) := by
  refine Rd.prg (l := l ++ m) ?_
  have e : pcells (l ++ m) = [] ++ pcells l ++ pcells m := by simp [pcells]
  rw [e]
  rwa [Nat.zero_add] at h
theorem both_fits {l m : List Ins} (h : ∀ s ∈ l, s.Fits) (k : ∀ s ∈ m, s.Fits) : ∀ s ∈ l ++ m, s.Fits := fun s hs => (List.mem_append.1 hs).elim (h s) (k s)
theorem both_wrong {l m : List Ins} (h : allRight l = false ∨ allRight m = false) : allRight (l ++ m) = false := by
  unfold allRight at *
  rw [List.all_append]
  rcases h with h | h <;> rw [h] <;> simp
theorem bytes_app (l m : List Ins) : u8s (l.flatMap Ins.bytes) ++ u8s (m.flatMap Ins.bytes) = u8s ((l ++ m).flatMap Ins.bytes) := by simp [u8s]
theorem row_below {w w' : World} {g cap : Nat} {e : TypeId} {sz n : Nat} {xs : List Value} (h : Row w g cap e sz n xs) (hb : Below w.heap.size w w') : Row w' g cap e sz n xs := (Stays.of_below (B := 0) hb).owns h
theorem put_all (n0 n1 c : Nat) (A : Option Addr) (l m : List Ins) (w : World) (hs : n0 + n1 ≤ 2000) (hp : Prg w w.heap.size A (n0 + n1) (l ++ m)) (hf0 : ∀ s ∈ l, s.Fits) (hf1 : ∀ s ∈ m, s.Fits) (hr0 : allRight l = true) (hr1 : allRight m = true) :
    Calls Try.prog 8 #[.slice A (n0 + n1) c] w fun e w' => ∃ g, e = .returned (.tuple #[.slice (some ⟨g, 0, none⟩) (8 * n0 + 8 * n1) (8 * n0 + 8 * n1), .int .i64 0]) ∧ Made 5 1 (8 * n0 + 8 * n1) (u8s ((l ++ m).flatMap Ins.bytes)) w w' g (8 * n0 + 8 * n1) := by
  have h := put_right (n0 + n1) c A w.heap.size (l ++ m) w (by omega) hp (Nat.le_refl _) (both_fits hf0 hf1) (by unfold allRight at *; rw [List.all_append, hr0, hr1]; rfl)
  rw [Nat.mul_add] at h
  exact h
theorem get_p (n0 gp : Nat) (l : List Ins) (w : World) (hn : n0 ≤ 2000) (hl : l.length = n0) (hp : Rd w w.heap.size 1 (some ⟨gp, 0, none⟩) (8 * n0) (u8s (l.flatMap Ins.bytes))) (hf : ∀ s ∈ l, s.Fits) (hr : allRight l = true) :
    Calls Try.prog 14 #[.slice (some ⟨gp, 0, none⟩) (8 * n0) (8 * n0)] w fun e w' => ∃ g, e = .returned (.tuple #[.slice (some ⟨g, 0, none⟩) n0 n0, .int .i64 0]) ∧ Made 44 5 n0 (pcells l) w w' g n0 := by
  have h := get_right (8 * n0) n0 (8 * n0) _ w.heap.size _ w rfl (by omega) (Nat.le_refl _) (by simp [maxLen]; omega) (Rd.byt hp) (Nat.le_refl _) (bytes_are l hf ((allRight_iff l).1 hr))
  have e := slots_bytes l hf ((allRight_iff l).1 hr)
  rw [hl] at e
  rw [e] at h
  exact h
set_option maxRecDepth 100000 in
set_option maxHeartbeats 4000000 in
theorem back_even_rr (A0 A1 A2 : Option Addr) (n0 n1 n2 c0 c1 c2 k : Nat) (l m : List Ins) (bs : List Int) (w : World) (h0 : Rd w w.heap.size 5 A0 n0 (pcells l)) (h1 : Rd w w.heap.size 5 A1 n1 (pcells m)) (h2 : Rd w w.heap.size 1 A2 n2 (u8s bs))
    (hA0 : A0 = none → n0 = 0) (hA1 : A1 = none → n1 = 0) (hf0 : ∀ s ∈ l, s.Fits) (hf1 : ∀ s ∈ m, s.Fits) (hbs : ∀ b ∈ bs, IsByte b) (hs : n0 + n1 ≤ 2000) (hs2 : n2 ≤ 16000) (hc2 : n2 ≤ c2) (hcm : c2 ≤ maxLen) (hk : n2 = 8 * k) (hr0 : allRight l = true) (hr1 : allRight m = true) :
    Calls Try.prog 5 #[.slice A0 n0 c0, .slice A1 n1 c1, .slice A2 n2 c2] w fun e w' => e = .returned (.bool true) ∧ Below w.heap.size w w' := by
  have hlen : bs.length = n2 := by have := h2.1; simp [u8s] at this; omega
  have hd : decide (2000 < (n0 : Int) + n1) = false := by simp; omega
  have hd2 : decide (16000 < (n2 : Int)) = false := by simp; omega
  have hq : ((n2 : Int) % 8 == 0) = true := by simp; omega
  have hk4 : k ≤ 2000 := by omega
  have hq2 : ((k : Int) != (n2 : Int) / 8) = false := by simp; omega
  have hq3 : (wrap64 ((n2 : Int) / 8)) = (n2 : Int) / 8 := by unfold wrap64; omega
  have HN := hide hk
  have HA0 := hide hA0
  have HA1 := hide hA1
  obtain ⟨i0, hi, hz0, hz1, hz2⟩ := info_parts slotInfo
  obtain ⟨i1, hi1, hy0, hy1, hy2⟩ := info_parts u8info
  have hl0 : l.length = n0 := h0.prg.1
  have HR0 := hide hr0
  have HR1 := hide hr1
  clear hA0 hA1 hk hr0 hr1
  go_enter Try.func5, Try.ntmps5
  go_wp2_with fail
  refine (awake_any _).mono ?_
  rintro e w1 ⟨rfl, hb⟩
  have HB := hide hb
  clear hb
  go_wp2_with fail
  refine (get_right n2 k c2 A2 w.heap.size bs _ HN.out (by omega) hc2 hcm ((h2.byt).below HB.out) HB.out.size hbs).mono ?_
  rintro e w2 ⟨gx, rfl, hmx⟩
  have HX := hide hmx
  have HB2 := hide (HB.out.trans (hmx.2.2.mono HB.out.size))
  clear hmx
  go_wp2_with fail
  refine (put_x k n2 gx w2 bs HN.out (by omega) HX.out.rd hbs hlen).mono ?_
  rintro e w3 ⟨gc, rfl, hmc⟩
  have HC := hide hmc
  have HB3 := hide (HB2.out.trans (hmc.2.2.mono HB2.out.size))
  clear hmc
  go_wp2_with fail
  refine (sameBytes_yes (some ⟨gc, 0, none⟩) A2 n2 n2 c2 w3.heap.size bs w3 HC.out.rd ((h2.below HB3.out).mono HB3.out.size) (Nat.le_refl _) (by omega)).mono ?_
  rintro e w4 ⟨rfl, hb4⟩
  have HB4 := hide (HB3.out.trans (hb4.mono HB3.out.size))
  clear hb4 HB HB2 HB3 HX HC
  go_wp2_with fail
  refine (put_right n0 c0 A0 w.heap.size l _ (by omega) (h0.prg.below HB4.out) HB4.out.size hf0 HR0.out).mono ?_
  rintro e w5 ⟨gp, rfl, hm5⟩
  have HP := hide hm5
  have HB5 := HB4
  have HPG := hide hm5.2.1
  have HB5' := hide (HB4.out.trans (hm5.2.2.mono HB4.out.size))
  clear hm5 HB4
  go_wp2_with fail
  refine (put_right n1 c1 A1 w.heap.size m _ (by omega) (h1.prg.below HB5'.out) HB5'.out.size hf1 HR1.out).mono ?_
  rintro e w6 ⟨gq, rfl, hm6⟩
  have HQ := hide hm6
  have HB6 := hide (HB5'.out.trans (hm6.2.2.mono HB5'.out.size))
  clear hm6 HB5'
  have HO6 : Hid ((w6.alloc (.cells #[] 44)).ownsRow 0 44 5 (.slice (some ⟨w6.heap.size, 0, none⟩) 0 0) 0 []) := World.ownsRow_made w6 #[] 0 (Nat.zero_le _) (by simp [maxLen]) rfl
  have HC6 : Hid (Below w6.heap.size w6 (w6.alloc (.cells #[] 44))) := (Below.refl _ w6).alloc (Nat.le_refl _) _
  go_wp2_with (first
    | (at_builtin
       refine wpList_append_rd _ rfl (.tmp 78) (.tmp 79) _ rfl 44 i0 _ 5 12 Try.underlying22 hi hz0 hz1 hz2 rfl (by omega) (.slice (some ⟨w6.heap.size, 0, none⟩) 0 0) 0 [] rfl HO6.out w.heap.size A0 n0 c0 (pcells l) rfl (h0.below (HB6.out.alloc HB6.out.size _)) HA0.out (pcells_one l) (by simp [maxLen]; omega) (by omega) ?_
       intro v7 w7 hl7
       have HL7 := hide hl7
       have HC7 := hide (longer_below HC6.out (by simp) (by simp [Value.ownBlock]) hl7)
       clear hl7)
    | (at_builtin
       refine wpList_append_rd _ rfl (.tmp 80) (.tmp 81) _ rfl 44 i0 _ 5 12 Try.underlying22 hi hz0 hz1 hz2 rfl (by omega) v7 (0 + n0) _ rfl HL7.out.1 w.heap.size A1 n1 c1 (pcells m) rfl (h1.below (HB6.out.trans (HC7.out.mono HB6.out.size))) HA1.out (pcells_one m) (by simp [maxLen]; omega) (by omega) ?_
       intro v8 w8 hl8
       have HC8 := hide (longer_below HC7.out HC7.out.size (longer_from HL7.out (by simp) (by simp [Value.ownBlock])) hl8)
       obtain ⟨A8, c8, rfl, hr8⟩ := owns_slice hl8.1
       have HR8 := hide hr8
       clear hl8 hr8)
    | fail)
  have HP8 : Hid (Prg w8 w8.heap.size A8 (n0 + n1) (l ++ m)) := both_rd HR8.out
  refine (put_all n0 n1 c8 A8 l m w8 hs HP8.out hf0 hf1 HR0.out HR1.out).mono ?_
  rintro e w9 ⟨ga, rfl, hm9⟩
  have HA := hide hm9
  have HC9 := hide (HC8.out.trans (hm9.2.2.mono HC8.out.size))
  clear hm9
  go_wp2_with fail
  refine (get_p n0 gp l w9 (by omega) hl0 ((HP.out.rd.below (HQ.out.2.2.trans (HC9.out.mono HQ.out.2.2.size))).mono (Nat.le_trans HQ.out.2.2.size HC9.out.size)) hf0 HR0.out).mono ?_
  rintro e w10 ⟨gy, rfl, hm10⟩
  have HY := hide hm10
  have HC10 := hide (HC9.out.trans (hm10.2.2.mono HC9.out.size))
  clear hm10
  go_wp2_with fail
  refine (sameProgram_yes (some ⟨gy, 0, none⟩) A0 n0 n0 c0 w10.heap.size l w10 HY.out.rd ((h0.below (HB6.out.trans (HC10.out.mono HB6.out.size))).mono (Nat.le_trans HB6.out.size HC10.out.size)) (Nat.le_refl _) (by omega)).mono ?_
  rintro e w11 ⟨rfl, hb11⟩
  have HC11 := hide (HC10.out.trans (hb11.mono HC10.out.size))
  have HA11 := hide (row_below HA.out.1 (HY.out.2.2.trans (hb11.mono HY.out.2.2.size)))
  have HP11 := hide (row_below HP.out.1 (HQ.out.2.2.trans (HC11.out.mono HQ.out.2.2.size)))
  have HQ11 := hide (HQ.out.rd.below HC11.out)
  have HNE : Hid (ga ≠ gp) := fun h => by
    have e1 := row_lt HP.out.1
    have e2 := HA.out.2.1
    have e3 := HQ.out.2.2.size
    have e4 := HC8.out.size
    omega
  clear hb11
  have HE3 : Hid (8 * n0 + 8 * n1 ≤ maxLen) := by show 8 * n0 + 8 * n1 ≤ maxLen; unfold maxLen; omega
  have HE4 : Hid ((8 * n0 + 8 * n1) * 1 ≤ 140737488355328) := by show (8 * n0 + 8 * n1) * 1 ≤ 140737488355328; omega
  go_wp2_with (at_builtin; refine stop_here ?_)
  show Hid _
  refine start_here ?_
  refine wpList_append_rd_w _ ?c0 (.tmp 118) (.tmp 119) _ rfl 5 i1 _ 1 1 Try.underlying25 hi1 hy0 hy1 hy2 rfl Nat.one_pos (.slice (some ⟨gp, 0, none⟩) (8 * n0) (8 * n0)) (8 * n0) _ rfl HP11.out w6.heap.size (some ⟨gq, 0, none⟩) (8 * n1) (8 * n1) _ rfl HQ11.out (fun h => nomatch h) (u8s_one _) HE3.out HE4.out ?_
  case c0 => rfl
  intro v12 w12 hl12
  have HA12 := hide (World.ownsRow.kept HA11.out hl12.2.1 (.inr (by simp [Value.ownBlock]; exact HNE.out)))
  have HB12 := hide (longer_below (HB6.out.trans (HC11.out.mono HB6.out.size)) (Nat.le_trans HB6.out.size HC11.out.size) (by simp [Value.ownBlock]; exact Nat.le_trans HB5.out.size HPG.out) hl12)
  obtain ⟨A12, c12, rfl, hr12⟩ := owns_slice hl12.1
  have HR12 := hide hr12
  clear hl12 hr12
  go_wp2_with fail
  refine (sameBytes_yes (some ⟨ga, 0, none⟩) A12 (8 * n0 + 8 * n1) (8 * n0 + 8 * n1) c12 w12.heap.size ((l ++ m).flatMap Ins.bytes) w12 ((Rd.of_owns HA12.out).mono (World.ownsRow.lt HA12.out _ rfl).2) (by have := HR12.out; rwa [bytes_app] at this) (Nat.le_refl _) (by omega)).mono ?_
  rintro e w13 ⟨rfl, hb13⟩
  have HB13 := hide (HB12.out.trans (hb13.mono HB12.out.size))
  clear hb13
  go_wp2
  go_ret
  exact ⟨rfl, HB13.out⟩
set_option maxRecDepth 100000 in
set_option maxHeartbeats 4000000 in
theorem back_even_rw (A0 A1 A2 : Option Addr) (n0 n1 n2 c0 c1 c2 k : Nat) (l m : List Ins) (bs : List Int) (w : World) (h0 : Rd w w.heap.size 5 A0 n0 (pcells l)) (h1 : Rd w w.heap.size 5 A1 n1 (pcells m)) (h2 : Rd w w.heap.size 1 A2 n2 (u8s bs))
    (hA0 : A0 = none → n0 = 0) (hA1 : A1 = none → n1 = 0) (hf0 : ∀ s ∈ l, s.Fits) (hf1 : ∀ s ∈ m, s.Fits) (hbs : ∀ b ∈ bs, IsByte b) (hs : n0 + n1 ≤ 2000) (hs2 : n2 ≤ 16000) (hc2 : n2 ≤ c2) (hcm : c2 ≤ maxLen) (hk : n2 = 8 * k) (hr0 : allRight l = true) (hr1 : allRight m = false) :
    Calls Try.prog 5 #[.slice A0 n0 c0, .slice A1 n1 c1, .slice A2 n2 c2] w fun e w' => e = .returned (.bool true) ∧ Below w.heap.size w w' := by
  have hlen : bs.length = n2 := by have := h2.1; simp [u8s] at this; omega
  have hd : decide (2000 < (n0 : Int) + n1) = false := by simp; omega
  have hd2 : decide (16000 < (n2 : Int)) = false := by simp; omega
  have hq : ((n2 : Int) % 8 == 0) = true := by simp; omega
  have hk4 : k ≤ 2000 := by omega
  have hq2 : ((k : Int) != (n2 : Int) / 8) = false := by simp; omega
  have hq3 : (wrap64 ((n2 : Int) / 8)) = (n2 : Int) / 8 := by unfold wrap64; omega
  have HN := hide hk
  have HA0 := hide hA0
  have HA1 := hide hA1
  obtain ⟨i0, hi, hz0, hz1, hz2⟩ := info_parts slotInfo
  obtain ⟨i1, hi1, hy0, hy1, hy2⟩ := info_parts u8info
  have hl0 : l.length = n0 := h0.prg.1
  have HR0 := hide hr0
  have HR1 := hide hr1
  clear hA0 hA1 hk hr0 hr1
  go_enter Try.func5, Try.ntmps5
  go_wp2_with fail
  refine (awake_any _).mono ?_
  rintro e w1 ⟨rfl, hb⟩
  have HB := hide hb
  clear hb
  go_wp2_with fail
  refine (get_right n2 k c2 A2 w.heap.size bs _ HN.out (by omega) hc2 hcm ((h2.byt).below HB.out) HB.out.size hbs).mono ?_
  rintro e w2 ⟨gx, rfl, hmx⟩
  have HX := hide hmx
  have HB2 := hide (HB.out.trans (hmx.2.2.mono HB.out.size))
  clear hmx
  go_wp2_with fail
  refine (put_x k n2 gx w2 bs HN.out (by omega) HX.out.rd hbs hlen).mono ?_
  rintro e w3 ⟨gc, rfl, hmc⟩
  have HC := hide hmc
  have HB3 := hide (HB2.out.trans (hmc.2.2.mono HB2.out.size))
  clear hmc
  go_wp2_with fail
  refine (sameBytes_yes (some ⟨gc, 0, none⟩) A2 n2 n2 c2 w3.heap.size bs w3 HC.out.rd ((h2.below HB3.out).mono HB3.out.size) (Nat.le_refl _) (by omega)).mono ?_
  rintro e w4 ⟨rfl, hb4⟩
  have HB4 := hide (HB3.out.trans (hb4.mono HB3.out.size))
  clear hb4 HB HB2 HB3 HX HC
  go_wp2_with fail
  refine (put_right n0 c0 A0 w.heap.size l _ (by omega) (h0.prg.below HB4.out) HB4.out.size hf0 HR0.out).mono ?_
  rintro e w5 ⟨gp, rfl, hm5⟩
  have HB5 := hide (HB4.out.trans (hm5.2.2.mono HB4.out.size))
  clear hm5 HB4
  go_wp2_with fail
  refine (put_wrong n1 c1 A1 w.heap.size m _ (by omega) (h1.prg.below HB5.out) HB5.out.size hf1 HR1.out).mono ?_
  rintro e w6 ⟨rfl, hb6⟩
  have HB6 := hide (HB5.out.trans (hb6.mono HB5.out.size))
  clear hb6 HB5
  have HO6 : Hid ((w6.alloc (.cells #[] 44)).ownsRow 0 44 5 (.slice (some ⟨w6.heap.size, 0, none⟩) 0 0) 0 []) := World.ownsRow_made w6 #[] 0 (Nat.zero_le _) (by simp [maxLen]) rfl
  have HC6 : Hid (Below w6.heap.size w6 (w6.alloc (.cells #[] 44))) := (Below.refl _ w6).alloc (Nat.le_refl _) _
  go_wp2_with (first
    | (at_builtin
       refine wpList_append_rd _ rfl (.tmp 78) (.tmp 79) _ rfl 44 i0 _ 5 12 Try.underlying22 hi hz0 hz1 hz2 rfl (by omega) (.slice (some ⟨w6.heap.size, 0, none⟩) 0 0) 0 [] rfl HO6.out w.heap.size A0 n0 c0 (pcells l) rfl (h0.below (HB6.out.alloc HB6.out.size _)) HA0.out (pcells_one l) (by simp [maxLen]; omega) (by omega) ?_
       intro v7 w7 hl7
       have HL7 := hide hl7
       have HC7 := hide (longer_below HC6.out (by simp) (by simp [Value.ownBlock]) hl7)
       clear hl7)
    | (at_builtin
       refine wpList_append_rd _ rfl (.tmp 80) (.tmp 81) _ rfl 44 i0 _ 5 12 Try.underlying22 hi hz0 hz1 hz2 rfl (by omega) v7 (0 + n0) _ rfl HL7.out.1 w.heap.size A1 n1 c1 (pcells m) rfl (h1.below (HB6.out.trans (HC7.out.mono HB6.out.size))) HA1.out (pcells_one m) (by simp [maxLen]; omega) (by omega) ?_
       intro v8 w8 hl8
       have HC8 := hide (longer_below HC7.out HC7.out.size (longer_from HL7.out (by simp) (by simp [Value.ownBlock])) hl8)
       obtain ⟨A8, c8, rfl, hr8⟩ := owns_slice hl8.1
       have HR8 := hide hr8
       clear hl8 hr8)
    | fail)
  have HP8 : Hid (Prg w8 w8.heap.size A8 (n0 + n1) (l ++ m)) := both_rd HR8.out
  refine (put_wrong (n0 + n1) c8 A8 w8.heap.size (l ++ m) w8 (by omega) HP8.out (Nat.le_refl _) (both_fits hf0 hf1) (both_wrong (.inr HR1.out))).mono ?_
  rintro e w9 ⟨rfl, hb9⟩
  have HB9 := hide (HB6.out.trans ((HC8.out.trans (hb9.mono HC8.out.size)).mono HB6.out.size))
  clear hb9
  go_wp2
  go_ret
  exact ⟨rfl, HB9.out⟩
set_option maxRecDepth 100000 in
set_option maxHeartbeats 4000000 in
theorem back_even_w (A0 A1 A2 : Option Addr) (n0 n1 n2 c0 c1 c2 k : Nat) (l m : List Ins) (bs : List Int) (w : World) (h0 : Rd w w.heap.size 5 A0 n0 (pcells l)) (h1 : Rd w w.heap.size 5 A1 n1 (pcells m)) (h2 : Rd w w.heap.size 1 A2 n2 (u8s bs))
    (hA0 : A0 = none → n0 = 0) (hA1 : A1 = none → n1 = 0) (hf0 : ∀ s ∈ l, s.Fits) (hf1 : ∀ s ∈ m, s.Fits) (hbs : ∀ b ∈ bs, IsByte b) (hs : n0 + n1 ≤ 2000) (hs2 : n2 ≤ 16000) (hc2 : n2 ≤ c2) (hcm : c2 ≤ maxLen) (hk : n2 = 8 * k) (hr0 : allRight l = false) :
    Calls Try.prog 5 #[.slice A0 n0 c0, .slice A1 n1 c1, .slice A2 n2 c2] w fun e w' => e = .returned (.bool true) ∧ Below w.heap.size w w' := by
  have hlen : bs.length = n2 := by have := h2.1; simp [u8s] at this; omega
  have hd : decide (2000 < (n0 : Int) + n1) = false := by simp; omega
  have hd2 : decide (16000 < (n2 : Int)) = false := by simp; omega
  have hq : ((n2 : Int) % 8 == 0) = true := by simp; omega
  have hk4 : k ≤ 2000 := by omega
  have hq2 : ((k : Int) != (n2 : Int) / 8) = false := by simp; omega
  have hq3 : (wrap64 ((n2 : Int) / 8)) = (n2 : Int) / 8 := by unfold wrap64; omega
  have HN := hide hk
  have HA0 := hide hA0
  have HA1 := hide hA1
  obtain ⟨i0, hi, hz0, hz1, hz2⟩ := info_parts slotInfo
  obtain ⟨i1, hi1, hy0, hy1, hy2⟩ := info_parts u8info
  have hl0 : l.length = n0 := h0.prg.1
  have HR0 := hide hr0
  clear hA0 hA1 hk hr0
  go_enter Try.func5, Try.ntmps5
  go_wp2_with fail
  refine (awake_any _).mono ?_
  rintro e w1 ⟨rfl, hb⟩
  have HB := hide hb
  clear hb
  go_wp2_with fail
  refine (get_right n2 k c2 A2 w.heap.size bs _ HN.out (by omega) hc2 hcm ((h2.byt).below HB.out) HB.out.size hbs).mono ?_
  rintro e w2 ⟨gx, rfl, hmx⟩
  have HX := hide hmx
  have HB2 := hide (HB.out.trans (hmx.2.2.mono HB.out.size))
  clear hmx
  go_wp2_with fail
  refine (put_x k n2 gx w2 bs HN.out (by omega) HX.out.rd hbs hlen).mono ?_
  rintro e w3 ⟨gc, rfl, hmc⟩
  have HC := hide hmc
  have HB3 := hide (HB2.out.trans (hmc.2.2.mono HB2.out.size))
  clear hmc
  go_wp2_with fail
  refine (sameBytes_yes (some ⟨gc, 0, none⟩) A2 n2 n2 c2 w3.heap.size bs w3 HC.out.rd ((h2.below HB3.out).mono HB3.out.size) (Nat.le_refl _) (by omega)).mono ?_
  rintro e w4 ⟨rfl, hb4⟩
  have HB4 := hide (HB3.out.trans (hb4.mono HB3.out.size))
  clear hb4 HB HB2 HB3 HX HC
  go_wp2_with fail
  refine (put_wrong n0 c0 A0 w.heap.size l _ (by omega) (h0.prg.below HB4.out) HB4.out.size hf0 HR0.out).mono ?_
  rintro e w5 ⟨rfl, hb5⟩
  have HB5 := hide (HB4.out.trans (hb5.mono HB4.out.size))
  clear hb5 HB4
  go_wp2_with fail
  refine (put_some n1 c1 A1 w.heap.size m _ (by omega) (h1.prg.below HB5.out) HB5.out.size hf1).mono ?_
  rintro e w6 ⟨vq, eq, rfl, hb6⟩
  have HB6 := hide (HB5.out.trans (hb6.mono HB5.out.size))
  clear hb6 HB5
  have HO6 : Hid ((w6.alloc (.cells #[] 44)).ownsRow 0 44 5 (.slice (some ⟨w6.heap.size, 0, none⟩) 0 0) 0 []) := World.ownsRow_made w6 #[] 0 (Nat.zero_le _) (by simp [maxLen]) rfl
  have HC6 : Hid (Below w6.heap.size w6 (w6.alloc (.cells #[] 44))) := (Below.refl _ w6).alloc (Nat.le_refl _) _
  go_wp2_with (first
    | (at_builtin
       refine wpList_append_rd _ rfl (.tmp 78) (.tmp 79) _ rfl 44 i0 _ 5 12 Try.underlying22 hi hz0 hz1 hz2 rfl (by omega) (.slice (some ⟨w6.heap.size, 0, none⟩) 0 0) 0 [] rfl HO6.out w.heap.size A0 n0 c0 (pcells l) rfl (h0.below (HB6.out.alloc HB6.out.size _)) HA0.out (pcells_one l) (by simp [maxLen]; omega) (by omega) ?_
       intro v7 w7 hl7
       have HL7 := hide hl7
       have HC7 := hide (longer_below HC6.out (by simp) (by simp [Value.ownBlock]) hl7)
       clear hl7)
    | (at_builtin
       refine wpList_append_rd _ rfl (.tmp 80) (.tmp 81) _ rfl 44 i0 _ 5 12 Try.underlying22 hi hz0 hz1 hz2 rfl (by omega) v7 (0 + n0) _ rfl HL7.out.1 w.heap.size A1 n1 c1 (pcells m) rfl (h1.below (HB6.out.trans (HC7.out.mono HB6.out.size))) HA1.out (pcells_one m) (by simp [maxLen]; omega) (by omega) ?_
       intro v8 w8 hl8
       have HC8 := hide (longer_below HC7.out HC7.out.size (longer_from HL7.out (by simp) (by simp [Value.ownBlock])) hl8)
       obtain ⟨A8, c8, rfl, hr8⟩ := owns_slice hl8.1
       have HR8 := hide hr8
       clear hl8 hr8)
    | fail)
  have HP8 : Hid (Prg w8 w8.heap.size A8 (n0 + n1) (l ++ m)) := both_rd HR8.out
  refine (put_wrong (n0 + n1) c8 A8 w8.heap.size (l ++ m) w8 (by omega) HP8.out (Nat.le_refl _) (both_fits hf0 hf1) (both_wrong (.inl HR0.out))).mono ?_
  rintro e w9 ⟨rfl, hb9⟩
  have HB9 := hide (HB6.out.trans ((HC8.out.trans (hb9.mono HC8.out.size)).mono HB6.out.size))
  clear hb9
  go_wp2
  go_ret
  exact ⟨rfl, HB9.out⟩
set_option maxRecDepth 100000 in
set_option maxHeartbeats 4000000 in
theorem back_odd_rr (A0 A1 A2 : Option Addr) (n0 n1 n2 c0 c1 c2 k : Nat) (l m : List Ins) (bs : List Int) (w : World) (h0 : Rd w w.heap.size 5 A0 n0 (pcells l)) (h1 : Rd w w.heap.size 5 A1 n1 (pcells m)) (h2 : Rd w w.heap.size 1 A2 n2 (u8s bs))
    (hA0 : A0 = none → n0 = 0) (hA1 : A1 = none → n1 = 0) (hf0 : ∀ s ∈ l, s.Fits) (hf1 : ∀ s ∈ m, s.Fits) (hbs : ∀ b ∈ bs, IsByte b) (hs : n0 + n1 ≤ 2000) (hs2 : n2 ≤ 16000) (hc2 : n2 ≤ c2) (hcm : c2 ≤ maxLen) (hk : n2 % 8 ≠ 0) (hr0 : allRight l = true) (hr1 : allRight m = true) :
    Calls Try.prog 5 #[.slice A0 n0 c0, .slice A1 n1 c1, .slice A2 n2 c2] w fun e w' => e = .returned (.bool true) ∧ Below w.heap.size w w' := by
  have hlen : bs.length = n2 := by have := h2.1; simp [u8s] at this; omega
  have hd : decide (2000 < (n0 : Int) + n1) = false := by simp; omega
  have hd2 : decide (16000 < (n2 : Int)) = false := by simp; omega
  have hq : ((n2 : Int) % 8 == 0) = false := by simp; omega
  have HN := hide hk
  have HA0 := hide hA0
  have HA1 := hide hA1
  obtain ⟨i0, hi, hz0, hz1, hz2⟩ := info_parts slotInfo
  obtain ⟨i1, hi1, hy0, hy1, hy2⟩ := info_parts u8info
  have hl0 : l.length = n0 := h0.prg.1
  have HR0 := hide hr0
  have HR1 := hide hr1
  clear hA0 hA1 hk hr0 hr1
  go_enter Try.func5, Try.ntmps5
  go_wp2_with fail
  refine (awake_any _).mono ?_
  rintro e w1 ⟨rfl, hb⟩
  have HB := hide hb
  clear hb
  go_wp2_with fail
  refine (get_wrong n2 c2 A2 _ (.inr HN.out)).mono ?_
  rintro e w4 ⟨rfl, hb4⟩
  have HB4 := hide (HB.out.trans (hb4.mono HB.out.size))
  rw [show getErr n2 = 4 by unfold getErr; rw [if_neg (by omega)]]
  clear hb4 HB
  go_wp2_with fail
  refine (put_right n0 c0 A0 w.heap.size l _ (by omega) (h0.prg.below HB4.out) HB4.out.size hf0 HR0.out).mono ?_
  rintro e w5 ⟨gp, rfl, hm5⟩
  have HP := hide hm5
  have HB5 := HB4
  have HPG := hide hm5.2.1
  have HB5' := hide (HB4.out.trans (hm5.2.2.mono HB4.out.size))
  clear hm5 HB4
  go_wp2_with fail
  refine (put_right n1 c1 A1 w.heap.size m _ (by omega) (h1.prg.below HB5'.out) HB5'.out.size hf1 HR1.out).mono ?_
  rintro e w6 ⟨gq, rfl, hm6⟩
  have HQ := hide hm6
  have HB6 := hide (HB5'.out.trans (hm6.2.2.mono HB5'.out.size))
  clear hm6 HB5'
  have HO6 : Hid ((w6.alloc (.cells #[] 44)).ownsRow 0 44 5 (.slice (some ⟨w6.heap.size, 0, none⟩) 0 0) 0 []) := World.ownsRow_made w6 #[] 0 (Nat.zero_le _) (by simp [maxLen]) rfl
  have HC6 : Hid (Below w6.heap.size w6 (w6.alloc (.cells #[] 44))) := (Below.refl _ w6).alloc (Nat.le_refl _) _
  go_wp2_with (first
    | (at_builtin
       refine wpList_append_rd _ rfl (.tmp 78) (.tmp 79) _ rfl 44 i0 _ 5 12 Try.underlying22 hi hz0 hz1 hz2 rfl (by omega) (.slice (some ⟨w6.heap.size, 0, none⟩) 0 0) 0 [] rfl HO6.out w.heap.size A0 n0 c0 (pcells l) rfl (h0.below (HB6.out.alloc HB6.out.size _)) HA0.out (pcells_one l) (by simp [maxLen]; omega) (by omega) ?_
       intro v7 w7 hl7
       have HL7 := hide hl7
       have HC7 := hide (longer_below HC6.out (by simp) (by simp [Value.ownBlock]) hl7)
       clear hl7)
    | (at_builtin
       refine wpList_append_rd _ rfl (.tmp 80) (.tmp 81) _ rfl 44 i0 _ 5 12 Try.underlying22 hi hz0 hz1 hz2 rfl (by omega) v7 (0 + n0) _ rfl HL7.out.1 w.heap.size A1 n1 c1 (pcells m) rfl (h1.below (HB6.out.trans (HC7.out.mono HB6.out.size))) HA1.out (pcells_one m) (by simp [maxLen]; omega) (by omega) ?_
       intro v8 w8 hl8
       have HC8 := hide (longer_below HC7.out HC7.out.size (longer_from HL7.out (by simp) (by simp [Value.ownBlock])) hl8)
       obtain ⟨A8, c8, rfl, hr8⟩ := owns_slice hl8.1
       have HR8 := hide hr8
       clear hl8 hr8)
    | fail)
  have HP8 : Hid (Prg w8 w8.heap.size A8 (n0 + n1) (l ++ m)) := both_rd HR8.out
  refine (put_all n0 n1 c8 A8 l m w8 hs HP8.out hf0 hf1 HR0.out HR1.out).mono ?_
  rintro e w9 ⟨ga, rfl, hm9⟩
  have HA := hide hm9
  have HC9 := hide (HC8.out.trans (hm9.2.2.mono HC8.out.size))
  clear hm9
  go_wp2_with fail
  refine (get_p n0 gp l w9 (by omega) hl0 ((HP.out.rd.below (HQ.out.2.2.trans (HC9.out.mono HQ.out.2.2.size))).mono (Nat.le_trans HQ.out.2.2.size HC9.out.size)) hf0 HR0.out).mono ?_
  rintro e w10 ⟨gy, rfl, hm10⟩
  have HY := hide hm10
  have HC10 := hide (HC9.out.trans (hm10.2.2.mono HC9.out.size))
  clear hm10
  go_wp2_with fail
  refine (sameProgram_yes (some ⟨gy, 0, none⟩) A0 n0 n0 c0 w10.heap.size l w10 HY.out.rd ((h0.below (HB6.out.trans (HC10.out.mono HB6.out.size))).mono (Nat.le_trans HB6.out.size HC10.out.size)) (Nat.le_refl _) (by omega)).mono ?_
  rintro e w11 ⟨rfl, hb11⟩
  have HC11 := hide (HC10.out.trans (hb11.mono HC10.out.size))
  have HA11 := hide (row_below HA.out.1 (HY.out.2.2.trans (hb11.mono HY.out.2.2.size)))
  have HP11 := hide (row_below HP.out.1 (HQ.out.2.2.trans (HC11.out.mono HQ.out.2.2.size)))
  have HQ11 := hide (HQ.out.rd.below HC11.out)
  have HNE : Hid (ga ≠ gp) := fun h => by
    have e1 := row_lt HP.out.1
    have e2 := HA.out.2.1
    have e3 := HQ.out.2.2.size
    have e4 := HC8.out.size
    omega
  clear hb11
  have HE3 : Hid (8 * n0 + 8 * n1 ≤ maxLen) := by show 8 * n0 + 8 * n1 ≤ maxLen; unfold maxLen; omega
  have HE4 : Hid ((8 * n0 + 8 * n1) * 1 ≤ 140737488355328) := by show (8 * n0 + 8 * n1) * 1 ≤ 140737488355328; omega
  go_wp2_with (at_builtin; refine stop_here ?_)
  show Hid _
  refine start_here ?_
  refine wpList_append_rd_w _ ?c0 (.tmp 118) (.tmp 119) _ rfl 5 i1 _ 1 1 Try.underlying25 hi1 hy0 hy1 hy2 rfl Nat.one_pos (.slice (some ⟨gp, 0, none⟩) (8 * n0) (8 * n0)) (8 * n0) _ rfl HP11.out w6.heap.size (some ⟨gq, 0, none⟩) (8 * n1) (8 * n1) _ rfl HQ11.out (fun h => nomatch h) (u8s_one _) HE3.out HE4.out ?_
  case c0 => rfl
  intro v12 w12 hl12
  have HA12 := hide (World.ownsRow.kept HA11.out hl12.2.1 (.inr (by simp [Value.ownBlock]; exact HNE.out)))
  have HB12 := hide (longer_below (HB6.out.trans (HC11.out.mono HB6.out.size)) (Nat.le_trans HB6.out.size HC11.out.size) (by simp [Value.ownBlock]; exact Nat.le_trans HB5.out.size HPG.out) hl12)
  obtain ⟨A12, c12, rfl, hr12⟩ := owns_slice hl12.1
  have HR12 := hide hr12
  clear hl12 hr12
  go_wp2_with fail
  refine (sameBytes_yes (some ⟨ga, 0, none⟩) A12 (8 * n0 + 8 * n1) (8 * n0 + 8 * n1) c12 w12.heap.size ((l ++ m).flatMap Ins.bytes) w12 ((Rd.of_owns HA12.out).mono (World.ownsRow.lt HA12.out _ rfl).2) (by have := HR12.out; rwa [bytes_app] at this) (Nat.le_refl _) (by omega)).mono ?_
  rintro e w13 ⟨rfl, hb13⟩
  have HB13 := hide (HB12.out.trans (hb13.mono HB12.out.size))
  clear hb13
  go_wp2
  go_ret
  exact ⟨rfl, HB13.out⟩
set_option maxRecDepth 100000 in
set_option maxHeartbeats 4000000 in
theorem back_odd_rw (A0 A1 A2 : Option Addr) (n0 n1 n2 c0 c1 c2 k : Nat) (l m : List Ins) (bs : List Int) (w : World) (h0 : Rd w w.heap.size 5 A0 n0 (pcells l)) (h1 : Rd w w.heap.size 5 A1 n1 (pcells m)) (h2 : Rd w w.heap.size 1 A2 n2 (u8s bs))
    (hA0 : A0 = none → n0 = 0) (hA1 : A1 = none → n1 = 0) (hf0 : ∀ s ∈ l, s.Fits) (hf1 : ∀ s ∈ m, s.Fits) (hbs : ∀ b ∈ bs, IsByte b) (hs : n0 + n1 ≤ 2000) (hs2 : n2 ≤ 16000) (hc2 : n2 ≤ c2) (hcm : c2 ≤ maxLen) (hk : n2 % 8 ≠ 0) (hr0 : allRight l = true) (hr1 : allRight m = false) :
    Calls Try.prog 5 #[.slice A0 n0 c0, .slice A1 n1 c1, .slice A2 n2 c2] w fun e w' => e = .returned (.bool true) ∧ Below w.heap.size w w' := by
  have hlen : bs.length = n2 := by have := h2.1; simp [u8s] at this; omega
  have hd : decide (2000 < (n0 : Int) + n1) = false := by simp; omega
  have hd2 : decide (16000 < (n2 : Int)) = false := by simp; omega
  have hq : ((n2 : Int) % 8 == 0) = false := by simp; omega
  have HN := hide hk
  have HA0 := hide hA0
  have HA1 := hide hA1
  obtain ⟨i0, hi, hz0, hz1, hz2⟩ := info_parts slotInfo
  obtain ⟨i1, hi1, hy0, hy1, hy2⟩ := info_parts u8info
  have hl0 : l.length = n0 := h0.prg.1
  have HR0 := hide hr0
  have HR1 := hide hr1
  clear hA0 hA1 hk hr0 hr1
  go_enter Try.func5, Try.ntmps5
  go_wp2_with fail
  refine (awake_any _).mono ?_
  rintro e w1 ⟨rfl, hb⟩
  have HB := hide hb
  clear hb
  go_wp2_with fail
  refine (get_wrong n2 c2 A2 _ (.inr HN.out)).mono ?_
  rintro e w4 ⟨rfl, hb4⟩
  have HB4 := hide (HB.out.trans (hb4.mono HB.out.size))
  rw [show getErr n2 = 4 by unfold getErr; rw [if_neg (by omega)]]
  clear hb4 HB
  go_wp2_with fail
  refine (put_right n0 c0 A0 w.heap.size l _ (by omega) (h0.prg.below HB4.out) HB4.out.size hf0 HR0.out).mono ?_
  rintro e w5 ⟨gp, rfl, hm5⟩
  have HB5 := hide (HB4.out.trans (hm5.2.2.mono HB4.out.size))
  clear hm5 HB4
  go_wp2_with fail
  refine (put_wrong n1 c1 A1 w.heap.size m _ (by omega) (h1.prg.below HB5.out) HB5.out.size hf1 HR1.out).mono ?_
  rintro e w6 ⟨rfl, hb6⟩
  have HB6 := hide (HB5.out.trans (hb6.mono HB5.out.size))
  clear hb6 HB5
  have HO6 : Hid ((w6.alloc (.cells #[] 44)).ownsRow 0 44 5 (.slice (some ⟨w6.heap.size, 0, none⟩) 0 0) 0 []) := World.ownsRow_made w6 #[] 0 (Nat.zero_le _) (by simp [maxLen]) rfl
  have HC6 : Hid (Below w6.heap.size w6 (w6.alloc (.cells #[] 44))) := (Below.refl _ w6).alloc (Nat.le_refl _) _
  go_wp2_with (first
    | (at_builtin
       refine wpList_append_rd _ rfl (.tmp 78) (.tmp 79) _ rfl 44 i0 _ 5 12 Try.underlying22 hi hz0 hz1 hz2 rfl (by omega) (.slice (some ⟨w6.heap.size, 0, none⟩) 0 0) 0 [] rfl HO6.out w.heap.size A0 n0 c0 (pcells l) rfl (h0.below (HB6.out.alloc HB6.out.size _)) HA0.out (pcells_one l) (by simp [maxLen]; omega) (by omega) ?_
       intro v7 w7 hl7
       have HL7 := hide hl7
       have HC7 := hide (longer_below HC6.out (by simp) (by simp [Value.ownBlock]) hl7)
       clear hl7)
    | (at_builtin
       refine wpList_append_rd _ rfl (.tmp 80) (.tmp 81) _ rfl 44 i0 _ 5 12 Try.underlying22 hi hz0 hz1 hz2 rfl (by omega) v7 (0 + n0) _ rfl HL7.out.1 w.heap.size A1 n1 c1 (pcells m) rfl (h1.below (HB6.out.trans (HC7.out.mono HB6.out.size))) HA1.out (pcells_one m) (by simp [maxLen]; omega) (by omega) ?_
       intro v8 w8 hl8
       have HC8 := hide (longer_below HC7.out HC7.out.size (longer_from HL7.out (by simp) (by simp [Value.ownBlock])) hl8)
       obtain ⟨A8, c8, rfl, hr8⟩ := owns_slice hl8.1
       have HR8 := hide hr8
       clear hl8 hr8)
    | fail)
  have HP8 : Hid (Prg w8 w8.heap.size A8 (n0 + n1) (l ++ m)) := both_rd HR8.out
  refine (put_wrong (n0 + n1) c8 A8 w8.heap.size (l ++ m) w8 (by omega) HP8.out (Nat.le_refl _) (both_fits hf0 hf1) (both_wrong (.inr HR1.out))).mono ?_
  rintro e w9 ⟨rfl, hb9⟩
  have HB9 := hide (HB6.out.trans ((HC8.out.trans (hb9.mono HC8.out.size)).mono HB6.out.size))
  clear hb9
  go_wp2
  go_ret
  exact ⟨rfl, HB9.out⟩
set_option maxRecDepth 100000 in
set_option maxHeartbeats 4000000 in
theorem back_odd_w (A0 A1 A2 : Option Addr) (n0 n1 n2 c0 c1 c2 k : Nat) (l m : List Ins) (bs : List Int) (w : World) (h0 : Rd w w.heap.size 5 A0 n0 (pcells l)) (h1 : Rd w w.heap.size 5 A1 n1 (pcells m)) (h2 : Rd w w.heap.size 1 A2 n2 (u8s bs))
    (hA0 : A0 = none → n0 = 0) (hA1 : A1 = none → n1 = 0) (hf0 : ∀ s ∈ l, s.Fits) (hf1 : ∀ s ∈ m, s.Fits) (hbs : ∀ b ∈ bs, IsByte b) (hs : n0 + n1 ≤ 2000) (hs2 : n2 ≤ 16000) (hc2 : n2 ≤ c2) (hcm : c2 ≤ maxLen) (hk : n2 % 8 ≠ 0) (hr0 : allRight l = false) :
    Calls Try.prog 5 #[.slice A0 n0 c0, .slice A1 n1 c1, .slice A2 n2 c2] w fun e w' => e = .returned (.bool true) ∧ Below w.heap.size w w' := by
  have hlen : bs.length = n2 := by have := h2.1; simp [u8s] at this; omega
  have hd : decide (2000 < (n0 : Int) + n1) = false := by simp; omega
  have hd2 : decide (16000 < (n2 : Int)) = false := by simp; omega
  have hq : ((n2 : Int) % 8 == 0) = false := by simp; omega
  have HN := hide hk
  have HA0 := hide hA0
  have HA1 := hide hA1
  obtain ⟨i0, hi, hz0, hz1, hz2⟩ := info_parts slotInfo
  obtain ⟨i1, hi1, hy0, hy1, hy2⟩ := info_parts u8info
  have hl0 : l.length = n0 := h0.prg.1
  have HR0 := hide hr0
  clear hA0 hA1 hk hr0
  go_enter Try.func5, Try.ntmps5
  go_wp2_with fail
  refine (awake_any _).mono ?_
  rintro e w1 ⟨rfl, hb⟩
  have HB := hide hb
  clear hb
  go_wp2_with fail
  refine (get_wrong n2 c2 A2 _ (.inr HN.out)).mono ?_
  rintro e w4 ⟨rfl, hb4⟩
  have HB4 := hide (HB.out.trans (hb4.mono HB.out.size))
  rw [show getErr n2 = 4 by unfold getErr; rw [if_neg (by omega)]]
  clear hb4 HB
  go_wp2_with fail
  refine (put_wrong n0 c0 A0 w.heap.size l _ (by omega) (h0.prg.below HB4.out) HB4.out.size hf0 HR0.out).mono ?_
  rintro e w5 ⟨rfl, hb5⟩
  have HB5 := hide (HB4.out.trans (hb5.mono HB4.out.size))
  clear hb5 HB4
  go_wp2_with fail
  refine (put_some n1 c1 A1 w.heap.size m _ (by omega) (h1.prg.below HB5.out) HB5.out.size hf1).mono ?_
  rintro e w6 ⟨vq, eq, rfl, hb6⟩
  have HB6 := hide (HB5.out.trans (hb6.mono HB5.out.size))
  clear hb6 HB5
  have HO6 : Hid ((w6.alloc (.cells #[] 44)).ownsRow 0 44 5 (.slice (some ⟨w6.heap.size, 0, none⟩) 0 0) 0 []) := World.ownsRow_made w6 #[] 0 (Nat.zero_le _) (by simp [maxLen]) rfl
  have HC6 : Hid (Below w6.heap.size w6 (w6.alloc (.cells #[] 44))) := (Below.refl _ w6).alloc (Nat.le_refl _) _
  go_wp2_with (first
    | (at_builtin
       refine wpList_append_rd _ rfl (.tmp 78) (.tmp 79) _ rfl 44 i0 _ 5 12 Try.underlying22 hi hz0 hz1 hz2 rfl (by omega) (.slice (some ⟨w6.heap.size, 0, none⟩) 0 0) 0 [] rfl HO6.out w.heap.size A0 n0 c0 (pcells l) rfl (h0.below (HB6.out.alloc HB6.out.size _)) HA0.out (pcells_one l) (by simp [maxLen]; omega) (by omega) ?_
       intro v7 w7 hl7
       have HL7 := hide hl7
       have HC7 := hide (longer_below HC6.out (by simp) (by simp [Value.ownBlock]) hl7)
       clear hl7)
    | (at_builtin
       refine wpList_append_rd _ rfl (.tmp 80) (.tmp 81) _ rfl 44 i0 _ 5 12 Try.underlying22 hi hz0 hz1 hz2 rfl (by omega) v7 (0 + n0) _ rfl HL7.out.1 w.heap.size A1 n1 c1 (pcells m) rfl (h1.below (HB6.out.trans (HC7.out.mono HB6.out.size))) HA1.out (pcells_one m) (by simp [maxLen]; omega) (by omega) ?_
       intro v8 w8 hl8
       have HC8 := hide (longer_below HC7.out HC7.out.size (longer_from HL7.out (by simp) (by simp [Value.ownBlock])) hl8)
       obtain ⟨A8, c8, rfl, hr8⟩ := owns_slice hl8.1
       have HR8 := hide hr8
       clear hl8 hr8)
    | fail)
  have HP8 : Hid (Prg w8 w8.heap.size A8 (n0 + n1) (l ++ m)) := both_rd HR8.out
  refine (put_wrong (n0 + n1) c8 A8 w8.heap.size (l ++ m) w8 (by omega) HP8.out (Nat.le_refl _) (both_fits hf0 hf1) (both_wrong (.inl HR0.out))).mono ?_
  rintro e w9 ⟨rfl, hb9⟩
  have HB9 := hide (HB6.out.trans ((HC8.out.trans (hb9.mono HC8.out.size)).mono HB6.out.size))
  clear hb9
  go_wp2
  go_ret
  exact ⟨rfl, HB9.out⟩
end Go.Proofs.Ytjndmpockfmenaa
