/-
  Push, Pop, Peek.
-/
import Derived.Test.YtflpifelamkagaaGreatV5
namespace Go.Proofs.YtflpifelamkagaaGreat
open Go.RowKit
set_option linter.unusedVariables false

section
variable {w : World} {B b sz n c : Nat} {st : Bool} {A : Option Addr} {L : List QR}
theorem find_none (h : Que w B b st sz n A c L) (h0 : L.length = 0) : Calls Tryz.prog 28 #[.pointer (some ⟨b, 0, none⟩)] w fun e w' => e = .returned (.tuple #[.int .i64 0, .int .i64 6]) ∧ Below w.heap.size w w' := by
  have := find_any h
  rw [h0] at this
  cases st <;> exact this
theorem find_some (h : Que w B b st sz n A c L) (h0 : 0 < L.length) : Calls Tryz.prog 28 #[.pointer (some ⟨b, 0, none⟩)] w fun e w' => e = .returned (.tuple #[.int .i64 (atI st L.length), .int .i64 0]) ∧ Below w.heap.size w w' := by
  have := find_any h
  rw [show errI L.length = 0 by unfold errI; rw [if_neg (by omega)]] at this
  exact this
end
theorem pop_not (p : Option Addr) (w : World) (h : NoQ p w) : Calls Tryz.prog 11 #[.pointer p] w fun e w' => e = .returned (.tuple #[.slice none 0 0, .int .i64 1]) ∧ Below w.heap.size w w' := by
  have H := hide (find_not p w h)
  clear h
  go_enter Tryz.func11, Tryz.ntmps11
  go_wp2_with (go_at_call 28; refine H.out.mono ?_; rintro e w1 ⟨rfl, hb⟩; have HB := hide hb; clear hb)
  go_ret2
  exact ⟨rfl, HB.out⟩
theorem peek_not (p : Option Addr) (w : World) (h : NoQ p w) : Calls Tryz.prog 14 #[.pointer p] w fun e w' => e = .returned (.tuple #[.slice none 0 0, .int .i64 1]) ∧ Below w.heap.size w w' := by
  have H := hide (find_not p w h)
  clear h
  go_enter Tryz.func14, Tryz.ntmps14
  go_wp2_with (go_at_call 28; refine H.out.mono ?_; rintro e w1 ⟨rfl, hb⟩; have HB := hide hb; clear hb)
  go_ret2
  exact ⟨rfl, HB.out⟩
section
variable {w : World} {B b sz n c : Nat} {st : Bool} {A : Option Addr} {L : List QR}
theorem pop_none (h : Que w B b st sz n A c L) (h0 : L.length = 0) : Calls Tryz.prog 11 #[.pointer (some ⟨b, 0, none⟩)] w fun e w' => e = .returned (.tuple #[.slice none 0 0, .int .i64 6]) ∧ Below w.heap.size w w' := by
  have H := hide (find_none h h0)
  clear h h0
  go_enter Tryz.func11, Tryz.ntmps11
  go_wp2_with (go_at_call 28; refine H.out.mono ?_; rintro e w1 ⟨rfl, hb⟩; have HB := hide hb; clear hb)
  go_ret2
  exact ⟨rfl, HB.out⟩
theorem peek_none (h : Que w B b st sz n A c L) (h0 : L.length = 0) : Calls Tryz.prog 14 #[.pointer (some ⟨b, 0, none⟩)] w fun e w' => e = .returned (.tuple #[.slice none 0 0, .int .i64 6]) ∧ Below w.heap.size w w' := by
  have H := hide (find_none h h0)
  clear h h0
  go_enter Tryz.func14, Tryz.ntmps14
  go_wp2_with (go_at_call 28; refine H.out.mono ?_; rintro e w1 ⟨rfl, hb⟩; have HB := hide hb; clear hb)
  go_ret2
  exact ⟨rfl, HB.out⟩
/-- The next one was taken out. -/
def PopTold (B b : Nat) (st : Bool) (sz n : Nat) (A : Option Addr) (c : Nat) (L : List QR) (w : World) (e : Ending) (w' : World) : Prop :=
  ∃ r, L[atI st L.length]? = some r ∧ e = .returned (.tuple #[.slice (some ⟨r.g, 0, none⟩) sz r.c, .int .i64 0]) ∧ RemTold B b st sz n A c L (atI st L.length) w w'
theorem RemTold.later {i : Nat} {w1 w' : World} (h : RemTold B b st sz n A c L i w1 w') (hb : Below w.heap.size w w1) : RemTold B b st sz n A c L i w w' := ⟨h.1, keptTrans (Kept.of_below hb) h.2⟩
theorem atI_lt (h0 : 0 < L.length) : ∃ r, L[atI st L.length]? = some r := by
  have : atI st L.length < L.length := by unfold atI; split <;> omega
  exact ⟨_, List.getElem?_eq_getElem this⟩
set_option maxRecDepth 100000 in
theorem pop_some (h : Que w B b st sz n A c L) (h0 : 0 < L.length) : Calls Tryz.prog 11 #[.pointer (some ⟨b, 0, none⟩)] w (PopTold B b st sz n A c L w) := by
  have H := hide (find_some h h0)
  obtain ⟨r, hr⟩ := atI_lt (st := st) h0
  have HR : Hid (∀ w1, Below w.heap.size w w1 → Calls Tryz.prog 29 #[.pointer (some ⟨b, 3, none⟩), .int .i64 (atI st L.length : Nat)] w1 fun e w' => e = .returned (.slice (some ⟨r.g, 0, none⟩) sz r.c) ∧ RemTold B b st sz n A c L (atI st L.length) w w') := hide (fun w1 hb =>
    (remove_any _ (h.below hb) hr rfl).mono (fun e w' hh => ⟨hh.1, hh.2.later hb⟩))
  have hfin : Hid (∀ w', RemTold B b st sz n A c L (atI st L.length) w w' → PopTold B b st sz n A c L w (.returned (.tuple #[.slice (some ⟨r.g, 0, none⟩) sz r.c, .int .i64 0])) w') := hide (fun w' hh => ⟨r, hr, rfl, hh⟩)
  clear h h0 hr
  obtain ⟨i, hi⟩ : ∃ i, i = atI st L.length := ⟨_, rfl⟩
  rw [← hi] at *
  clear hi
  go_enter Tryz.func11, Tryz.ntmps11
  go_wp2_with (first
    | (go_at_call 28; refine H.out.mono ?_; rintro e w1 ⟨rfl, hb⟩; have HB := hide hb; clear hb)
    | (go_at_call 29; refine (HR.out _ HB.out).mono ?_; rintro e w2 ⟨rfl, hh⟩; have HF := hide (hfin.out _ hh); clear hh))
  go_ret2
  exact HF.out
/-- The next one was told. -/
def PeekTold (st : Bool) (sz : Nat) (L : List QR) (w : World) (e : Ending) (w' : World) : Prop :=
  ∃ r g c, L[atI st L.length]? = some r ∧ e = .returned (.tuple #[.slice (some ⟨g, 0, none⟩) sz c, .int .i64 0]) ∧ w'.ownsRow 0 5 1 (.slice (some ⟨g, 0, none⟩) sz c) sz (u8s r.bs) ∧ w.heap.size ≤ g ∧ Below w.heap.size w w'
set_option maxRecDepth 100000 in
theorem peek_some (h : Que w B b st sz n A c L) (h0 : 0 < L.length) : Calls Tryz.prog 14 #[.pointer (some ⟨b, 0, none⟩)] w (PeekTold st sz L w) := by
  have H := hide (find_some h h0)
  obtain ⟨r, hr⟩ := atI_lt (st := st) h0
  have hmem := List.mem_of_getElem? hr
  have hlt : atI st L.length < L.length := (List.getElem?_eq_some_iff.1 hr).1
  obtain ⟨g, rfl⟩ := h.addr h0
  have hbig := h.big
  have HC : Hid (∀ w1, Below w.heap.size w w1 → w1.cell? ⟨b, 3, none⟩ = some (.slice (some ⟨g, 0, none⟩) L.length c) ∧ w1.cell? ⟨g, atI st L.length, none⟩ = some (.slice (some ⟨r.g, 0, none⟩) sz r.c) ∧
      Calls Tryz.prog 31 #[.slice (some ⟨r.g, 0, none⟩) sz r.c] w1 fun e w' => ∃ g' c', e = .returned (.slice (some ⟨g', 0, none⟩) sz c') ∧ Hid (PeekTold st sz L w (.returned (.tuple #[.slice (some ⟨g', 0, none⟩) sz c', .int .i64 0])) w')) := hide (fun w1 hb => by
    have h1 := h.below hb
    refine ⟨h1.c3, ?_, (bclone_any ⟨r.g, 0, none⟩ sz r.c w1.heap.size r.bs w1 (Rd.of_own (h1.row r hmem)) (Nat.le_refl _) (by omega) (by omega)).mono ?_⟩
    · have := h1.out.cells (g := g) rfl (atI st L.length) (QR.sl sz r) (by rw [List.getElem?_map, hr]; rfl)
      rw [own_add, Nat.zero_add] at this
      exact this
    · rintro e w' ⟨g', c', rfl, h2, h3, h4⟩
      exact ⟨g', c', rfl, r, g', c', hr, rfl, h2, Nat.le_trans hb.size h3, hb.trans (h4.mono hb.size)⟩)
  have q0 : (0 : Int) ≤ (atI st L.length : Nat) := by omega
  have q1 : ((atI st L.length : Nat) : Int) < (L.length : Int) := by omega
  clear h h0 hr hmem
  obtain ⟨i, hi⟩ : ∃ i, i = atI st L.length := ⟨_, rfl⟩
  rw [← hi] at *
  clear hi
  generalize L.length = q at *
  go_enter Tryz.func14, Tryz.ntmps14
  go_wp2_with (first
    | (go_at_call 28; refine H.out.mono ?_; rintro e w1 ⟨rfl, hb⟩; obtain ⟨k1, k2, k3⟩ := HC.out w1 hb; have K3 := hide k3; clear hb k3)
    | (go_at_call 31; refine K3.out.mono ?_; rintro e w2 ⟨g', c', rfl, hh⟩))
  go_ret2
  exact hh.out
end
theorem push_not (p : Option Addr) (S : Option Addr) (m sc : Nat) (fl : Int) (w : World) (h : NoQ p w) : Calls Tryz.prog 16 #[.pointer p, .slice S m sc, .int .u64 fl] w fun e w' => e = .returned (.int .i64 1) ∧ w = w' := by
  have H := hide (h w (Below.refl _ _))
  clear h
  go_enter Tryz.func16, Tryz.ntmps16
  go_wp2_with (go_at_call 32; refine H.out.mono ?_; rintro e w' ⟨rfl, rfl⟩)
  go_ret
  exact ⟨rfl, rfl⟩
section
variable {w : World} {B b sz n c : Nat} {st : Bool} {A : Option Addr} {L : List QR}
set_option maxRecDepth 100000 in
theorem push_len (S : Option Addr) (m sc : Nat) (fl : Int) (h : Que w B b st sz n A c L) (hm : m ≠ sz) : Calls Tryz.prog 16 #[.pointer (some ⟨b, 0, none⟩), .slice S m sc, .int .u64 fl] w fun e w' => e = .returned (.int .i64 2) ∧ w = w' := by
  have H := hide (is_yes b w h.c0)
  have c1 := h.c1
  have d1 : ((m : Int) != (sz : Int)) = true := by simp; omega
  have d2 : (bne m sz) = true := by simp; omega
  have d3 : ¬ m = sz := hm
  clear h
  go_enter Tryz.func16, Tryz.ntmps16
  go_wp2_with (go_at_call 32; refine H.out.mono ?_; rintro e w' ⟨rfl, rfl⟩)
  go_ret
  exact ⟨rfl, rfl⟩
set_option maxRecDepth 100000 in
theorem push_flag (S : Option Addr) (sc : Nat) (fl : Int) (h : Que w B b st sz n A c L) (hf0 : fl ≠ 0) (hf2 : fl ≠ 2) : Calls Tryz.prog 16 #[.pointer (some ⟨b, 0, none⟩), .slice S sz sc, .int .u64 fl] w fun e w' => e = .returned (.int .i64 2) ∧ w = w' := by
  have H := hide (is_yes b w h.c0)
  have c1 := h.c1
  have d1 : (fl != 0) = true := by simpa using hf0
  have d2 : (fl != 2) = true := by simpa using hf2
  clear h
  go_enter Tryz.func16, Tryz.ntmps16
  go_wp2_with (go_at_call 32; refine H.out.mono ?_; rintro e w' ⟨rfl, rfl⟩)
  go_ret
  exact ⟨rfl, rfl⟩
set_option maxRecDepth 100000 in
set_option maxHeartbeats 1000000 in
theorem push_full (S : Option Addr) (sc : Nat) (h : Que w B b st sz n A c L) (hn : L.length = n) : Calls Tryz.prog 16 #[.pointer (some ⟨b, 0, none⟩), .slice S sz sc, .int .u64 0] w fun e w' => e = .returned (.int .i64 8) ∧ Below w.heap.size w w' := by
  have H := hide (is_yes b w h.c0)
  have c1 := h.c1
  have c2 := h.c2
  have hd := h.below ((Below.refl w.heap.size w).drew)
  have c2' := hd.c2
  have HM := hide (many_any b _ _ _ w.drew hd.c3)
  rw [hn] at HM
  clear h hd hn
  go_enter Tryz.func16, Tryz.ntmps16
  go_wp2_with (go_at_call 32; refine H.out.mono ?_; rintro e w' ⟨rfl, rfl⟩)
  go_region_with (go_at_call 33; refine HM.out.mono ?_; rintro e w' ⟨rfl, rfl⟩)
  all_goals
    go_wp2
    go_ret
    exact ⟨rfl, (Below.refl _ w).drew⟩
/-- What Push leaves. -/
def PushTold (B b : Nat) (st : Bool) (sz n : Nat) (A : Option Addr) (L : List QR) (l : List Int) (w : World) (e : Ending) (w' : World) : Prop := e = .returned (.int .i64 0) ∧ PutTold B b st sz n A L l w w'
set_option maxRecDepth 100000 in
set_option maxHeartbeats 1000000 in
theorem push_room (ad : Addr) (sc C : Nat) (l : List Int) (fl : Int) (h : Que w B b st sz n A c L) (hn : L.length < n) (hr : Rd w C 1 (some ad) sz (u8s l)) (hC : C ≤ w.heap.size) (hf : fl = 0 ∨ fl = 2) : Calls Tryz.prog 16 #[.pointer (some ⟨b, 0, none⟩), .slice (some ad) sz sc, .int .u64 fl] w (PushTold B b st sz n A L l w) := by
  have H := hide (is_yes b w h.c0)
  have c1 := h.c1
  have hb := (Below.refl w.heap.size w).drew
  have hd := h.below hb
  have c2' := hd.c2
  have HM := hide (many_any b _ _ _ w.drew hd.c3)
  have HP : Hid (Calls Tryz.prog 34 #[.pointer (some ⟨b, 3, none⟩), .slice (some ad) sz sc] w.drew fun e w' => e = .returned (.tuple #[]) ∧ Hid (PutTold B b st sz n A L l w w')) := hide ((put_any ad sc C l hd hn (hr.below (hb.mono hC)) hC).mono (fun e w' ⟨h1, A', c', r, h2, h3, h4, h5⟩ => ⟨h1, A', c', r, h2, h3, keptTrans (Kept.of_below hb) h4, h5⟩))
  have d1 : ((L.length : Int) == (n : Int)) = false := by simp; omega
  have d2 : (L.length == n) = false := by simp; omega
  have d3 : ¬ L.length = n := by omega
  clear h hd hb hr hn
  generalize L.length = q at *
  rcases hf with rfl | rfl
  all_goals
    go_enter Tryz.func16, Tryz.ntmps16
    go_wp2_with (go_at_call 32; refine H.out.mono ?_; rintro e w' ⟨rfl, rfl⟩)
    go_region_with (go_at_call 33; refine HM.out.mono ?_; rintro e w' ⟨rfl, rfl⟩)
    all_goals
      go_wp2_with (go_at_call 34; refine HP.out.mono ?_; rintro e w2 ⟨rfl, hp⟩)
      go_ret
      exact ⟨rfl, hp.out⟩
/-- What Push leaves where the eldest one goes. -/
def OverTold (B b : Nat) (st : Bool) (sz n : Nat) (A : Option Addr) (L : List QR) (l : List Int) (w : World) (e : Ending) (w' : World) : Prop :=
  e = .returned (.int .i64 0) ∧ ∃ A' c' r, r.bs = l ∧ Que w' B b st sz n A' c' (L.drop 1 ++ [r]) ∧ Kept (fun g => g ≠ b ∧ (Value.slice A 0 0).ownBlock ≠ some g) w w' ∧ ∀ g, OfQ b A' (L.drop 1 ++ [r]) g → OfQ b A L g ∨ w.heap.size ≤ g
theorem OfQ.less {g : Nat} (h : OfQ b A (L.drop 1) g) : OfQ b A L g := by
  rcases h with h | h | ⟨r, hr, h⟩
  · exact .inl h
  · exact .inr (.inl h)
  · exact .inr (.inr ⟨r, List.mem_of_mem_drop hr, h⟩)
set_option maxRecDepth 100000 in
set_option maxHeartbeats 1000000 in
theorem push_over (ad : Addr) (sc C : Nat) (l : List Int) (h : Que w B b st sz n A c L) (hn : L.length = n) (hr : Rd w C 1 (some ad) sz (u8s l)) (hC : C ≤ w.heap.size) (hCq : ∀ g, OfQ b A L g → ad.block ≠ g) : Calls Tryz.prog 16 #[.pointer (some ⟨b, 0, none⟩), .slice (some ad) sz sc, .int .u64 2] w (OverTold B b st sz n A L l w) := by
  have H := hide (is_yes b w h.c0)
  have c1 := h.c1
  have hb := (Below.refl w.heap.size w).drew
  have hd := h.below hb
  have c2' := hd.c2
  have HM := hide (many_any b _ _ _ w.drew hd.c3)
  have hmany := h.many
  obtain ⟨r, hr0⟩ : ∃ r, L[0]? = some r := ⟨_, List.getElem?_eq_getElem (by omega)⟩
  have HR := hide (remove_any 0 hd hr0 rfl)
  have HP : Hid (∀ w1, RemTold B b st sz n A c L 0 w.drew w1 → Calls Tryz.prog 34 #[.pointer (some ⟨b, 3, none⟩), .slice (some ad) sz sc] w1 fun e w' => e = .returned (.tuple #[]) ∧ Hid (OverTold B b st sz n A L l w (.returned (.int .i64 0)) w')) := hide (fun w1 hrem => by
    obtain ⟨hq, hk⟩ := hrem
    rw [List.eraseIdx_zero, ← List.drop_one] at hq
    have hkw := keptTrans (Kept.of_below (F := fun g => g ≠ b ∧ (Value.slice A 0 0).ownBlock ≠ some g) hb) hk
    have hrd : Rd w1 C 1 (some ad) sz (u8s l) := ⟨hr.1, fun h0 => by
      obtain ⟨ad', e, hlt, hc⟩ := hr.2 h0
      cases e
      refine ⟨ad, rfl, hlt, fun j u hu => (World.cell?_of_block ?_).trans (hc j u hu)⟩
      rw [block_add]
      exact hkw.block _ (by omega) ⟨hCq b (.inl rfl), fun e => hCq _ (.inr (.inl e)) rfl⟩⟩
    refine (put_any ad sc C l hq (by rw [List.length_drop]; omega) hrd (Nat.le_trans hC hkw.size)).mono ?_
    rintro e w' ⟨h1, A', c', r', h2, h3, h4, h5⟩
    exact ⟨h1, rfl, A', c', r', h2, h3, keptTrans hkw h4, fun g hg => (h5 g hg).imp OfQ.less (Nat.le_trans hkw.size)⟩)
  have d1 : ((L.length : Int) == (n : Int)) = true := by simp; omega
  rw [hn] at HM
  clear h hd hb hr hmany hr0 d1
  go_enter Tryz.func16, Tryz.ntmps16
  go_wp2_with (go_at_call 32; refine H.out.mono ?_; rintro e w' ⟨rfl, rfl⟩)
  go_region_with (go_at_call 33; refine HM.out.mono ?_; rintro e w' ⟨rfl, rfl⟩)
  all_goals
    go_wp2_with (first
      | (go_at_call 29; refine HR.out.mono ?_; rintro e w1 ⟨rfl, hrem⟩; have HPP := hide (HP.out w1 hrem); clear hrem)
      | (go_at_call 34; refine HPP.out.mono ?_; rintro e w2 ⟨rfl, hp⟩))
    go_ret
    exact hp.out
end
end Go.Proofs.YtflpifelamkagaaGreat
