/-
  Update of a hash.
-/
import Derived.Test.YtlagpbgekihodaaHR11
import Derived.Test.YtlagpbgekihodaaRT4
namespace Go.Proofs.Ytlagpbgekihodaa
open Go.RowKit Go.Maps
set_option linter.unusedVariables false

theorem Rd.beside2 {w w' : World} {B sz n c c2 : Nat} {A : Option Addr} {xs : List Value} (h : Rd w B sz A n xs) (hne : ∀ ad, A = some ad → ad.block ≠ c ∧ ad.block ≠ c2) (hk : ∀ p : Addr, p.block < B → p.block ≠ c ∧ p.block ≠ c2 → w'.cell? p = w.cell? p) : Rd w' B sz A n xs := ⟨h.1, fun hn => by
  obtain ⟨ad, e, hb, hc⟩ := h.2 hn
  exact ⟨ad, e, hb, fun j u hu => (hk _ (by rw [block_add]; exact hb) (by rw [block_add]; exact hne ad e)).trans (hc j u hu)⟩⟩
theorem Hsh.far2 {w : World} {B b cb mb ks sz C n : Nat} {L : List HS} {A : Option Addr} {l : List Int} (h : Hsh w B b cb mb ks sz L) (hr : Rd w C 1 A n (u8s l)) (hn : 0 < n) : ∀ ad, A = some ad → ad.block ≠ cb ∧ ad.block ≠ mb := by
  intro ad e
  refine ⟨h.far hr hn ad e, fun hb => ?_⟩
  obtain ⟨ad2, e2, _, hc⟩ := hr.2 (by omega)
  rw [e] at e2
  cases e2
  have hl : l.length = n := by have := hr.1; simpa [u8s] using this
  obtain ⟨x, l', rfl⟩ : ∃ x l', l = x :: l' := by
    cases l with
    | nil => simp at hl; omega
    | cons x l' => exact ⟨x, l', rfl⟩
  have h0 := hc 0 (.int .u8 x) rfl
  unfold Addr.add at h0
  rw [if_pos rfl] at h0
  obtain ⟨es, clock, hm⟩ := h.map.obj
  unfold World.cell? at h0
  rw [hb, hm] at h0
  cases h0
/-- The key has a place, or gets one. -/
theorem for_any (B b cb mb ks sz : Nat) (L : List HS) (A : Option Addr) (c C : Nat) (l : List Int) (fl : Int) (w : World) (h : Hsh w B b cb mb ks sz L) (hr : KRow w C A ks l) (hC : C ≤ w.heap.size) (he : pickE L (kb l) fl = 0) :
    Calls Try.prog 28 #[.pointer (some ⟨b, 0, none⟩), .slice A ks c, .int .u64 fl] w fun e w' => e = .returned (.int .i64 (putAt L (kb l) : Nat)) ∧ Hsh w' B b cb mb ks sz (putK L (kb l)) ∧ Kept (fun g => g ≠ cb ∧ g ≠ mb) w w' := by
  have hk := h.kbig
  unfold pickE at he
  cases hf : findK L (kb l) with
  | some i =>
    rw [hf] at he
    simp only at he
    have e1 : putAt L (kb l) = i := by unfold putAt; rw [hf]
    have e2 : putK L (kb l) = L := by unfold putK; rw [hf]
    rw [e1, e2]
    refine (for_there B b cb mb ks sz L A ks c C i l fl w h hr.byte hr.rd hr.nil (by omega) hf (fun e => by rw [if_pos e] at he; cases he)).mono ?_
    rintro e w' ⟨rfl, hb⟩
    exact ⟨rfl, h.below hb, Kept.of_below hb⟩
  | none =>
    rw [hf] at he
    simp only at he
    by_cases h2 : fl = 2
    · rw [if_pos h2] at he; cases he
    · rw [if_neg h2] at he
      cases hj : freeK L with
      | none => rw [hj] at he; cases he
      | some j =>
        have e1 : putAt L (kb l) = j := by unfold putAt; rw [hf, hj]; rfl
        rw [e1]
        exact for_new B b cb mb ks sz L A c C j l fl w h hr.byte hr.rd hC hr.nil hf h2 hj
theorem putAt_row {L : List HS} {k : List UInt8} {fl : Int} (he : pickE L k fl = 0) : ∃ r, (putK L k)[putAt L k]? = some r := by
  have hlt : putAt L k < (putK L k).length := by
    rw [putK_len]
    unfold pickE at he
    unfold putAt
    cases hf : findK L k with
    | some i =>
      obtain ⟨r, h1, _⟩ := findK_some hf
      exact (List.getElem?_eq_some_iff.1 h1).1
    | none =>
      rw [hf] at he
      simp only at he
      by_cases h2 : fl = 2
      · rw [if_pos h2] at he; cases he
      · rw [if_neg h2] at he
        cases hj : freeK L with
        | none => rw [hj] at he; cases he
        | some j =>
          obtain ⟨r, h1, _⟩ := freeK_some hj
          exact (List.getElem?_eq_some_iff.1 h1).1
  exact ⟨_, List.getElem?_eq_getElem hlt⟩
set_option maxRecDepth 100000 in
set_option maxHeartbeats 1000000 in
theorem updIn_not (p : Option Addr) (q : Nat) (W : World) (h0 : W.cell? ⟨q, 0, none⟩ = some (.pointer p)) (h : NoH p W) :
    Calls Try.prog 26 #[.pointer (some ⟨q, 0, none⟩), .pointer (some ⟨q + 1, 0, none⟩), .pointer (some ⟨q + 2, 0, none⟩), .pointer (some ⟨q + 3, 0, none⟩)] W fun e w' => e = .panicked (panicOf 1) ∧ Below W.heap.size W w' := by
  have H := hide (made_no p W h)
  clear h
  go_enter Try.func26, Try.ntmps26
  go_wp2_with (go_at_call 18; refine H.out.mono ?_; rintro e w' ⟨rfl, rfl⟩)
  exact ⟨rfl, rfl, Below.refl _ _⟩
set_option maxRecDepth 100000 in
set_option maxHeartbeats 1000000 in
theorem updIn_key (B b cb mb ks sz q : Nat) (L : List HS) (A : Option Addr) (n c : Nat) (W : World) (h : Hsh W B b cb mb ks sz L) (h0 : W.cell? ⟨q, 0, none⟩ = some (.pointer (some ⟨b, 0, none⟩))) (h1 : W.cell? ⟨q + 1, 0, none⟩ = some (.slice A n c)) (hn : n ≠ ks) :
    Calls Try.prog 26 #[.pointer (some ⟨q, 0, none⟩), .pointer (some ⟨q + 1, 0, none⟩), .pointer (some ⟨q + 2, 0, none⟩), .pointer (some ⟨q + 3, 0, none⟩)] W fun e w' => e = .panicked (panicOf 2) ∧ Below W.heap.size W w' := by
  have HM := hide (made_yes b W (by rw [blk_cell h.blk]; rfl))
  have HK := hide (key_no b ks n A c W h.c1 hn)
  clear h hn
  go_enter Try.func26, Try.ntmps26
  go_wp2_with (first
    | (go_at_call 18; refine HM.out.mono ?_; rintro e w' ⟨rfl, rfl⟩)
    | (go_at_call 19; refine HK.out.mono ?_; rintro e w' ⟨rfl, rfl⟩))
  exact ⟨rfl, rfl, Below.refl _ _⟩
set_option maxRecDepth 100000 in
set_option maxHeartbeats 1000000 in
theorem updIn_arg (B b cb mb ks sz q : Nat) (L : List HS) (A S : Option Addr) (c k sc : Nat) (fl : Int) (W : World) (h : Hsh W B b cb mb ks sz L) (hq : Boxes4 W q (.pointer (some ⟨b, 0, none⟩)) (.slice A ks c) (.slice S k sc) (.int .u64 fl) 27 22 22 23) (he : ¬ (k = sz ∧ fl ≤ 2)) :
    Calls Try.prog 26 #[.pointer (some ⟨q, 0, none⟩), .pointer (some ⟨q + 1, 0, none⟩), .pointer (some ⟨q + 2, 0, none⟩), .pointer (some ⟨q + 3, 0, none⟩)] W fun e w' => e = .panicked (panicOf 2) ∧ Below W.heap.size W w' := by
  have HM := hide (made_yes b W (by rw [blk_cell h.blk]; rfl))
  have HK := hide (key_yes b ks A c W h.c1)
  have c0 := hq.b0.cell
  have c1 := hq.b1.cell
  have c2 := hq.b2.cell
  have c3 := hq.b3.cell
  have cs := h.c3
  clear h hq
  by_cases hk : k = sz
  · have hfl : decide (fl ≤ 2) = false := by simp; omega
    have hkk : ((k : Int) == (sz : Int)) = true := by simp [hk]
    clear he hk
    go_enter Try.func26, Try.ntmps26
    go_wp2_with (first
      | (go_at_call 18; refine HM.out.mono ?_; rintro e w' ⟨rfl, rfl⟩)
      | (go_at_call 19; refine HK.out.mono ?_; rintro e w' ⟨rfl, rfl⟩))
    refine wp_region_still_tail 12 (by kernel_rfl) (by kernel_rfl) ?_
    simp only [List.take_succ_cons, List.take_zero, List.drop_succ_cons, List.drop_zero]
    repeat still_step
    refine wpStill_nil ?_
    go_wp2_with (go_at_call 27; ((with_reducible refine (demand_no _ _).mono ?_)); rintro e w' ⟨rfl, rfl⟩)
    exact ⟨rfl, rfl, (Below.refl _ W).drew⟩
  · have hkk : ((k : Int) == (sz : Int)) = false := by simp; omega
    clear he hk
    go_enter Try.func26, Try.ntmps26
    go_wp2_with (first
      | (go_at_call 18; refine HM.out.mono ?_; rintro e w' ⟨rfl, rfl⟩)
      | (go_at_call 19; refine HK.out.mono ?_; rintro e w' ⟨rfl, rfl⟩))
    refine wp_region_still_tail 12 (by kernel_rfl) (by kernel_rfl) ?_
    simp only [List.take_succ_cons, List.take_zero, List.drop_succ_cons, List.drop_zero]
    repeat still_step
    refine wpStill_nil ?_
    go_wp2_with (go_at_call 27; ((with_reducible refine (demand_no _ _).mono ?_)); rintro e w' ⟨rfl, rfl⟩)
    exact ⟨rfl, rfl, (Below.refl _ W).drew⟩
end Go.Proofs.Ytlagpbgekihodaa
