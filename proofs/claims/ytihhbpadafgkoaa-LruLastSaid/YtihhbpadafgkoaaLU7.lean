/-
  A key is looked for; it is looked up: it is the youngest from then on.
-/
import Derived.Test.YtihhbpadafgkoaaLU6
import Derived.BigRegion
namespace Go.Proofs.Ytihhbpadafgkoaa
open Go.RowKit Go.Maps
set_option linter.unusedVariables false
set_option linter.unusedSimpArgs false

theorem conv_key {W : World} {B n c : Nat} {A : Option Addr} {l : List Int} (hb : ∀ x ∈ l, IsByte x) (h : Rd W B 1 A n (u8s l)) (hA : A = none → n = 0) : (convert 35 9 (.slice A n c)).run Try.prog W = .ok (encStr (kb l)) W := by
  have hl : (kb l).length = n := by
    rw [kb_len]
    have := h.1
    simpa [u8s] using this
  cases A with
  | none =>
    obtain rfl := hA rfl
    rw [run_convert_bytes_nil W 35 5 Try.underlying35 Try.underlying5 0 c 9 Try.underlying9]
    rw [List.eq_nil_of_length_eq_zero hl]
    rfl
  | some ad =>
    subst hl
    refine run_convert_bytes_back W 35 9 5 ad c (kb l) Try.underlying35 Try.underlying5 Try.underlying9 (fun j hj => ?_)
    obtain ⟨ad2, e, _, hc⟩ := h.2 (by omega)
    cases e
    have hj2 : j < l.length := by rw [kb_len] at hj; exact hj
    have hx := hb l[j] (List.getElem_mem hj2)
    unfold IsByte at hx
    refine hc j _ ?_
    have e1 : ((kb l)[j].toNat : Int) = l[j] := by
      simp only [kb, List.getElem_map]
      rw [UInt8.toNat_ofNat']
      omega
    rw [e1]
    simp [u8s, hj2]
theorem strK : Keyed Try.prog 9 := string_keyed Try.underlying9
theorem zptr : ptrR (.pointer none) = some (.lit (.bool false), []) := rfl
theorem zeroPtr (w : World) : (zeroValue 54).run Try.prog w = .ok (.pointer none) w := Try.zeroValue54 w
structure KRow (W : World) (C : Nat) (A : Option Addr) (n : Nat) (l : List Int) : Prop where
  rd : Rd W C 1 A n (u8s l)
  nil : A = none → n = 0
  byte : ∀ x ∈ l, IsByte x
theorem KRow.below {W W' : World} {C n : Nat} {A : Option Addr} {l : List Int} (h : KRow W C A n l) (hb : Below C W W') : KRow W' C A n l := ⟨h.rd.below hb, h.nil, h.byte⟩
theorem kb_max {B n : Nat} {w : World} {A : Option Addr} {l : List Int} (hr : Rd w B 1 A n (u8s l)) (hn : n ≤ 1000000) : (kb l).length ≤ maxLen := by
  rw [kb_len]
  have := hr.1
  simp [u8s] at this
  unfold maxLen
  omega
section
variable {w : World} {B b mb cb e ks sz : Nat} {L : List LK} {P : List HS}
theorem Lru.look (h : Lru w B b mb cb e ks sz L P) {k : List UInt8} (hk : k.length ≤ maxLen) {i : Nat} {r : LK} (hf : findL L k = some i) (hr : L[i]? = some r) : (Instr.lookup 53 (.map (some mb)) (encStr k) true).run Try.prog w = .ok (.tuple #[.pointer (some ⟨r.g, 0, none⟩), .bool true]) w :=
  h.map.look ptrR_tells strK Try.underlying53 (zeroPtr w) zptr (keyOf_str_mk Try.underlying9 hk) (linkF_some hf hr)
theorem Lru.look_none (h : Lru w B b mb cb e ks sz L P) {k : List UInt8} (hk : k.length ≤ maxLen) (hf : findL L k = none) : (Instr.lookup 53 (.map (some mb)) (encStr k) true).run Try.prog w = .ok (.tuple #[.pointer none, .bool false]) w :=
  h.map.look_none ptrR_tells strK Try.underlying53 (zeroPtr w) zptr (keyOf_str_mk Try.underlying9 hk) (linkF_none hf)
end
theorem lookE_cases {ks n : Nat} {L : List LK} {P : List HS} {k : List UInt8} (h : Fits ks L P) : (n ≠ ks ∧ lookE ks n P k = (0, 2)) ∨ (n = ks ∧ findL L k = none ∧ lookE ks n P k = (0, 6)) ∨ (n = ks ∧ ∃ i r, findL L k = some i ∧ L[i]? = some r ∧ lookE ks n P k = ((r.p : Int), 0)) := by
  unfold lookE
  by_cases hn : n = ks
  · rw [if_pos hn]
    cases hf : findL L k with
    | none => rw [h.find_none.2 hf]; exact .inr (.inl ⟨hn, rfl, rfl⟩)
    | some i =>
      obtain ⟨r, h1, h2⟩ := findL_some hf
      rw [h.find_some hf h1]
      exact .inr (.inr ⟨hn, i, r, rfl, h1, rfl⟩)
  · rw [if_neg hn]
    exact .inl ⟨hn, rfl⟩
theorem find_not (p : Option Addr) (A : Option Addr) (n c : Nat) (w : World) (h : NoU p w) :
    Calls Try.prog 35 #[.pointer p, .slice A n c] w fun e w' => e = .returned (.tuple #[.pointer none, .int .i64 1]) ∧ w = w' := by
  have H := hide (refusal_not p A n c w h)
  clear h
  go_enter Try.func35, Try.ntmps35
  go_wp2_with (go_at_call 45; refine H.out.mono ?_; rintro e w' ⟨rfl, rfl⟩)
  go_ret2
  exact ⟨rfl, rfl⟩
set_option maxRecDepth 100000 in
set_option maxHeartbeats 1000000 in
theorem find_no (B b mb cb e ks sz : Nat) (L : List LK) (P : List HS) (A : Option Addr) (n c C : Nat) (l : List Int) (w : World) (h : Lru w B b mb cb e ks sz L P) (hr : KRow w C A n l) (he : (lookE ks n P (kb l)).2 ≠ 0) :
    Calls Try.prog 35 #[.pointer (some ⟨b, 0, none⟩), .slice A n c] w fun en w' => en = .returned (.tuple #[.pointer none, .int .i64 (lookE ks n P (kb l)).2]) ∧ Below w.heap.size w w' := by
  have HRF := hide (refusal_any B b mb cb e ks sz L P A n c w h)
  rcases lookE_cases (n := n) (k := kb l) h.fit with ⟨hn, hl⟩ | ⟨hn, hf, hl⟩ | ⟨hn, i, r, hf, hi, hl⟩
  · rw [hl]
    have hre : refE ks n = 2 := by unfold refE; rw [if_neg hn]
    rw [hre] at HRF
    clear h hr he hl
    go_enter Try.func35, Try.ntmps35
    go_wp2_with (go_at_call 45; refine HRF.out.mono ?_; rintro e w' ⟨rfl, rfl⟩)
    go_ret2
    exact ⟨rfl, Below.refl _ _⟩
  · subst hn
    rw [hl]
    have hre : refE n n = 0 := by unfold refE; rw [if_pos rfl]
    rw [hre] at HRF
    have hkb := h.kbig
    have hk := kb_max hr.rd (by omega)
    have c2 := h.c2
    have hcv := conv_key (W := w.drew) (c := c) hr.byte (hr.rd.mono (Nat.le_refl _)) hr.nil
    have hlk := (h.below (Below.refl _ _).drew).look_none hk hf
    generalize encStr (kb l) = kv at hcv hlk
    clear h hr he hl hf
    go_enter Try.func35, Try.ntmps35
    go_wp2_with (go_at_call 45; refine HRF.out.mono ?_; rintro e w' ⟨rfl, rfl⟩)
    go_region
    go_wp2
    go_ret2
    exact ⟨rfl, (Below.refl _ _).drew⟩
  · rw [hl] at he
    exact absurd rfl he
set_option maxRecDepth 100000 in
set_option maxHeartbeats 1000000 in
theorem find_yes (B b mb cb e ks sz i : Nat) (L : List LK) (P : List HS) (A : Option Addr) (c C : Nat) (l : List Int) (r : LK) (w : World) (h : Lru w B b mb cb e ks sz L P) (hr : KRow w C A ks l) (hf : findL L (kb l) = some i) (hi : L[i]? = some r) :
    Calls Try.prog 35 #[.pointer (some ⟨b, 0, none⟩), .slice A ks c] w fun en w' => en = .returned (.tuple #[.pointer (some ⟨r.g, 0, none⟩), .int .i64 0]) ∧ Below w.heap.size w w' := by
  have HRF := hide (refusal_any B b mb cb e ks sz L P A ks c w h)
  have hre : refE ks ks = 0 := by unfold refE; rw [if_pos rfl]
  rw [hre] at HRF
  have hkb := h.kbig
  have hk := kb_max hr.rd (by omega)
  have c2 := h.c2
  have hcv := conv_key (W := w.drew) (c := c) hr.byte (hr.rd.mono (Nat.le_refl _)) hr.nil
  have hlk := (h.below (Below.refl _ _).drew).look hk hf hi
  generalize encStr (kb l) = kv at hcv hlk
  clear h hr hf hi
  go_enter Try.func35, Try.ntmps35
  go_wp2_with (go_at_call 45; refine HRF.out.mono ?_; rintro e w' ⟨rfl, rfl⟩)
  go_region
  go_wp2
  go_ret2
  exact ⟨rfl, (Below.refl _ _).drew⟩
end Go.Proofs.Ytihhbpadafgkoaa
