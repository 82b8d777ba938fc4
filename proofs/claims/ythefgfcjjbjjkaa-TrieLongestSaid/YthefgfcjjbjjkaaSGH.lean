/-
  The texts TDD, TBB, TEE, SGD, SGE, SGF as one.
-/
import Derived.Test.YthefgfcjjbjjkaaTX
import Derived.Deep.QuietTactic
import Derived.BigQuiet
import Derived.Test.YthefgfcjjbjjkaaTCC
import Derived.Test.YthefgfcjjbjjkaaTZ
import Derived.Test.YthefgfcjjbjjkaaSGM
import Derived.IntWalk

/-
  Update of any key, value and flags.
-/
namespace Go.Proofs.Ythefgfcjjbjjkaa
open Go.RowKit
set_option linter.unusedVariables false
set_option linter.unusedSimpArgs false

set_option maxRecDepth 100000 in
set_option maxHeartbeats 1000000 in
theorem upd_ref (B : Nat) (t : TP) (P : List PL) (N : List Bool → Nat) (A S : Option Addr) (n c q sc : Nat) (fl : Int) (k : List Int) (w : World) (h : Tri w B t P N) (hk : KR w A n c k) (he : refE t.ks k = 2) :
    Calls Try.prog 26 #[.pointer (some ⟨t.tb, 0, none⟩), .slice A n c, .slice S q sc, .int .u64 fl] w fun e w' => e = .returned (.int .i64 2) ∧ w = w' := by
  have HR := hide (refusal_any B t P N A n c k w h hk)
  rw [he] at HR
  have c3 : w.cell? ⟨t.tb, 3, none⟩ = some (.int .i64 t.sz) := (h.c 3).trans rfl
  clear h hk he
  go_enter Try.func26, Try.ntmps26
  go_wp2_with (go_at_call 37; refine HR.out.mono ?_; rintro e w' ⟨rfl, hW⟩; subst hW)
  go_ret
  exact ⟨rfl, rfl⟩
set_option maxRecDepth 100000 in
set_option maxHeartbeats 1000000 in
theorem upd_len (B : Nat) (t : TP) (P : List PL) (N : List Bool → Nat) (A S : Option Addr) (n c q sc : Nat) (fl : Int) (k : List Int) (w : World) (h : Tri w B t P N) (hk : KR w A n c k) (he : refE t.ks k = 0) (hq : q ≠ t.sz) :
    Calls Try.prog 26 #[.pointer (some ⟨t.tb, 0, none⟩), .slice A n c, .slice S q sc, .int .u64 fl] w fun e w' => e = .returned (.int .i64 2) ∧ w = w' := by
  have HR := hide (refusal_any B t P N A n c k w h hk)
  rw [he] at HR
  have c3 : w.cell? ⟨t.tb, 3, none⟩ = some (.int .i64 t.sz) := (h.c 3).trans rfl
  have hq2 : ((q : Int) != (t.sz : Int)) = true := by simpa using (by omega : ¬ (q : Int) = (t.sz : Int))
  clear hq
  clear h hk he
  go_enter Try.func26, Try.ntmps26
  go_wp2_with (go_at_call 37; refine HR.out.mono ?_; rintro e w' ⟨rfl, hW⟩; subst hW)
  go_ret
  exact ⟨rfl, rfl⟩
set_option maxRecDepth 100000 in
set_option maxHeartbeats 1000000 in
theorem upd_fl (B : Nat) (t : TP) (P : List PL) (N : List Bool → Nat) (A S : Option Addr) (n c q sc : Nat) (fl : Int) (k : List Int) (w : World) (h : Tri w B t P N) (hk : KR w A n c k) (he : refE t.ks k = 0) (hq : q = t.sz) (hf : 2 < fl) :
    Calls Try.prog 26 #[.pointer (some ⟨t.tb, 0, none⟩), .slice A n c, .slice S q sc, .int .u64 fl] w fun e w' => e = .returned (.int .i64 2) ∧ w = w' := by
  have HR := hide (refusal_any B t P N A n c k w h hk)
  rw [he] at HR
  have c3 : w.cell? ⟨t.tb, 3, none⟩ = some (.int .i64 t.sz) := (h.c 3).trans rfl
  subst hq
  have d3 : decide (2 < fl) = true := decide_eq_true hf
  clear hf
  clear h hk he
  go_enter Try.func26, Try.ntmps26
  go_wp2_with (go_at_call 37; refine HR.out.mono ?_; rintro e w' ⟨rfl, hW⟩; subst hW)
  go_ret
  exact ⟨rfl, rfl⟩
/-- What Update makes of the places. -/
def UpdR (ks : Nat) (P : List PL) (k d : List Int) (P' : List PL) : Prop :=
  (∃ (i : Nat) (r : PL), findP P (kb k) = some i ∧ P[i]? = some r ∧ P' = P.set i { r with v := d }) ∨
  (∃ (i : Nat) (r : PL) (g : Nat) (l : List Int), findP P (kb k) = none ∧ freeP P = some i ∧ P[i]? = some r ∧ r.k = none ∧ kb l = kb k ∧ l = plL k ks (bcN k) ∧ P' = P.set i { r with k := some (g, l), v := d })
def UpdTold (B : Nat) (t : TP) (P : List PL) (N : List Bool → Nat) (k d : List Int) (q : Nat) (fl : Int) (w : World) (e : Ending) (w' : World) : Prop :=
  ∃ P' N', e = .returned (.int .i64 (updE t.ks t.sz P k q fl)) ∧ TGo B t P N P' N' w w' ∧ ((updE t.ks t.sz P k q fl ≠ 0 ∧ P' = P ∧ N' = N) ∨ (updE t.ks t.sz P k q fl = 0 ∧ refE t.ks k = 0 ∧ d.length = t.sz ∧ UpdR t.ks P k d P'))
theorem upd_any (B D : Nat) (t : TP) (P : List PL) (N : List Bool → Nat) (A S : Option Addr) (n c q sc : Nat) (fl : Int) (k d : List Int) (w : World) (h : Tri w B t P N) (hk : KR w A n c k) (hA : 0 < n → ∀ ad, A = some ad → ¬ OfT t P N ad.block) (hd : Rd w D 1 S q (u8s d)) (hD : D ≤ w.heap.size) (hV : 0 < q → ∀ ad, S = some ad → ¬ OfT t P N ad.block) :
    Calls Try.prog 26 #[.pointer (some ⟨t.tb, 0, none⟩), .slice A n c, .slice S q sc, .int .u64 fl] w (UpdTold B t P N k d q fl w) := by
  have hno : ∀ {x : Int}, updE t.ks t.sz P k q fl = x → x ≠ 0 → ∀ (e : Ending) (w' : World), e = .returned (.int .i64 x) → Below w.heap.size w w' → UpdTold B t P N k d q fl w e w' := fun hx hx0 e w' h1 h2 => ⟨P, N, by rw [hx]; exact h1, TGo.no h h2, .inl ⟨by rw [hx]; exact hx0, rfl, rfl⟩⟩
  rcases (refE_cases t.ks k).symm with ⟨he, _⟩ | ⟨he, hn, hr⟩
  · refine (upd_ref B t P N A S n c q sc fl k w h hk he).mono fun e w' ⟨h1, h2⟩ => ?_
    exact hno (x := 2) (by unfold updE; rw [if_neg (fun h => by rw [he] at h; exact absurd h.1 (by decide))]) (by decide) e w' h1 (by rw [← h2]; exact Below.refl _ _)
  by_cases hq : ¬ q = t.sz
  · refine (upd_len B t P N A S n c q sc fl k w h hk he hq).mono fun e w' ⟨h1, h2⟩ => ?_
    exact hno (x := 2) (by unfold updE; rw [if_neg (fun h => hq h.2.1)]) (by decide) e w' h1 (by rw [← h2]; exact Below.refl _ _)
  have hq := Classical.not_not.1 hq
  by_cases hfl : ¬ fl ≤ 2
  · refine (upd_fl B t P N A S n c q sc fl k w h hk he hq (by omega)).mono fun e w' ⟨h1, h2⟩ => ?_
    exact hno (x := 2) (by unfold updE; rw [if_neg (fun h => hfl h.2.2)]) (by decide) e w' h1 (by rw [← h2]; exact Below.refl _ _)
  have hfl := Classical.not_not.1 hfl
  have hks := hk.len
  have hnk : n = t.ks := by omega
  subst hnk
  subst hq
  have hdl : d.length = t.sz := by have := hd.1; simpa [u8s] using this
  have hkbig := h.kbig
  have hbig := h.big
  have hA := hA (by omega)
  have hV := hV (by omega)
  have hE : updE t.ks t.sz P k t.sz fl = (match findP P (kb k) with | some _ => if fl = 1 then 7 else 0 | none => if fl = 2 then 6 else match freeP P with | some _ => 0 | none => 8) := by
    unfold updE
    rw [if_pos ⟨he, rfl, hfl⟩]
    cases findP P (kb k) with
    | some i => rfl
    | none => cases freeP P <;> rfl
  cases hf : findP P (kb k) with
  | some i =>
    rw [hf] at hE
    by_cases h1 : fl = 1
    · refine (upd_7 B t P N A S c t.sz sc D fl k d w h hk hr hA hd hD hV i hf h1 hfl).mono fun e w' ⟨h2, h3⟩ => ?_
      exact hno (x := 7) (by rw [hE]; simp [h1]) (by decide) e w' h2 h3
    · obtain ⟨r, hri, _⟩ := findP_some hf
      refine (upd_there B t P N A S c t.sz sc D fl k d w h hk hr hA hd hD hV i r hf hri hfl h1).mono fun e w' ⟨h2, h3⟩ => ?_
      have h0 : updE t.ks t.sz P k t.sz fl = 0 := by rw [hE]; simp [h1]
      exact ⟨_, _, by rw [h0]; exact h2, h3, .inr ⟨h0, he, hdl, .inl ⟨i, r, hf, hri, rfl⟩⟩⟩
  | none =>
    rw [hf] at hE
    by_cases h1 : fl = 2
    · refine (upd_6 B t P N A S c t.sz sc D fl k d w h hk hr hA hd hD hV hf h1 hfl).mono fun e w' ⟨h2, h3⟩ => ?_
      exact hno (x := 6) (by rw [hE]; simp [h1]) (by decide) e w' h2 h3
    · cases hfr : freeP P with
      | none =>
        rw [hfr] at hE
        refine (upd_full B t P N A S c t.sz sc D fl k d w h hk hr hA hd hD hV hf h1 hfr hfl).mono fun e w' ⟨h2, h3⟩ => ?_
        exact hno (x := 8) (by rw [hE]; simp [h1]) (by decide) e w' h2 h3
      | some i =>
        rw [hfr] at hE
        refine (upd_new B t P N A S c t.sz sc D fl k d w h hk hr hA hd hD hV i hf hfr hfl h1).mono fun e w' h2 => ?_
        obtain ⟨h3, r, g, N', hri, hrk, hgo⟩ := h2
        have h0 : updE t.ks t.sz P k t.sz fl = 0 := by rw [hE]; simp [h1]
        have hkbig := h.kbig
        exact ⟨_, N', by rw [h0]; exact h3, hgo, .inr ⟨h0, he, hdl, .inr ⟨i, r, g, _, hf, hfr, hri, hrk, kb_plL (by omega) hr, rfl, rfl⟩⟩⟩
set_option maxRecDepth 100000 in
theorem del_ref (B : Nat) (t : TP) (P : List PL) (N : List Bool → Nat) (A : Option Addr) (n c : Nat) (k : List Int) (w : World) (h : Tri w B t P N) (hk : KR w A n c k) (he : refE t.ks k = 2) :
    Calls Try.prog 15 #[.pointer (some ⟨t.tb, 0, none⟩), .slice A n c] w fun e w' => e = .returned (.int .i64 2) ∧ w = w' := by
  have HR := hide (refusal_any B t P N A n c k w h hk)
  rw [he] at HR
  clear h hk he
  go_enter Try.func15, Try.ntmps15
  go_wp2_with (go_at_call 37; refine HR.out.mono ?_; rintro e w' ⟨rfl, hW⟩; subst hW)
  go_ret
  exact ⟨rfl, rfl⟩
theorem del_all (B : Nat) (t : TP) (P : List PL) (N : List Bool → Nat) (A : Option Addr) (n c : Nat) (k : List Int) (w : World) (h : Tri w B t P N) (hk : KR w A n c k) (hA : 0 < n → ∀ ad, A = some ad → ¬ OfT t P N ad.block) :
    Calls Try.prog 15 #[.pointer (some ⟨t.tb, 0, none⟩), .slice A n c] w fun e w' => e = .returned (.int .i64 (delE t.ks P k)) ∧ TGo B t P N (delP t.ks P k) N w w' := by
  rcases refE_cases t.ks k with ⟨he, hn, hr⟩ | ⟨he, _⟩
  · have := hk.len
    have := h.kbig
    exact del_any B t P N A n c k w h hk (hA (by omega))
  · have h2 : delE t.ks P k = 2 ∧ delP t.ks P k = P := by unfold delE delP; rw [if_neg (by rw [he]; decide), if_neg (by rw [he]; decide)]; exact ⟨rfl, rfl⟩
    refine (del_ref B t P N A n c k w h hk he).mono fun e w' ⟨h3, h4⟩ => ?_
    rw [h2.1, h2.2]
    exact ⟨h3, TGo.no h (by rw [← h4]; exact Below.refl _ _)⟩
end Go.Proofs.Ythefgfcjjbjjkaa

/-
  The law's own words: how many bits a key says it has; is one of another one's beginnings?
-/
namespace Go.Proofs.Ythefgfcjjbjjkaa
open Go.RowKit
set_option linter.unusedVariables false
set_option linter.unusedSimpArgs false

set_option maxRecDepth 100000 in
set_option maxHeartbeats 1000000 in
theorem bits_law (A : Option Addr) (n c B : Nat) (k : List Int) (w : World) (hk : ∀ b ∈ k, IsByte b) (hr : Rd w B 1 A n (u8s k)) (hn : 4 ≤ n) :
    Calls Try.prog 30 #[.slice A n c] w fun e w' => e = .returned (.int .i64 (bcN k)) ∧ Below w.heap.size w w' := by
  obtain ⟨ad, b0, rfl, h0, c0⟩ := hr.byte (show 0 < n by omega)
  obtain ⟨ad1, b1, e1, h1, c1⟩ := hr.byte (show 1 < n by omega)
  obtain ⟨ad2, b2, e2, h2, c2⟩ := hr.byte (show 2 < n by omega)
  obtain ⟨ad3, b3, e3, h3, c3⟩ := hr.byte (show 3 < n by omega)
  injection e1 with e1; injection e2 with e2; injection e3 with e3
  subst e1 e2 e3
  obtain ⟨r0, l0, u0⟩ := byN_at hk h0
  obtain ⟨r1, l1, u1⟩ := byN_at hk h1
  obtain ⟨r2, l2, u2⟩ := byN_at hk h2
  obtain ⟨r3, l3, u3⟩ := byN_at hk h3
  have HV : Hid (b0 + b1 * 256 + b2 * 65536 + b3 * 16777216 = (bcN k : Int)) := hide (by
    rw [r0, r1, r2, r3]
    unfold bcN
    omega)
  have q0 : (0 : Int) < (n : Int) := by omega
  have q1 : (1 : Int) < (n : Int) := by omega
  have q2 : (2 : Int) < (n : Int) := by omega
  have q3 : (3 : Int) < (n : Int) := by omega
  rw [show ad.add 0 = ad by simp [Addr.add]] at c0
  rw [show ad.add 1 = { block := ad.block, off := ad.off + 1 } by simp [Addr.add]] at c1
  rw [show ad.add 2 = { block := ad.block, off := ad.off + 2 } by simp [Addr.add]] at c2
  rw [show ad.add 3 = { block := ad.block, off := ad.off + 3 } by simp [Addr.add]] at c3
  clear r0 r1 r2 r3 h0 h1 h2 h3 hr hk
  go_enter Try.func30, Try.ntmps30
  go_wp2_with fail
  go_quiet (fail)
  go_wp2_with fail
  go_ret
  exact ⟨congrArg (fun x => Ending.returned (.int .i64 x)) HV.out, below_drewN (Below.refl _ _) _⟩
/-- Is one of another one's beginnings? -/
def begM (a b : List Int) : Prop := 4 ≤ a.length ∧ b.length = a.length ∧ bcN a ≤ bcN b ∧ bcN b ≤ 8 * (b.length - 4) ∧ ∀ i, i < bcN a → btN a i = btN b i
theorem and_bit (x s : Nat) (hx : x < 256) (hs : s < 8) : bits .and .u8 (x : Int) ((2 : Int) ^ s) = (((x / 2 ^ s % 2) * 2 ^ s : Nat) : Int) := by
  have h2 : (2 : Nat) ^ s < 256 := Nat.pow_lt_pow_right (by omega) (show s < 8 from hs)
  have e : ((2 : Int) ^ s) = ((2 ^ s : Nat) : Int) := by simp
  rw [e, u8_and_nat x (2 ^ s) hx h2]
  congr 1
  apply Nat.eq_of_testBit_eq
  intro i
  rw [Nat.testBit_and, Nat.testBit_two_pow]
  have hb : x.testBit s = decide (x / 2 ^ s % 2 = 1) := Nat.testBit_eq_decide_div_mod_eq
  have hlt : x / 2 ^ s % 2 < 2 := Nat.mod_lt _ (by omega)
  by_cases h : x / 2 ^ s % 2 = 1
  · rw [h, Nat.one_mul, Nat.testBit_two_pow]
    by_cases e2 : s = i
    · subst e2
      rw [hb, h]
      rfl
    · simp [e2]
  · rw [show x / 2 ^ s % 2 = 0 by omega, Nat.zero_mul, Nat.zero_testBit]
    by_cases e2 : s = i
    · subst e2
      rw [hb]
      simp [h]
    · simp [e2]
theorem bit_same {a b : List Int} {i : Nat} (ha : ∀ x ∈ a, IsByte x) (hb : ∀ x ∈ b, IsByte x) : bits .and .u8 (byN a (4 + i / 8) : Int) ((2 : Int) ^ (7 - i % 8)) = bits .and .u8 (byN b (4 + i / 8) : Int) ((2 : Int) ^ (7 - i % 8)) ↔ btN a i = btN b i := by
  rw [and_bit _ _ (byN_lt ha _) (by omega), and_bit _ _ (byN_lt hb _) (by omega)]
  have hp : 0 < 2 ^ (7 - i % 8) := Nat.pow_pos (by omega)
  have h1 : byN a (4 + i / 8) / 2 ^ (7 - i % 8) % 2 < 2 := Nat.mod_lt _ (by omega)
  have h2 : byN b (4 + i / 8) / 2 ^ (7 - i % 8) % 2 < 2 := Nat.mod_lt _ (by omega)
  unfold btN
  constructor
  · intro h
    have h3 := Nat.eq_of_mul_eq_mul_right hp (Int.ofNat.inj h)
    rw [h3]
  · intro h
    have h3 : byN a (4 + i / 8) / 2 ^ (7 - i % 8) % 2 = byN b (4 + i / 8) / 2 ^ (7 - i % 8) % 2 := by
      generalize byN a (4 + i / 8) / 2 ^ (7 - i % 8) % 2 = x at *
      generalize byN b (4 + i / 8) / 2 ^ (7 - i % 8) % 2 = y at *
      rcases (show x = 0 ∨ x = 1 by omega) with hx | hx <;> rcases (show y = 0 ∨ y = 1 by omega) with hy | hy <;> rw [hx, hy] at h ⊢ <;> first | rfl | cases h
    rw [h3]
theorem shr128 (i : Nat) : (128 : Int) / 2 ^ (i % 8) = 2 ^ (7 - i % 8) := by
  have : i % 8 < 8 := Nat.mod_lt _ (by omega)
  generalize i % 8 = s at *
  rcases (by omega : s = 0 ∨ s = 1 ∨ s = 2 ∨ s = 3 ∨ s = 4 ∨ s = 5 ∨ s = 6 ∨ s = 7) with rfl | rfl | rfl | rfl | rfl | rfl | rfl | rfl <;> rfl
def BegTold (a b : List Int) (w : World) (e : Ending) (w' : World) : Prop := ∃ t : Bool, e = .returned (.bool t) ∧ (t = true ↔ begM a b) ∧ Below w.heap.size w w'
set_option maxRecDepth 100000 in
set_option maxHeartbeats 4000000 in
theorem begins_any (A A' : Option Addr) (n n' c c' B : Nat) (a b : List Int) (w : World) (ha : ∀ x ∈ a, IsByte x) (hb : ∀ x ∈ b, IsByte x) (hr : Rd w B 1 A n (u8s a)) (hr' : Rd w B 1 A' n' (u8s b)) (hB : B ≤ w.heap.size) (hn : n ≤ 1000) (hn' : n' ≤ 1000) :
    Calls Try.prog 29 #[.slice A n c, .slice A' n' c'] w (BegTold a b w) := by
  have hla : a.length = n := by have := hr.1; simpa [u8s] using this
  have hlb : b.length = n' := by have := hr'.1; simpa [u8s] using this
  by_cases h4 : n < 4
  · have hno : ¬ begM a b := fun h => by have := h.1; omega
    have d4 : decide ((n : Int) < 4) = true := by simp; omega
    clear hr hr'
    go_enter Try.func29, Try.ntmps29
    go_wp2_with fail
    go_ret
    exact ⟨false, rfl, ⟨nofun, fun h => absurd h hno⟩, Below.refl _ _⟩
  have d4 : decide ((n : Int) < 4) = false := by simp; omega
  by_cases hnn : ¬ n' = n
  · have hno : ¬ begM a b := fun h => by have := h.2.1; omega
    have hq : ((n' : Int) != (n : Int)) = true := by simpa using (by omega : ¬ (n' : Int) = n)
    clear hr hr'
    go_enter Try.func29, Try.ntmps29
    go_wp2_with fail
    go_ret
    exact ⟨false, rfl, ⟨nofun, fun h => absurd h hno⟩, Below.refl _ _⟩
  obtain rfl : n' = n := Classical.not_not.1 hnn
  clear hnn
  have hq : ((n' : Int) != (n' : Int)) = false := by simp
  have HA : Hid (∀ W, Below w.heap.size w W → Calls Try.prog 30 #[.slice A n' c] W fun e w' => e = .returned (.int .i64 (bcN a)) ∧ Below W.heap.size W w') := hide (fun W hW => bits_law A n' c B a W ha (hr.below (hW.mono hB)) (by omega))
  have HB : Hid (∀ W, Below w.heap.size w W → Calls Try.prog 30 #[.slice A' n' c'] W fun e w' => e = .returned (.int .i64 (bcN b)) ∧ Below W.heap.size W w') := hide (fun W hW => bits_law A' n' c' B b W hb (hr'.below (hW.mono hB)) (by omega))
  have hba := bcN_lt ha
  have hbb := bcN_lt hb
  have HRA := hide hr
  have HRB := hide hr'
  have HAB := hide ha
  have HBB := hide hb
  have HLA := hide hla
  have HLB := hide hlb
  clear hr hr' ha hb hla hlb
  go_enter Try.func29, Try.ntmps29
  go_wp2_with (go_at_call 30; refine stop_here ?_)
  show Hid _
  refine start_here ?_
  refine (HA.out w (Below.refl _ _)).mono ?_
  rintro e w1 ⟨rfl, hb1⟩
  have H1 := hide hb1
  clear hb1
  go_wp2_with (go_at_call 30; refine stop_here ?_)
  show Hid _
  refine start_here ?_
  refine (HB.out w1 H1.out).mono ?_
  rintro e w2 ⟨rfl, hb2⟩
  have H2 := hide (H1.out.trans (hb2.mono H1.out.size))
  clear hb2
  by_cases hle : ¬ bcN a ≤ bcN b
  · have d1 : decide (bcN b < bcN a) = true := by simp; omega
    have hno : ¬ begM a b := fun h => hle h.2.2.1
    go_wp2_with fail
    go_ret
    exact ⟨false, rfl, ⟨nofun, fun h => absurd h hno⟩, H2.out⟩
  have hle := Classical.not_not.1 hle
  have d1 : decide (bcN b < bcN a) = false := by simp; omega
  go_wp2_with (go_at_call 30; refine stop_here ?_)
  show Hid _
  refine start_here ?_
  refine (HB.out w2 H2.out).mono ?_
  rintro e w3 ⟨rfl, hb3⟩
  have H3 := hide (H2.out.trans (hb3.mono H2.out.size))
  clear hb3
  by_cases hle2 : ¬ bcN b ≤ 8 * (n' - 4)
  · have d2 : decide ((8 : Int) * ((n' : Int) - 4) < (bcN b : Int)) = true := by simp; omega
    have hno : ¬ begM a b := fun h => hle2 (by have := h.2.2.2.1; rw [HLB.out] at this; exact this)
    go_wp2_with fail
    go_ret
    exact ⟨false, rfl, ⟨nofun, fun h => absurd h hno⟩, H3.out⟩
  have hle2 := Classical.not_not.1 hle2
  have d2 : decide ((8 : Int) * ((n' : Int) - 4) < (bcN b : Int)) = false := by simp; omega
  have HLE := hide (And.intro hle hle2)
  have HN4 := hide h4
  go_wp2_with fail
  clear d1 d2 d4 hq
  go_loopw [5] (fun p wr => ∃ i : Nat, i ≤ bcN a ∧ p = .int .i64 i ∧ Below w.heap.size w wr ∧ ∀ j, j < i → btN a j = btN b j) (fun p _ => bcN a - (intOf p).toNat)
  case atStart => exact ⟨0, Nat.zero_le _, rfl, H3.out, fun j hj => by omega⟩
  case round =>
    obtain ⟨i, hi, rfl, hb, hj⟩ := hrel
    have HJ := hide hj
    have HW := hide hb
    clear hb hj
    by_cases hlt : i < bcN a
    · have hbd : 4 + i / 8 < n' := by have := HLE.out; omega
      obtain ⟨ad, x, rfl, hx, cx⟩ := (HRA.out.below (HW.out.mono hB)).byte hbd
      obtain ⟨ad', y, rfl, hy, cy⟩ := (HRB.out.below (HW.out.mono hB)).byte hbd
      have dl : decide (i < bcN a) = true := by simpa using hlt
      have q0 : (0 : Int) ≤ 4 + (i : Int) / 8 := by omega
      have q1 : 4 + (i : Int) / 8 < (n' : Int) := by omega
      have HXY := hide (And.intro (And.intro hx cx) (And.intro hy cy))
      clear hx hy cx cy
      go_wp2_with (go_at_call 30; refine (HA.out wr HW.out).mono ?_; refine stop_here ?_)
      show Hid _
      refine start_here ?_
      rintro e w4 ⟨rfl, hb4⟩
      have H4 := hide (HW.out.trans (hb4.mono HW.out.size))
      clear hb4
      obtain ⟨_, x, e1, hx, cx⟩ := (HRA.out.below (H4.out.mono hB)).byte hbd
      injection e1 with e1
      subst e1
      obtain ⟨_, y, e2, hy, cy⟩ := (HRB.out.below (H4.out.mono hB)).byte hbd
      injection e2 with e2
      subst e2
      obtain ⟨rx, lx, ux⟩ := byN_at HAB.out hx
      obtain ⟨ry, ly, uy⟩ := byN_at HBB.out hy
      have hiff : bits .and .u8 x (128 / 2 ^ (i % 8)) = bits .and .u8 y (128 / 2 ^ (i % 8)) ↔ btN a i = btN b i := by
        rw [shr128, rx, ry]
        exact bit_same HAB.out HBB.out
      clear rx ry hx hy
      by_cases hbt : btN a i = btN b i
      · have hq2 : (bits .and .u8 x (128 / 2 ^ (i % 8)) != bits .and .u8 y (128 / 2 ^ (i % 8))) = false := by simpa using hiff.2 hbt
        have HBT := hide hbt
        clear hiff hbt
        go_wp2_with fail
        go_quiet (fail)
        go_wp2_with fail
        go_roundw
        case rel =>
          refine ⟨i + 1, by omega, by go_num, below_drewN H4.out _, fun j hj => ?_⟩
          by_cases e : j = i
          · rw [e]; exact HBT.out
          · exact HJ.out j (by omega)
        case measure => simp [intOf]; omega
      · have hq2 : (bits .and .u8 x (128 / 2 ^ (i % 8)) != bits .and .u8 y (128 / 2 ^ (i % 8))) = true := by simpa using (fun e => hbt (hiff.1 e))
        have hno : ¬ begM a b := fun h => hbt (h.2.2.2.2 i hlt)
        clear hiff hbt
        go_wp2_with fail
        go_quiet (fail)
        go_wp2_with fail
        go_ret
        exact ⟨false, rfl, ⟨nofun, fun h => absurd h hno⟩, below_drewN H4.out _⟩
    · have dl : decide (i < bcN a) = false := by simpa using hlt
      have hyes : begM a b := ⟨by rw [HLA.out]; have := HN4.out; omega, by rw [HLA.out, HLB.out], HLE.out.1, by rw [HLB.out]; exact HLE.out.2, fun j hj => HJ.out j (by omega)⟩
      go_wp2_with (go_at_call 30; refine (HA.out wr HW.out).mono ?_; refine stop_here ?_)
      show Hid _
      refine start_here ?_
      rintro e w4 ⟨rfl, hb4⟩
      have H4 := hide (HW.out.trans (hb4.mono HW.out.size))
      clear hb4
      go_wp2_with fail
      go_ret
      exact ⟨true, rfl, ⟨fun _ => hyes, fun _ => rfl⟩, H4.out⟩
end Go.Proofs.Ythefgfcjjbjjkaa

/-
  A key's place behind what is done to other keys.
-/
namespace Go.Proofs.Ythefgfcjjbjjkaa
open Go.RowKit
set_option linter.unusedVariables false
set_option linter.unusedSimpArgs false

/-- The key with such bits is at place p, where d stands. -/
def PInv (P : List PL) (kk : List Bool) (p : Nat) (d : List Int) : Prop := ∃ r, P[p]? = some r ∧ keyOf r = some kk ∧ r.v = d
section
variable {P P' : List PL} {kk : List Bool} {p ks : Nat} {d d' : List Int} {x k : List Int}
theorem PInv.find (h : PInv P kk p d) (ho : OneP P) : findP P kk = some p := by
  obtain ⟨r, h1, h2, _⟩ := h
  exact findP_is ho h1 h2
theorem PInv.look (h : PInv P (kb k) p d) (ho : OneP P) (he : refE ks k = 0) : lookE ks P k = ((p : Int), 0) := by
  have h1 : lonI P (kb k) ((kb k).length + 1) = some p := by
    rw [lonI, List.take_length, h.find ho]
    rfl
  unfold lookE
  rw [if_pos he, h1]
theorem PInv.other (h : PInv P kk p d) (ho : OneP P) (hx : kb x ≠ kk) {i : Nat} (hf : findP P (kb x) = some i) : i ≠ p := fun e => by
  obtain ⟨r, h1, h2, _⟩ := h
  obtain ⟨s, h3, h4⟩ := findP_some hf
  rw [e, h1] at h3
  injection h3 with h3
  subst h3
  rw [h2] at h4
  injection h4 with h4
  exact hx h4.symm
theorem PInv.set (h : PInv P kk p d) {i : Nat} {y : PL} (hi : i ≠ p) : PInv (P.set i y) kk p d := by
  obtain ⟨r, h1, h2, h3⟩ := h
  exact ⟨r, by rw [List.getElem?_set_ne hi]; exact h1, h2, h3⟩
theorem PInv.del (h : PInv P kk p d) (ho : OneP P) (hx : refE ks x ≠ 0 ∨ kb x ≠ kk) : PInv (delP ks P x) kk p d := by
  unfold delP
  split
  · rename_i he
    have hx := hx.resolve_left (fun h => h he)
    cases hf : findP P (kb x) with
    | none => exact h
    | some i =>
      obtain ⟨s, h3, _⟩ := findP_some hf
      simp only [h3]
      exact h.set (h.other ho hx hf)
  · exact h
theorem PInv.upd (h : PInv P kk p d) (ho : OneP P) (hx : kb x ≠ kk) (hu : UpdR ks P x d' P') : PInv P' kk p d := by
  rcases hu with ⟨i, r, hf, hr, rfl⟩ | ⟨i, r, g, l, hf, hfr, hr, hrk, _, _, rfl⟩
  · exact h.set (h.other ho hx hf)
  · refine h.set (fun e => ?_)
    obtain ⟨s, h1, h2, _⟩ := h
    rw [e, h1] at hr
    injection hr with hr
    subst hr
    simp [keyOf, hrk] at h2
end
theorem not_both {ks : Nat} {x k : List Int} (hk : k.length = ks) (h4 : 4 ≤ ks) (hr : bcN k ≤ 8 * (ks - 4)) (hn : ¬ (begM x k ∧ begM k x)) : refE ks x ≠ 0 ∨ kb x ≠ kb k := by
  rcases refE_cases ks x with ⟨he, hl, hb⟩ | ⟨he, _⟩
  · refine .inr (fun e => hn ?_)
    have hc : bcN x = bcN k := by have := congrArg List.length e; rwa [kb_len, kb_len] at this
    have hbt : ∀ i, i < bcN x → btN x i = btN k i := fun i hi => by
      have h1 : (kb x)[i]? = (kb k)[i]? := by rw [e]
      simp [kb, hi, show i < bcN k by omega] at h1
      exact h1
    exact ⟨⟨by omega, by omega, by omega, by rw [hk]; exact hr, hbt⟩, ⟨by omega, by omega, by omega, by rw [hl]; exact hb, fun i hi => (hbt i (by omega)).symm⟩⟩
  · exact .inl (by rw [he]; decide)
/-- A key of which the last byte's lowest bit is turned, where it does not count. -/
theorem kb_turn {k : List Int} {y : Int} {n : Nat} (hk : ∀ b ∈ k, IsByte b) (hl : k.length = n) (hb : bcN k < 8 * (n - 4)) (hy : 0 ≤ y ∧ y < 2) :
    kb (k.set (n - 1) (bits .xor .u8 (byN k (n - 1) : Int) y)) = kb k ∧ (∀ b ∈ k.set (n - 1) (bits .xor .u8 (byN k (n - 1) : Int) y), IsByte b) ∧ bcN (k.set (n - 1) (bits .xor .u8 (byN k (n - 1) : Int) y)) = bcN k := by
  have hlt := byN_lt hk (n - 1)
  obtain ⟨z, rfl⟩ : ∃ z : Nat, y = z := ⟨y.toNat, by omega⟩
  have hz : z < 2 := by omega
  have hx : bits .xor .u8 (byN k (n - 1) : Int) (z : Int) = ((byN k (n - 1) ^^^ z : Nat) : Int) := u8_xor_nat _ _ hlt (by omega)
  have hxl : byN k (n - 1) ^^^ z < 256 := Nat.xor_lt_two_pow (n := 8) hlt (by omega)
  rw [hx]
  have hby : ∀ i, byN (k.set (n - 1) ((byN k (n - 1) ^^^ z : Nat) : Int)) i = if i = n - 1 then byN k (n - 1) ^^^ z else byN k i := fun i => by
    unfold byN
    by_cases e : i = n - 1
    · subst e
      rw [if_pos rfl, List.getElem?_set_self (by omega)]
      simp
    · rw [if_neg e, List.getElem?_set_ne (fun h => e h.symm)]
  have hbc : bcN (k.set (n - 1) ((byN k (n - 1) ^^^ z : Nat) : Int)) = bcN k := by
    unfold bcN
    rw [hby, hby, hby, hby, if_neg (by omega), if_neg (by omega), if_neg (by omega), if_neg (by omega)]
  refine ⟨?_, fun b hb2 => ?_, hbc⟩
  · unfold kb
    rw [hbc]
    refine List.map_congr_left fun i hi => ?_
    have hi := List.mem_range.1 hi
    rw [btN_test, btN_test, hby]
    split
    · rename_i e
      rw [e, Nat.testBit_xor]
      have : z.testBit (7 - i % 8) = false := Nat.testBit_lt_two_pow (Nat.lt_of_lt_of_le hz (by
        have : 2 ^ 1 ≤ 2 ^ (7 - i % 8) := Nat.pow_le_pow_right (by omega) (by omega)
        omega))
      rw [this, Bool.xor_false]
    · rfl
  · rcases List.mem_or_eq_of_mem_set hb2 with h | rfl
    · exact hk b h
    · exact ⟨by omega, by omega⟩
/-- The trie, the key at its place, and another row of the same key, apart. -/
structure PS (w : World) (B : Nat) (t : TP) (P : List PL) (N : List Bool → Nat) (kk : List Bool) (p : Nat) (d : List Int) (gw n co : Nat) (ko : List Int) (W : World) : Prop where
  tri : Tri W B t P N
  inv : PInv P kk p d
  below : Below w.heap.size w W
  own : W.ownsRow 0 5 1 (.slice (some ⟨gw, 0, none⟩) n co) n (u8s ko)
  far : ¬ OfT t P N gw
section
variable {w W W' : World} {B : Nat} {t : TP} {P P' : List PL} {N N' : List Bool → Nat} {kk : List Bool} {p : Nat} {d : List Int} {gw n co : Nat} {ko : List Int}
theorem PS.go (h : PS w B t P N kk p d gw n co ko W) (hg : TGo B t P N P' N' W W') (hi : PInv P' kk p d) (hB : w.heap.size ≤ B) : PS w B t P' N' kk p d gw n co ko W' := by
  have hlt : gw < W.heap.size := (h.own.lt gw rfl).2
  refine ⟨hg.1, hi, h.below.trans ((hg.low_ h.tri (Nat.le_trans h.tri.base (Nat.le_refl _))).mono hB), owns_kept h.own hg.2.1 (fun g e => by injection e with e; subst e; exact h.far), fun h2 => ?_⟩
  rcases hg.2.2 gw h2 with h3 | h3
  · exact h.far h3
  · omega
theorem PS.later (h : PS w B t P N kk p d gw n co ko W) (hb : Below W.heap.size W W') : PS w B t P N kk p d gw n co ko W' :=
  ⟨h.tri.below (Nat.le_refl _) hb, h.inv, h.below.trans (hb.mono h.below.size), owns_kept_below h.own hb, h.far⟩
end
end Go.Proofs.Ythefgfcjjbjjkaa

/-
  The longest beginning among the keys that are told.
-/
namespace Go.Proofs.Ythefgfcjjbjjkaa
open Go.RowKit
set_option linter.unusedVariables false
set_option linter.unusedSimpArgs false

theorem beg_take {l a : List Int} (h : begM l a) : kb l = (kb a).take (bcN l) ∧ bcN l ≤ bcN a := by
  obtain ⟨_, _, h3, _, h5⟩ := h
  refine ⟨List.ext_getElem (by simp [kb_len]; omega) fun i h1 h2 => ?_, h3⟩
  rw [List.getElem_take, kb_bit, kb_bit]
  exact h5 i (by rw [kb_len] at h1; exact h1)
theorem take_beg {l a : List Int} {m : Nat} (hl : l.length = a.length) (h4 : 4 ≤ a.length) (hc : bcN a ≤ 8 * (a.length - 4)) (h : kb l = (kb a).take m) (hm : m ≤ bcN a) : begM l a ∧ bcN l = m := by
  have hb := kb_take_len h (by rw [kb_len]; exact hm)
  refine ⟨⟨by omega, hl.symm, by omega, hc, fun i hi => ?_⟩, hb⟩
  have h1 : i < (kb l).length := by rw [kb_len]; exact hi
  have h2 : i < (kb a).length := by rw [kb_len]; omega
  rw [← kb_bit h1, ← kb_bit h2]
  have h3 : (kb l)[i]? = (kb a)[i]? := by rw [h, List.getElem?_take_of_lt (by omega)]
  rw [List.getElem?_eq_getElem h1, List.getElem?_eq_getElem h2] at h3
  exact Option.some.inj h3
theorem told_in {P : List PL} {l : List Int} (h : l ∈ keysP P) : ∃ (i : Nat) (s : PL) (g : Nat), P[i]? = some s ∧ s.k = some (g, l) := by
  unfold keysP at h
  obtain ⟨s, hs, h2⟩ := List.mem_filterMap.1 h
  obtain ⟨i, hi⟩ := List.mem_iff_getElem?.1 hs
  cases hk : s.k with
  | none => rw [hk] at h2; cases h2
  | some x =>
    rw [hk] at h2
    simp at h2
    exact ⟨i, s, x.1, hi, by rw [hk, ← h2]⟩
theorem in_told {P : List PL} {l : List Int} {i g : Nat} {s : PL} (hs : P[i]? = some s) (hk : s.k = some (g, l)) : l ∈ keysP P := by
  unfold keysP
  exact List.mem_filterMap.2 ⟨s, List.mem_of_getElem? hs, by rw [hk]; rfl⟩
theorem keysP_one {P : List PL} (ho : OneP P) : (keysP P).Pairwise fun x y => kb x ≠ kb y := by
  unfold keysP
  rw [List.pairwise_filterMap, List.pairwise_iff_getElem]
  intro i j hi hj hij x hx y hy e
  have h1 : keyOf P[i] = some (kb x) := by
    unfold keyOf
    cases hk : P[i].k with
    | none => rw [hk] at hx; cases hx
    | some z => rw [hk] at hx; simp at hx; simp [hx]
  have h2 : keyOf P[j] = some (kb x) := by
    unfold keyOf
    cases hk : P[j].k with
    | none => rw [hk] at hy; cases hy
    | some z => rw [hk] at hy; simp at hy; simp [hy, e]
  have := ho i j P[i] P[j] (kb x) (List.getElem?_eq_getElem hi) (List.getElem?_eq_getElem hj) h1 h2
  omega
theorem told_one {P : List PL} {rs : List TK} (ho : OneP P) (hp : (rs.map TK.l).Perm (keysP P)) {i j : Nat} {r s : TK} (hi : rs[i]? = some r) (hj : rs[j]? = some s) (hij : i < j) : kb r.l ≠ kb s.l := by
  have h1 : (rs.map TK.l).Pairwise fun x y => kb x ≠ kb y := (hp.pairwise_iff (fun {a b} h => Ne.symm h)).2 (keysP_one ho)
  rw [List.pairwise_iff_getElem] at h1
  obtain ⟨hi1, hi2⟩ := List.getElem?_eq_some_iff.1 hi
  obtain ⟨hj1, hj2⟩ := List.getElem?_eq_some_iff.1 hj
  have := h1 i j (by simpa using hi1) (by simpa using hj1) hij
  simpa [hi2, hj2] using this
/-- A told key: what it is, and where. -/
theorem told_at {w : World} {B : Nat} {t : TP} {P : List PL} {N : List Bool → Nat} {rs : List TK} {r : TK} (h : Tri w B t P N) (hp : (rs.map TK.l).Perm (keysP P)) (hr : r ∈ rs) :
    ∃ p, p < t.n ∧ findP P (kb r.l) = some p ∧ lookE t.ks P r.l = ((p : Int), 0) ∧ r.l.length = t.ks ∧ (∀ b ∈ r.l, IsByte b) ∧ bcN r.l ≤ 8 * (t.ks - 4) := by
  obtain ⟨p, s, g, hs, hk⟩ := told_in (hp.mem_iff.1 (List.mem_map.2 ⟨r, hr, rfl⟩))
  obtain ⟨_, h1, h2, h3⟩ := h.key s (List.mem_of_getElem? hs) g r.l hk
  have hre : refE t.ks r.l = 0 := by unfold refE; rw [if_pos ⟨h1, h3⟩]
  have hI : PInv P (kb r.l) p s.v := ⟨s, hs, by simp [keyOf, hk], rfl⟩
  exact ⟨p, by have := (List.getElem?_eq_some_iff.1 hs).1; have := h.len; omega, hI.find h.one, hI.look h.one hre, h1, h2, h3⟩
/-- The longest beginning of a among the first j keys that are told. -/
def BestAt (P : List PL) (rs : List TK) (a : List Int) (j : Nat) (best long : Int) : Prop :=
  (best = -1 ∧ long = -1 ∧ ∀ (i : Nat) (s : TK), i < j → rs[i]? = some s → ¬ begM s.l a) ∨
  ∃ (i p : Nat) (r : TK), i < j ∧ rs[i]? = some r ∧ begM r.l a ∧ findP P (kb r.l) = some p ∧ best = p ∧ long = bcN r.l ∧ ∀ (i2 : Nat) (s : TK), i2 < j → rs[i2]? = some s → begM s.l a → bcN s.l ≤ bcN r.l
theorem BestAt.range {P : List PL} {rs : List TK} {a : List Int} {j : Nat} {best long : Int} (h : BestAt P rs a j best long) : (best = -1 ∨ 0 ≤ best) ∧ -1 ≤ long := by
  rcases h with ⟨h1, h2, _⟩ | ⟨i, p, r, _, _, _, _, h1, h2, _⟩ <;> omega
theorem BestAt.skip {P : List PL} {rs : List TK} {a : List Int} {j : Nat} {best long : Int} {r : TK} (h : BestAt P rs a j best long) (hr : rs[j]? = some r) (hn : ¬ (begM r.l a ∧ long < bcN r.l)) : BestAt P rs a (j + 1) best long := by
  rcases h with ⟨h1, h2, h3⟩ | ⟨i, p, s, hi, hs, hb, hf, h1, h2, h3⟩
  · refine .inl ⟨h1, h2, fun i s hi hs hb => ?_⟩
    by_cases e : i = j
    · subst e
      rw [hr] at hs
      injection hs with hs
      subst hs
      exact hn ⟨hb, by omega⟩
    · exact h3 i s (by omega) hs hb
  · refine .inr ⟨i, p, s, by omega, hs, hb, hf, h1, h2, fun i2 s2 hi2 hs2 hb2 => ?_⟩
    by_cases e : i2 = j
    · subst e
      rw [hr] at hs2
      injection hs2 with hs2
      subst hs2
      have : ¬ long < bcN r.l := fun h => hn ⟨hb2, h⟩
      omega
    · exact h3 i2 s2 (by omega) hs2 hb2
theorem BestAt.take {P : List PL} {rs : List TK} {a : List Int} {j p : Nat} {best long : Int} {r : TK} (h : BestAt P rs a j best long) (hr : rs[j]? = some r) (hb : begM r.l a) (hl : long < bcN r.l) (hf : findP P (kb r.l) = some p) : BestAt P rs a (j + 1) p (bcN r.l : Nat) := by
  refine .inr ⟨j, p, r, by omega, hr, hb, hf, rfl, rfl, fun i2 s2 hi2 hs2 hb2 => ?_⟩
  by_cases e : i2 = j
  · subst e
    rw [hr] at hs2
    injection hs2 with hs2
    subst hs2
    exact Nat.le_refl _
  · rcases h with ⟨h1, h2, h3⟩ | ⟨i, p, s, hi, hs, hb, hf, h1, h2, h3⟩
    · exact absurd hb2 (h3 i2 s2 (by omega) hs2)
    · have := h3 i2 s2 (by omega) hs2 hb2
      omega
/-- Lookup tells that one. -/
theorem BestAt.look {w : World} {B : Nat} {t : TP} {P : List PL} {N : List Bool → Nat} {rs : List TK} {a : List Int} {best long : Int} (h : Tri w B t P N) (hp : (rs.map TK.l).Perm (keysP P)) (hb : BestAt P rs a rs.length best long) (hl : a.length = t.ks) (hc : bcN a ≤ 8 * (t.ks - 4)) :
    (best = -1 ∧ lookE t.ks P a = (0, 6)) ∨ ∃ p : Nat, best = p ∧ lookE t.ks P a = ((p : Int), 0) := by
  have hkb := h.kbig
  have hre : refE t.ks a = 0 := by unfold refE; rw [if_pos ⟨hl, hc⟩]
  unfold lookE
  rw [if_pos hre]
  have hfa : ∀ (m i : Nat), m ≤ bcN a → findP P ((kb a).take m) = some i → ∃ (j : Nat) (r : TK), rs[j]? = some r ∧ begM r.l a ∧ bcN r.l = m := fun m i hm hf => by
    obtain ⟨s, hs, hk⟩ := findP_some hf
    unfold keyOf at hk
    cases hk2 : s.k with
    | none => rw [hk2] at hk; cases hk
    | some x =>
      rw [hk2] at hk
      simp at hk
      have h1 := in_told hs (show s.k = some (x.1, x.2) from hk2)
      obtain ⟨r, hr, he⟩ := List.mem_map.1 (hp.mem_iff.2 h1)
      obtain ⟨j, hj⟩ := List.mem_iff_getElem?.1 hr
      obtain ⟨_, _, _, _, hlen, _⟩ := told_at h hp hr
      obtain ⟨h2, h3⟩ := take_beg (l := r.l) (a := a) (m := m) (by omega) (by omega) (by rw [hl]; exact hc) (by rw [he]; exact hk) hm
      exact ⟨j, r, hj, h2, h3⟩
  cases hlo : lonI P (kb a) ((kb a).length + 1) with
  | none =>
    refine .inl ⟨?_, rfl⟩
    rcases hb with ⟨h1, _⟩ | ⟨i, p, r, hi, hr, hbg, hf, _⟩
    · exact h1
    · exfalso
      obtain ⟨h1, h2⟩ := beg_take hbg
      have := lonI_none hlo (bcN r.l) (by rw [kb_len]; omega)
      rw [← h1, hf] at this
      cases this
  | some i =>
    obtain ⟨m, hm, hf, hno⟩ := lonI_some hlo
    rw [kb_len] at hm hno
    obtain ⟨j, r, hj, hbg, hbc⟩ := hfa m i (by omega) hf
    have hjl := (List.getElem?_eq_some_iff.1 hj).1
    refine .inr ⟨i, ?_, rfl⟩
    rcases hb with ⟨_, _, h3⟩ | ⟨i2, p, s, hi2, hs, hb2, hf2, h1, h2, h3⟩
    · exact absurd hbg (h3 j r hjl hj)
    · have h4 := h3 j r hjl hj hbg
      obtain ⟨h5, h6⟩ := beg_take hb2
      by_cases e : m = bcN s.l
      · rw [e, ← h5, hf2] at hf
        injection hf with hf
        rw [h1, hf]
      · have := hno (bcN s.l) (by omega) (by omega)
        rw [← h5, hf2] at this
        cases this
end Go.Proofs.Ythefgfcjjbjjkaa

/-
  TrieLongest: what its walk leans on.
-/
namespace Go.Proofs.Ythefgfcjjbjjkaa
open Go.RowKit
set_option linter.unusedVariables false
set_option linter.unusedSimpArgs false

set_option maxRecDepth 100000 in
set_option maxHeartbeats 2000000 in
theorem bits_quiet (A : Option Addr) (n c B : Nat) (k : List Int) (w : World) (hk : ∀ b ∈ k, IsByte b) (hr : Rd w B 1 A n (u8s k)) (hn : 4 ≤ n) :
    Calls Try.prog 30 #[.slice A n c] w fun e w' => e = .returned (.int .i64 (bcN k)) ∧ ∃ q, w' = w.drewN q := by
  obtain ⟨ad, b0, rfl, h0, c0⟩ := hr.byte (show 0 < n by omega)
  obtain ⟨ad1, b1, e1, h1, c1⟩ := hr.byte (show 1 < n by omega)
  obtain ⟨ad2, b2, e2, h2, c2⟩ := hr.byte (show 2 < n by omega)
  obtain ⟨ad3, b3, e3, h3, c3⟩ := hr.byte (show 3 < n by omega)
  injection e1 with e1; injection e2 with e2; injection e3 with e3
  subst e1 e2 e3
  obtain ⟨r0, l0, u0⟩ := byN_at hk h0
  obtain ⟨r1, l1, u1⟩ := byN_at hk h1
  obtain ⟨r2, l2, u2⟩ := byN_at hk h2
  obtain ⟨r3, l3, u3⟩ := byN_at hk h3
  have HV : Hid (b0 + b1 * 256 + b2 * 65536 + b3 * 16777216 = (bcN k : Int)) := hide (by
    rw [r0, r1, r2, r3]
    unfold bcN
    omega)
  have q0 : (0 : Int) < (n : Int) := by omega
  have q1 : (1 : Int) < (n : Int) := by omega
  have q2 : (2 : Int) < (n : Int) := by omega
  have q3 : (3 : Int) < (n : Int) := by omega
  rw [show ad.add 0 = ad by simp [Addr.add]] at c0
  rw [show ad.add 1 = { block := ad.block, off := ad.off + 1 } by simp [Addr.add]] at c1
  rw [show ad.add 2 = { block := ad.block, off := ad.off + 2 } by simp [Addr.add]] at c2
  rw [show ad.add 3 = { block := ad.block, off := ad.off + 3 } by simp [Addr.add]] at c3
  clear r0 r1 r2 r3 h0 h1 h2 h3 hr hk
  go_enter Try.func30, Try.ntmps30
  go_wp2_with fail
  go_quiet (fail)
  go_wp2_with fail
  go_ret
  exact ⟨congrArg (fun x => Ending.returned (.int .i64 x)) HV.out, _, rfl⟩
theorem boolInfo : (Try.prog.info? 4).map (fun i => (i.zero, i.size, i.bytes)) = some (some (.bool false), 1, 1) := by kernel_rfl
theorem bool_parts : ∃ i, Try.prog.info? 4 = some i ∧ i.zero = some (.bool false) ∧ i.size = 1 ∧ i.bytes = 1 := by
  have h := boolInfo
  cases hi : Try.prog.info? 4 with
  | none => rw [hi] at h; cases h
  | some i =>
    rw [hi] at h
    simp only [Option.map_some, Option.some.injEq, Prod.mk.injEq] at h
    exact ⟨i, rfl, h.1, h.2.1, h.2.2⟩
theorem bools_cells (n : Nat) : madeCells #[Value.bool false] n = (List.replicate n (Value.bool false)).toArray := by
  apply Array.ext'
  apply List.ext_getElem
  · simp [size_madeCells]
  · intro i h1 h2
    simp [madeCells, Nat.mod_one]
theorem bools_made (n : Nat) (hn : n ≤ 16777216) (W : World) : (Instr.makeSlice 63 (.int .i64 (n : Int)) (.int .i64 (n : Int))).run Try.prog W = .ok (.slice (some ⟨W.heap.size, 0, none⟩) n n) (W.alloc (.cells (List.replicate n (Value.bool false)).toArray 4)) := by
  obtain ⟨i0, hi, hz0, hz1, hz2⟩ := bool_parts
  have := run_make (P := Try.prog) W 63 4 i0 _ Try.underlying63 hi hz0 .i64 .i64 (n : Int) (n : Int) (by omega) (by omega) (by rw [hz2]; omega) (by omega)
  rw [hz1] at this
  rw [← bools_cells]
  simpa [Value.cells] using this
def boolC (us : List Bool) : Array Value := (us.map Value.bool).toArray
theorem boolC_new (n : Nat) : (List.replicate n (Value.bool false)).toArray = boolC (List.replicate n false) := by simp [boolC]
theorem boolC_set {w : World} {U : Nat} {us : List Bool} (h : w.heap[U]? = some (.cells (boolC us) 4 (0, 0))) (p : Nat) : (w.setCell ⟨U, p, none⟩ (.bool true)).heap[U]? = some (.cells (boolC (us.set p true)) 4 (0, 0)) := by
  rw [set_blk h p (.bool true)]
  simp [boolC, List.map_set]
theorem boolC_at {us : List Bool} {p : Nat} {b : Bool} (h : us[p]? = some b) : (boolC us)[p]? = some (.bool b) := by simp [boolC, h]
/-- The places that were told. -/
def UsedAt (P : List PL) (rs : List TK) (n j : Nat) (us : List Bool) : Prop := us.length = n ∧ ∀ p, us[p]? = some true → ∃ (i : Nat) (r : TK), i < j ∧ rs[i]? = some r ∧ findP P (kb r.l) = some p
theorem UsedAt.free {P : List PL} {rs : List TK} {n j p : Nat} {us : List Bool} {r : TK} (h : UsedAt P rs n j us) (ho : OneP P) (hp : (rs.map TK.l).Perm (keysP P)) (hr : rs[j]? = some r) (hf : findP P (kb r.l) = some p) (hpn : p < n) : us[p]? = some false := by
  have hl : p < us.length := by rw [h.1]; exact hpn
  rw [List.getElem?_eq_getElem hl]
  cases hb : us[p] with
  | false => rfl
  | true =>
    exfalso
    obtain ⟨i, s, hi, hs, hf2⟩ := h.2 p (by rw [List.getElem?_eq_getElem hl, hb])
    obtain ⟨x, hx, hk⟩ := findP_some hf
    obtain ⟨y, hy, hk2⟩ := findP_some hf2
    rw [hx] at hy
    injection hy with hy
    subst hy
    rw [hk] at hk2
    injection hk2 with hk2
    exact told_one ho hp hs hr hi hk2.symm
theorem UsedAt.next {P : List PL} {rs : List TK} {n j p : Nat} {us : List Bool} {r : TK} (h : UsedAt P rs n j us) (hr : rs[j]? = some r) (hf : findP P (kb r.l) = some p) : UsedAt P rs n (j + 1) (us.set p true) := by
  refine ⟨by rw [List.length_set]; exact h.1, fun q hq => ?_⟩
  by_cases e : p = q
  · subst e
    exact ⟨j, r, by omega, hr, hf⟩
  · rw [List.getElem?_set_ne e] at hq
    obtain ⟨i, s, hi, hs, hf2⟩ := h.2 q hq
    exact ⟨i, s, by omega, hs, hf2⟩
theorem UsedAt.start (P : List PL) (rs : List TK) (n : Nat) : UsedAt P rs n 0 (List.replicate n false) :=
  ⟨List.length_replicate, fun p hp => by
    rw [List.getElem?_replicate] at hp
    split at hp <;> cases hp⟩
/-- All that lies beside the row of the places told. -/
structure LQ (w0 : World) (B : Nat) (t : TP) (P : List PL) (N : List Bool → Nat) (A : Option Addr) (rs : List TK) (U : Nat) (W : World) : Prop where
  tri : Tri W B t P N
  keys : Rd W W.heap.size 1 A rs.length (rs.map TK.sl)
  each : ∀ r ∈ rs, r.Is W
  below : Below w0.heap.size w0 W
  off : ∀ g, OfT t P N g → g ≠ U
  row : ∀ ad, A = some ad → 0 < rs.length → ad.block ≠ U
  own : ∀ r ∈ rs, r.g ≠ U
  base : w0.heap.size ≤ U
section
variable {w0 W W' : World} {B : Nat} {t : TP} {P : List PL} {N : List Bool → Nat} {A : Option Addr} {rs : List TK} {U : Nat}
theorem LQ.later (h : LQ w0 B t P N A rs U W) (hb : Below W.heap.size W W') : LQ w0 B t P N A rs U W' :=
  ⟨h.tri.below (Nat.le_refl _) hb, (h.keys.below hb).mono hb.size, fun r hr => (h.each r hr).kept (Kept.of_below hb : Kept (fun _ => True) _ _) trivial, h.below.trans (hb.mono h.below.size), h.off, h.row, h.own, h.base⟩
theorem LQ.set (h : LQ w0 B t P N A rs U W) (p : Nat) (u : Value) : LQ w0 B t P N A rs U (W.setCell ⟨U, p, none⟩ u) := by
  have hk : Kept (fun g => g ≠ U) W (W.setCell ⟨U, p, none⟩ u) := ⟨rfl, rfl, rfl, by simp [World.setCell], fun k _ hk2 => set_other hk2⟩
  refine ⟨h.tri.kept hk (fun g hg => h.off g hg), ⟨h.keys.1, fun h0 => ?_⟩, fun r hr => (h.each r hr).kept hk (h.own r hr), h.below.trans (hk.to_below (fun k hk2 e => by have := h.base; omega) h.below.size), h.off, h.row, h.own, h.base⟩
  obtain ⟨ad, e, hb, hc⟩ := h.keys.2 h0
  refine ⟨ad, e, Nat.lt_of_lt_of_le hb hk.size, fun j u2 hu => ?_⟩
  rw [← hc j u2 hu]
  exact World.cell?_of_block (hk.block _ (by rw [block_add]; exact hb) (by rw [block_add]; exact h.row ad e h0))
theorem LQ.cell (h : LQ w0 B t P N A rs U W) {j : Nat} (hj : j < rs.length) : ∃ ad r, A = some ad ∧ rs[j]? = some r ∧ W.cell? (ad.add j) = some r.sl ∧ ad.block < W.heap.size := by
  obtain ⟨ad, e, hb, hc⟩ := h.keys.2 (by omega)
  have hr : rs[j]? = some rs[j] := List.getElem?_eq_getElem hj
  refine ⟨ad, _, e, hr, ?_, hb⟩
  have := hc j _ (by rw [List.getElem?_map, hr]; rfl)
  simpa using this
end
end Go.Proofs.Ythefgfcjjbjjkaa

/-
  TrieLongest's walk.
-/
namespace Go.Proofs.Ythefgfcjjbjjkaa
open Go.RowKit
set_option linter.unusedVariables false
set_option linter.unusedSimpArgs false

theorem below_in {w0 W w' : World} (h : Below w0.heap.size w0 W) (hb : Below W.heap.size W w') : Below w0.heap.size w0 w' := h.trans (hb.mono h.size)
theorem kr_of {w : World} {B : Nat} {r : ARow} (h : InB w B r) (hB : B ≤ w.heap.size) : KR w r.A r.n r.c r.bs := ⟨h.rd.mono hB, h.le, h.byte⟩
theorem apart_of {W : World} {B B0 : Nat} {t : TP} {P : List PL} {N : List Bool → Nat} {r : ARow} (h : InB W B0 r) (ht : Tri W B t P N) (hB : B0 ≤ B) : 0 < r.n → ∀ ad, r.A = some ad → ¬ OfT t P N ad.block := fun h0 ad e h2 => by
  obtain ⟨ad2, e2, hb, _⟩ := h.rd.2 h0
  rw [e] at e2
  injection e2 with e2
  subst e2
  have := ht.low _ h2
  omega
/-- Update, Delete with rows that came in, which lie below the trie's blocks. -/
theorem upd_all {W : World} {B B0 : Nat} {t : TP} {P : List PL} {N : List Bool → Nat} {a v : ARow} (ht : Tri W B t P N) (ha : InB W B0 a) (hv : InB W B0 v) (hB : B0 ≤ B) (hW : B0 ≤ W.heap.size) (fl : Int) :
    Calls Try.prog 26 #[.pointer (some ⟨t.tb, 0, none⟩), .slice a.A a.n a.c, .slice v.A v.n v.c, .int .u64 fl] W (UpdTold B t P N a.bs v.bs v.n fl W) :=
  upd_any B B0 t P N a.A v.A a.n a.c v.n v.c fl a.bs v.bs W ht (kr_of ha hW) (apart_of ha ht hB) hv.rd hW (apart_of hv ht hB)
theorem del_in {W : World} {B B0 : Nat} {t : TP} {P : List PL} {N : List Bool → Nat} {a : ARow} (ht : Tri W B t P N) (ha : InB W B0 a) (hB : B0 ≤ B) (hW : B0 ≤ W.heap.size) :
    Calls Try.prog 15 #[.pointer (some ⟨t.tb, 0, none⟩), .slice a.A a.n a.c] W fun e w' => e = .returned (.int .i64 (delE t.ks P a.bs)) ∧ TGo B t P N (delP t.ks P a.bs) N W w' :=
  del_all B t P N a.A a.n a.c a.bs W ht (kr_of ha hW) (apart_of ha ht hB)
set_option maxRecDepth 100000 in
set_option maxHeartbeats 20000000 in
theorem law_trieLongest (k key val ent : Int) (QA : Option Addr) (m c : Nat) (ds : List ADo) (a : ARow) (w : World) (hk : 0 ≤ k ∧ k < 256) (hq : ADos w w.heap.size QA m ds) (ha : InB w w.heap.size a) (hmc : m ≤ 140737488351232) :
    Calls Try.prog 5 #[.agg #[.int .u8 k, .int .i64 key, .int .i64 val, .int .i64 ent], .slice QA m c, .slice a.A a.n a.c] w fun e w' => e = .returned (.bool true) ∧ Below w.heap.size w w' := by
  have q0 := World.alloc_heap_new w (.cells #[.int .u8 k, .int .i64 key, .int .i64 val, .int .i64 ent] 24)
  have hb1 := below1 w (.cells #[.int .u8 k, .int .i64 key, .int .i64 val, .int .i64 ent] 24)
  generalize hW1 : w.alloc (.cells #[.int .u8 k, .int .i64 key, .int .i64 val, .int .i64 ent] 24) = W1 at q0 hb1
  replace hW1 := hide hW1
  have HB := hide hb1
  have HX1 := hide q0
  have HC : Hid (∀ W, Below W1.heap.size W1 W → W.cell? ⟨w.heap.size, 0, none⟩ = some (.int .u8 k) ∧ W.cell? ⟨w.heap.size, 1, none⟩ = some (.int .i64 key) ∧ W.cell? ⟨w.heap.size, 2, none⟩ = some (.int .i64 val) ∧ W.cell? ⟨w.heap.size, 3, none⟩ = some (.int .i64 ent)) := hide (fun W hb => by
    have h1 := (hb.block _ (at_lt q0)).trans q0
    refine ⟨?_, ?_, ?_, ?_⟩ <;> (rw [blk_cell h1]; rfl))
  have HQ := hide hq
  have HAI := hide ha
  clear q0 hb1 hq ha
  go_enter Try.func5, Try.ntmps5
  go_upto_region 1 with fail
  refine Eq.mp (congrArg (Code.wp Try.prog _ _ _) hW1.out.symm) ?_
  go_wp2_with fail
  refine (awake_any W1).mono ?_
  rintro e w2 ⟨rfl, hb⟩
  have HB2 := hide hb
  have HW2 := hide (below_in HB.out hb)
  clear hb
  obtain ⟨s0, s1, s2, s3⟩ := HC.out w2 HB2.out
  go_wp2_with fail
  refine (light_any k key val ent QA m c w.heap.size ds w2 (HQ.out.below HW2.out) HW2.out.size hmc).mono ?_
  rintro e w3 ⟨bl, rfl, hl, hb⟩
  have HB3 := hide (below_in HB2.out hb)
  have HL := hide hl
  clear hb hl s0 s1 s2 s3
  obtain ⟨s0, s1, s2, s3⟩ := HC.out w3 HB3.out
  have HBW3 := hide (below_in HB.out HB3.out)
  cases bl
  · go_wp2_with fail
    go_ret
    exact ⟨rfl, HBW3.out⟩
  have HLI := hide (HL.out rfl)
  clear HL
  by_cases ha8 : 80 < a.n
  · have d8 : decide ((80 : Int) < (a.n : Int)) = true := by simp; omega
    go_wp2_with fail
    go_ret
    exact ⟨rfl, HBW3.out⟩
  have d8 : decide ((80 : Int) < (a.n : Int)) = false := by simp; omega
  go_wp2_with fail
  clear s0 s1 s2 s3 d8
  have HA80 := hide ha8
  clear ha8
  by_cases he : newE k key val ent = 0
  case neg =>
    have hne : (newE k key val ent != 0) = true := by simpa using he
    have HNO := hide (new_no k key val ent w3 hk he)
    generalize newE k key val ent = ne at *
    refine HNO.out.mono ?_
    rintro e w4 ⟨rfl, hb⟩
    have HB4 := hide (below_in HBW3.out hb)
    clear hb he
    go_wp2_with fail
    go_ret
    exact ⟨rfl, HB4.out⟩
  case pos =>
    obtain ⟨rfl, hsp, n1, n2, n3, n4, n5, n6⟩ := newE_yes he
    obtain ⟨ks, rfl⟩ : ∃ n : Nat, key = n := ⟨key.toNat, by omega⟩
    obtain ⟨sz, rfl⟩ : ∃ n : Nat, val = n := ⟨val.toNat, by omega⟩
    obtain ⟨n, rfl⟩ : ∃ n : Nat, ent = n := ⟨ent.toNat, by omega⟩
    clear he
    refine (new_yes n ks sz w3 hsp (by omega) (by omega) (by omega)).mono ?_
    rintro e w4 ⟨t, s0, N0, rfl, hT, hks, hsz, htn, hb⟩
    subst hks hsz htn
    generalize zPLs s0 t.sz t.n = P0 at hT
    obtain ⟨Bz, hBz⟩ : ∃ Bz, Bz = w3.heap.size := ⟨_, rfl⟩
    rw [← hBz] at hT
    have HBZ : Hid (W1.heap.size ≤ Bz) := hide (by rw [hBz]; exact HB3.out.size)
    have HBZ0 : Hid (w.heap.size ≤ Bz) := hide (by rw [hBz]; exact HBW3.out.size)
    have HW4 := hide (below_in HB3.out hb)
    have HT0 := hide hT
    have hn40 : (t.n : Int) ≤ 40 := HLI.out.1
    clear hT hb hBz hsp
    go_wp2_with fail
    go_loopw [9] (fun u wr => ∃ (j : Nat) (P : List PL) (N : List Bool → Nat), j ≤ m ∧ u = .int .i64 j ∧ Tri wr Bz t P N ∧ Below W1.heap.size W1 wr) (fun u _ => m - (intOf u).toNat)
    case atStart => exact ⟨0, _, _, Nat.zero_le _, rfl, HT0.out, HW4.out⟩
    case round =>
      obtain ⟨j, P, N, hj, rfl, hT, hb⟩ := hrel
      have HTR := hide hT
      have HBR := hide hb
      have HBW := hide (below_in HB.out hb)
      have hm60 : m ≤ 60 := HLI.out.2.2.2.1
      clear hT hb
      by_cases hjm : j < m
      · obtain ⟨ad, d, rfl, hd, had, hc⟩ := (HQ.out.below HBW.out).cell hjm
        have HI : Hid (d.Is w w.heap.size) := hide (HQ.out.inner d (List.mem_of_getElem? hd))
        have HDL := hide (HLI.out.2.2.2.2 d (List.mem_of_getElem? hd))
        have HFC : Hid (∀ W, Below w.heap.size wr W → W.cell? (ad.add (j * 6)) = some (.int .i64 d.what) ∧ W.cell? { block := (ad.add (j * 6)).block, off := (ad.add (j * 6)).off + 1 } = some (.slice d.k.A d.k.n d.k.c) ∧ W.cell? { block := (ad.add (j * 6)).block, off := (ad.add (j * 6)).off + 2 } = some (.slice d.v.A d.v.n d.v.c) ∧ W.cell? { block := (ad.add (j * 6)).block, off := (ad.add (j * 6)).off + 3 } = some (.int .u64 d.fl)) := hide (fun W hW => by
          have f0 : wr.cell? (ad.add (j * 6)) = some (.int .i64 d.what) := hc 0 _ rfl
          have f1 := hc 1 _ rfl
          have f2 := hc 2 _ rfl
          have f3 := hc 3 _ rfl
          rw [add_parts ad _ 1 (by decide)] at f1
          rw [add_parts ad _ 2 (by decide)] at f2
          rw [add_parts ad _ 3 (by decide)] at f3
          have hbk : (ad.add (j * 6)).block < w.heap.size := by rw [block_add]; exact had
          exact ⟨(hW.cell hbk).trans f0, (hW.cell (p := { block := (ad.add (j * 6)).block, off := (ad.add (j * 6)).off + 1 }) hbk).trans f1, (hW.cell (p := { block := (ad.add (j * 6)).block, off := (ad.add (j * 6)).off + 2 }) hbk).trans f2, (hW.cell (p := { block := (ad.add (j * 6)).block, off := (ad.add (j * 6)).off + 3 }) hbk).trans f3⟩)
        obtain ⟨f0, f1, f2, f3⟩ := HFC.out wr (Below.refl _ _)
        have i0 : (0 : Int) ≤ (j : Int) := by omega
        have i1 : (j : Int) < (m : Int) := by omega
        have dm : decide ((j : Int) < (m : Int)) = true := decide_eq_true i1
        clear hc hd had
        go_wp2_with (go_at_call 12; refine stop_here ?_)
        show Hid _
        refine start_here ?_
        refine (pick_any d.what 3 wr (by decide) (by decide) HI.out.what.1 HI.out.what.2).mono ?_
        rintro e wp ⟨q, hq3, rfl, rfl⟩
        by_cases hq0 : q = 0
        · subst hq0
          have HDE := hide (del_in HTR.out (HI.out.k.below HBW.out) HBZ0.out HBW.out.size)
          generalize hde : delE t.ks P d.k.bs = de at HDE
          go_wp2_with (go_at_call 15; refine HDE.out.mono ?_; rintro e wz ⟨rfl, hgz⟩; have HGZ := hide hgz; clear hgz)
          go_roundw
          case rel => exact ⟨j + 1, _, _, by omega, by go_num, HGZ.out.1, HBR.out.trans ((HGZ.out.low_ HTR.out HTR.out.base).mono HBZ.out)⟩
          case measure => simp [intOf]; omega
        · have hqq : ((q : Int) == 0) = false := by simpa using (by omega : ¬ (q : Int) = 0)
          go_wp2_with fail
          obtain ⟨f0, f1, f2, f3⟩ := HFC.out wr.drew (Below.refl _ _).drew
          have HTD := hide (HTR.out.below (Nat.le_refl _) (Below.refl _ _).drew)
          have HBD := hide (HBW.out.drew)
          have HBD1 := hide (HBR.out.drew)
          go_still_tail 16, (by kernel_rfl)
          go_wp2_with (go_at_call 26; refine stop_here ?_)
          show Hid _
          refine start_here ?_
          refine (upd_all HTD.out (HI.out.k.below HBD.out) (HI.out.v.below HBD.out) HBZ0.out HBD.out.size d.fl).mono ?_
          rintro e wz ⟨P2, N2, rfl, hgz, _⟩
          have HGZ := hide hgz
          generalize updE t.ks t.sz P d.k.bs d.v.n d.fl = ue
          clear hgz f0 f1 f2 f3
          go_wp2_with fail
          go_roundw
          case rel => exact ⟨j + 1, P2, N2, by omega, by go_num, HGZ.out.1, HBD1.out.trans ((HGZ.out.low_ HTD.out HTD.out.base).mono HBZ.out)⟩
          case measure => simp [intOf]; omega
      · have dm : decide ((j : Int) < (m : Int)) = false := by simp; omega
        have hn24 : 1 ≤ t.n ∧ t.n ≤ 1024 := HTR.out.many
        have hkb := HTR.out.kbig
        go_wp2_with (go_at_call 23; refine stop_here ?_)
        show Hid _
        refine start_here ?_
        refine (keys_any Bz t P N wr HTR.out).mono ?_
        rintro e wk ⟨KA, kc, rs, rfl, hp, hka, hbk⟩
        have HPM := hide hp
        have hb1k := HBR.out.trans (hbk.mono HBR.out.size)
        have htk := HTR.out.below (Nat.le_refl _) hbk
        have hrl : rs.length ≤ 1024 := by
          have h1 := hp.length_eq
          have h2 := keysP_len P
          have h3 := htk.len
          simp at h1
          omega
        obtain ⟨s0, s1, s2, s3⟩ := HC.out wk hb1k
        have hbm := bools_made t.n (by omega) wk
        rw [boolC_new] at hbm
        have hbz := below1 wk (.cells (boolC (List.replicate t.n false)) 4)
        have hxx := World.alloc_heap_new wk (.cells (boolC (List.replicate t.n false)) 4)
        have hz : (wk.alloc (.cells (boolC (List.replicate t.n false)) 4)).heap.size = wk.heap.size + 1 := by simp
        have h0 : LQ W1 Bz t P N KA rs wk.heap.size (wk.alloc (.cells (boolC (List.replicate t.n false)) 4)) := by
          refine ⟨htk.below (Nat.le_refl _) hbz, (hka.row.below hbz).mono hbz.size, fun r hr => (hka.each r hr).kept (Kept.of_below hbz : Kept (fun _ => True) _ _) trivial, hb1k.trans (hbz.mono hb1k.size), fun g hg => Nat.ne_of_lt (htk.lt g hg), fun ad e h1 => ?_, fun r hr => ?_, hb1k.size⟩
          · obtain ⟨ad2, e2, h2, _⟩ := hka.row.2 h1
            rw [e] at e2
            injection e2 with e2
            subst e2
            exact Nat.ne_of_lt h2
          · obtain ⟨cur, h1⟩ := (hka.each r hr).blk
            exact Nat.ne_of_lt (at_lt h1)
        have HLQ := hide h0
        have HXX := hide hxx
        clear hp hbk hka hb1k htk hbz hxx h0 hz
        generalize hU : wk.heap.size = U at *
        generalize wk.alloc (.cells (boolC (List.replicate t.n false)) 4) = wu at *
        clear hU
        go_wp2_with fail
        clear s0 s1 s2 s3 hbm dm
        have HONE : Hid (OneP P) := hide HTR.out.one
        go_loopw [12, 13, 14, 15, 16] (fun v12 v13 v14 _ _ wq => ∃ (i : Nat) (us : List Bool) (best long : Int), i ≤ rs.length ∧ v12 = .int .i64 best ∧ v13 = .int .i64 long ∧ v14 = .int .i64 i ∧ BestAt P rs a.bs i best long ∧ UsedAt P rs t.n i us ∧ wq.heap[U]? = some (.cells (boolC us) 4 (0, 0)) ∧ LQ W1 Bz t P N KA rs U wq) (fun _ _ v14 _ _ _ => rs.length - (intOf v14).toNat)
        case atStart => exact ⟨0, _, -1, -1, Nat.zero_le _, rfl, rfl, rfl, .inl ⟨rfl, rfl, fun i s hi => absurd hi (Nat.not_lt_zero _)⟩, UsedAt.start P rs t.n, HXX.out, HLQ.out⟩
        case round =>
          obtain ⟨i, us, best, long, hi, rfl, rfl, rfl, hbest, hus, hu, hlq⟩ := hrel
          have HBE := hide hbest
          have HUS := hide hus
          have HU := hide hu
          have HL2 := hide hlq
          obtain ⟨brg1, brg2⟩ := hbest.range
          clear hbest hus hu hlq
          by_cases him : i < rs.length
          · obtain ⟨ad, r, rfl, hr, hcell, hadb⟩ := HL2.out.cell him
            have hrm := List.mem_of_getElem? hr
            obtain ⟨p, hp1, hp2, hp3, hp4, hp5, hp6⟩ := told_at HL2.out.tri HPM.out hrm
            have hrn : r.l.length = r.n := by
              have := (HL2.out.each r hrm).1.1
              simpa [u8s] using this
            have HKR : Hid (KR wr (some ⟨r.g, 0, none⟩) r.n r.c r.l) := hide ⟨(HL2.out.each r hrm).rd, (HL2.out.each r hrm).cap, hp5⟩
            have HLK := hide (lookup_any Bz t P N (some ⟨r.g, 0, none⟩) r.n r.c r.l wr HL2.out.tri HKR.out)
            rw [hp3] at HLK
            have HR := hide hr
            have HRM := hide hrm
            have HF := hide hp2
            have HBY := hide hp5
            have hrk : r.n = t.ks := by omega
            have i0 : (0 : Int) ≤ (i : Int) := by omega
            have i1 : (i : Int) < (rs.length : Int) := by omega
            have di : decide ((i : Int) < (rs.length : Int)) = true := decide_eq_true i1
            have HCF : Hid (∀ W, LQ W1 Bz t P N (some ad) rs U W → W.cell? (ad.add i) = some (.slice (some ⟨r.g, 0, none⟩) r.n r.c)) := hide (fun W hW => by
              obtain ⟨ad2, r2, e1, e2, e3, _⟩ := hW.cell him
              injection e1 with e1
              subst e1
              rw [HR.out] at e2
              injection e2 with e2
              subst e2
              exact e3)
            have HBC : Hid (bcN r.l ≤ 8 * (t.ks - 4)) := hide hp6
            have HRK := hide hrk
            have HRL := hide hp4
            have q1 : ((r.n : Int) != (t.ks : Int)) = false := by rw [hrk]; simp
            clear hrk hp4 hr hrm hp2 hp3 hp5 hp6 hrn hcell hadb
            have x1 := HCF.out wr HL2.out
            go_wp2_with (go_at_call 13; refine stop_here ?_)
            show Hid _
            refine start_here ?_
            refine HLK.out.mono ?_
            rintro e wa ⟨rfl, hba⟩
            have HLA := hide (HL2.out.later hba)
            have HUA := hide ((hba.block _ (at_lt HU.out)).trans HU.out)
            clear hba HLK x1
            have x1 := HCF.out wa HLA.out
            obtain ⟨s0, s1, s2, s3⟩ := HC.out wa HLA.out.below
            have uc : wa.cell? ⟨U, p, none⟩ = some (.bool false) := (blk_cell HUA.out p).trans (boolC_at (HUS.out.free HONE.out HPM.out HR.out HF.out hp1))
            have uf : wa.frozen? ⟨U, p, none⟩ = false := Joins.unfrozen_of_block HUA.out p
            have p0 : decide ((p : Int) < 0) = false := decide_eq_false (by omega)
            have p1 : decide ((t.n : Int) ≤ (p : Int)) = false := decide_eq_false (by omega)
            have p2 : (0 : Int) ≤ (p : Int) := by omega
            have p3 : (p : Int) < (t.n : Int) := by omega
            go_upto_region 22 with fail
            go_quiet (fail)
            have HLD := hide (HLA.out.later (below_drewN (Below.refl wa.heap.size wa) nq))
            have HLB := hide (HLD.out.set p (.bool true))
            have HUB := hide (boolC_set (w := wa.drewN nq) HUA.out p)
            go_upto_region 25 with fail
            clear x1 s0 s1 s2 s3 uc uf
            generalize (wa.drewN nq).setCell ⟨U, p, none⟩ (.bool true) = wb at HLB HUB ⊢
            have x1 := HCF.out wb HLB.out
            go_wp2_with (go_at_call 29; refine stop_here ?_)
            show Hid _
            refine start_here ?_
            refine (begins_any (some ⟨r.g, 0, none⟩) a.A r.n a.n r.c a.c wb.heap.size r.l a.bs wb HBY.out HAI.out.byte (HLB.out.each r HRM.out).rd ((HAI.out.rd.below (below_in HB.out HLB.out.below)).mono (below_in HB.out HLB.out.below).size) (Nat.le_refl _) (by have := HRK.out; omega) (by have := HA80.out; omega)).mono ?_
            rintro e wc ⟨t1, rfl, ht1, hbc⟩
            have HLC := hide (HLB.out.later hbc)
            have HUC := hide ((hbc.block _ (at_lt HUB.out)).trans HUB.out)
            have HT1 := hide ht1
            clear hbc ht1 x1
            have x1 := HCF.out wc HLC.out
            cases t1
            · have HNX : Hid (BestAt P rs a.bs (i + 1) best long) := hide (HBE.out.skip HR.out (fun h => by have := HT1.out.2 h.1; cases this))
              go_wp2_with fail
              go_roundw
              case rel => exact ⟨i + 1, us.set p true, best, long, by omega, rfl, rfl, by go_num, HNX.out, HUS.out.next HR.out HF.out, HUC.out, HLC.out⟩
              case measure => simp [intOf]; omega
            · have HBG : Hid (begM r.l a.bs) := hide (HT1.out.1 rfl)
              have HBIT : Hid (∀ W, LQ W1 Bz t P N (some ad) rs U W → Calls Try.prog 30 #[.slice (some ⟨r.g, 0, none⟩) r.n r.c] W fun e w' => e = .returned (.int .i64 (bcN r.l)) ∧ ∃ q, w' = W.drewN q) := hide (fun W hW => bits_quiet (some ⟨r.g, 0, none⟩) r.n r.c W.heap.size r.l W HBY.out (hW.each r HRM.out).rd (by have := HRK.out; omega))
              have hbn : bcN r.l ≤ 1000 := by have := HBC.out; omega
              generalize hbnr : bcN r.l = bn at HBIT hbn
              have HBN := hide hbnr
              clear hbnr
              by_cases hlong : long < (bn : Int)
              · have dl : decide (long < (bn : Int)) = true := decide_eq_true hlong
                go_wp2_with (go_at_call 30; refine stop_here ?_)
                show Hid _
                refine start_here ?_
                refine (HBIT.out wc HLC.out).mono ?_
                rintro e wd ⟨rfl, q2, rfl⟩
                have HLE := hide (HLC.out.later (below_drewN (Below.refl wc.heap.size wc) q2))
                have HUE : Hid ((wc.drewN q2).heap[U]? = _) := hide HUC.out
                go_wp2_with (go_at_call 30; refine stop_here ?_)
                show Hid _
                refine start_here ?_
                refine (HBIT.out (wc.drewN q2) HLE.out).mono ?_
                rintro e wd ⟨rfl, q3, rfl⟩
                have HLG := hide (HLE.out.later (below_drewN (Below.refl (wc.drewN q2).heap.size (wc.drewN q2)) q3))
                have HNX : Hid (BestAt P rs a.bs (i + 1) p bn) := hide (by rw [← HBN.out]; exact HBE.out.take HR.out HBG.out (by rw [HBN.out]; exact hlong) HF.out)
                go_wp2_with fail
                go_roundw
                case rel => exact ⟨i + 1, us.set p true, p, bn, by omega, rfl, rfl, by go_num, HNX.out, HUS.out.next HR.out HF.out, HUC.out, by have := HLG.out; rwa [World.drewN_drewN] at this⟩
                case measure => simp [intOf]; omega
              · have dl : decide (long < (bn : Int)) = false := decide_eq_false hlong
                have HNX : Hid (BestAt P rs a.bs (i + 1) best long) := hide (HBE.out.skip HR.out (fun h => by have := h.2; rw [HBN.out] at this; exact hlong this))
                go_wp2_with (go_at_call 30; refine stop_here ?_)
                show Hid _
                refine start_here ?_
                refine (HBIT.out wc HLC.out).mono ?_
                rintro e wd ⟨rfl, q2, rfl⟩
                have HLE := hide (HLC.out.later (below_drewN (Below.refl wc.heap.size wc) q2))
                go_wp2_with fail
                go_roundw
                case rel => exact ⟨i + 1, us.set p true, best, long, by omega, rfl, rfl, by go_num, HNX.out, HUS.out.next HR.out HF.out, HUC.out, HLE.out⟩
                case measure => simp [intOf]; omega
          · have di : decide ((i : Int) < (rs.length : Int)) = false := by simp; omega
            have hin : i = rs.length := by omega
            have HBF : Hid (BestAt P rs a.bs rs.length best long) := hide (by rw [← hin]; exact HBE.out)
            have HWW := hide (below_in HB.out HL2.out.below)
            have hal : a.bs.length = a.n := (kr_of HAI.out (Nat.le_refl _)).len
            have HLK := hide (lookup_any Bz t P N a.A a.n a.c a.bs wr HL2.out.tri (kr_of (HAI.out.below HWW.out) HWW.out.size))
            clear hin
            have w1 : IntKind.i64.wrap ((t.ks : Int) - 4) = (t.ks : Int) - 4 := IntWalk.i64_in _ (by omega)
            have w2 : IntKind.i64.wrap (8 * ((t.ks : Int) - 4)) = 8 * ((t.ks : Int) - 4) := IntWalk.i64_in _ (by omega)
            have ha80 := HA80.out
            by_cases hnk : a.n = t.ks
            · have qn : ((a.n : Int) != (t.ks : Int)) = false := by rw [hnk]; simp
              have HBQ : Hid (∀ W n, Below wr.heap.size wr W → Calls Try.prog 30 #[.slice a.A a.n a.c] (W.drewN n) fun e w'' => e = .returned (.int .i64 (bcN a.bs)) ∧ ∃ m, w'' = W.drewN m) := hide (fun W n hW => by
                have hb0 : Below w.heap.size w W := HWW.out.trans (hW.mono HWW.out.size)
                refine (bits_quiet a.A a.n a.c w.heap.size a.bs (W.drewN n) HAI.out.byte ((HAI.out.rd.below hb0).below (below_drewN (Below.refl _ _) n)) (by omega)).mono ?_
                rintro e w2 ⟨he, q, hq⟩
                exact ⟨he, n + q, by rw [hq, World.drewN_drewN]⟩)
              by_cases hbc : bcN a.bs ≤ 8 * (t.ks - 4)
              · have hlook := HBF.out.look HL2.out.tri HPM.out (by omega) hbc
                have dg : decide (8 * ((t.ks : Int) - 4) < ((bcN a.bs : Nat) : Int)) = false := by simp; omega
                have hbl : bcN a.bs ≤ 1000 := by omega
                generalize bcN a.bs = bn at HBQ dg hbl
                clear hnk hbc hal
                rcases hlook with ⟨rfl, hlk⟩ | ⟨p, rfl, hlk⟩
                · rw [hlk] at HLK
                  clear hlk
                  go_wp2_with (go_at_call 13; refine stop_here ?_)
                  show Hid _
                  refine start_here ?_
                  refine HLK.out.mono ?_
                  rintro e wa ⟨rfl, hba⟩
                  have HLA := hide (HL2.out.later hba)
                  have HBA := hide hba
                  have HWA := hide (below_in HB.out HLA.out.below)
                  obtain ⟨s0, s1, s2, s3⟩ := HC.out wa HLA.out.below
                  clear hba HLK
                  go_upto_region 29 with fail
                  go_quiet ((go_at_call 30; exact HBQ.out wa _ HBA.out))
                  go_wp2_with fail
                  go_ret
                  exact ⟨rfl, below_drewN HWA.out _⟩
                · rw [hlk] at HLK
                  clear hlk
                  have pp0 : decide ((p : Int) < 0) = false := decide_eq_false (by omega)
                  go_wp2_with (go_at_call 13; refine stop_here ?_)
                  show Hid _
                  refine start_here ?_
                  refine HLK.out.mono ?_
                  rintro e wa ⟨rfl, hba⟩
                  have HLA := hide (HL2.out.later hba)
                  have HBA := hide hba
                  have HWA := hide (below_in HB.out HLA.out.below)
                  obtain ⟨s0, s1, s2, s3⟩ := HC.out wa HLA.out.below
                  clear hba HLK
                  go_upto_region 29 with fail
                  go_quiet ((go_at_call 30; exact HBQ.out wa _ HBA.out))
                  go_wp2_with fail
                  go_ret
                  exact ⟨rfl, below_drewN HWA.out _⟩
              · have hlk : lookE t.ks P a.bs = (0, 2) := by
                  have hre : refE t.ks a.bs = 2 := by
                    rcases refE_cases t.ks a.bs with ⟨_, h1, h2⟩ | ⟨h, _⟩
                    · exfalso; omega
                    · exact h
                  unfold lookE
                  rw [if_neg (by rw [hre]; decide)]
                have dg : decide (8 * ((t.ks : Int) - 4) < ((bcN a.bs : Nat) : Int)) = true := by simp; omega
                generalize bcN a.bs = bn at HBQ dg
                clear hnk hbc hal
                rw [hlk] at HLK
                clear hlk
                go_wp2_with (go_at_call 13; refine stop_here ?_)
                show Hid _
                refine start_here ?_
                refine HLK.out.mono ?_
                rintro e wa ⟨rfl, hba⟩
                have HLA := hide (HL2.out.later hba)
                have HBA := hide hba
                have HWA := hide (below_in HB.out HLA.out.below)
                obtain ⟨s0, s1, s2, s3⟩ := HC.out wa HLA.out.below
                clear hba HLK
                go_upto_region 29 with fail
                go_quiet ((go_at_call 30; exact HBQ.out wa _ HBA.out))
                go_wp2_with fail
                go_ret
                exact ⟨rfl, below_drewN HWA.out _⟩
            · have qn : ((a.n : Int) != (t.ks : Int)) = true := by simp; omega
              have hlk : lookE t.ks P a.bs = (0, 2) := by
                have hre : refE t.ks a.bs = 2 := by
                  rcases refE_cases t.ks a.bs with ⟨_, h1, h2⟩ | ⟨h, _⟩
                  · exfalso; omega
                  · exact h
                unfold lookE
                rw [if_neg (by rw [hre]; decide)]
              clear hnk hal
              rw [hlk] at HLK
              clear hlk
              go_wp2_with (go_at_call 13; refine stop_here ?_)
              show Hid _
              refine start_here ?_
              refine HLK.out.mono ?_
              rintro e wa ⟨rfl, hba⟩
              have HLA := hide (HL2.out.later hba)
              have HBA := hide hba
              have HWA := hide (below_in HB.out HLA.out.below)
              obtain ⟨s0, s1, s2, s3⟩ := HC.out wa HLA.out.below
              clear hba HLK
              go_upto_region 29 with fail
              go_quiet (fail)
              go_wp2_with fail
              go_ret
              exact ⟨rfl, below_drewN HWA.out _⟩
end Go.Proofs.Ythefgfcjjbjjkaa
