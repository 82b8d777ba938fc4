/-
  The texts TDD, TEE, TFF as one.
-/
import Derived.Test.YthefgfcjjbjjkaaTX
import Derived.Test.YthefgfcjjbjjkaaTBB
import Derived.Test.YthefgfcjjbjjkaaTCC
import Derived.Test.YthefgfcjjbjjkaaTZ

/-
  Update of any key, value and flags.
-/
namespace Go.Proofs.Ythefgfcjjbjjkaa
open Go.RowKit
set_option linter.unusedVariables false
set_option linter.unusedSimpArgs false

set_option maxRecDepth 100000 in
set_option maxHeartbeats 1000000 in
theorem upd_ref (B : Nat) (t : TP) (P : List PL) (N : List Bool → Nat) (A S : Option Addr) (n c q sc : Nat) (fl : Int) (k : List Int) (w : World) (h : Tri w B t P N) (hk : KR w A n c k) (he : refE t.ks k = 2) :
    Calls Try.prog 26 #[.pointer (some ⟨t.tb, 0, none⟩), .slice A n c, .slice S q sc, .int .u64 fl] w fun e w' => e = .returned (.int .i64 2) ∧ w = w' := by
  have HR := hide (refusal_any B t P N A n c k w h hk)
  rw [he] at HR
  have c3 : w.cell? ⟨t.tb, 3, none⟩ = some (.int .i64 t.sz) := (h.c 3).trans rfl
  clear h hk he
  go_enter Try.func26, Try.ntmps26
  go_wp2_with (go_at_call 37; refine HR.out.mono ?_; rintro e w' ⟨rfl, hW⟩; subst hW)
  go_ret
  exact ⟨rfl, rfl⟩
set_option maxRecDepth 100000 in
set_option maxHeartbeats 1000000 in
theorem upd_len (B : Nat) (t : TP) (P : List PL) (N : List Bool → Nat) (A S : Option Addr) (n c q sc : Nat) (fl : Int) (k : List Int) (w : World) (h : Tri w B t P N) (hk : KR w A n c k) (he : refE t.ks k = 0) (hq : q ≠ t.sz) :
    Calls Try.prog 26 #[.pointer (some ⟨t.tb, 0, none⟩), .slice A n c, .slice S q sc, .int .u64 fl] w fun e w' => e = .returned (.int .i64 2) ∧ w = w' := by
  have HR := hide (refusal_any B t P N A n c k w h hk)
  rw [he] at HR
  have c3 : w.cell? ⟨t.tb, 3, none⟩ = some (.int .i64 t.sz) := (h.c 3).trans rfl
  have hq2 : ((q : Int) != (t.sz : Int)) = true := by simpa using (by omega : ¬ (q : Int) = (t.sz : Int))
  clear hq
  clear h hk he
  go_enter Try.func26, Try.ntmps26
  go_wp2_with (go_at_call 37; refine HR.out.mono ?_; rintro e w' ⟨rfl, hW⟩; subst hW)
  go_ret
  exact ⟨rfl, rfl⟩
set_option maxRecDepth 100000 in
set_option maxHeartbeats 1000000 in
theorem upd_fl (B : Nat) (t : TP) (P : List PL) (N : List Bool → Nat) (A S : Option Addr) (n c q sc : Nat) (fl : Int) (k : List Int) (w : World) (h : Tri w B t P N) (hk : KR w A n c k) (he : refE t.ks k = 0) (hq : q = t.sz) (hf : 2 < fl) :
    Calls Try.prog 26 #[.pointer (some ⟨t.tb, 0, none⟩), .slice A n c, .slice S q sc, .int .u64 fl] w fun e w' => e = .returned (.int .i64 2) ∧ w = w' := by
  have HR := hide (refusal_any B t P N A n c k w h hk)
  rw [he] at HR
  have c3 : w.cell? ⟨t.tb, 3, none⟩ = some (.int .i64 t.sz) := (h.c 3).trans rfl
  subst hq
  have d3 : decide (2 < fl) = true := decide_eq_true hf
  clear hf
  clear h hk he
  go_enter Try.func26, Try.ntmps26
  go_wp2_with (go_at_call 37; refine HR.out.mono ?_; rintro e w' ⟨rfl, hW⟩; subst hW)
  go_ret
  exact ⟨rfl, rfl⟩
/-- What Update makes of the places. -/
def UpdR (ks : Nat) (P : List PL) (k d : List Int) (P' : List PL) : Prop :=
  (∃ (i : Nat) (r : PL), findP P (kb k) = some i ∧ P[i]? = some r ∧ P' = P.set i { r with v := d }) ∨
  (∃ (i : Nat) (r : PL) (g : Nat) (l : List Int), findP P (kb k) = none ∧ freeP P = some i ∧ P[i]? = some r ∧ r.k = none ∧ kb l = kb k ∧ l = plL k ks (bcN k) ∧ P' = P.set i { r with k := some (g, l), v := d })
def UpdTold (B : Nat) (t : TP) (P : List PL) (N : List Bool → Nat) (k d : List Int) (q : Nat) (fl : Int) (w : World) (e : Ending) (w' : World) : Prop :=
  ∃ P' N', e = .returned (.int .i64 (updE t.ks t.sz P k q fl)) ∧ TGo B t P N P' N' w w' ∧ ((updE t.ks t.sz P k q fl ≠ 0 ∧ P' = P ∧ N' = N) ∨ (updE t.ks t.sz P k q fl = 0 ∧ refE t.ks k = 0 ∧ d.length = t.sz ∧ UpdR t.ks P k d P'))
theorem upd_any (B D : Nat) (t : TP) (P : List PL) (N : List Bool → Nat) (A S : Option Addr) (n c q sc : Nat) (fl : Int) (k d : List Int) (w : World) (h : Tri w B t P N) (hk : KR w A n c k) (hA : 0 < n → ∀ ad, A = some ad → ¬ OfT t P N ad.block) (hd : Rd w D 1 S q (u8s d)) (hD : D ≤ w.heap.size) (hV : 0 < q → ∀ ad, S = some ad → ¬ OfT t P N ad.block) :
    Calls Try.prog 26 #[.pointer (some ⟨t.tb, 0, none⟩), .slice A n c, .slice S q sc, .int .u64 fl] w (UpdTold B t P N k d q fl w) := by
  have hno : ∀ {x : Int}, updE t.ks t.sz P k q fl = x → x ≠ 0 → ∀ (e : Ending) (w' : World), e = .returned (.int .i64 x) → Below w.heap.size w w' → UpdTold B t P N k d q fl w e w' := fun hx hx0 e w' h1 h2 => ⟨P, N, by rw [hx]; exact h1, TGo.no h h2, .inl ⟨by rw [hx]; exact hx0, rfl, rfl⟩⟩
  rcases (refE_cases t.ks k).symm with ⟨he, _⟩ | ⟨he, hn, hr⟩
  · refine (upd_ref B t P N A S n c q sc fl k w h hk he).mono fun e w' ⟨h1, h2⟩ => ?_
    exact hno (x := 2) (by unfold updE; rw [if_neg (fun h => by rw [he] at h; exact absurd h.1 (by decide))]) (by decide) e w' h1 (by rw [← h2]; exact Below.refl _ _)
  by_cases hq : ¬ q = t.sz
  · refine (upd_len B t P N A S n c q sc fl k w h hk he hq).mono fun e w' ⟨h1, h2⟩ => ?_
    exact hno (x := 2) (by unfold updE; rw [if_neg (fun h => hq h.2.1)]) (by decide) e w' h1 (by rw [← h2]; exact Below.refl _ _)
  have hq := Classical.not_not.1 hq
  by_cases hfl : ¬ fl ≤ 2
  · refine (upd_fl B t P N A S n c q sc fl k w h hk he hq (by omega)).mono fun e w' ⟨h1, h2⟩ => ?_
    exact hno (x := 2) (by unfold updE; rw [if_neg (fun h => hfl h.2.2)]) (by decide) e w' h1 (by rw [← h2]; exact Below.refl _ _)
  have hfl := Classical.not_not.1 hfl
  have hks := hk.len
  have hnk : n = t.ks := by omega
  subst hnk
  subst hq
  have hdl : d.length = t.sz := by have := hd.1; simpa [u8s] using this
  have hkbig := h.kbig
  have hbig := h.big
  have hA := hA (by omega)
  have hV := hV (by omega)
  have hE : updE t.ks t.sz P k t.sz fl = (match findP P (kb k) with | some _ => if fl = 1 then 7 else 0 | none => if fl = 2 then 6 else match freeP P with | some _ => 0 | none => 8) := by
    unfold updE
    rw [if_pos ⟨he, rfl, hfl⟩]
    cases findP P (kb k) with
    | some i => rfl
    | none => cases freeP P <;> rfl
  cases hf : findP P (kb k) with
  | some i =>
    rw [hf] at hE
    by_cases h1 : fl = 1
    · refine (upd_7 B t P N A S c t.sz sc D fl k d w h hk hr hA hd hD hV i hf h1 hfl).mono fun e w' ⟨h2, h3⟩ => ?_
      exact hno (x := 7) (by rw [hE]; simp [h1]) (by decide) e w' h2 h3
    · obtain ⟨r, hri, _⟩ := findP_some hf
      refine (upd_there B t P N A S c t.sz sc D fl k d w h hk hr hA hd hD hV i r hf hri hfl h1).mono fun e w' ⟨h2, h3⟩ => ?_
      have h0 : updE t.ks t.sz P k t.sz fl = 0 := by rw [hE]; simp [h1]
      exact ⟨_, _, by rw [h0]; exact h2, h3, .inr ⟨h0, he, hdl, .inl ⟨i, r, hf, hri, rfl⟩⟩⟩
  | none =>
    rw [hf] at hE
    by_cases h1 : fl = 2
    · refine (upd_6 B t P N A S c t.sz sc D fl k d w h hk hr hA hd hD hV hf h1 hfl).mono fun e w' ⟨h2, h3⟩ => ?_
      exact hno (x := 6) (by rw [hE]; simp [h1]) (by decide) e w' h2 h3
    · cases hfr : freeP P with
      | none =>
        rw [hfr] at hE
        refine (upd_full B t P N A S c t.sz sc D fl k d w h hk hr hA hd hD hV hf h1 hfr hfl).mono fun e w' ⟨h2, h3⟩ => ?_
        exact hno (x := 8) (by rw [hE]; simp [h1]) (by decide) e w' h2 h3
      | some i =>
        rw [hfr] at hE
        refine (upd_new B t P N A S c t.sz sc D fl k d w h hk hr hA hd hD hV i hf hfr hfl h1).mono fun e w' h2 => ?_
        obtain ⟨h3, r, g, N', hri, hrk, hgo⟩ := h2
        have h0 : updE t.ks t.sz P k t.sz fl = 0 := by rw [hE]; simp [h1]
        have hkbig := h.kbig
        exact ⟨_, N', by rw [h0]; exact h3, hgo, .inr ⟨h0, he, hdl, .inr ⟨i, r, g, _, hf, hfr, hri, hrk, kb_plL (by omega) hr, rfl, rfl⟩⟩⟩
set_option maxRecDepth 100000 in
theorem del_ref (B : Nat) (t : TP) (P : List PL) (N : List Bool → Nat) (A : Option Addr) (n c : Nat) (k : List Int) (w : World) (h : Tri w B t P N) (hk : KR w A n c k) (he : refE t.ks k = 2) :
    Calls Try.prog 15 #[.pointer (some ⟨t.tb, 0, none⟩), .slice A n c] w fun e w' => e = .returned (.int .i64 2) ∧ w = w' := by
  have HR := hide (refusal_any B t P N A n c k w h hk)
  rw [he] at HR
  clear h hk he
  go_enter Try.func15, Try.ntmps15
  go_wp2_with (go_at_call 37; refine HR.out.mono ?_; rintro e w' ⟨rfl, hW⟩; subst hW)
  go_ret
  exact ⟨rfl, rfl⟩
theorem del_all (B : Nat) (t : TP) (P : List PL) (N : List Bool → Nat) (A : Option Addr) (n c : Nat) (k : List Int) (w : World) (h : Tri w B t P N) (hk : KR w A n c k) (hA : 0 < n → ∀ ad, A = some ad → ¬ OfT t P N ad.block) :
    Calls Try.prog 15 #[.pointer (some ⟨t.tb, 0, none⟩), .slice A n c] w fun e w' => e = .returned (.int .i64 (delE t.ks P k)) ∧ TGo B t P N (delP t.ks P k) N w w' := by
  rcases refE_cases t.ks k with ⟨he, hn, hr⟩ | ⟨he, _⟩
  · have := hk.len
    have := h.kbig
    exact del_any B t P N A n c k w h hk (hA (by omega))
  · have h2 : delE t.ks P k = 2 ∧ delP t.ks P k = P := by unfold delE delP; rw [if_neg (by rw [he]; decide), if_neg (by rw [he]; decide)]; exact ⟨rfl, rfl⟩
    refine (del_ref B t P N A n c k w h hk he).mono fun e w' ⟨h3, h4⟩ => ?_
    rw [h2.1, h2.2]
    exact ⟨h3, TGo.no h (by rw [← h4]; exact Below.refl _ _)⟩
end Go.Proofs.Ythefgfcjjbjjkaa

/-
  A key's place behind what is done to other keys.
-/
namespace Go.Proofs.Ythefgfcjjbjjkaa
open Go.RowKit
set_option linter.unusedVariables false
set_option linter.unusedSimpArgs false

/-- The key with such bits is at place p, where d stands. -/
def PInv (P : List PL) (kk : List Bool) (p : Nat) (d : List Int) : Prop := ∃ r, P[p]? = some r ∧ keyOf r = some kk ∧ r.v = d
section
variable {P P' : List PL} {kk : List Bool} {p ks : Nat} {d d' : List Int} {x k : List Int}
theorem PInv.find (h : PInv P kk p d) (ho : OneP P) : findP P kk = some p := by
  obtain ⟨r, h1, h2, _⟩ := h
  exact findP_is ho h1 h2
theorem PInv.look (h : PInv P (kb k) p d) (ho : OneP P) (he : refE ks k = 0) : lookE ks P k = ((p : Int), 0) := by
  have h1 : lonI P (kb k) ((kb k).length + 1) = some p := by
    rw [lonI, List.take_length, h.find ho]
    rfl
  unfold lookE
  rw [if_pos he, h1]
theorem PInv.other (h : PInv P kk p d) (ho : OneP P) (hx : kb x ≠ kk) {i : Nat} (hf : findP P (kb x) = some i) : i ≠ p := fun e => by
  obtain ⟨r, h1, h2, _⟩ := h
  obtain ⟨s, h3, h4⟩ := findP_some hf
  rw [e, h1] at h3
  injection h3 with h3
  subst h3
  rw [h2] at h4
  injection h4 with h4
  exact hx h4.symm
theorem PInv.set (h : PInv P kk p d) {i : Nat} {y : PL} (hi : i ≠ p) : PInv (P.set i y) kk p d := by
  obtain ⟨r, h1, h2, h3⟩ := h
  exact ⟨r, by rw [List.getElem?_set_ne hi]; exact h1, h2, h3⟩
theorem PInv.del (h : PInv P kk p d) (ho : OneP P) (hx : refE ks x ≠ 0 ∨ kb x ≠ kk) : PInv (delP ks P x) kk p d := by
  unfold delP
  split
  · rename_i he
    have hx := hx.resolve_left (fun h => h he)
    cases hf : findP P (kb x) with
    | none => exact h
    | some i =>
      obtain ⟨s, h3, _⟩ := findP_some hf
      simp only [h3]
      exact h.set (h.other ho hx hf)
  · exact h
theorem PInv.upd (h : PInv P kk p d) (ho : OneP P) (hx : kb x ≠ kk) (hu : UpdR ks P x d' P') : PInv P' kk p d := by
  rcases hu with ⟨i, r, hf, hr, rfl⟩ | ⟨i, r, g, l, hf, hfr, hr, hrk, _, _, rfl⟩
  · exact h.set (h.other ho hx hf)
  · refine h.set (fun e => ?_)
    obtain ⟨s, h1, h2, _⟩ := h
    rw [e, h1] at hr
    injection hr with hr
    subst hr
    simp [keyOf, hrk] at h2
end
theorem not_both {ks : Nat} {x k : List Int} (hk : k.length = ks) (h4 : 4 ≤ ks) (hr : bcN k ≤ 8 * (ks - 4)) (hn : ¬ (begM x k ∧ begM k x)) : refE ks x ≠ 0 ∨ kb x ≠ kb k := by
  rcases refE_cases ks x with ⟨he, hl, hb⟩ | ⟨he, _⟩
  · refine .inr (fun e => hn ?_)
    have hc : bcN x = bcN k := by have := congrArg List.length e; rwa [kb_len, kb_len] at this
    have hbt : ∀ i, i < bcN x → btN x i = btN k i := fun i hi => by
      have h1 : (kb x)[i]? = (kb k)[i]? := by rw [e]
      simp [kb, hi, show i < bcN k by omega] at h1
      exact h1
    exact ⟨⟨by omega, by omega, by omega, by rw [hk]; exact hr, hbt⟩, ⟨by omega, by omega, by omega, by rw [hl]; exact hb, fun i hi => (hbt i (by omega)).symm⟩⟩
  · exact .inl (by rw [he]; decide)
/-- A key of which the last byte's lowest bit is turned, where it does not count. -/
theorem kb_turn {k : List Int} {y : Int} {n : Nat} (hk : ∀ b ∈ k, IsByte b) (hl : k.length = n) (hb : bcN k < 8 * (n - 4)) (hy : 0 ≤ y ∧ y < 2) :
    kb (k.set (n - 1) (bits .xor .u8 (byN k (n - 1) : Int) y)) = kb k ∧ (∀ b ∈ k.set (n - 1) (bits .xor .u8 (byN k (n - 1) : Int) y), IsByte b) ∧ bcN (k.set (n - 1) (bits .xor .u8 (byN k (n - 1) : Int) y)) = bcN k := by
  have hlt := byN_lt hk (n - 1)
  obtain ⟨z, rfl⟩ : ∃ z : Nat, y = z := ⟨y.toNat, by omega⟩
  have hz : z < 2 := by omega
  have hx : bits .xor .u8 (byN k (n - 1) : Int) (z : Int) = ((byN k (n - 1) ^^^ z : Nat) : Int) := u8_xor_nat _ _ hlt (by omega)
  have hxl : byN k (n - 1) ^^^ z < 256 := Nat.xor_lt_two_pow (n := 8) hlt (by omega)
  rw [hx]
  have hby : ∀ i, byN (k.set (n - 1) ((byN k (n - 1) ^^^ z : Nat) : Int)) i = if i = n - 1 then byN k (n - 1) ^^^ z else byN k i := fun i => by
    unfold byN
    by_cases e : i = n - 1
    · subst e
      rw [if_pos rfl, List.getElem?_set_self (by omega)]
      simp
    · rw [if_neg e, List.getElem?_set_ne (fun h => e h.symm)]
  have hbc : bcN (k.set (n - 1) ((byN k (n - 1) ^^^ z : Nat) : Int)) = bcN k := by
    unfold bcN
    rw [hby, hby, hby, hby, if_neg (by omega), if_neg (by omega), if_neg (by omega), if_neg (by omega)]
  refine ⟨?_, fun b hb2 => ?_, hbc⟩
  · unfold kb
    rw [hbc]
    refine List.map_congr_left fun i hi => ?_
    have hi := List.mem_range.1 hi
    rw [btN_test, btN_test, hby]
    split
    · rename_i e
      rw [e, Nat.testBit_xor]
      have : z.testBit (7 - i % 8) = false := Nat.testBit_lt_two_pow (Nat.lt_of_lt_of_le hz (by
        have : 2 ^ 1 ≤ 2 ^ (7 - i % 8) := Nat.pow_le_pow_right (by omega) (by omega)
        omega))
      rw [this, Bool.xor_false]
    · rfl
  · rcases List.mem_or_eq_of_mem_set hb2 with h | rfl
    · exact hk b h
    · exact ⟨by omega, by omega⟩
/-- The trie, the key at its place, and another row of the same key, apart. -/
structure PS (w : World) (B : Nat) (t : TP) (P : List PL) (N : List Bool → Nat) (kk : List Bool) (p : Nat) (d : List Int) (gw n co : Nat) (ko : List Int) (W : World) : Prop where
  tri : Tri W B t P N
  inv : PInv P kk p d
  below : Below w.heap.size w W
  own : W.ownsRow 0 5 1 (.slice (some ⟨gw, 0, none⟩) n co) n (u8s ko)
  far : ¬ OfT t P N gw
section
variable {w W W' : World} {B : Nat} {t : TP} {P P' : List PL} {N N' : List Bool → Nat} {kk : List Bool} {p : Nat} {d : List Int} {gw n co : Nat} {ko : List Int}
theorem PS.go (h : PS w B t P N kk p d gw n co ko W) (hg : TGo B t P N P' N' W W') (hi : PInv P' kk p d) (hB : w.heap.size ≤ B) : PS w B t P' N' kk p d gw n co ko W' := by
  have hlt : gw < W.heap.size := (h.own.lt gw rfl).2
  refine ⟨hg.1, hi, h.below.trans ((hg.low_ h.tri (Nat.le_trans h.tri.base (Nat.le_refl _))).mono hB), owns_kept h.own hg.2.1 (fun g e => by injection e with e; subst e; exact h.far), fun h2 => ?_⟩
  rcases hg.2.2 gw h2 with h3 | h3
  · exact h.far h3
  · omega
theorem PS.later (h : PS w B t P N kk p d gw n co ko W) (hb : Below W.heap.size W W') : PS w B t P N kk p d gw n co ko W' :=
  ⟨h.tri.below (Nat.le_refl _) hb, h.inv, h.below.trans (hb.mono h.below.size), owns_kept_below h.own hb, h.far⟩
end
end Go.Proofs.Ythefgfcjjbjjkaa

/-
  TriePlaces' walk.
-/
namespace Go.Proofs.Ythefgfcjjbjjkaa
open Go.RowKit
set_option linter.unusedVariables false
set_option linter.unusedSimpArgs false

theorem below_in {w0 W w' : World} (h : Below w0.heap.size w0 W) (hb : Below W.heap.size W w') : Below w0.heap.size w0 w' := h.trans (hb.mono h.size)
theorem kr_of {w : World} {B : Nat} {r : ARow} (h : InB w B r) (hB : B ≤ w.heap.size) : KR w r.A r.n r.c r.bs := ⟨h.rd.mono hB, h.le, h.byte⟩
theorem apart_of {W : World} {B B0 : Nat} {t : TP} {P : List PL} {N : List Bool → Nat} {r : ARow} (h : InB W B0 r) (ht : Tri W B t P N) (hB : B0 ≤ B) : 0 < r.n → ∀ ad, r.A = some ad → ¬ OfT t P N ad.block := fun h0 ad e h2 => by
  obtain ⟨ad2, e2, hb, _⟩ := h.rd.2 h0
  rw [e] at e2
  injection e2 with e2
  subst e2
  have := ht.low _ h2
  omega
/-- Update, Delete with rows that came in, which lie below the trie's blocks. -/
theorem upd_all {W : World} {B B0 : Nat} {t : TP} {P : List PL} {N : List Bool → Nat} {a v : ARow} (ht : Tri W B t P N) (ha : InB W B0 a) (hv : InB W B0 v) (hB : B0 ≤ B) (hW : B0 ≤ W.heap.size) (fl : Int) :
    Calls Try.prog 26 #[.pointer (some ⟨t.tb, 0, none⟩), .slice a.A a.n a.c, .slice v.A v.n v.c, .int .u64 fl] W (UpdTold B t P N a.bs v.bs v.n fl W) :=
  upd_any B B0 t P N a.A v.A a.n a.c v.n v.c fl a.bs v.bs W ht (kr_of ha hW) (apart_of ha ht hB) hv.rd hW (apart_of hv ht hB)
theorem del_in {W : World} {B B0 : Nat} {t : TP} {P : List PL} {N : List Bool → Nat} {a : ARow} (ht : Tri W B t P N) (ha : InB W B0 a) (hB : B0 ≤ B) (hW : B0 ≤ W.heap.size) :
    Calls Try.prog 15 #[.pointer (some ⟨t.tb, 0, none⟩), .slice a.A a.n a.c] W fun e w' => e = .returned (.int .i64 (delE t.ks P a.bs)) ∧ TGo B t P N (delP t.ks P a.bs) N W w' :=
  del_all B t P N a.A a.n a.c a.bs W ht (kr_of ha hW) (apart_of ha ht hB)
theorem own_blk {w : World} {g n c : Nat} {l : List Int} (h : w.ownsRow 0 5 1 (.slice (some ⟨g, 0, none⟩) n c) n (u8s l)) : (∀ (j : Nat) (y : Int), l[j]? = some y → w.cell? ⟨g, j, none⟩ = some (.int .u8 y)) ∧ ∀ j, w.frozen? ⟨g, j, none⟩ = false := by
  have hc := h.cells (g := g) rfl
  rcases h.2 with ⟨e, _⟩ | ⟨g', cap, cur, e, _, h2, _⟩
  · cases e
  · injection e with e1 e2 e3
    injection e1 with e1
    injection e1 with e1 _
    subst e1
    refine ⟨fun j y hy => ?_, fun j => Joins.unfrozen_of_block h2 j⟩
    have := hc j (.int .u8 y) (by simp [u8s, hy])
    rw [show (⟨g, 0, none⟩ : Addr).add j = ⟨g, j, none⟩ by unfold Addr.add; split <;> simp_all] at this
    exact this
theorem and_one (x : Int) (h : 0 ≤ x ∧ x < 256) : 0 ≤ bits .and .u8 x 1 ∧ bits .and .u8 x 1 < 2 := by
  have := u8_and x 1 h.1 h.2 (by omega) (by omega)
  have h2 : x.toNat &&& 1 ≤ 1 := Nat.and_le_right
  have h3 : ((1 : Int).toNat) = 1 := rfl
  rw [h3] at this
  omega
theorem PS.turn {w W : World} {B : Nat} {t : TP} {P : List PL} {N : List Bool → Nat} {kk : List Bool} {p : Nat} {d : List Int} {gw n co j : Nat} {ko : List Int} (h : PS w B t P N kk p d gw n co ko W) (hg : w.heap.size ≤ gw) (hj : j < n) (y : Int) : PS w B t P N kk p d gw n co (ko.set j y) (W.setCell ⟨gw, j, none⟩ (.int .u8 y)) := by
  refine ⟨h.tri.same (fun g hg2 => set_other (fun e => h.far (by rw [← e]; exact hg2))), h.inv, h.below.setCell (p := ⟨gw, j, none⟩) hg _, ?_, h.far⟩
  have := owns_set h.own (j := j) (by omega) (.int .u8 y)
  have e : u8s (ko.set j y) = (u8s ko).set j (.int .u8 y) := by simp [u8s, List.map_set]
  rw [e]
  exact this
set_option maxRecDepth 100000 in
set_option maxHeartbeats 20000000 in
theorem law_triePlaces (k key val ent : Int) (a v : ARow) (QA : Option Addr) (m c : Nat) (ds : List ADo) (turn : Int) (w : World) (hk : 0 ≤ k ∧ k < 256) (ha : InB w w.heap.size a) (hv : InB w w.heap.size v) (hq : ADos w w.heap.size QA m ds) (hmc : m ≤ 140737488351232) (hturn : 0 ≤ turn ∧ turn < 256) :
    Calls Try.prog 6 #[.agg #[.int .u8 k, .int .i64 key, .int .i64 val, .int .i64 ent], .slice a.A a.n a.c, .slice v.A v.n v.c, .slice QA m c, .int .u8 turn] w fun e w' => e = .returned (.bool true) ∧ Below w.heap.size w w' := by
  have q0 := World.alloc_heap_new w (.cells #[.int .u8 k, .int .i64 key, .int .i64 val, .int .i64 ent] 24)
  have hb1 := below1 w (.cells #[.int .u8 k, .int .i64 key, .int .i64 val, .int .i64 ent] 24)
  generalize hW1 : w.alloc (.cells #[.int .u8 k, .int .i64 key, .int .i64 val, .int .i64 ent] 24) = W1 at q0 hb1
  replace hW1 := hide hW1
  have HB := hide hb1
  have HX1 := hide q0
  have HC : Hid (∀ W, Below W1.heap.size W1 W → W.cell? ⟨w.heap.size, 0, none⟩ = some (.int .u8 k) ∧ W.cell? ⟨w.heap.size, 1, none⟩ = some (.int .i64 key) ∧ W.cell? ⟨w.heap.size, 2, none⟩ = some (.int .i64 val) ∧ W.cell? ⟨w.heap.size, 3, none⟩ = some (.int .i64 ent)) := hide (fun W hb => by
    have h1 := (hb.block _ (at_lt q0)).trans q0
    refine ⟨?_, ?_, ?_, ?_⟩ <;> (rw [blk_cell h1]; rfl))
  have HQ := hide hq
  have HAI := hide ha
  have HVI := hide hv
  clear q0 hb1 hq ha hv
  go_enter Try.func6, Try.ntmps6
  go_upto_region 1 with fail
  refine Eq.mp (congrArg (Code.wp Try.prog _ _ _) hW1.out.symm) ?_
  go_wp2_with fail
  refine (awake_any W1).mono ?_
  rintro e w2 ⟨rfl, hb⟩
  have HB2 := hide hb
  have HW2 := hide (below_in HB.out hb)
  clear hb
  obtain ⟨s0, s1, s2, s3⟩ := HC.out w2 HB2.out
  go_wp2_with fail
  refine (light_any k key val ent QA m c w.heap.size ds w2 (HQ.out.below HW2.out) HW2.out.size hmc).mono ?_
  rintro e w3 ⟨bl, rfl, hl, hb⟩
  have HB3 := hide (below_in HB2.out hb)
  have HL := hide hl
  clear hb hl s0 s1 s2 s3
  obtain ⟨s0, s1, s2, s3⟩ := HC.out w3 HB3.out
  have HBW3 := hide (below_in HB.out HB3.out)
  cases bl
  · go_wp2_with fail
    go_ret
    exact ⟨rfl, HBW3.out⟩
  have HLI := hide (HL.out rfl)
  clear HL
  by_cases ha8 : 80 < a.n
  · have d8 : decide ((80 : Int) < (a.n : Int)) = true := by simp; omega
    go_wp2_with fail
    go_ret
    exact ⟨rfl, HBW3.out⟩
  have d8 : decide ((80 : Int) < (a.n : Int)) = false := by simp; omega
  by_cases hv8 : 80 < v.n
  · have d9 : decide ((80 : Int) < (v.n : Int)) = true := by simp; omega
    go_wp2_with fail
    go_ret
    exact ⟨rfl, HBW3.out⟩
  have d9 : decide ((80 : Int) < (v.n : Int)) = false := by simp; omega
  go_wp2_with fail
  clear s0 s1 s2 s3 d8 d9
  by_cases he : newE k key val ent = 0
  case neg =>
    have hne : (newE k key val ent != 0) = true := by simpa using he
    have HNO := hide (new_no k key val ent w3 hk he)
    generalize newE k key val ent = ne at *
    refine HNO.out.mono ?_
    rintro e w4 ⟨rfl, hb⟩
    have HB4 := hide (below_in HBW3.out hb)
    clear hb he
    go_wp2_with fail
    go_ret
    exact ⟨rfl, HB4.out⟩
  case pos =>
    obtain ⟨rfl, hsp, n1, n2, n3, n4, n5, n6⟩ := newE_yes he
    obtain ⟨ks, rfl⟩ : ∃ n : Nat, key = n := ⟨key.toNat, by omega⟩
    obtain ⟨sz, rfl⟩ : ∃ n : Nat, val = n := ⟨val.toNat, by omega⟩
    obtain ⟨n, rfl⟩ : ∃ n : Nat, ent = n := ⟨ent.toNat, by omega⟩
    clear he
    refine (new_yes n ks sz w3 hsp (by omega) (by omega) (by omega)).mono ?_
    rintro e w4 ⟨t, s0, N0, rfl, hT, hks, hsz, htn, hb⟩
    have hno0 : ∀ r ∈ zPLs s0 sz n, r.k = none := fun r hr => by
      obtain ⟨i, hi⟩ := List.mem_iff_getElem?.1 hr
      rw [(zPLs_at hi).2]; rfl
    generalize zPLs s0 sz n = P0 at hT hno0
    obtain ⟨Bz, hBz⟩ : ∃ Bz, Bz = w3.heap.size := ⟨_, rfl⟩
    rw [← hBz] at hT
    have HBZ : Hid (w.heap.size ≤ Bz) := hide (by rw [hBz]; exact HBW3.out.size)
    have HW4 := hide (below_in HBW3.out hb)
    have HT0 := hide hT
    have HN0 := hide hno0
    have HP := hide (And.intro hks (And.intro hsz htn))
    have HA4 : Hid (InB w4 w.heap.size a) := hide (HAI.out.below HW4.out)
    have HV4 : Hid (InB w4 w.heap.size v) := hide (HVI.out.below HW4.out)
    clear hT hb hno0 hBz hks hsz htn hsp
    go_wp2_with (go_at_call 26; refine stop_here ?_)
    show Hid _
    refine start_here ?_
    refine (upd_all HT0.out HA4.out HV4.out HBZ.out HW4.out.size 1).mono ?_
    rintro e w5 ⟨P1, N1, rfl, hgo, hres⟩
    have hcl := (hgo.low_ HT0.out HT0.out.base).mono HBZ.out
    have HW5 := hide (HW4.out.trans hcl)
    have HT1 := hide hgo.1
    rcases hres with ⟨hne, rfl, rfl⟩ | ⟨h0, hre, hdl, hu⟩
    · have hq : (updE t.ks t.sz P1 a.bs v.n 1 != 0) = true := by simpa using hne
      generalize updE t.ks t.sz P1 a.bs v.n 1 = ue at hq ⊢
      clear hgo hcl hne
      go_wp2_with (go_at_call 23; refine (keys_none Bz t P1 N1 w5 HT1.out HN0.out).mono ?_; rintro e w6 ⟨rfl, hb6⟩; have HW6 := hide (below_in HW5.out hb6); clear hb6)
      go_ret
      exact ⟨rfl, HW6.out⟩
    rw [h0]
    obtain ⟨i, r, g, l, hf, hfr, hri, hrk, hkl, hl, rfl⟩ : ∃ (i : Nat) (r : PL) (g : Nat) (l : List Int), findP P0 (kb a.bs) = none ∧ freeP P0 = some i ∧ P0[i]? = some r ∧ r.k = none ∧ kb l = kb a.bs ∧ l = plL a.bs t.ks (bcN a.bs) ∧ P1 = P0.set i { r with k := some (g, l), v := v.bs } := by
      rcases hu with ⟨i, r, hf, hr, _⟩ | hu
      · obtain ⟨s, h1, h2⟩ := findP_some hf
        have := HN0.out s (List.mem_of_getElem? h1)
        simp [keyOf, this] at h2
      · exact hu
    have HINV : Hid (PInv (P0.set i { r with k := some (g, l), v := v.bs }) (kb a.bs) i v.bs) := hide ⟨_, set_at hri, by simp [keyOf, hkl], rfl⟩
    have HRE := hide hre
    have HVD : Hid (v.bs.length = t.sz) := hide hdl
    have HAR : Hid (a.bs.length = a.n ∧ a.n = t.ks ∧ bcN a.bs ≤ 8 * (t.ks - 4)) := hide (by
      rcases refE_cases t.ks a.bs with ⟨_, h1, h2⟩ | ⟨h1, _⟩
      · have := (kr_of HAI.out (Nat.le_refl _)).len
        exact ⟨this, by omega, h2⟩
      · rw [hre] at h1; cases h1)
    clear hgo hcl h0 hre hdl hu hf hfr hri hrk hkl hl
    generalize P0.set i { r with k := some (g, l), v := v.bs } = P1 at *
    have hlk := HINV.out.look HT1.out.one HRE.out
    have HA5 : Hid (InB w5 w.heap.size a) := hide (HAI.out.below HW5.out)
    have HLK := hide (lookup_any Bz t P1 N1 a.A a.n a.c a.bs w5 HT1.out (kr_of HA5.out HW5.out.size))
    rw [hlk] at HLK
    clear hlk
    go_wp2_with (go_at_call 13; refine stop_here ?_)
    show Hid _
    refine start_here ?_
    refine HLK.out.mono ?_
    rintro e w6 ⟨rfl, hb6⟩
    have HW6 := hide (below_in HW5.out hb6)
    have HT6 := hide (HT1.out.below (Nat.le_refl _) hb6)
    clear hb6 HLK
    have hkb5 := HT6.out.kbig
    go_wp2_with (go_at_call 31; refine stop_here ?_)
    show Hid _
    refine start_here ?_
    refine (copyBytes_any a.A a.n a.c w.heap.size a.bs w6 (HAI.out.rd.below HW6.out) HAI.out.nil HW6.out.size (by have := HAR.out; omega)).mono ?_
    rintro e w7 ⟨vo, rfl, hov, hb7⟩
    have HW7 := hide (below_in HW6.out hb7)
    have HT7 := hide (HT6.out.below (Nat.le_refl _) hb7)
    obtain ⟨go, co, rfl⟩ := ownsRow_succ (k := a.n - 1) (by rw [show a.n - 1 + 1 = a.n by have := HAR.out; omega]; exact hov.1)
    rw [show a.n - 1 + 1 = a.n by have := HAR.out; omega] at hov ⊢
    have HOV := hide hov
    have HGO : Hid (w6.heap.size ≤ go) := hide (hov.2 go rfl)
    have HFAR : Hid (¬ OfT t P1 N1 go) := hide (fun h2 => by have := HT6.out.lt go h2; have := HGO.out; omega)
    clear hb7 hov
    go_wp2_with (go_at_call 30; refine stop_here ?_)
    show Hid _
    refine start_here ?_
    refine (bits_law a.A a.n a.c w.heap.size a.bs w7 HAI.out.byte (HAI.out.rd.below HW7.out) (by have := HAR.out; omega)).mono ?_
    rintro e w8 ⟨rfl, hb8⟩
    have HPS : Hid (PS w Bz t P1 N1 (kb a.bs) i v.bs go a.n co a.bs w8) := hide ⟨HT7.out.below (Nat.le_refl _) hb8, HINV.out, below_in HW7.out hb8, owns_kept_below HOV.out.1 hb8, HFAR.out⟩
    clear hb8
    have hn80 : a.n ≤ 80 := by omega
    have hn5 : 5 ≤ a.n := by have := HAR.out; omega
    have hbc := (HAR.out).2.2
    have hbcl : bcN a.bs ≤ 1000000 := by omega
    obtain ⟨bk, hbk⟩ : ∃ bk, bk = bcN a.bs := ⟨_, rfl⟩
    rw [← hbk] at hbcl ⊢
    have HBK := hide hbk
    clear hbc hbk
    have HJOIN : Hid (∀ (ko : List Int) (W : World), kb ko = kb a.bs ∧ (∀ b ∈ ko, IsByte b) ∧ bcN ko = bcN a.bs → PS w Bz t P1 N1 (kb a.bs) i v.bs go a.n co ko W → True) := hide (fun _ _ _ _ => trivial)
    by_cases hlt8 : bk < 8 * (a.n - 4)
    · have d1 : decide ((bk : Int) < 8 * ((a.n : Int) - 4)) = true := by simp; omega
      have hby : ∃ y, (a.bs)[a.n - 1]? = some y := ⟨_, List.getElem?_eq_getElem (by have := HAR.out; omega)⟩
      obtain ⟨y, hy⟩ := hby
      obtain ⟨ry, _, _⟩ := byN_at HAI.out.byte hy
      have oc := own_blk HPS.out.own
      have c8 : w8.cell? ⟨go, a.n - 1, none⟩ = some (.int .u8 (byN a.bs (a.n - 1))) := oc.1 _ _ (by rw [hy, ry])
      have f8 : w8.frozen? ⟨go, a.n - 1, none⟩ = false := oc.2 _
      have HBY : Hid (byN a.bs (a.n - 1) < 256) := hide (byN_lt HAI.out.byte _)
      generalize hbn : byN a.bs (a.n - 1) = bn at c8 HBY
      have HBN := hide hbn
      clear hy ry oc hbn
      have HTN : Hid (PS w Bz t P1 N1 (kb a.bs) i v.bs go a.n co (a.bs.set (a.n - 1) (bits .xor .u8 (bn : Int) (bits .and .u8 turn 1))) (w8.setCell ⟨go, a.n - 1, none⟩ (.int .u8 (bits .xor .u8 (bn : Int) (bits .and .u8 turn 1))))) := hide (HPS.out.turn (by have := HGO.out; have := HW6.out.size; omega) (by omega) _)
      have HKO : Hid (kb (a.bs.set (a.n - 1) (bits .xor .u8 (bn : Int) (bits .and .u8 turn 1))) = kb a.bs ∧ (∀ b ∈ a.bs.set (a.n - 1) (bits .xor .u8 (bn : Int) (bits .and .u8 turn 1)), IsByte b) ∧ bcN (a.bs.set (a.n - 1) (bits .xor .u8 (bn : Int) (bits .and .u8 turn 1))) = bcN a.bs) := hide (by
        rw [← HBN.out]
        exact kb_turn HAI.out.byte HAR.out.1 (by rw [← HBK.out]; exact hlt8) (and_one turn hturn))
      have HKL : Hid ((a.bs.set (a.n - 1) (bits .xor .u8 (bn : Int) (bits .and .u8 turn 1))).length = a.n) := hide (by rw [List.length_set]; exact HAR.out.1)
      go_wp2_with fail
      clear d1 c8 f8
      generalize w8.setCell ⟨go, a.n - 1, none⟩ (.int .u8 (bits .xor .u8 (bn : Int) (bits .and .u8 turn 1))) = w9 at HTN ⊢
      generalize a.bs.set (a.n - 1) (bits .xor .u8 (bn : Int) (bits .and .u8 turn 1)) = ko at HTN HKO HKL
      clear HPS HJOIN
      go_loopw [16] (fun u wr => ∃ (j : Nat) (P : List PL) (N : List Bool → Nat), j ≤ m ∧ u = .int .i64 j ∧ PS w Bz t P N (kb a.bs) i v.bs go a.n co ko wr) (fun u _ => m - (intOf u).toNat)
      case atStart => exact ⟨0, P1, N1, Nat.zero_le _, rfl, HTN.out⟩
      case round =>
        obtain ⟨j, P, N, hj, rfl, hS⟩ := hrel
        have HS := hide hS
        have hm60 : m ≤ 60 := HLI.out.2.2.2.1
        clear hS
        by_cases hjm : j < m
        · obtain ⟨ad, d, rfl, hd, had, hc⟩ := (HQ.out.below HS.out.below).cell hjm
          have HI : Hid (d.Is w w.heap.size) := hide (HQ.out.inner d (List.mem_of_getElem? hd))
          have HDL := hide (HLI.out.2.2.2.2 d (List.mem_of_getElem? hd))
          have HFC : Hid (∀ W, Below w.heap.size wr W → W.cell? (ad.add (j * 6)) = some (.int .i64 d.what) ∧ W.cell? { block := (ad.add (j * 6)).block, off := (ad.add (j * 6)).off + 1 } = some (.slice d.k.A d.k.n d.k.c) ∧ W.cell? { block := (ad.add (j * 6)).block, off := (ad.add (j * 6)).off + 2 } = some (.slice d.v.A d.v.n d.v.c) ∧ W.cell? { block := (ad.add (j * 6)).block, off := (ad.add (j * 6)).off + 3 } = some (.int .u64 d.fl)) := hide (fun W hW => by
            have f0 : wr.cell? (ad.add (j * 6)) = some (.int .i64 d.what) := hc 0 _ rfl
            have f1 := hc 1 _ rfl
            have f2 := hc 2 _ rfl
            have f3 := hc 3 _ rfl
            rw [add_parts ad _ 1 (by decide)] at f1
            rw [add_parts ad _ 2 (by decide)] at f2
            rw [add_parts ad _ 3 (by decide)] at f3
            have hbk : (ad.add (j * 6)).block < w.heap.size := by rw [block_add]; exact had
            exact ⟨(hW.cell hbk).trans f0, (hW.cell (p := { block := (ad.add (j * 6)).block, off := (ad.add (j * 6)).off + 1 }) hbk).trans f1, (hW.cell (p := { block := (ad.add (j * 6)).block, off := (ad.add (j * 6)).off + 2 }) hbk).trans f2, (hW.cell (p := { block := (ad.add (j * 6)).block, off := (ad.add (j * 6)).off + 3 }) hbk).trans f3⟩)
          obtain ⟨f0, f1, f2, f3⟩ := HFC.out wr (Below.refl _ _)
          have i0 : (0 : Int) ≤ (j : Int) := by omega
          have i1 : (j : Int) < (m : Int) := by omega
          have dm : decide ((j : Int) < (m : Int)) = true := decide_eq_true i1
          have hwr := HS.out.below.size
          clear hc hd had
          go_wp2_with (go_at_call 29; refine stop_here ?_)
          show Hid _
          refine start_here ?_
          refine (begins_any d.k.A a.A d.k.n a.n d.k.c a.c w.heap.size d.k.bs a.bs wr HI.out.k.byte HAI.out.byte (HI.out.k.rd.below HS.out.below) (HAI.out.rd.below HS.out.below) hwr (by have := HDL.out; omega) (by omega)).mono ?_
          rintro e wx ⟨t1, rfl, ht1, hbx⟩
          have HX := hide (HS.out.later hbx)
          have HWX : Hid (Below w.heap.size wr wx) := hide (hbx.mono hwr)
          have HT1B := hide ht1
          clear hbx ht1 f0 f1 f2 f3
          obtain ⟨f0, f1, f2, f3⟩ := HFC.out wx HWX.out
          cases t1
          · have HNB : Hid (¬ (begM d.k.bs a.bs ∧ begM a.bs d.k.bs)) := hide (fun h => by have := HT1B.out.2 h.1; cases this)
            go_wp2_with (go_at_call 12; refine stop_here ?_)
            show Hid _
            refine start_here ?_
            refine (pick_any d.what 3 wx (by decide) (by decide) HI.out.what.1 HI.out.what.2).mono ?_
            rintro e wp ⟨q, hq3, rfl, rfl⟩
            have hor := not_both (x := d.k.bs) HAR.out.1 (by have := HAR.out; omega) (by have := HAR.out.2; rw [this.1]; exact this.2) HNB.out
            rw [HAR.out.2.1] at hor
            have HOR := hide hor
            clear hor
            by_cases hq0 : q = 0
            · subst hq0
              have HDE := hide (del_in HX.out.tri (HI.out.k.below HX.out.below) HBZ.out HX.out.below.size)
              generalize hde : delE t.ks P d.k.bs = de at HDE
              go_wp2_with (go_at_call 15; refine HDE.out.mono ?_; rintro e wz ⟨rfl, hgz⟩; have HGZ := hide hgz; clear hgz)
              go_roundw
              case rel => exact ⟨j + 1, _, _, by omega, by go_num, HX.out.go HGZ.out (HX.out.inv.del HX.out.tri.one HOR.out) HBZ.out⟩
              case measure => simp [intOf]; omega
            · have hqq : ((q : Int) == 0) = false := by simpa using (by omega : ¬ (q : Int) = 0)
              go_wp2_with fail
              obtain ⟨f0, f1, f2, f3⟩ := HFC.out wx.drew HWX.out.drew
              go_still_tail 16, (by kernel_rfl)
              go_wp2_with (go_at_call 26; refine stop_here ?_)
              show Hid _
              refine start_here ?_
              refine (upd_all (HX.out.later (Below.refl _ _).drew).tri (HI.out.k.below (HX.out.later (Below.refl _ _).drew).below) (HI.out.v.below (HX.out.later (Below.refl _ _).drew).below) HBZ.out HX.out.below.size d.fl).mono ?_
              rintro e wz ⟨P2, N2, rfl, hgz, hres⟩
              have HZ : Hid (PS w Bz t P2 N2 (kb a.bs) i v.bs go a.n co ko wz) := hide (by
                refine (HX.out.later (Below.refl _ _).drew).go hgz ?_ HBZ.out
                rcases hres with ⟨_, rfl, _⟩ | ⟨_, hre, _, hu⟩
                · exact HX.out.inv
                · exact HX.out.inv.upd HX.out.tri.one (HOR.out.resolve_left (fun h => h hre)) hu)
              generalize updE t.ks t.sz P d.k.bs d.v.n d.fl = ue
              clear hgz hres f0 f1 f2 f3
              go_wp2_with fail
              go_roundw
              case rel => exact ⟨j + 1, P2, N2, by omega, by go_num, HZ.out⟩
              case measure => simp [intOf]; omega
          · go_wp2_with (go_at_call 29; refine stop_here ?_)
            show Hid _
            refine start_here ?_
            refine (begins_any a.A d.k.A a.n d.k.n a.c d.k.c w.heap.size a.bs d.k.bs wx HAI.out.byte HI.out.k.byte (HAI.out.rd.below HX.out.below) (HI.out.k.rd.below HX.out.below) HX.out.below.size (by omega) (by have := HDL.out; omega)).mono ?_
            rintro e wy ⟨t2, rfl, ht2, hby⟩
            have HY := hide (HX.out.later hby)
            have HWY : Hid (Below w.heap.size wr wy) := hide (HWX.out.trans (hby.mono HX.out.below.size))
            have HT2B := hide ht2
            clear hby ht2 f0 f1 f2 f3
            obtain ⟨f0, f1, f2, f3⟩ := HFC.out wy HWY.out
            cases t2
            · have HNB : Hid (¬ (begM d.k.bs a.bs ∧ begM a.bs d.k.bs)) := hide (fun h => by have := HT2B.out.2 h.2; cases this)
              clear HX HWX
              have HX := HY
              have HWX := HWY
              clear HY HWY
              generalize wy = wx at *
              go_wp2_with (go_at_call 12; refine stop_here ?_)
              show Hid _
              refine start_here ?_
              refine (pick_any d.what 3 wx (by decide) (by decide) HI.out.what.1 HI.out.what.2).mono ?_
              rintro e wp ⟨q, hq3, rfl, rfl⟩
              have hor := not_both (x := d.k.bs) HAR.out.1 (by have := HAR.out; omega) (by have := HAR.out.2; rw [this.1]; exact this.2) HNB.out
              rw [HAR.out.2.1] at hor
              have HOR := hide hor
              clear hor
              by_cases hq0 : q = 0
              · subst hq0
                have HDE := hide (del_in HX.out.tri (HI.out.k.below HX.out.below) HBZ.out HX.out.below.size)
                generalize hde : delE t.ks P d.k.bs = de at HDE
                go_wp2_with (go_at_call 15; refine HDE.out.mono ?_; rintro e wz ⟨rfl, hgz⟩; have HGZ := hide hgz; clear hgz)
                go_roundw
                case rel => exact ⟨j + 1, _, _, by omega, by go_num, HX.out.go HGZ.out (HX.out.inv.del HX.out.tri.one HOR.out) HBZ.out⟩
                case measure => simp [intOf]; omega
              · have hqq : ((q : Int) == 0) = false := by simpa using (by omega : ¬ (q : Int) = 0)
                go_wp2_with fail
                obtain ⟨f0, f1, f2, f3⟩ := HFC.out wx.drew HWX.out.drew
                go_still_tail 16, (by kernel_rfl)
                go_wp2_with (go_at_call 26; refine stop_here ?_)
                show Hid _
                refine start_here ?_
                refine (upd_all (HX.out.later (Below.refl _ _).drew).tri (HI.out.k.below (HX.out.later (Below.refl _ _).drew).below) (HI.out.v.below (HX.out.later (Below.refl _ _).drew).below) HBZ.out HX.out.below.size d.fl).mono ?_
                rintro e wz ⟨P2, N2, rfl, hgz, hres⟩
                have HZ : Hid (PS w Bz t P2 N2 (kb a.bs) i v.bs go a.n co ko wz) := hide (by
                  refine (HX.out.later (Below.refl _ _).drew).go hgz ?_ HBZ.out
                  rcases hres with ⟨_, rfl, _⟩ | ⟨_, hre, _, hu⟩
                  · exact HX.out.inv
                  · exact HX.out.inv.upd HX.out.tri.one (HOR.out.resolve_left (fun h => h hre)) hu)
                generalize updE t.ks t.sz P d.k.bs d.v.n d.fl = ue
                clear hgz hres f0 f1 f2 f3
                go_wp2_with fail
                go_roundw
                case rel => exact ⟨j + 1, P2, N2, by omega, by go_num, HZ.out⟩
                case measure => simp [intOf]; omega
            · go_wp2_with fail
              go_roundw
              case rel => exact ⟨j + 1, P, N, by omega, by go_num, HY.out⟩
              case measure => simp [intOf]; omega
        · have dm : decide ((j : Int) < (m : Int)) = false := by simp; omega
          have hre2 : refE t.ks ko = 0 := by
            unfold refE
            rw [if_pos ⟨by rw [HKL.out]; exact HAR.out.2.1, by rw [HKO.out.2.2]; exact HAR.out.2.2⟩]
          have hinv : PInv P (kb ko) i v.bs := by rw [HKO.out.1]; exact HS.out.inv
          have hlk := hinv.look HS.out.tri.one hre2
          have hko : ∀ {W : World}, PS w Bz t P N (kb a.bs) i v.bs go a.n co ko W → KR W (some ⟨go, 0, none⟩) a.n co ko := fun h => ⟨(Rd.of_owns h.own).mono (row_lt (w := _) (g := go) (cap := co) (e := 5) (sz := 1) (n := a.n) h.own), own_cap h.own, HKO.out.2.1⟩
          have HLK := hide (lookup_any Bz t P N (some ⟨go, 0, none⟩) a.n co ko wr HS.out.tri (hko HS.out))
          rw [hlk] at HLK
          have HRE2 := hide hre2
          have HKR : Hid (∀ W : World, PS w Bz t P N (kb a.bs) i v.bs go a.n co ko W → KR W (some ⟨go, 0, none⟩) a.n co ko) := hide (fun W h => hko h)
          clear hlk hinv hre2 hko
          go_wp2_with (go_at_call 13; refine stop_here ?_)
          show Hid _
          refine start_here ?_
          refine HLK.out.mono ?_
          rintro e wa ⟨rfl, hba⟩
          have HSA := hide (HS.out.later hba)
          clear hba HLK
          obtain ⟨rp, hrp, hrk, hrv⟩ := HSA.out.inv
          have HVY := hide (value_yes Bz i t P N rp wa HSA.out.tri hrp)
          rw [hrv] at HVY
          clear hrp hrk hrv
          go_wp2_with (go_at_call 17; refine stop_here ?_)
          show Hid _
          refine start_here ?_
          refine HVY.out.mono ?_
          rintro e wb ⟨vv, rfl, hvv, hbb⟩
          have HSB := hide (HSA.out.later hbb)
          have HVV := hide hvv
          have hvn : v.n = t.sz := by
            have h1 := HVD.out
            have h2 := (kr_of HVI.out (Nat.le_refl _)).len
            omega
          obtain ⟨gv, cv, rfl⟩ := ownsRow_succ (k := t.sz - 1) (by rw [show t.sz - 1 + 1 = t.sz by have := HSB.out.tri.big; omega]; exact hvv.1)
          rw [show t.sz - 1 + 1 = t.sz by have := HSB.out.tri.big; omega] at hvv HVV ⊢
          have hsz1 : t.sz ≤ 1024 := HSB.out.tri.big.2
          have HSAM : Hid (Calls Try.prog 19 #[.slice (some ⟨gv, 0, none⟩) t.sz cv, .slice v.A v.n v.c] wb fun e w' => e = .returned (.bool true) ∧ Below wb.heap.size wb w') := hide (by
            rw [hvn]
            refine sameBytes_yes _ _ t.sz cv v.c wb.heap.size v.bs wb ((Rd.of_owns hvv.1).mono (row_lt (w := wb) (g := gv) (cap := cv) (e := 5) (sz := 1) (n := t.sz) hvv.1)) ?_ (Nat.le_refl _) (by omega)
            have := (HVI.out.rd.below HSB.out.below).mono HSB.out.below.size
            rwa [hvn] at this)
          clear hbb hvv hvn HVY
          go_wp2_with (go_at_call 19; refine stop_here ?_)
          show Hid _
          refine start_here ?_
          refine HSAM.out.mono ?_
          rintro e wc ⟨rfl, hbc⟩
          have HSC := hide (HSB.out.later hbc)
          clear hbc HSAM
          go_wp2_with (go_at_call 26; refine stop_here ?_)
          show Hid _
          refine start_here ?_
          refine (upd_any Bz w.heap.size t P N (some ⟨go, 0, none⟩) v.A a.n co v.n v.c 1 ko v.bs wc HSC.out.tri (HKR.out _ HSC.out) (fun _ ad e => by injection e with e; subst e; exact HSC.out.far) (HVI.out.rd.below HSC.out.below) HSC.out.below.size (apart_of (HVI.out.below HSC.out.below) HSC.out.tri HBZ.out)).mono ?_
          rintro e wd ⟨P3, N3, rfl, hgd, hres⟩
          have h7 : updE t.ks t.sz P ko v.n 1 = 7 := by
            have hvn : v.n = t.sz := by
              have h1 := HVD.out
              have h2 := (kr_of HVI.out (Nat.le_refl _)).len
              omega
            have hinv : PInv P (kb ko) i v.bs := by rw [HKO.out.1]; exact HSC.out.inv
            unfold updE
            rw [if_pos ⟨HRE2.out, hvn, by decide⟩, hinv.find HSC.out.tri.one]
            rfl
          rw [h7] at hres ⊢
          obtain ⟨rfl, rfl⟩ : P3 = P ∧ N3 = N := by
            rcases hres with ⟨_, h1, h2⟩ | ⟨h1, _⟩
            · exact ⟨h1, h2⟩
            · cases h1
          have HSD := hide (HSC.out.go hgd HSC.out.inv HBZ.out)
          clear hgd hres h7
          have hinv : PInv P3 (kb ko) i v.bs := by rw [HKO.out.1]; exact HSD.out.inv
          have HDE := hide (del_all Bz t P3 N3 (some ⟨go, 0, none⟩) a.n co ko wd HSD.out.tri (HKR.out _ HSD.out) (fun _ ad e => by injection e with e; subst e; exact HSD.out.far))
          have hde : delE t.ks P3 ko = 0 := by
            unfold delE
            rw [if_pos HRE2.out, hinv.find HSD.out.tri.one]
          rw [hde] at HDE
          have hno : findP (delP t.ks P3 ko) (kb a.bs) = none := by
            obtain ⟨r, h1, h2, _⟩ := hinv
            obtain ⟨g2, l2, hk2, hkl2⟩ : ∃ g l, r.k = some (g, l) ∧ kb l = kb ko := by
              unfold keyOf at h2
              cases hk3 : r.k with
              | none => rw [hk3] at h2; cases h2
              | some x => rw [hk3] at h2; simp at h2; exact ⟨x.1, x.2, rfl, h2⟩
            have hf : findP P3 (kb ko) = some i := findP_is HSD.out.tri.one h1 h2
            unfold delP
            rw [if_pos HRE2.out, hf]
            simp only [h1]
            rw [find_rem HSD.out.tri.one h1 hk2, hkl2, HKO.out.1, if_pos rfl]
          have HNO := hide hno
          clear hinv hde hno
          go_wp2_with (go_at_call 15; refine stop_here ?_)
          show Hid _
          refine start_here ?_
          refine HDE.out.mono ?_
          rintro e we ⟨rfl, hge⟩
          have HBE : Hid (Below w.heap.size w we) := hide (HSD.out.below.trans ((hge.low_ HSD.out.tri HSD.out.tri.base).mono HBZ.out))
          have HTE := hide hge.1
          generalize delP t.ks P3 ko = P4 at HTE HNO
          clear hge HDE
          have HDF := hide (del_in HTE.out (HAI.out.below HBE.out) HBZ.out HBE.out.size)
          have hde : delE t.ks P4 a.bs = 6 := by
            unfold delE
            rw [if_pos HRE.out, HNO.out]
          rw [hde] at HDF
          clear hde
          go_wp2_with (go_at_call 15; refine stop_here ?_)
          show Hid _
          refine start_here ?_
          refine HDF.out.mono ?_
          rintro e wf ⟨rfl, hgf⟩
          have HBF : Hid (Below w.heap.size w wf) := hide (HBE.out.trans ((hgf.low_ HTE.out HTE.out.base).mono HBZ.out))
          clear hgf
          go_wp2_with fail
          go_ret
          exact ⟨rfl, HBF.out⟩
    · have d1 : decide ((bk : Int) < 8 * ((a.n : Int) - 4)) = false := by simp; omega
      have HTN := HPS
      have HKL : Hid (a.bs.length = a.n) := hide HAR.out.1
      go_wp2_with fail
      clear d1
      generalize w8 = w9 at HTN ⊢
      obtain ⟨ko, hko⟩ : ∃ ko, ko = a.bs := ⟨_, rfl⟩
      rw [← hko] at HKL
      rw [show PS w Bz t P1 N1 (kb a.bs) i v.bs go a.n co a.bs w9 = PS w Bz t P1 N1 (kb a.bs) i v.bs go a.n co ko w9 by rw [hko]] at HTN
      have HKO : Hid (kb ko = kb a.bs ∧ (∀ b ∈ ko, IsByte b) ∧ bcN ko = bcN a.bs) := hide (by rw [hko]; exact ⟨rfl, HAI.out.byte, rfl⟩)
      clear hko
      clear HPS HJOIN
      go_loopw [16] (fun u wr => ∃ (j : Nat) (P : List PL) (N : List Bool → Nat), j ≤ m ∧ u = .int .i64 j ∧ PS w Bz t P N (kb a.bs) i v.bs go a.n co ko wr) (fun u _ => m - (intOf u).toNat)
      case atStart => exact ⟨0, P1, N1, Nat.zero_le _, rfl, HTN.out⟩
      case round =>
        obtain ⟨j, P, N, hj, rfl, hS⟩ := hrel
        have HS := hide hS
        have hm60 : m ≤ 60 := HLI.out.2.2.2.1
        clear hS
        by_cases hjm : j < m
        · obtain ⟨ad, d, rfl, hd, had, hc⟩ := (HQ.out.below HS.out.below).cell hjm
          have HI : Hid (d.Is w w.heap.size) := hide (HQ.out.inner d (List.mem_of_getElem? hd))
          have HDL := hide (HLI.out.2.2.2.2 d (List.mem_of_getElem? hd))
          have HFC : Hid (∀ W, Below w.heap.size wr W → W.cell? (ad.add (j * 6)) = some (.int .i64 d.what) ∧ W.cell? { block := (ad.add (j * 6)).block, off := (ad.add (j * 6)).off + 1 } = some (.slice d.k.A d.k.n d.k.c) ∧ W.cell? { block := (ad.add (j * 6)).block, off := (ad.add (j * 6)).off + 2 } = some (.slice d.v.A d.v.n d.v.c) ∧ W.cell? { block := (ad.add (j * 6)).block, off := (ad.add (j * 6)).off + 3 } = some (.int .u64 d.fl)) := hide (fun W hW => by
            have f0 : wr.cell? (ad.add (j * 6)) = some (.int .i64 d.what) := hc 0 _ rfl
            have f1 := hc 1 _ rfl
            have f2 := hc 2 _ rfl
            have f3 := hc 3 _ rfl
            rw [add_parts ad _ 1 (by decide)] at f1
            rw [add_parts ad _ 2 (by decide)] at f2
            rw [add_parts ad _ 3 (by decide)] at f3
            have hbk : (ad.add (j * 6)).block < w.heap.size := by rw [block_add]; exact had
            exact ⟨(hW.cell hbk).trans f0, (hW.cell (p := { block := (ad.add (j * 6)).block, off := (ad.add (j * 6)).off + 1 }) hbk).trans f1, (hW.cell (p := { block := (ad.add (j * 6)).block, off := (ad.add (j * 6)).off + 2 }) hbk).trans f2, (hW.cell (p := { block := (ad.add (j * 6)).block, off := (ad.add (j * 6)).off + 3 }) hbk).trans f3⟩)
          obtain ⟨f0, f1, f2, f3⟩ := HFC.out wr (Below.refl _ _)
          have i0 : (0 : Int) ≤ (j : Int) := by omega
          have i1 : (j : Int) < (m : Int) := by omega
          have dm : decide ((j : Int) < (m : Int)) = true := decide_eq_true i1
          have hwr := HS.out.below.size
          clear hc hd had
          go_wp2_with (go_at_call 29; refine stop_here ?_)
          show Hid _
          refine start_here ?_
          refine (begins_any d.k.A a.A d.k.n a.n d.k.c a.c w.heap.size d.k.bs a.bs wr HI.out.k.byte HAI.out.byte (HI.out.k.rd.below HS.out.below) (HAI.out.rd.below HS.out.below) hwr (by have := HDL.out; omega) (by omega)).mono ?_
          rintro e wx ⟨t1, rfl, ht1, hbx⟩
          have HX := hide (HS.out.later hbx)
          have HWX : Hid (Below w.heap.size wr wx) := hide (hbx.mono hwr)
          have HT1B := hide ht1
          clear hbx ht1 f0 f1 f2 f3
          obtain ⟨f0, f1, f2, f3⟩ := HFC.out wx HWX.out
          cases t1
          · have HNB : Hid (¬ (begM d.k.bs a.bs ∧ begM a.bs d.k.bs)) := hide (fun h => by have := HT1B.out.2 h.1; cases this)
            go_wp2_with (go_at_call 12; refine stop_here ?_)
            show Hid _
            refine start_here ?_
            refine (pick_any d.what 3 wx (by decide) (by decide) HI.out.what.1 HI.out.what.2).mono ?_
            rintro e wp ⟨q, hq3, rfl, rfl⟩
            have hor := not_both (x := d.k.bs) HAR.out.1 (by have := HAR.out; omega) (by have := HAR.out.2; rw [this.1]; exact this.2) HNB.out
            rw [HAR.out.2.1] at hor
            have HOR := hide hor
            clear hor
            by_cases hq0 : q = 0
            · subst hq0
              have HDE := hide (del_in HX.out.tri (HI.out.k.below HX.out.below) HBZ.out HX.out.below.size)
              generalize hde : delE t.ks P d.k.bs = de at HDE
              go_wp2_with (go_at_call 15; refine HDE.out.mono ?_; rintro e wz ⟨rfl, hgz⟩; have HGZ := hide hgz; clear hgz)
              go_roundw
              case rel => exact ⟨j + 1, _, _, by omega, by go_num, HX.out.go HGZ.out (HX.out.inv.del HX.out.tri.one HOR.out) HBZ.out⟩
              case measure => simp [intOf]; omega
            · have hqq : ((q : Int) == 0) = false := by simpa using (by omega : ¬ (q : Int) = 0)
              go_wp2_with fail
              obtain ⟨f0, f1, f2, f3⟩ := HFC.out wx.drew HWX.out.drew
              go_still_tail 16, (by kernel_rfl)
              go_wp2_with (go_at_call 26; refine stop_here ?_)
              show Hid _
              refine start_here ?_
              refine (upd_all (HX.out.later (Below.refl _ _).drew).tri (HI.out.k.below (HX.out.later (Below.refl _ _).drew).below) (HI.out.v.below (HX.out.later (Below.refl _ _).drew).below) HBZ.out HX.out.below.size d.fl).mono ?_
              rintro e wz ⟨P2, N2, rfl, hgz, hres⟩
              have HZ : Hid (PS w Bz t P2 N2 (kb a.bs) i v.bs go a.n co ko wz) := hide (by
                refine (HX.out.later (Below.refl _ _).drew).go hgz ?_ HBZ.out
                rcases hres with ⟨_, rfl, _⟩ | ⟨_, hre, _, hu⟩
                · exact HX.out.inv
                · exact HX.out.inv.upd HX.out.tri.one (HOR.out.resolve_left (fun h => h hre)) hu)
              generalize updE t.ks t.sz P d.k.bs d.v.n d.fl = ue
              clear hgz hres f0 f1 f2 f3
              go_wp2_with fail
              go_roundw
              case rel => exact ⟨j + 1, P2, N2, by omega, by go_num, HZ.out⟩
              case measure => simp [intOf]; omega
          · go_wp2_with (go_at_call 29; refine stop_here ?_)
            show Hid _
            refine start_here ?_
            refine (begins_any a.A d.k.A a.n d.k.n a.c d.k.c w.heap.size a.bs d.k.bs wx HAI.out.byte HI.out.k.byte (HAI.out.rd.below HX.out.below) (HI.out.k.rd.below HX.out.below) HX.out.below.size (by omega) (by have := HDL.out; omega)).mono ?_
            rintro e wy ⟨t2, rfl, ht2, hby⟩
            have HY := hide (HX.out.later hby)
            have HWY : Hid (Below w.heap.size wr wy) := hide (HWX.out.trans (hby.mono HX.out.below.size))
            have HT2B := hide ht2
            clear hby ht2 f0 f1 f2 f3
            obtain ⟨f0, f1, f2, f3⟩ := HFC.out wy HWY.out
            cases t2
            · have HNB : Hid (¬ (begM d.k.bs a.bs ∧ begM a.bs d.k.bs)) := hide (fun h => by have := HT2B.out.2 h.2; cases this)
              clear HX HWX
              have HX := HY
              have HWX := HWY
              clear HY HWY
              generalize wy = wx at *
              go_wp2_with (go_at_call 12; refine stop_here ?_)
              show Hid _
              refine start_here ?_
              refine (pick_any d.what 3 wx (by decide) (by decide) HI.out.what.1 HI.out.what.2).mono ?_
              rintro e wp ⟨q, hq3, rfl, rfl⟩
              have hor := not_both (x := d.k.bs) HAR.out.1 (by have := HAR.out; omega) (by have := HAR.out.2; rw [this.1]; exact this.2) HNB.out
              rw [HAR.out.2.1] at hor
              have HOR := hide hor
              clear hor
              by_cases hq0 : q = 0
              · subst hq0
                have HDE := hide (del_in HX.out.tri (HI.out.k.below HX.out.below) HBZ.out HX.out.below.size)
                generalize hde : delE t.ks P d.k.bs = de at HDE
                go_wp2_with (go_at_call 15; refine HDE.out.mono ?_; rintro e wz ⟨rfl, hgz⟩; have HGZ := hide hgz; clear hgz)
                go_roundw
                case rel => exact ⟨j + 1, _, _, by omega, by go_num, HX.out.go HGZ.out (HX.out.inv.del HX.out.tri.one HOR.out) HBZ.out⟩
                case measure => simp [intOf]; omega
              · have hqq : ((q : Int) == 0) = false := by simpa using (by omega : ¬ (q : Int) = 0)
                go_wp2_with fail
                obtain ⟨f0, f1, f2, f3⟩ := HFC.out wx.drew HWX.out.drew
                go_still_tail 16, (by kernel_rfl)
                go_wp2_with (go_at_call 26; refine stop_here ?_)
                show Hid _
                refine start_here ?_
                refine (upd_all (HX.out.later (Below.refl _ _).drew).tri (HI.out.k.below (HX.out.later (Below.refl _ _).drew).below) (HI.out.v.below (HX.out.later (Below.refl _ _).drew).below) HBZ.out HX.out.below.size d.fl).mono ?_
                rintro e wz ⟨P2, N2, rfl, hgz, hres⟩
                have HZ : Hid (PS w Bz t P2 N2 (kb a.bs) i v.bs go a.n co ko wz) := hide (by
                  refine (HX.out.later (Below.refl _ _).drew).go hgz ?_ HBZ.out
                  rcases hres with ⟨_, rfl, _⟩ | ⟨_, hre, _, hu⟩
                  · exact HX.out.inv
                  · exact HX.out.inv.upd HX.out.tri.one (HOR.out.resolve_left (fun h => h hre)) hu)
                generalize updE t.ks t.sz P d.k.bs d.v.n d.fl = ue
                clear hgz hres f0 f1 f2 f3
                go_wp2_with fail
                go_roundw
                case rel => exact ⟨j + 1, P2, N2, by omega, by go_num, HZ.out⟩
                case measure => simp [intOf]; omega
            · go_wp2_with fail
              go_roundw
              case rel => exact ⟨j + 1, P, N, by omega, by go_num, HY.out⟩
              case measure => simp [intOf]; omega
        · have dm : decide ((j : Int) < (m : Int)) = false := by simp; omega
          have hre2 : refE t.ks ko = 0 := by
            unfold refE
            rw [if_pos ⟨by rw [HKL.out]; exact HAR.out.2.1, by rw [HKO.out.2.2]; exact HAR.out.2.2⟩]
          have hinv : PInv P (kb ko) i v.bs := by rw [HKO.out.1]; exact HS.out.inv
          have hlk := hinv.look HS.out.tri.one hre2
          have hko : ∀ {W : World}, PS w Bz t P N (kb a.bs) i v.bs go a.n co ko W → KR W (some ⟨go, 0, none⟩) a.n co ko := fun h => ⟨(Rd.of_owns h.own).mono (row_lt (w := _) (g := go) (cap := co) (e := 5) (sz := 1) (n := a.n) h.own), own_cap h.own, HKO.out.2.1⟩
          have HLK := hide (lookup_any Bz t P N (some ⟨go, 0, none⟩) a.n co ko wr HS.out.tri (hko HS.out))
          rw [hlk] at HLK
          have HRE2 := hide hre2
          have HKR : Hid (∀ W : World, PS w Bz t P N (kb a.bs) i v.bs go a.n co ko W → KR W (some ⟨go, 0, none⟩) a.n co ko) := hide (fun W h => hko h)
          clear hlk hinv hre2 hko
          go_wp2_with (go_at_call 13; refine stop_here ?_)
          show Hid _
          refine start_here ?_
          refine HLK.out.mono ?_
          rintro e wa ⟨rfl, hba⟩
          have HSA := hide (HS.out.later hba)
          clear hba HLK
          obtain ⟨rp, hrp, hrk, hrv⟩ := HSA.out.inv
          have HVY := hide (value_yes Bz i t P N rp wa HSA.out.tri hrp)
          rw [hrv] at HVY
          clear hrp hrk hrv
          go_wp2_with (go_at_call 17; refine stop_here ?_)
          show Hid _
          refine start_here ?_
          refine HVY.out.mono ?_
          rintro e wb ⟨vv, rfl, hvv, hbb⟩
          have HSB := hide (HSA.out.later hbb)
          have HVV := hide hvv
          have hvn : v.n = t.sz := by
            have h1 := HVD.out
            have h2 := (kr_of HVI.out (Nat.le_refl _)).len
            omega
          obtain ⟨gv, cv, rfl⟩ := ownsRow_succ (k := t.sz - 1) (by rw [show t.sz - 1 + 1 = t.sz by have := HSB.out.tri.big; omega]; exact hvv.1)
          rw [show t.sz - 1 + 1 = t.sz by have := HSB.out.tri.big; omega] at hvv HVV ⊢
          have hsz1 : t.sz ≤ 1024 := HSB.out.tri.big.2
          have HSAM : Hid (Calls Try.prog 19 #[.slice (some ⟨gv, 0, none⟩) t.sz cv, .slice v.A v.n v.c] wb fun e w' => e = .returned (.bool true) ∧ Below wb.heap.size wb w') := hide (by
            rw [hvn]
            refine sameBytes_yes _ _ t.sz cv v.c wb.heap.size v.bs wb ((Rd.of_owns hvv.1).mono (row_lt (w := wb) (g := gv) (cap := cv) (e := 5) (sz := 1) (n := t.sz) hvv.1)) ?_ (Nat.le_refl _) (by omega)
            have := (HVI.out.rd.below HSB.out.below).mono HSB.out.below.size
            rwa [hvn] at this)
          clear hbb hvv hvn HVY
          go_wp2_with (go_at_call 19; refine stop_here ?_)
          show Hid _
          refine start_here ?_
          refine HSAM.out.mono ?_
          rintro e wc ⟨rfl, hbc⟩
          have HSC := hide (HSB.out.later hbc)
          clear hbc HSAM
          go_wp2_with (go_at_call 26; refine stop_here ?_)
          show Hid _
          refine start_here ?_
          refine (upd_any Bz w.heap.size t P N (some ⟨go, 0, none⟩) v.A a.n co v.n v.c 1 ko v.bs wc HSC.out.tri (HKR.out _ HSC.out) (fun _ ad e => by injection e with e; subst e; exact HSC.out.far) (HVI.out.rd.below HSC.out.below) HSC.out.below.size (apart_of (HVI.out.below HSC.out.below) HSC.out.tri HBZ.out)).mono ?_
          rintro e wd ⟨P3, N3, rfl, hgd, hres⟩
          have h7 : updE t.ks t.sz P ko v.n 1 = 7 := by
            have hvn : v.n = t.sz := by
              have h1 := HVD.out
              have h2 := (kr_of HVI.out (Nat.le_refl _)).len
              omega
            have hinv : PInv P (kb ko) i v.bs := by rw [HKO.out.1]; exact HSC.out.inv
            unfold updE
            rw [if_pos ⟨HRE2.out, hvn, by decide⟩, hinv.find HSC.out.tri.one]
            rfl
          rw [h7] at hres ⊢
          obtain ⟨rfl, rfl⟩ : P3 = P ∧ N3 = N := by
            rcases hres with ⟨_, h1, h2⟩ | ⟨h1, _⟩
            · exact ⟨h1, h2⟩
            · cases h1
          have HSD := hide (HSC.out.go hgd HSC.out.inv HBZ.out)
          clear hgd hres h7
          have hinv : PInv P3 (kb ko) i v.bs := by rw [HKO.out.1]; exact HSD.out.inv
          have HDE := hide (del_all Bz t P3 N3 (some ⟨go, 0, none⟩) a.n co ko wd HSD.out.tri (HKR.out _ HSD.out) (fun _ ad e => by injection e with e; subst e; exact HSD.out.far))
          have hde : delE t.ks P3 ko = 0 := by
            unfold delE
            rw [if_pos HRE2.out, hinv.find HSD.out.tri.one]
          rw [hde] at HDE
          have hno : findP (delP t.ks P3 ko) (kb a.bs) = none := by
            obtain ⟨r, h1, h2, _⟩ := hinv
            obtain ⟨g2, l2, hk2, hkl2⟩ : ∃ g l, r.k = some (g, l) ∧ kb l = kb ko := by
              unfold keyOf at h2
              cases hk3 : r.k with
              | none => rw [hk3] at h2; cases h2
              | some x => rw [hk3] at h2; simp at h2; exact ⟨x.1, x.2, rfl, h2⟩
            have hf : findP P3 (kb ko) = some i := findP_is HSD.out.tri.one h1 h2
            unfold delP
            rw [if_pos HRE2.out, hf]
            simp only [h1]
            rw [find_rem HSD.out.tri.one h1 hk2, hkl2, HKO.out.1, if_pos rfl]
          have HNO := hide hno
          clear hinv hde hno
          go_wp2_with (go_at_call 15; refine stop_here ?_)
          show Hid _
          refine start_here ?_
          refine HDE.out.mono ?_
          rintro e we ⟨rfl, hge⟩
          have HBE : Hid (Below w.heap.size w we) := hide (HSD.out.below.trans ((hge.low_ HSD.out.tri HSD.out.tri.base).mono HBZ.out))
          have HTE := hide hge.1
          generalize delP t.ks P3 ko = P4 at HTE HNO
          clear hge HDE
          have HDF := hide (del_in HTE.out (HAI.out.below HBE.out) HBZ.out HBE.out.size)
          have hde : delE t.ks P4 a.bs = 6 := by
            unfold delE
            rw [if_pos HRE.out, HNO.out]
          rw [hde] at HDF
          clear hde
          go_wp2_with (go_at_call 15; refine stop_here ?_)
          show Hid _
          refine start_here ?_
          refine HDF.out.mono ?_
          rintro e wf ⟨rfl, hgf⟩
          have HBF : Hid (Below w.heap.size w wf) := hide (HBE.out.trans ((hgf.low_ HTE.out HTE.out.base).mono HBZ.out))
          clear hgf
          go_wp2_with fail
          go_ret
          exact ⟨rfl, HBF.out⟩
end Go.Proofs.Ythefgfcjjbjjkaa
