/-
  The texts FZ3, FZ4 as one.
-/
import Derived.Test.YtolodcdhpnapmaaGreatMC
import Derived.Test.YtolodcdhpnapmaaGreatME
import Derived.Test.YtolodcdhpnapmaaGreatMB
import Derived.Test.YtolodcdhpnapmaaGreatRT4
import Derived.Test.YtolodcdhpnapmaaGreatAP4
import Derived.Test.YtolodcdhpnapmaaGreatMF

/-
  Rows that mark places: eight bytes each, in a block of their own.
-/
namespace Go.Proofs.YtolodcdhpnapmaaGreat
open Go.RowKit Go.Maps
set_option linter.unusedVariables false

def mints (k i : Nat) : List Int := [35, (k : Int), (k : Int) / 256, (k : Int) / 65536, 47, (i : Int), (i : Int) / 256, (i : Int) / 65536]
def mtext (k i : Nat) : List UInt8 := kb (mints k i)
theorem mints_byte {k i : Nat} (hk : k < 256) (hi : i < 256) : ∀ x ∈ mints k i, IsByte x := by
  intro x hx
  simp only [mints, List.mem_cons, List.mem_nil_iff, or_false] at hx
  unfold IsByte
  rcases hx with rfl | rfl | rfl | rfl | rfl | rfl | rfl | rfl <;> omega
theorem mtext_len (k i : Nat) : (mtext k i).length = 8 := by simp [mtext, mints, kb]
set_option maxRecDepth 100000 in
theorem markText_any (k i : Nat) (w : World) (hk : k < 256) (hi : i < 256) :
    Calls Tryz.prog 100 #[.int .i64 k, .int .i64 i] w fun e w' => e = .returned (encStr (mtext k i)) ∧ Below w.heap.size w w' := by
  have hx := cells_rd w (u8s (mints k i)) 5 1 8 (by simp [u8s, mints])
  have hcv : (convert 34 9 (.slice (some ⟨w.heap.size, 0, none⟩) 8 8)).run Tryz.prog (w.alloc (.cells (u8s (mints k i)).toArray 5)) = .ok (encStr (mtext k i)) (w.alloc (.cells (u8s (mints k i)).toArray 5)) := conv_key (mints_byte hk hi) hx nofun
  rw [show (u8s (mints k i)).toArray = #[.int .u8 35, .int .u8 (k : Int), .int .u8 ((k : Int) / 256), .int .u8 ((k : Int) / 65536), .int .u8 47, .int .u8 (i : Int), .int .u8 ((i : Int) / 256), .int .u8 ((i : Int) / 65536)] from rfl] at hcv
  generalize encStr (mtext k i) = v at *
  clear hx
  go_enter Tryz.func100, Tryz.ntmps100
  go_wp2_with fail
  go_ret
  exact ⟨rfl, below1 w _⟩
set_option maxRecDepth 100000 in
theorem markRow_any (k i : Nat) (w : World) (hk : k < 256) (hi : i < 256) :
    Calls Tryz.prog 101 #[.int .i64 k, .int .i64 i] w fun e w' => ∃ r : KR, e = .returned r.sl ∧ r.At w' ∧ r.k = mtext k i ∧ w.heap.size ≤ r.g ∧ Below w.heap.size w w' := by
  have HM := hide (markText_any k i w hk hi)
  generalize hv : mtext k i = v at *
  go_enter Tryz.func101, Tryz.ntmps101
  go_wp2_with fail
  refine HM.out.mono ?_
  rintro e w1 ⟨rfl, hb⟩
  obtain ⟨cap, hc, hcv⟩ := conv_text w1 v
  have hat := text_at w1 v cap hc
  have HA := hide hat
  have HB := hide (hb.trans ((Below.refl _ w1).drew.alloc (Nat.le_refl _) (.cells (bytesRow ⟨v.toArray⟩ cap) 5 ((bytesRow ⟨v.toArray⟩ cap).size, (bytesRow ⟨v.toArray⟩ cap).size + 1)) |>.mono hb.size))
  have hs := hb.size
  clear hb hat
  generalize w1.drew.alloc (.cells (bytesRow ⟨v.toArray⟩ cap) 5 ((bytesRow ⟨v.toArray⟩ cap).size, (bytesRow ⟨v.toArray⟩ cap).size + 1)) = w2 at *
  go_wp2_with fail
  go_ret
  exact ⟨⟨w1.heap.size, v, cap⟩, rfl, HA.out, rfl, hs, HB.out⟩
theorem KR.At.below {w w' : World} {r : KR} (h : r.At w) (hb : Below w.heap.size w w') : r.At w' := h.kept (F := fun _ => True) ⟨hb.os, hb.tape, hb.output, hb.size, fun k hk _ => hb.block k hk⟩ trivial
/-- A mark's block is no block of a row of another kind. -/
theorem KR.At.ne {w : World} {r : KR} {e : TypeId} {v : Value} {n : Nat} {xs : List Value} (h : r.At w) (h2 : FRow w e v n xs) (he : e ≠ 5) : v.ownBlock ≠ some r.g := fun hc => by
  obtain ⟨cur, m, h1, _⟩ := h
  rcases h2.2 with ⟨rfl, _⟩ | ⟨g, cap, cur', fz, rfl, hg, _⟩
  · cases hc
  · simp only [Value.ownBlock, Option.some.injEq] at hc
    subst hc
    rw [h1] at hg
    injection hg with hg
    injection hg with _ h4
    exact he h4.symm
theorem KR.At.grown {w w' : World} {r : KR} {row : Option Nat} (h : r.At w) (hg : w.grownBy w' row) (hne : row ≠ some r.g) : r.At w' := by
  obtain ⟨cur, m, h1, h2⟩ := h
  exact ⟨cur, m, (hg.block _ (at_lt h1) (fun e => hne e.symm)).trans h1, h2⟩
end Go.Proofs.YtolodcdhpnapmaaGreat

/-
  Rows of rows that lie apart are found to lie apart.
-/
namespace Go.Proofs.YtolodcdhpnapmaaGreat
open Go.RowKit Go.Maps
set_option linter.unusedVariables false

namespace FZ
def mkT (T : Nat → Nat → KR) (k t : Nat) : List Value := [(T k t).sl]
def updT (T : Nat → Nat → KR) (k j : Nat) (r : KR) (a b : Nat) : KR := if a = k ∧ b = j then r else T a b
theorem updT_ne {T : Nat → Nat → KR} {k j a b : Nat} {r : KR} (h : ¬ (a = k ∧ b = j)) : updT T k j r a b = T a b := if_neg h
theorem updT_eq {T : Nat → Nat → KR} {k j : Nat} {r : KR} : updT T k j r k j = r := if_pos ⟨rfl, rfl⟩
/-- The mark of a place, in its block. -/
def mr (k i rg rc : Nat) : KR := ⟨rg, mtext k i, rc⟩
theorem mr_sl (k i rg rc : Nat) : (mr k i rg rc).sl = .slice (some ⟨rg, 0, none⟩) 8 rc := by simp [mr, KR.sl, mtext_len]
/-- The marks that were made stand. -/
def TOk (W : World) (T : Nat → Nat → KR) (D : Nat → Nat → Prop) : Prop := ∀ a b, D a b → (T a b).At W ∧ (T a b).k = mtext a b
section
variable {w w' : World} {T : Nat → Nat → KR} {D D' : Nat → Nat → Prop} {k j : Nat} {r : KR}
theorem TOk.below (h : TOk w T D) (hb : Below w.heap.size w w') : TOk w' T D := fun a b hd => ⟨(h a b hd).1.below hb, (h a b hd).2⟩
theorem TOk.sub (h : TOk w T D) (hs : ∀ a b, D' a b → D a b) : TOk w T D' := fun a b hd => h a b (hs a b hd)
theorem TOk.grown {row : Option Nat} (h : TOk w T D) (hg : w.grownBy w' row) (hne : ∀ r : KR, r.At w → row ≠ some r.g) : TOk w' T D := fun a b hd => ⟨(h a b hd).1.grown hg (hne _ (h a b hd).1), (h a b hd).2⟩
theorem TOk.put (h : TOk w T D) (hr : r.At w) (hk : r.k = mtext k j) : TOk w (updT T k j r) (fun a b => D a b ∨ (a = k ∧ b = j)) := fun a b hd => by
  by_cases he : a = k ∧ b = j
  · obtain ⟨rfl, rfl⟩ := he
    rw [updT_eq]
    exact ⟨hr, hk⟩
  · rw [updT_ne he]
    exact h a b (hd.resolve_right he)
theorem TOk.grown2 {e : TypeId} {v v' : Value} {n m : Nat} {xs ys : List Value} (h : TOk w T D) (hg : Grown2 w w' e v v' n m xs) (ht : FRow w e v n ys) (he : e ≠ 5) : TOk w' T D := by
  rcases hg.2 with ⟨g, cap, rfl, rfl, hgr⟩ | ⟨_, hb⟩
  · exact h.grown hgr (fun r hr => hr.ne ht he)
  · exact h.below hb
end
theorem marks_T {T T' : Nat → Nat → KR} {k : Nat} : ∀ {j : Nat}, (∀ t, t < j → T' k t = T k t) → marks (mkT T' k) j = marks (mkT T k) j := by
  intro j
  induction j with
  | zero => intro _; rfl
  | succ j ih =>
    intro h
    rw [marks_snoc, marks_snoc, ih (fun t ht => h t (by omega))]
    unfold mkT
    rw [h j (by omega)]
theorem marks_Tat {T : Nat → Nat → KR} {k N j : Nat} (hj : j < N) : (marks (mkT T k) N)[j]? = some (T k j).sl := by
  have := marks_at (mkT T k) 1 (fun _ => rfl) N j 0 hj (by decide)
  rw [Nat.mul_one, Nat.add_zero] at this
  rw [this]
  rfl
theorem marks_Tone (T : Nat → Nat → KR) (k N : Nat) : ∀ u ∈ marks (mkT T k) N, u.oneCell' = true := by
  intro u hu
  simp only [marks, List.mem_flatMap, mkT, List.mem_singleton] at hu
  obtain ⟨t, _, rfl⟩ := hu
  rfl
section
variable {w : World} {e : TypeId} {m k j t : Nat} {v H : Nat → Value} {n : Nat → Nat} {T T' : Nat → Nat → KR} {C C' : Nat → List Value} {r : KR}
theorem Marked.upd (h : Marked w e m v n (mkT T) k j) : Marked w e m v n (mkT (updT T k j r)) k j := fun i hi => by
  obtain ⟨ys, h1, h2, h3⟩ := h i hi
  refine ⟨ys, h1, fun hik => ?_, fun hik => ?_⟩
  · rw [h2 hik]
    exact (marks_T (fun t ht => updT_ne (fun hc => by omega))).symm
  · rw [h3 hik]
    exact (marks_T (fun t ht => updT_ne (fun hc => by omega))).symm
theorem Fam.upd (h : Fam w e m v n (mkT T) k t H C) (hr : ∀ i, i < m → marks (mkT T' i) (n i) = marks (mkT T i) (n i)) (hc : ∀ i, i < k → C' i = C i) : Fam w e m v n (mkT T') k t H C' :=
  ⟨fun i hi => by rw [hr i hi]; exact h.rows i hi, fun i hi => by rw [hc i hi]; exact h.gone i hi, h.apart, h.sep⟩
end
def D1 (n : Nat → Nat) (k j a b : Nat) : Prop := a < k ∧ b < n a ∨ a = k ∧ b < j
def D2 (m : Nat) (n : Nat → Nat) (k j a b : Nat) : Prop := a < m ∧ b < n a ∨ a < k ∧ b < n a + 64 ∨ a = k ∧ a < m ∧ b < n k + j
def D4 (m : Nat) (n : Nat → Nat) (i j a b : Nat) : Prop := a < m ∧ b < n a ∨ m ≤ a ∧ a < i + m ∧ b < 64 ∨ a = i + m ∧ b < j
theorem D1_step {n : Nat → Nat} {k j : Nat} : ∀ a b, D1 n k (j + 1) a b → D1 n k j a b ∨ (a = k ∧ b = j) := by
  intro a b h
  unfold D1 at *
  omega
theorem D1_next {n : Nat → Nat} {k : Nat} : ∀ a b, D1 n (k + 1) 0 a b → D1 n k (n k) a b := by
  intro a b h
  unfold D1 at *
  rcases h with ⟨h1, h2⟩ | ⟨_, h2⟩
  · by_cases hk : a = k
    · subst hk; exact .inr ⟨rfl, h2⟩
    · exact .inl ⟨by omega, h2⟩
  · omega
theorem D2_start {m : Nat} {n : Nat → Nat} : ∀ a b, D2 m n 0 0 a b → D1 n m 0 a b := by
  intro a b h
  unfold D1 D2 at *
  rcases h with h | h | ⟨rfl, hm, h⟩
  · exact .inl h
  · omega
  · exact .inl ⟨hm, by omega⟩
theorem D2_step {m : Nat} {n : Nat → Nat} {k j : Nat} : ∀ a b, D2 m n k (j + 1) a b → D2 m n k j a b ∨ (a = k ∧ b = n k + j) := by
  intro a b h
  unfold D2 at *
  omega
theorem D2_next {m : Nat} {n : Nat → Nat} {k : Nat} (hk : k < m) : ∀ a b, D2 m n (k + 1) 0 a b → D2 m n k 64 a b := by
  intro a b h
  unfold D2 at *
  rcases h with h | ⟨h1, h2⟩ | ⟨h1, h3, h2⟩
  · exact .inl h
  · by_cases hk : a = k
    · subst hk; exact .inr (.inr ⟨rfl, by omega, h2⟩)
    · exact .inr (.inl ⟨by omega, h2⟩)
  · subst h1
    exact .inl ⟨h3, by omega⟩
theorem D4_start {m : Nat} {n : Nat → Nat} : ∀ a b, D4 m n 0 0 a b → D2 m n m 0 a b := by
  intro a b h
  unfold D4 D2 at *
  omega
theorem D4_step {m : Nat} {n : Nat → Nat} {i j : Nat} : ∀ a b, D4 m n i (j + 1) a b → D4 m n i j a b ∨ (a = i + m ∧ b = j) := by
  intro a b h
  unfold D4 at *
  omega
theorem D4_next {m : Nat} {n : Nat → Nat} {i : Nat} : ∀ a b, D4 m n (i + 1) 0 a b → D4 m n i 64 a b := by
  intro a b h
  unfold D4 at *
  omega
theorem rowInfo2 : (Tryz.prog.info? 63).map (fun i => (i.zero, i.size, i.bytes)) = some (some (.slice none 0 0), 1, 24) := by kernel_rfl
theorem markRow_is (k i : Nat) (w : World) (hk : k < 256) (hi : i < 256) :
    Calls Tryz.prog 101 #[.int .i64 k, .int .i64 i] w fun e w' => ∃ rg rc, e = .returned (.slice (some ⟨rg, 0, none⟩) 8 rc) ∧ (mr k i rg rc).At w' ∧ Below w.heap.size w w' := by
  refine (markRow_any k i w hk hi).mono ?_
  rintro e w' ⟨⟨rg, rk, rc⟩, rfl, h1, h2, h3, h4⟩
  simp only at h2
  subst h2
  exact ⟨rg, rc, by rw [← mr_sl k i rg rc]; rfl, h1, h4⟩
theorem markRow_sum (i k j : Nat) (w : World) (hk : i + k < 256) (hj : j < 256) :
    Calls Tryz.prog 101 #[.int .i64 ((i : Int) + (k : Int)), .int .i64 j] w fun e w' => ∃ rg rc, e = .returned (.slice (some ⟨rg, 0, none⟩) 8 rc) ∧ (mr (i + k) j rg rc).At w' ∧ Below w.heap.size w w' := by
  have h := markRow_is (i + k) j w hk hj
  rw [Int.natCast_add] at h
  exact h
theorem same_marks {W : World} {r s : KR} (hr : r.At W) (hs : s.At W) (e : r.k = s.k) (h8 : r.k.length ≤ 1000000) : Calls Tryz.prog 19 #[r.sl, s.sl] W fun e w' => e = .returned (.bool true) ∧ Below W.heap.size W w' := by
  have h1 := hr.rd
  have h2 := hs.rd
  unfold KR.sl
  rw [← e] at h2 ⊢
  exact sameBytes_yes _ _ _ _ _ _ _ W h1 h2 (Nat.le_refl _) h8
/-- What each operation leaves. -/
def T7 (L cL m k g N c j : Nat) (q : Nat) (σ : Nat → Value) (W : World) : Prop :=
  match q with
  | 0 => σ 0 = .slice (some ⟨L, 0, none⟩) m cL
  | 1 => σ 1 = .int .i64 (k : Nat)
  | 2 => σ 2 = .pointer (some ⟨L, k, none⟩)
  | 3 => σ 3 = .slice (some ⟨g, 0, none⟩) N c
  | 4 => σ 4 = .int .i64 (j : Nat)
  | 5 => σ 5 = .int .i64 (k : Nat)
  | 6 => σ 6 = .int .i64 (j : Nat)
  | 7 => ∃ rg rc, σ 7 = .slice (some ⟨rg, 0, none⟩) 8 rc ∧ (mr k j rg rc).At W
  | 8 => σ 8 = .pointer (some ⟨g, j, none⟩)
  | 9 => True
  | _ => True
/-- Before the store, and behind it. -/
def G7 (w : World) (k j g : Nat) (D : Nat → Bool) (W : World) : Prop :=
  (D 9 = false → Below w.heap.size w W) ∧ (D 9 = true → ∃ rg rc W0, Below w.heap.size w W0 ∧ (mr k j rg rc).At W0 ∧ W = W0.setCell ⟨g, j, none⟩ (.slice (some ⟨rg, 0, none⟩) 8 rc))
theorem G7.same {w W : World} {k j g i : Nat} {D : Nat → Bool} (h : G7 w k j g D W) (h9 : i ≠ 9) : G7 w k j g (fun q => D q || q == i) W := by
  unfold G7 at h ⊢
  have e9 : (9 == i) = false := by simpa using fun e => h9 e.symm
  simp only [e9, Bool.or_false]
  exact h
theorem step4_stored {P : Program} {ops : Array Oper} {Q : Exit → Act → World → Prop} {T : Nat → (Nat → Value) → World → Prop} {G : (Nat → Bool) → World → Prop} {L : Nat → Bool} {a : Act} {W : World} {i : Nat} {o : Oper} (W' : World) (hrun : (execOp a.eval o).run P W = .ok .skip W') (hG : G (fun j => L j || j == i) W') (hT : ∀ j, L j = true → T j (sl ops a) W') (hTi : T i (upd (sl ops a) i undef) W') : o.wp P a W (Stepped4 ops T G L a i o) Q := by
  unfold Oper.wp
  rw [hrun]
  exact ⟨undef, rfl, fun _ => rfl, hG, hT, hTi⟩
theorem T7.to {L cL m k g N c j q : Nat} {σ : Nat → Value} {W W' : World} (h : T7 L cL m k g N c j q σ W) (hw : ∀ rg rc, (mr k j rg rc).At W → (mr k j rg rc).At W') : T7 L cL m k g N c j q σ W' := by
  unfold T7 at h ⊢
  split at h
  all_goals first
    | exact h
    | (obtain ⟨rg, rc, h1, h2⟩ := h; exact ⟨rg, rc, h1, hw rg rc h2⟩)
/-- What each operation leaves. -/
def T24t (L cL G h cH k N ci i j g : Nat) (Ai : Option Addr) (rs : Value) (b : Bool) (q : Nat) (σ : Nat → Value) (W : World) : Prop :=
  match q with
  | 0 => σ 0 = .slice (some ⟨G, 0, none⟩) k k
  | 1 => σ 1 = .int .i64 (i : Nat)
  | 2 => σ 2 = .pointer (some ⟨G, i, none⟩)
  | 3 => σ 3 = .slice (some ⟨h, 0, none⟩) (N + 64) cH
  | 4 => σ 4 = .int .i64 (j : Nat)
  | 5 => σ 5 = .pointer (some ⟨h, j, none⟩)
  | 6 => σ 6 = rs
  | 7 => σ 7 = .int .i64 (i : Nat)
  | 8 => σ 8 = .int .i64 (j : Nat)
  | 9 => ∃ rg rc, σ 9 = .slice (some ⟨rg, 0, none⟩) 8 rc ∧ (mr i j rg rc).At W
  | 10 => σ 10 = .bool true
  | 11 => σ 11 = .bool false
  | 12 => σ 12 = .bool false
  | 13 => σ 13 = .int .i64 (j : Nat)
  | 14 => σ 14 = .slice (some ⟨L, 0, none⟩) k cL
  | 15 => σ 15 = .int .i64 (i : Nat)
  | 16 => σ 16 = .pointer (some ⟨L, i, none⟩)
  | 17 => σ 17 = .slice Ai N ci
  | 18 => σ 18 = .int .i64 (N : Nat)
  | 19 => σ 19 = .bool b
  | 20 => σ 20 = .bool b
  | 21 => σ 21 = .slice (some ⟨L, 0, none⟩) k cL
  | 22 => σ 22 = .int .i64 (i : Nat)
  | 23 => σ 23 = .pointer (some ⟨L, i, none⟩)
  | 24 => σ 24 = .slice Ai N ci
  | 25 => σ 25 = .int .i64 (j : Nat)
  | 26 => σ 26 = .pointer (some ⟨g, j, none⟩)
  | 27 => σ 27 = rs
  | 28 => σ 28 = .int .i64 (i : Nat)
  | 29 => σ 29 = .int .i64 (j : Nat)
  | 30 => ∃ rg rc, σ 30 = .slice (some ⟨rg, 0, none⟩) 8 rc ∧ (mr i j rg rc).At W
  | 31 => σ 31 = .bool true
  | 32 => σ 32 = .bool false
  | 33 => σ 33 = .bool false
  | 34 => σ 34 = .bool false
  | _ => True
theorem T24t.to {L cL G h cH k N ci i j g q : Nat} {Ai : Option Addr} {rs : Value} {b : Bool} {σ : Nat → Value} {W W' : World} (h0 : T24t L cL G h cH k N ci i j g Ai rs b q σ W) (hw : ∀ rg rc, (mr i j rg rc).At W → (mr i j rg rc).At W') : T24t L cL G h cH k N ci i j g Ai rs b q σ W' := by
  unfold T24t at h0 ⊢
  split at h0
  all_goals first
    | exact h0
    | (obtain ⟨rg, rc, h1, h2⟩ := h0; exact ⟨rg, rc, h1, hw rg rc h2⟩)
/-- What each operation leaves. -/
def T24f (L cL G h cH k N ci i j g : Nat) (Ai : Option Addr) (rs : Value) (b : Bool) (q : Nat) (σ : Nat → Value) (W : World) : Prop :=
  match q with
  | 0 => σ 0 = .slice (some ⟨G, 0, none⟩) k k
  | 1 => σ 1 = .int .i64 (i : Nat)
  | 2 => σ 2 = .pointer (some ⟨G, i, none⟩)
  | 3 => σ 3 = .slice (some ⟨h, 0, none⟩) (N + 64) cH
  | 4 => σ 4 = .int .i64 (j : Nat)
  | 5 => σ 5 = .pointer (some ⟨h, j, none⟩)
  | 6 => σ 6 = rs
  | 7 => σ 7 = .int .i64 (i : Nat)
  | 8 => σ 8 = .int .i64 (j : Nat)
  | 9 => ∃ rg rc, σ 9 = .slice (some ⟨rg, 0, none⟩) 8 rc ∧ (mr i j rg rc).At W
  | 10 => σ 10 = .bool true
  | 11 => σ 11 = .bool false
  | 12 => σ 12 = .bool false
  | 13 => σ 13 = .int .i64 (j : Nat)
  | 14 => σ 14 = .slice (some ⟨L, 0, none⟩) k cL
  | 15 => σ 15 = .int .i64 (i : Nat)
  | 16 => σ 16 = .pointer (some ⟨L, i, none⟩)
  | 17 => σ 17 = .slice Ai N ci
  | 18 => σ 18 = .int .i64 (N : Nat)
  | 19 => σ 19 = .bool b
  | 20 => σ 20 = .bool b
  | 21 => True
  | 22 => True
  | 23 => True
  | 24 => True
  | 25 => True
  | 26 => True
  | 27 => True
  | 28 => True
  | 29 => True
  | 30 => True
  | 31 => True
  | 32 => True
  | 33 => σ 33 = .bool false
  | 34 => σ 34 = .bool false
  | _ => True
theorem T24f.to {L cL G h cH k N ci i j g q : Nat} {Ai : Option Addr} {rs : Value} {b : Bool} {σ : Nat → Value} {W W' : World} (h0 : T24f L cL G h cH k N ci i j g Ai rs b q σ W) (hw : ∀ rg rc, (mr i j rg rc).At W → (mr i j rg rc).At W') : T24f L cL G h cH k N ci i j g Ai rs b q σ W' := by
  unfold T24f at h0 ⊢
  split at h0
  all_goals first
    | exact h0
    | (obtain ⟨rg, rc, h1, h2⟩ := h0; exact ⟨rg, rc, h1, hw rg rc h2⟩)
/-- What each operation leaves. -/
def T41 (L cL G h cH k N ci i j g : Nat) (Ai : Option Addr) (rs : Value) (b : Bool) (q : Nat) (σ : Nat → Value) (W : World) : Prop :=
  match q with
  | 0 => σ 0 = .slice (some ⟨L, 0, none⟩) k cL
  | 1 => σ 1 = .int .i64 (i : Nat)
  | 2 => σ 2 = .pointer (some ⟨L, i, none⟩)
  | 3 => σ 3 = .slice Ai N ci
  | 4 => σ 4 = .int .i64 (j : Nat)
  | 5 => σ 5 = .pointer (some ⟨g, j, none⟩)
  | 6 => σ 6 = rs
  | 7 => σ 7 = .int .i64 (i : Nat)
  | 8 => σ 8 = .int .i64 (j : Nat)
  | 9 => ∃ rg rc, σ 9 = .slice (some ⟨rg, 0, none⟩) 8 rc ∧ (mr i j rg rc).At W
  | 10 => σ 10 = .bool true
  | 11 => σ 11 = .bool false
  | 12 => σ 12 = .bool false
  | 13 => σ 13 = .slice (some ⟨G, 0, none⟩) k k
  | 14 => σ 14 = .int .i64 (i : Nat)
  | 15 => σ 15 = .pointer (some ⟨G, i, none⟩)
  | 16 => σ 16 = .slice (some ⟨h, 0, none⟩) (N + 64) cH
  | 17 => σ 17 = .int .i64 (j : Nat)
  | 18 => σ 18 = .pointer (some ⟨h, j, none⟩)
  | 19 => σ 19 = rs
  | 20 => σ 20 = .int .i64 (i : Nat)
  | 21 => σ 21 = .int .i64 (j : Nat)
  | 22 => ∃ rg rc, σ 22 = .slice (some ⟨rg, 0, none⟩) 8 rc ∧ (mr i j rg rc).At W
  | 23 => σ 23 = .bool true
  | 24 => σ 24 = .bool false
  | 25 => σ 25 = .bool false
  | _ => True
theorem T41.to {L cL G h cH k N ci i j g q : Nat} {Ai : Option Addr} {rs : Value} {b : Bool} {σ : Nat → Value} {W W' : World} (h0 : T41 L cL G h cH k N ci i j g Ai rs b q σ W) (hw : ∀ rg rc, (mr i j rg rc).At W → (mr i j rg rc).At W') : T41 L cL G h cH k N ci i j g Ai rs b q σ W' := by
  unfold T41 at h0 ⊢
  split at h0
  all_goals first
    | exact h0
    | (obtain ⟨rg, rc, h1, h2⟩ := h0; exact ⟨rg, rc, h1, hw rg rc h2⟩)
set_option maxRecDepth 100000 in
set_option maxHeartbeats 8000000 in
theorem flatRows_any (L cL m : Nat) (A : Nat → Option Addr) (n c : Nat → Nat) (w : World) (hL : Lst w 63 L cL m A n c) (hv : ∀ i, i < m → ∃ xs, FRow w 34 (rowV A n c i) (n i) xs) (hs : Sep m (rowV A n c))
    (hn : ∀ i, n i ≤ 100) (hm : m ≤ 100) :
    Calls Tryz.prog 77 #[.slice (some ⟨L, 0, none⟩) m cL] w fun e w' => e = .returned (.bool true) ∧ Kept (Own m A n c) w w' := by
  obtain ⟨T0⟩ : Nonempty (Nat → Nat → KR) := ⟨fun _ _ => ⟨0, [], 0⟩⟩
  have HL := hide hL
  have HV : Hid (Marked w 34 m (rowV A n c) n (mkT T0) 0 0) := fun i hi => by
    obtain ⟨xs, h⟩ := hv i hi
    exact ⟨xs, h, fun h => by omega, fun _ => by simp [marks]⟩
  have HT : Hid (TOk w T0 (D1 n 0 0)) := fun a b h => by unfold D1 at h; omega
  have HS := hide hs
  have HN := hide hn
  have hEM : ∀ args (W : World), (callFunc 101 args).run Tryz.prog W = .ok (.enter 101 args) W := enters_of Tryz.func101 (by kernel_rfl) rfl
  have hES : ∀ args (W : World), (callFunc 19 args).run Tryz.prog W = .ok (.enter 19 args) W := enters_of Tryz.func19 (by kernel_rfl) rfl
  clear hL hv hs hn
  obtain ⟨i1, hi1, hy0, hy1, hy2⟩ := info_parts rowInfo
  obtain ⟨i5, hi5, hz0, hz1, hz2⟩ := info_parts rowInfo2
  go_enter Tryz.func77, Tryz.ntmps77
  go_wp2
  go_loopw [3] (fun p wr => ∃ (k : Nat) (T : Nat → Nat → KR), k ≤ m ∧ p = .int .i64 k ∧ Lst wr 63 L cL m A n c ∧ Marked wr 34 m (rowV A n c) n (mkT T) k 0 ∧ Kept (Own m A n c) w wr ∧ TOk wr T (D1 n k 0)) (fun p _ => m - (intOf p).toNat)
  case atStart => exact ⟨0, _, Nat.zero_le _, rfl, HL.out, HV.out, Kept.refl _ _, HT.out⟩
  case round =>
    obtain ⟨k, T, hk, rfl, hl1, hm1, hb1, ht1⟩ := hrel
    have HL1 := hide hl1
    have HM1 := hide hm1
    have HB1 := hide hb1
    have HT1 := hide ht1
    clear hl1 hm1 hb1 ht1 HL HV HT
    obtain ⟨wo, rfl⟩ : ∃ wo : World, wo = wr := ⟨_, rfl⟩
    by_cases hlt : k < m
    · have hnk : n k ≤ 100 := HN.out k
      go_wp2
      go_loopw [4] (fun p wr => ∃ (j : Nat) (T : Nat → Nat → KR), j ≤ n k ∧ p = .int .i64 j ∧ Lst wr 63 L cL m A n c ∧ Marked wr 34 m (rowV A n c) n (mkT T) k j ∧ Kept (Own m A n c) w wr ∧ TOk wr T (D1 n k j)) (fun p _ => n k - (intOf p).toNat)
      case atStart => exact ⟨0, _, Nat.zero_le _, rfl, HL1.out, HM1.out, HB1.out, HT1.out⟩
      case round =>
        obtain ⟨j, T, hj, rfl, hl2, hm2, hb2, ht2⟩ := hrel
        have cK := hl2.cell hlt
        have HL2 := hide hl2
        have HM2 := hide hm2
        have HB2 := hide hb2
        have HT2 := hide ht2
        clear hl2 hm2 hb2 ht2 HL1 HM1 HB1 HT1
        by_cases hjn : j < n k
        · obtain ⟨xs, hx, _⟩ := HM2.out k hlt
          obtain ⟨g, hg⟩ := row_some hx (by omega)
          rw [hg] at cK
          have e0 : rowV A n c k = .slice (some ⟨g, 0, none⟩) (n k) (c k) := by unfold rowV; rw [hg]
          have HR := hide (show FRow wr 34 (.slice (some ⟨g, 0, none⟩) (n k) (c k)) (n k) xs from by rw [← e0]; exact hx)
          have HCC : Hid (∀ W, Below wr.heap.size wr W → W.cell? ⟨L, k, none⟩ = some (.slice (some ⟨g, 0, none⟩) (n k) (c k))) := hide (fun W hb => by have := Lst.cell (FZ.below HL2.out hb) hlt; rw [hg] at this; exact this)
          have k0 : (0 : Int) ≤ (k : Int) := by omega
          have k1 : (k : Int) < (m : Int) := by omega
          have j0 : (0 : Int) ≤ (j : Int) := by omega
          have j1 : (j : Int) < (n k : Int) := by omega
          clear hx
          go_wp2_with fail
          rename_i K hK hxx
          refine wp_tells4 (by kernel_rfl) (T7 L cL m k g (n k) (c k) j) (G7 wr k j g) (by kernel_rfl) (by kernel_rfl) (by kernel_rfl) (by kernel_rfl) ?_ ?_ ?_ ?_
          · intro q oj σ σ' W hj h hs
            have hi : q < 10 := (Array.getElem?_eq_some_iff.1 hj).1
            have h0 := hs q (.inl rfl)
            have hi' : q = 0 ∨ q = 1 ∨ q = 2 ∨ q = 3 ∨ q = 4 ∨ q = 5 ∨ q = 6 ∨ q = 7 ∨ q = 8 ∨ q = 9 := by omega
            rcases hi' with rfl | rfl | rfl | rfl | rfl | rfl | rfl | rfl | rfl | rfl
            all_goals first
              | (simp only [T7] at h ⊢; rw [h0]; exact h)
              | trivial
          · exact ⟨fun _ => (Below.refl _ _).drew, fun h => absurd h Bool.false_ne_true⟩
          · intro q o ho Dn a W hi hG hold hT hcl hh
            have hi2 : q < 10 := (Array.getElem?_eq_some_iff.1 ho).1
            have hi' : q = 0 ∨ q = 1 ∨ q = 2 ∨ q = 3 ∨ q = 4 ∨ q = 5 ∨ q = 6 ∨ q = 7 ∨ q = 8 ∨ q = 9 := by omega
            rcases hi' with rfl | rfl | rfl | rfl | rfl | rfl | rfl | rfl | rfl | rfl
            · cases ho
              refine step4_told (.slice (some ⟨L, 0, none⟩) m cL) ?_ (by decide) (hG.same (by decide)) hT rfl
              have e0 : a.eval (.tmp 0) = .slice (some ⟨L, 0, none⟩) m cL := hold 0 (unyet_of (by kernel_rfl))
              generalize a.eval = ev at e0 ⊢
              simp [execOp, go_sem, e0]
            · cases ho
              refine step4_told (.int .i64 k) ?_ (by decide) (hG.same (by decide)) hT rfl
              have e0 : a.eval (.tmp 3) = .int .i64 k := hold 3 (unyet_of (by kernel_rfl))
              generalize a.eval = ev at e0 ⊢
              simp [execOp, go_sem, e0]
            · cases ho
              refine step4_told (.pointer (some ⟨L, k, none⟩)) ?_ (by decide) (hG.same (by decide)) hT rfl
              have e0 : a.eval (.tmp 31) = .slice (some ⟨L, 0, none⟩) m cL := hT 0 (hh 0 rfl)
              have e1 : a.eval (.tmp 32) = .int .i64 k := hT 1 (hh 1 rfl)
              generalize a.eval = ev at e0 e1 ⊢
              simp [execOp, go_sem, e0, e1, k0, k1]
            · cases ho
              have h9 : Dn 9 = false := by
                cases h : Dn 9 with
                | false => rfl
                | true =>
                  have h8 := hcl 9 _ h rfl 8 (by kernel_rfl)
                  have h3 := hcl 8 _ h8 rfl 3 (by kernel_rfl)
                  rw [hi] at h3; cases h3
              have x0 := HCC.out W (hG.1 h9)
              refine step4_told (.slice (some ⟨g, 0, none⟩) (n k) (c k)) ?_ (by decide) (hG.same (by decide)) hT rfl
              have e0 : a.eval (.tmp 33) = .pointer (some ⟨L, k, none⟩) := hT 2 (hh 2 rfl)
              generalize a.eval = ev at e0 ⊢
              simp [execOp, go_sem, e0, x0]
            · cases ho
              refine step4_told (.int .i64 j) ?_ (by decide) (hG.same (by decide)) hT rfl
              have e0 : a.eval (.tmp 4) = .int .i64 j := hold 4 (unyet_of (by kernel_rfl))
              generalize a.eval = ev at e0 ⊢
              simp [execOp, go_sem, e0]
            · cases ho
              refine step4_told (.int .i64 k) ?_ (by decide) (hG.same (by decide)) hT rfl
              have e0 : a.eval (.tmp 3) = .int .i64 k := hold 3 (unyet_of (by kernel_rfl))
              generalize a.eval = ev at e0 ⊢
              simp [execOp, go_sem, e0]
            · cases ho
              refine step4_told (.int .i64 j) ?_ (by decide) (hG.same (by decide)) hT rfl
              have e0 : a.eval (.tmp 4) = .int .i64 j := hold 4 (unyet_of (by kernel_rfl))
              generalize a.eval = ev at e0 ⊢
              simp [execOp, go_sem, e0]
            · cases ho
              have h9 : Dn 9 = false := by
                cases h : Dn 9 with
                | false => rfl
                | true =>
                  have h3 := hcl 9 _ h rfl 7 (by kernel_rfl)
                  rw [hi] at h3; cases h3
              have e0 : a.eval (.tmp 36) = .int .i64 k := hT 5 (hh 5 rfl)
              have e1 : a.eval (.tmp 37) = .int .i64 j := hT 6 (hh 6 rfl)
              refine step4_called (f := 101) (args := #[.int .i64 k, .int .i64 j]) (R := fun v W' => ∃ rg rc, v = .slice (some ⟨rg, 0, none⟩) 8 rc ∧ (mr k j rg rc).At W' ∧ Below W.heap.size W W') ?_ (by decide) ((markRow_is k j W (by omega) (by omega)).mono ?_) ?_
              · have ef : a.eval (.func 101) = .func (.func 101) #[] #[] := rfl
                generalize a.eval = ev at e0 e1 ef ⊢
                simp [execOp, go_sem, e0, e1, ef, hEM]
              · rintro e W' ⟨rg, rc, h1, h2, h3⟩
                exact ⟨_, h1, rg, rc, rfl, h2, h3⟩
              · rintro u W' ⟨rg, rc, rfl, h2, h3⟩
                exact ⟨⟨fun _ => (hG.1 h9).trans (h3.mono (hG.1 h9).size), fun h => by simp [h9] at h⟩, fun q hq => (hT q hq).to (fun rg rc h => h.below h3), rg, rc, rfl, h2⟩
            · cases ho
              refine step4_told (.pointer (some ⟨g, j, none⟩)) ?_ (by decide) (hG.same (by decide)) hT rfl
              have e0 : a.eval (.tmp 34) = .slice (some ⟨g, 0, none⟩) (n k) (c k) := hT 3 (hh 3 rfl)
              have e1 : a.eval (.tmp 35) = .int .i64 j := hT 4 (hh 4 rfl)
              generalize a.eval = ev at e0 e1 ⊢
              simp [execOp, go_sem, e0, e1, j0, j1]
            · cases ho
              have hb0 := hG.1 hi
              obtain ⟨rg, rc, e0, hr⟩ : ∃ rg rc, a.eval (.tmp 38) = .slice (some ⟨rg, 0, none⟩) 8 rc ∧ (mr k j rg rc).At W := hT 7 (hh 7 rfl)
              have e1 : a.eval (.tmp 39) = .pointer (some ⟨g, j, none⟩) := hT 8 (hh 8 rfl)
              have hrow := FZ.below HR.out hb0
              have hcell : ∃ u, W.cell? ⟨g, j, none⟩ = some u := by obtain ⟨u, _, h⟩ := FZ.at_ hrow (show j < n k by omega); exact ⟨u, h⟩
              obtain ⟨u, cU⟩ := hcell
              have cF : W.frozen? ⟨g, j, none⟩ = false := FZ.free hrow (by omega)
              refine step4_stored (W.setCell ⟨g, j, none⟩ (.slice (some ⟨rg, 0, none⟩) 8 rc)) ?_ ⟨fun h => by simp at h, fun _ => ⟨rg, rc, W, hb0, hr, rfl⟩⟩ (fun q hq => (hT q hq).to (fun rg rc h => h.grown (grown_set W g j _) (h.ne hrow (by decide)))) trivial
              generalize a.eval = ev at e0 e1 ⊢
              simp [execOp, go_sem, e0, e1, cU, cF]
          · intro a W hd hs hold hT hG
            obtain ⟨rg, rc, W0, hbW, hrW, rfl⟩ := hG.2 rfl
            obtain ⟨f, hf, ha⟩ := act_puts [31, 32, 33, 34, 35, 36, 37, 38, 39] (fun t ht => by
              by_cases h : t ∈ [31, 32, 33, 34, 35, 36, 37, 38, 39]
              · exact h
              · exfalso
                simp [unwritten] at ht
                simp only [List.mem_cons, not_or] at h
                obtain ⟨h0, h1, h2, h3, h4, h5, h6, h7, h8, _⟩ := h
                exact absurd (ht (fun e => h0 e.symm) (fun e => h1 e.symm) (fun e => h2 e.symm) (fun e => h3 e.symm) (fun e => h4 e.symm) (fun e => h5 e.symm) (fun e => h6 e.symm) (fun e => h7 e.symm)) (fun e => h8 e.symm)) (fun t ht => by
              have hsz : t < 193 := by
                simp only [List.mem_cons, List.mem_nil_iff, or_false] at ht
                omega
              exact hsz) hd hs hold
            have HBW := hide hbW
            have HRW := hide hrW
            subst ha
            clear hd hs hold hT hf hG hbW hrW
            show K _ _
            refine hK _ _ ?_
            simp only [List.foldl_cons, List.foldl_nil]
            generalize f 31 = u31
            generalize f 32 = u32
            generalize f 33 = u33
            generalize f 34 = u34
            generalize f 35 = u35
            generalize f 36 = u36
            generalize f 37 = u37
            generalize f 38 = u38
            generalize f 39 = u39
            clear hK
            go_simp
            have hrow := FZ.below HR.out HBW.out
            have H1 := ((HM2.out.below HBW.out).upd (r := mr k j rg rc)).set1 (u := .slice (some ⟨rg, 0, none⟩) 8 rc) HS.out hlt e0 hjn (by unfold mkT; rw [updT_eq, mr_sl])
            have H2 := (FZ.below HL2.out HBW.out).kept (grown_set W0 g j (.slice (some ⟨rg, 0, none⟩) 8 rc)) (by
              rcases FZ.ne HL2.out HR.out (by decide) with h | h
              · exact .inl h
              · exact .inr h)
            have H3 := (HB2.out.later HBW.out).setCell (p := ⟨g, j, none⟩) (fun _ hF => hF k hlt (by unfold rowV; rw [hg]; rfl)) (.slice (some ⟨rg, 0, none⟩) 8 rc)
            have H4 := (((HT2.out.below HBW.out).put HRW.out rfl).grown (grown_set W0 g j (.slice (some ⟨rg, 0, none⟩) 8 rc)) (fun r hr => hr.ne hrow (by decide))).sub D1_step
            go_wp2
            go_roundw
            case rel => exact ⟨j + 1, _, by omega, by go_num, H2, H1, H3, H4⟩
            case measure => simp [intOf]; omega
        · have hjk : j = n k := by omega
          subst hjk
          go_wp2
          go_roundw
          case rel => exact ⟨k + 1, T, by omega, by go_num, HL2.out, Marked.next HM2.out, HB2.out, HT2.out.sub D1_next⟩
          case measure => simp [intOf]; omega
    · have hkm : m = k := by omega
      subst hkm
      have HF := hide (Fam.start (H := fun _ => .slice none 0 0) (C := fun i => marks (mkT T i) (n i + 64)) (t := 64) HM1.out HS.out)
      clear HM1 HS
      go_wp2_with (at_make; refine stop_here ?_)
      show Hid _
      refine start_here ?_
      refine wpList_make_full _ rfl (.tmp 41) (.tmp 41) 65 rfl 0 63 i5 _ 1 Tryz.underlying65 hi5 hz0 hz1 .i64 .i64 m m m rfl rfl rfl rfl (by rw [hz2]; omega) (by simp only [maxLen]; omega) (Nat.zero_le _) ?_
      intro w1 ho1 hg1
      replace ho1 := FZ.of_owns ho1
      have HB0 : Hid (Kept (Own m A n c) w w1) := HB1.out.grown hg1 (fun _ e => nomatch e)
      have hbm := (Below.refl wo.heap.size wo).grown hg1 (Nat.le_refl _) (fun _ e => nomatch e)
      have HF1 : Hid (Fam w1 34 m (rowV A n c) n (mkT T) 0 64 (fun _ => .slice none 0 0) (fun i => marks (mkT T i) (n i + 64))) := HF.out.below hbm
      have HT0 := hide ((HT1.out.below hbm).sub (D2_start))
      have HL0 : Hid (Lst w1 63 L cL m A n c) := HL1.out.kept hg1 (.inr (by simp [Value.ownBlock]))
      have hGB : w.heap.size ≤ wo.heap.size := HB1.out.size
      have hLG : L < wo.heap.size := (HL1.out.lt L rfl)
      generalize wo.heap.size = G at *
      have HO := hide ho1
      clear ho1 hg1 hbm HF HB1 HL1 HT1
      go_wp2_with fail
      go_loopw [6, 7, 8] (fun p _ _ wr => ∃ (k : Nat) (H : Nat → Value) (zs : List Value) (T : Nat → Nat → KR), k ≤ m ∧ p = .int .i64 k ∧ Lst wr 63 L cL m A n c ∧ Kept (Own m A n c) w wr ∧ Fam wr 34 m (rowV A n c) n (mkT T) k 64 H (fun i => marks (mkT T i) (n i + 64)) ∧
          FRow wr 63 (.slice (some ⟨G, 0, none⟩) m m) m zs ∧ (∀ i, i < k → zs[i]? = some (H i)) ∧ TOk wr T (D2 m n k 0)) (fun p _ _ _ => m - (intOf p).toNat)
      case atStart => exact ⟨0, _, _, _, Nat.zero_le _, rfl, HL0.out, HB0.out, HF1.out, HO.out, fun i hi => absurd hi (by omega), HT0.out⟩
      case round =>
        obtain ⟨k, H, zs, T, hk, rfl, hl1, hb1, hf1, ho1, hz1, ht1⟩ := hrel
        by_cases hlt : k < m
        · have hnk : n k ≤ 100 := HN.out k
          have cK := hl1.cell hlt
          have HL1 := hide hl1
          have HB1 := hide hb1
          have HF2 := hide hf1
          have HO1 := hide ho1
          have HZ1 := hide hz1
          have HT1 := hide ht1
          clear hl1 hb1 hf1 ho1 hz1 ht1 HL0 HB0 HF1 HO HT0
          obtain ⟨wq, rfl⟩ : ∃ wq : World, wq = wr := ⟨_, rfl⟩
          go_wp2
          go_loopw [7, 8] (fun v p wr => ∃ (j : Nat) (T : Nat → Nat → KR), j ≤ 64 ∧ p = .int .i64 j ∧ Grow wq wr 34 (rowV A n c k) v (n k) (n k + j) (marks (mkT T k) (n k)) (marks (mkT T k) (n k + j)) ∧ Fam wq 34 m (rowV A n c) n (mkT T) k 64 H (fun i => marks (mkT T i) (n i + 64)) ∧ TOk wr T (D2 m n k j)) (fun _ p _ => 64 - (intOf p).toNat)
          case atStart => exact ⟨0, T, Nat.zero_le _, rfl, Grow.start (HF2.out.rows k hlt), HF2.out, HT1.out⟩
          case round =>
            obtain ⟨j, T, hj, rfl, hgr, hf2, ht2⟩ := hrel
            have HG := hide hgr
            have HF3 := hide hf2
            have HT2 := hide ht2
            have HL2 : Hid (Lst wr 63 L cL m A n c) := HL1.out.kept hgr.frame (by
              rcases FZ.ne HL1.out (hf2.rows k hlt) (by decide) with h | h
              · exact .inl h
              · exact .inr h)
            have cK2 := HL2.out.cell hlt
            clear hgr hf2 ht2 HF2 HT1
            by_cases hjn : j < 64
            · go_wp2_with (first
                | (go_at_call 101; refine (markRow_is k (n k + j) _ (by omega) (by omega)).mono ?_; rintro e w2 ⟨rg, rc, rfl, hr, hb2⟩; have HR2 := hide hr; have HB2 := hide hb2; clear hr hb2)
                | (at_builtin; refine stop_here ?_))
              show Hid _
              refine start_here ?_
              have hG2 := (HG.out.below HB2.out).alloc (.cells #[.slice (some ⟨rg, 0, none⟩) 8 rc] 34)
              refine wpList_append rfl (.tmp 57) (.tmp 67) 63 rfl 34 i1 _ 24 Tryz.underlying63 hi1 hy0 hy1 hy2 rfl _ (n k + j) _ rfl hG2.top ⟨w2.heap.size, 0, none⟩ 1 1 [.slice (some ⟨rg, 0, none⟩) 8 rc] rfl rfl (new_one w2 _) (fun u hu => by simp only [List.mem_singleton] at hu; subst hu; rfl) (by decide) (by simp only [maxLen]; omega) (by omega) ?_
              intro v' w' hgw
              have e1 : marks (mkT (updT T k (n k + j) (mr k (n k + j) rg rc)) k) (n k) = marks (mkT T k) (n k) := marks_T (fun t ht => updT_ne (fun hc => by omega))
              have e2 : marks (mkT (updT T k (n k + j) (mr k (n k + j) rg rc)) k) (n k + (j + 1)) = marks (mkT T k) (n k + j) ++ [.slice (some ⟨rg, 0, none⟩) 8 rc] := by
                rw [show n k + (j + 1) = (n k + j) + 1 by omega, marks_snoc, marks_T (T := T) (fun t ht => updT_ne (fun hc => by omega))]
                unfold mkT
                rw [updT_eq, mr_sl]
              have HG2 : Hid (Grow wq w' 34 (rowV A n c k) v' (n k) (n k + (j + 1)) (marks (mkT (updT T k (n k + j) (mr k (n k + j) rg rc)) k) (n k)) (marks (mkT (updT T k (n k + j) (mr k (n k + j) rg rc)) k) (n k + (j + 1)))) := by
                rw [e1, e2]
                exact hG2.step hgw
              have HF4 : Hid (Fam wq 34 m (rowV A n c) n (mkT (updT T k (n k + j) (mr k (n k + j) rg rc))) k 64 H (fun i => marks (mkT (updT T k (n k + j) (mr k (n k + j) rg rc)) i) (n i + 64))) :=
                HF3.out.upd (fun i hi => marks_T (fun t ht => updT_ne (fun hc => by obtain ⟨rfl, hc⟩ := hc; omega))) (fun i hi => marks_T (fun t ht => updT_ne (fun hc => by omega)))
              have HT4 := hide ((((((HT2.out.below HB2.out).put (k := k) (j := n k + j) HR2.out rfl).below (below1 w2 (.cells #[.slice (some ⟨rg, 0, none⟩) 8 rc] 34)))).grown2 hgw hG2.top (by decide)).sub D2_step)
              clear hgw HG HL2 hG2 e1 e2 HF3 HT2
              go_wp2
              go_roundw
              case rel => exact ⟨j + 1, _, by omega, by go_num, HG2.out, HF4.out, HT4.out⟩
              case measure => simp [intOf]; omega
            · have hj64 : j = 64 := by omega
              subst hj64
              obtain ⟨A', c', rfl⟩ := FZ.slice HG.out.top
              have HF5 := hide (HF3.out.step hlt HG.out)
              have HO3 := hide (HO1.out.kept HG.out.frame (by
                rcases FZ.ne HO1.out (HF3.out.rows k hlt) (by decide) with h | h
                · exact .inl h
                · exact .inr h))
              have HB3 : Hid (Kept (Own m A n c) w wr) := HB1.out.grown HG.out.frame (fun g e _ hF => hF k hlt e)
              obtain ⟨z0, hz0', cG⟩ := FZ.at_ HO3.out (show k < m by omega)
              have cF : wr.frozen? ⟨G, k, none⟩ = false := FZ.free HO3.out (by omega)
              clear HG
              go_wp2
              go_roundw
              case rel => exact ⟨k + 1, _, _, T, by omega, by go_num, HL2.out.kept (grown_set wr G k _) (.inr (by simp only [Value.ownBlock, ne_eq, Option.some.injEq]; omega)), HB3.out.setCell (p := ⟨G, k, none⟩) (fun h _ => absurd h (Nat.not_lt.2 hGB)) _, HF5.out.set HO3.out (by decide) _, FZ.set HO3.out (by omega) _, set_said HZ1.out (by rw [HO3.out.1]; omega) _, (HT2.out.sub (D2_next hlt)).grown (grown_set wr G k _) (fun r hr => hr.ne HO3.out (by decide))⟩
              case measure => simp [intOf]; omega
        · have hkm : k = m := by omega
          subst hkm
          have HL1 := hide hl1
          have HB1 := hide hb1
          have HF2 := hide hf1
          have HO1 := hide ho1
          have HZ1 := hide hz1
          have HT1 := hide ht1
          clear hl1 hb1 hf1 ho1 hz1 ht1 HL0 HB0 HF1 HO HT0
          go_wp2
          go_loopw [9, 10] (fun p _ wr => ∃ (i : Nat), i ≤ k ∧ p = .int .i64 i ∧ Lst wr 63 L cL k A n c ∧ Kept (Own k A n c) w wr ∧ Fam wr 34 k (rowV A n c) n (mkT T) k 64 H (fun i => marks (mkT T i) (n i + 64)) ∧
              FRow wr 63 (.slice (some ⟨G, 0, none⟩) k k) k zs ∧ TOk wr T (D2 k n k 0)) (fun p _ _ => k - (intOf p).toNat)
          case atStart => exact ⟨0, Nat.zero_le _, rfl, HL1.out, HB1.out, HF2.out, HO1.out, HT1.out⟩
          case round =>
            obtain ⟨i, hi, rfl, hl1, hb1, hf1, ho1, ht1⟩ := hrel
            have HL3 := hide hl1
            have HB3 := hide hb1
            have HF3 := hide hf1
            have HO3 := hide ho1
            have HT3 := hide ht1
            clear hl1 hb1 hf1 ho1 ht1 HL1 HB1 HF2 HO1 HT1
            by_cases hlt : i < k
            · have hni : n i ≤ 100 := HN.out i
              have hH := HF3.out.gone i hlt
              obtain ⟨h, cH, eH⟩ := FZ.some_of hH (by omega)
              have HEH := hide eH
              clear hH
              go_wp2
              go_loopw [10] (fun p wr => ∃ (j : Nat), j ≤ n i + 64 ∧ p = .int .i64 j ∧ Lst wr 63 L cL k A n c ∧ Kept (Own k A n c) w wr ∧ Fam wr 34 k (rowV A n c) n (mkT T) k 64 H (fun i => marks (mkT T i) (n i + 64)) ∧
                FRow wr 63 (.slice (some ⟨G, 0, none⟩) k k) k zs ∧ TOk wr T (D2 k n k 0)) (fun p _ => n i + 64 - (intOf p).toNat)
              case atStart => exact ⟨0, Nat.zero_le _, rfl, HL3.out, HB3.out, HF3.out, HO3.out, HT3.out⟩
              case round =>
                obtain ⟨j, hj, rfl, hl1, hb1, hf1, ho1, ht1⟩ := hrel
                have HL4 := hide hl1
                have HB4 := hide hb1
                have HF4 := hide hf1
                have HO4 := hide ho1
                have HT4 := hide ht1
                clear hl1 hb1 hf1 ho1 ht1 HL3 HB3 HF3 HO3 HT3
                have cA := HL4.out.cell hlt
                have cG := gs_cell HO4.out (HZ1.out i hlt) hlt
                rw [HEH.out] at cG
                have hH := HF4.out.gone i hlt
                rw [HEH.out] at hH
                by_cases hjn : j < n i + 64
                · have cH1 := mark_cell hH hjn (marks_Tat hjn)
                  have HAT := hide (HT4.out i j (.inr (.inl ⟨hlt, hjn⟩)))
                  have HCC : Hid (∀ W, Below wr.heap.size wr W → W.cell? ⟨L, i, none⟩ = some (.slice (A i) (n i) (c i)) ∧ W.cell? ⟨G, i, none⟩ = some (.slice (some ⟨h, 0, none⟩) (n i + 64) cH) ∧ W.cell? ⟨h, j, none⟩ = some (T i j).sl) := hide (fun W hb => by
                    have hH2 := FZ.below hH hb
                    exact ⟨Lst.cell (FZ.below HL4.out hb) hlt, by have := gs_cell (FZ.below HO4.out hb) (HZ1.out i hlt) hlt; rw [HEH.out] at this; exact this, mark_cell hH2 hjn (marks_Tat hjn)⟩)
                  have i0 : (0 : Int) ≤ (i : Int) := by omega
                  have i1' : (i : Int) < (k : Int) := by omega
                  have j0 : (0 : Int) ≤ (j : Int) := by omega
                  have j1 : (j : Int) < ((n i : Int) + 64) := by omega
                  clear hH
                  by_cases hjk : j < n i
                  · obtain ⟨g, hg⟩ := row_some (HF4.out.rows i hlt) (by omega)
                    rw [hg] at cA HCC
                    have HCV : Hid (∀ W, Below wr.heap.size wr W → W.cell? ⟨g, j, none⟩ = some (T i j).sl) := hide (fun W hb => by
                      have hV := FZ.below (HF4.out.rows i hlt) hb
                      unfold rowV at hV
                      rw [hg] at hV
                      exact mark_cell hV hjk (marks_Tat hjk))
                    have j2 : (j : Int) < (n i : Int) := by omega
                    go_wp2_with fail
                    rename_i K hK
                    refine wp_tells7 (by kernel_rfl) (T24t L cL G h cH k (n i) (c i) i j g (some ⟨g, 0, none⟩) (T i j).sl true) (fun _ W => Below wr.heap.size wr W) (by kernel_rfl) (by kernel_rfl) ?_ (fun _ _ _ _ _ _ h => h) (by kernel_rfl) ?_ (Below.refl _ _).drew ?_ ?_
                    · intro q o q2 c2 ho hgd
                      have hi : q < 35 := (Array.getElem?_eq_some_iff.1 ho).1
                      have hi' : q = 0 ∨ q = 1 ∨ q = 2 ∨ q = 3 ∨ q = 4 ∨ q = 5 ∨ q = 6 ∨ q = 7 ∨ q = 8 ∨ q = 9 ∨ q = 10 ∨ q = 11 ∨ q = 12 ∨ q = 13 ∨ q = 14 ∨ q = 15 ∨ q = 16 ∨ q = 17 ∨ q = 18 ∨ q = 19 ∨ q = 20 ∨ q = 21 ∨ q = 22 ∨ q = 23 ∨ q = 24 ∨ q = 25 ∨ q = 26 ∨ q = 27 ∨ q = 28 ∨ q = 29 ∨ q = 30 ∨ q = 31 ∨ q = 32 ∨ q = 33 ∨ q = 34 := by omega
                      rcases hi' with rfl | rfl | rfl | rfl | rfl | rfl | rfl | rfl | rfl | rfl | rfl | rfl | rfl | rfl | rfl | rfl | rfl | rfl | rfl | rfl | rfl | rfl | rfl | rfl | rfl | rfl | rfl | rfl | rfl | rfl | rfl | rfl | rfl | rfl | rfl
                      all_goals
                        cases ho
                        first
                          | (cases hgd; exact ⟨by kernel_rfl, .inl (fun σ W h => h)⟩)
                          | (cases hgd; exact ⟨by kernel_rfl, .inr ⟨fun σ W h => h, fun σ W => trivial⟩⟩)
                          | cases hgd
                    · intro q oj σ σ' W hj h hs
                      have h0 := hs q (.inl rfl)
                      have hi : q < 35 := (Array.getElem?_eq_some_iff.1 hj).1
                      have hi' : q = 0 ∨ q = 1 ∨ q = 2 ∨ q = 3 ∨ q = 4 ∨ q = 5 ∨ q = 6 ∨ q = 7 ∨ q = 8 ∨ q = 9 ∨ q = 10 ∨ q = 11 ∨ q = 12 ∨ q = 13 ∨ q = 14 ∨ q = 15 ∨ q = 16 ∨ q = 17 ∨ q = 18 ∨ q = 19 ∨ q = 20 ∨ q = 21 ∨ q = 22 ∨ q = 23 ∨ q = 24 ∨ q = 25 ∨ q = 26 ∨ q = 27 ∨ q = 28 ∨ q = 29 ∨ q = 30 ∨ q = 31 ∨ q = 32 ∨ q = 33 ∨ q = 34 := by omega
                      rcases hi' with rfl | rfl | rfl | rfl | rfl | rfl | rfl | rfl | rfl | rfl | rfl | rfl | rfl | rfl | rfl | rfl | rfl | rfl | rfl | rfl | rfl | rfl | rfl | rfl | rfl | rfl | rfl | rfl | rfl | rfl | rfl | rfl | rfl | rfl | rfl
                      all_goals first
                        | (simp only [T24t] at h ⊢; rw [h0]; exact h)
                        | trivial
                    · intro q o ho M a W hi hG hold hT hh hw
                      have hi2 : q < 35 := (Array.getElem?_eq_some_iff.1 ho).1
                      have hi' : q = 0 ∨ q = 1 ∨ q = 2 ∨ q = 3 ∨ q = 4 ∨ q = 5 ∨ q = 6 ∨ q = 7 ∨ q = 8 ∨ q = 9 ∨ q = 10 ∨ q = 11 ∨ q = 12 ∨ q = 13 ∨ q = 14 ∨ q = 15 ∨ q = 16 ∨ q = 17 ∨ q = 18 ∨ q = 19 ∨ q = 20 ∨ q = 21 ∨ q = 22 ∨ q = 23 ∨ q = 24 ∨ q = 25 ∨ q = 26 ∨ q = 27 ∨ q = 28 ∨ q = 29 ∨ q = 30 ∨ q = 31 ∨ q = 32 ∨ q = 33 ∨ q = 34 := by omega
                      rcases hi' with rfl | rfl | rfl | rfl | rfl | rfl | rfl | rfl | rfl | rfl | rfl | rfl | rfl | rfl | rfl | rfl | rfl | rfl | rfl | rfl | rfl | rfl | rfl | rfl | rfl | rfl | rfl | rfl | rfl | rfl | rfl | rfl | rfl | rfl | rfl
                      · cases ho
                        refine step2_told (.slice (some ⟨G, 0, none⟩) k k) ?_ (by decide) hG hT rfl
                        have e0 : a.eval (.tmp 5) = .slice (some ⟨G, 0, none⟩) k k := hold 5 (by kernel_rfl)
                        generalize a.eval = ev at e0 ⊢
                        simp [execOp, go_sem, e0]
                      · cases ho
                        refine step2_told (.int .i64 i) ?_ (by decide) hG hT rfl
                        have e0 : a.eval (.tmp 9) = .int .i64 i := hold 9 (by kernel_rfl)
                        generalize a.eval = ev at e0 ⊢
                        simp [execOp, go_sem, e0]
                      · cases ho
                        refine step2_told (.pointer (some ⟨G, i, none⟩)) ?_ (by decide) hG hT rfl
                        have e0 : a.eval (.tmp 88) = .slice (some ⟨G, 0, none⟩) k k := hT 0 (hh 0 rfl)
                        have e1 : a.eval (.tmp 89) = .int .i64 i := hT 1 (hh 1 rfl)
                        generalize a.eval = ev at e0 e1 ⊢
                        simp [execOp, go_sem, e0, e1, i0, i1']
                      · cases ho
                        have x0 := (HCC.out W hG).2.1
                        refine step2_told (.slice (some ⟨h, 0, none⟩) (n i + 64) cH) ?_ (by decide) hG hT rfl
                        have e0 : a.eval (.tmp 90) = .pointer (some ⟨G, i, none⟩) := hT 2 (hh 2 rfl)
                        generalize a.eval = ev at e0 ⊢
                        simp [execOp, go_sem, e0, x0]
                      · cases ho
                        refine step2_told (.int .i64 j) ?_ (by decide) hG hT rfl
                        have e0 : a.eval (.tmp 10) = .int .i64 j := hold 10 (by kernel_rfl)
                        generalize a.eval = ev at e0 ⊢
                        simp [execOp, go_sem, e0]
                      · cases ho
                        refine step2_told (.pointer (some ⟨h, j, none⟩)) ?_ (by decide) hG hT rfl
                        have e0 : a.eval (.tmp 91) = .slice (some ⟨h, 0, none⟩) (n i + 64) cH := hT 3 (hh 3 rfl)
                        have e1 : a.eval (.tmp 92) = .int .i64 j := hT 4 (hh 4 rfl)
                        generalize a.eval = ev at e0 e1 ⊢
                        simp [execOp, go_sem, e0, e1, j0, j1]
                      · cases ho
                        have x0 := (HCC.out W hG).2.2
                        refine step2_told ((T i j).sl) ?_ (by decide) hG hT rfl
                        have e0 : a.eval (.tmp 93) = .pointer (some ⟨h, j, none⟩) := hT 5 (hh 5 rfl)
                        generalize a.eval = ev at e0 ⊢
                        simp [execOp, go_sem, e0, x0]
                      · cases ho
                        refine step2_told (.int .i64 i) ?_ (by decide) hG hT rfl
                        have e0 : a.eval (.tmp 9) = .int .i64 i := hold 9 (by kernel_rfl)
                        generalize a.eval = ev at e0 ⊢
                        simp [execOp, go_sem, e0]
                      · cases ho
                        refine step2_told (.int .i64 j) ?_ (by decide) hG hT rfl
                        have e0 : a.eval (.tmp 10) = .int .i64 j := hold 10 (by kernel_rfl)
                        generalize a.eval = ev at e0 ⊢
                        simp [execOp, go_sem, e0]
                      · cases ho
                        have e0 : a.eval (.tmp 95) = .int .i64 i := hT 7 (hh 7 rfl)
                        have e1 : a.eval (.tmp 96) = .int .i64 j := hT 8 (hh 8 rfl)
                        refine step2_called (f := 101) (args := #[.int .i64 i, .int .i64 j]) (R := fun v W' => ∃ rg rc, v = .slice (some ⟨rg, 0, none⟩) 8 rc ∧ (mr i j rg rc).At W' ∧ Below W.heap.size W W') ?_ (by decide) ((markRow_is i j W (by omega) (by omega)).mono ?_) ?_
                        · have ef : a.eval (.func 101) = .func (.func 101) #[] #[] := rfl
                          generalize a.eval = ev at e0 e1 ef ⊢
                          simp [execOp, go_sem, e0, e1, ef, hEM]
                        · rintro e W' ⟨rg, rc, h1, h2, h3⟩
                          exact ⟨_, h1, rg, rc, rfl, h2, h3⟩
                        · rintro u W' ⟨rg, rc, rfl, h2, h3⟩
                          exact ⟨hG.trans (h3.mono hG.size), fun q hq => (hT q hq).to (fun rg rc h => h.below h3), rg, rc, rfl, h2⟩
                      · cases ho
                        have e0 : a.eval (.tmp 94) = (T i j).sl := hT 6 (hh 6 rfl)
                        obtain ⟨rg, rc, e1, hr⟩ : ∃ rg rc, a.eval (.tmp 97) = .slice (some ⟨rg, 0, none⟩) 8 rc ∧ (mr i j rg rc).At W := hT 9 (hh 9 rfl)
                        have hsm := same_marks (HAT.out.1.below hG) hr (HAT.out.2) (by rw [HAT.out.2, mtext_len]; decide)
                        rw [mr_sl] at hsm
                        refine step2_called (f := 19) (args := #[(T i j).sl, .slice (some ⟨rg, 0, none⟩) 8 rc]) (R := fun v W' => v = .bool true ∧ Below W.heap.size W W') ?_ (by decide) (hsm.mono ?_) ?_
                        · have ef : a.eval (.func 19) = .func (.func 19) #[] #[] := rfl
                          generalize a.eval = ev at e0 e1 ef ⊢
                          simp [execOp, go_sem, e0, e1, ef, hES]
                        · rintro e W' ⟨h1, h3⟩
                          exact ⟨_, h1, rfl, h3⟩
                        · rintro u W' ⟨rfl, h3⟩
                          exact ⟨hG.trans (h3.mono hG.size), fun q hq => (hT q hq).to (fun rg rc h => h.below h3), rfl⟩
                      · cases ho
                        refine step2_told (.bool false) ?_ (by decide) hG hT rfl
                        have e0 : a.eval (.tmp 98) = .bool true := hT 10 (hh 10 rfl)
                        generalize a.eval = ev at e0 ⊢
                        simp [execOp, go_sem, e0]
                      · cases ho
                        refine step2_told (.bool false) ?_ (by decide) hG hT rfl
                        have e0 : a.eval (.tmp 99) = .bool false := hT 11 (hh 11 rfl)
                        generalize a.eval = ev at e0 ⊢
                        simp [execOp, go_sem, e0]
                      · cases ho
                        refine step2_told (.int .i64 j) ?_ (by decide) hG hT rfl
                        have e0 : a.eval (.tmp 10) = .int .i64 j := hold 10 (by kernel_rfl)
                        generalize a.eval = ev at e0 ⊢
                        simp [execOp, go_sem, e0]
                      · cases ho
                        refine step2_told (.slice (some ⟨L, 0, none⟩) k cL) ?_ (by decide) hG hT rfl
                        have e0 : a.eval (.tmp 0) = .slice (some ⟨L, 0, none⟩) k cL := hold 0 (by kernel_rfl)
                        generalize a.eval = ev at e0 ⊢
                        simp [execOp, go_sem, e0]
                      · cases ho
                        refine step2_told (.int .i64 i) ?_ (by decide) hG hT rfl
                        have e0 : a.eval (.tmp 9) = .int .i64 i := hold 9 (by kernel_rfl)
                        generalize a.eval = ev at e0 ⊢
                        simp [execOp, go_sem, e0]
                      · cases ho
                        refine step2_told (.pointer (some ⟨L, i, none⟩)) ?_ (by decide) hG hT rfl
                        have e0 : a.eval (.tmp 102) = .slice (some ⟨L, 0, none⟩) k cL := hT 14 (hh 14 rfl)
                        have e1 : a.eval (.tmp 103) = .int .i64 i := hT 15 (hh 15 rfl)
                        generalize a.eval = ev at e0 e1 ⊢
                        simp [execOp, go_sem, e0, e1, i0, i1']
                      · cases ho
                        have x0 := (HCC.out W hG).1
                        refine step2_told (.slice (some ⟨g, 0, none⟩) (n i) (c i)) ?_ (by decide) hG hT rfl
                        have e0 : a.eval (.tmp 104) = .pointer (some ⟨L, i, none⟩) := hT 16 (hh 16 rfl)
                        generalize a.eval = ev at e0 ⊢
                        simp [execOp, go_sem, e0, x0]
                      · cases ho
                        refine step2_told (.int .i64 (n i)) ?_ (by decide) hG hT rfl
                        have e0 : a.eval (.tmp 105) = .slice (some ⟨g, 0, none⟩) (n i) (c i) := hT 17 (hh 17 rfl)
                        generalize a.eval = ev at e0 ⊢
                        simp [execOp, go_sem, e0]
                      · cases ho
                        refine step2_told (.bool true) ?_ (by decide) hG hT rfl
                        have e0 : a.eval (.tmp 101) = .int .i64 j := hT 13 (hh 13 rfl)
                        have e1 : a.eval (.tmp 106) = .int .i64 (n i) := hT 18 (hh 18 rfl)
                        generalize a.eval = ev at e0 e1 ⊢
                        simp [execOp, go_sem, e0, e1, hjk]
                      · cases ho
                        refine step2_told (.bool true) ?_ (by decide) hG hT rfl
                        have e0 : a.eval (.tmp 107) = .bool true := hT 19 (hh 19 rfl)
                        generalize a.eval = ev at e0 ⊢
                        simp [execOp, go_sem, e0]
                      · cases ho
                        refine step2_told (.slice (some ⟨L, 0, none⟩) k cL) ?_ (by decide) hG hT rfl
                        have e0 : a.eval (.tmp 0) = .slice (some ⟨L, 0, none⟩) k cL := hold 0 (by kernel_rfl)
                        generalize a.eval = ev at e0 ⊢
                        simp [execOp, go_sem, e0]
                      · cases ho
                        refine step2_told (.int .i64 i) ?_ (by decide) hG hT rfl
                        have e0 : a.eval (.tmp 9) = .int .i64 i := hold 9 (by kernel_rfl)
                        generalize a.eval = ev at e0 ⊢
                        simp [execOp, go_sem, e0]
                      · cases ho
                        refine step2_told (.pointer (some ⟨L, i, none⟩)) ?_ (by decide) hG hT rfl
                        have e0 : a.eval (.tmp 109) = .slice (some ⟨L, 0, none⟩) k cL := hT 21 (hh 21 rfl)
                        have e1 : a.eval (.tmp 110) = .int .i64 i := hT 22 (hh 22 rfl)
                        generalize a.eval = ev at e0 e1 ⊢
                        simp [execOp, go_sem, e0, e1, i0, i1']
                      · cases ho
                        have x0 := (HCC.out W hG).1
                        refine step2_told (.slice (some ⟨g, 0, none⟩) (n i) (c i)) ?_ (by decide) hG hT rfl
                        have e0 : a.eval (.tmp 111) = .pointer (some ⟨L, i, none⟩) := hT 23 (hh 23 rfl)
                        generalize a.eval = ev at e0 ⊢
                        simp [execOp, go_sem, e0, x0]
                      · cases ho
                        refine step2_told (.int .i64 j) ?_ (by decide) hG hT rfl
                        have e0 : a.eval (.tmp 10) = .int .i64 j := hold 10 (by kernel_rfl)
                        generalize a.eval = ev at e0 ⊢
                        simp [execOp, go_sem, e0]
                      · cases ho
                        refine step2_told (.pointer (some ⟨g, j, none⟩)) ?_ (by decide) hG hT rfl
                        have e0 : a.eval (.tmp 112) = .slice (some ⟨g, 0, none⟩) (n i) (c i) := hT 24 (hh 24 rfl)
                        have e1 : a.eval (.tmp 113) = .int .i64 j := hT 25 (hh 25 rfl)
                        generalize a.eval = ev at e0 e1 ⊢
                        simp [execOp, go_sem, e0, e1, j0, j2]
                      · cases ho
                        have x0 := HCV.out W hG
                        refine step2_told ((T i j).sl) ?_ (by decide) hG hT rfl
                        have e0 : a.eval (.tmp 114) = .pointer (some ⟨g, j, none⟩) := hT 26 (hh 26 rfl)
                        generalize a.eval = ev at e0 ⊢
                        simp [execOp, go_sem, e0, x0]
                      · cases ho
                        refine step2_told (.int .i64 i) ?_ (by decide) hG hT rfl
                        have e0 : a.eval (.tmp 9) = .int .i64 i := hold 9 (by kernel_rfl)
                        generalize a.eval = ev at e0 ⊢
                        simp [execOp, go_sem, e0]
                      · cases ho
                        refine step2_told (.int .i64 j) ?_ (by decide) hG hT rfl
                        have e0 : a.eval (.tmp 10) = .int .i64 j := hold 10 (by kernel_rfl)
                        generalize a.eval = ev at e0 ⊢
                        simp [execOp, go_sem, e0]
                      · cases ho
                        have e0 : a.eval (.tmp 116) = .int .i64 i := hT 28 (hh 28 rfl)
                        have e1 : a.eval (.tmp 117) = .int .i64 j := hT 29 (hh 29 rfl)
                        refine step2_called (f := 101) (args := #[.int .i64 i, .int .i64 j]) (R := fun v W' => ∃ rg rc, v = .slice (some ⟨rg, 0, none⟩) 8 rc ∧ (mr i j rg rc).At W' ∧ Below W.heap.size W W') ?_ (by decide) ((markRow_is i j W (by omega) (by omega)).mono ?_) ?_
                        · have ef : a.eval (.func 101) = .func (.func 101) #[] #[] := rfl
                          generalize a.eval = ev at e0 e1 ef ⊢
                          simp [execOp, go_sem, e0, e1, ef, hEM]
                        · rintro e W' ⟨rg, rc, h1, h2, h3⟩
                          exact ⟨_, h1, rg, rc, rfl, h2, h3⟩
                        · rintro u W' ⟨rg, rc, rfl, h2, h3⟩
                          exact ⟨hG.trans (h3.mono hG.size), fun q hq => (hT q hq).to (fun rg rc h => h.below h3), rg, rc, rfl, h2⟩
                      · cases ho
                        have e0 : a.eval (.tmp 115) = (T i j).sl := hT 27 (hh 27 rfl)
                        obtain ⟨rg, rc, e1, hr⟩ : ∃ rg rc, a.eval (.tmp 118) = .slice (some ⟨rg, 0, none⟩) 8 rc ∧ (mr i j rg rc).At W := hT 30 (hh 30 rfl)
                        have hsm := same_marks (HAT.out.1.below hG) hr (HAT.out.2) (by rw [HAT.out.2, mtext_len]; decide)
                        rw [mr_sl] at hsm
                        refine step2_called (f := 19) (args := #[(T i j).sl, .slice (some ⟨rg, 0, none⟩) 8 rc]) (R := fun v W' => v = .bool true ∧ Below W.heap.size W W') ?_ (by decide) (hsm.mono ?_) ?_
                        · have ef : a.eval (.func 19) = .func (.func 19) #[] #[] := rfl
                          generalize a.eval = ev at e0 e1 ef ⊢
                          simp [execOp, go_sem, e0, e1, ef, hES]
                        · rintro e W' ⟨h1, h3⟩
                          exact ⟨_, h1, rfl, h3⟩
                        · rintro u W' ⟨rfl, h3⟩
                          exact ⟨hG.trans (h3.mono hG.size), fun q hq => (hT q hq).to (fun rg rc h => h.below h3), rfl⟩
                      · cases ho
                        refine step2_told (.bool false) ?_ (by decide) hG hT rfl
                        have e0 : a.eval (.tmp 119) = .bool true := hT 31 (hh 31 rfl)
                        generalize a.eval = ev at e0 ⊢
                        simp [execOp, go_sem, e0]
                      · cases ho
                        refine step2_told (.bool false) ?_ (by decide) hG hT rfl
                        have e0 : a.eval (.tmp 108) = .bool true := hT 20 (hh 20 rfl)
                        have e1 : a.eval (.tmp 120) = .bool false := hT 32 (hh 32 rfl)
                        generalize a.eval = ev at e0 e1 ⊢
                        simp [execOp, go_sem, e0, e1]
                      · cases ho
                        refine step2_told (.bool false) ?_ (by decide) hG hT rfl
                        have e0 : a.eval (.tmp 100) = .bool false := hT 12 (hh 12 rfl)
                        have e1 : a.eval (.tmp 121) = .bool false := hT 33 (hh 33 rfl)
                        generalize a.eval = ev at e0 e1 ⊢
                        simp [execOp, go_sem, e0, e1]
                    · intro a W hd hs hold hT hG
                      have eZ : a.tmps.getD 122 undef = .bool false := hT 34 (by decide)
                      obtain ⟨f, hf, ha⟩ := act_puts [88, 89, 90, 91, 92, 93, 94, 95, 96, 97, 98, 99, 100, 101, 102, 103, 104, 105, 106, 107, 108, 109, 110, 111, 112, 113, 114, 115, 116, 117, 118, 119, 120, 121, 122] (fun t ht => by
                        by_cases h : t ∈ [88, 89, 90, 91, 92, 93, 94, 95, 96, 97, 98, 99, 100, 101, 102, 103, 104, 105, 106, 107, 108, 109, 110, 111, 112, 113, 114, 115, 116, 117, 118, 119, 120, 121, 122]
                        · exact h
                        · exfalso
                          simp [unwritten] at ht
                          simp only [List.mem_cons, not_or] at h
                          obtain ⟨h0, h1, h2, h3, h4, h5, h6, h7, h8, h9, h10, h11, h12, h13, h14, h15, h16, h17, h18, h19, h20, h21, h22, h23, h24, h25, h26, h27, h28, h29, h30, h31, h32, h33, h34, _⟩ := h
                          exact absurd (ht (fun e => h0 e.symm) (fun e => h1 e.symm) (fun e => h2 e.symm) (fun e => h3 e.symm) (fun e => h4 e.symm) (fun e => h5 e.symm) (fun e => h6 e.symm) (fun e => h7 e.symm) (fun e => h8 e.symm) (fun e => h9 e.symm) (fun e => h10 e.symm) (fun e => h11 e.symm) (fun e => h12 e.symm) (fun e => h13 e.symm) (fun e => h14 e.symm) (fun e => h15 e.symm) (fun e => h16 e.symm) (fun e => h17 e.symm) (fun e => h18 e.symm) (fun e => h19 e.symm) (fun e => h20 e.symm) (fun e => h21 e.symm) (fun e => h22 e.symm) (fun e => h23 e.symm) (fun e => h24 e.symm) (fun e => h25 e.symm) (fun e => h26 e.symm) (fun e => h27 e.symm) (fun e => h28 e.symm) (fun e => h29 e.symm) (fun e => h30 e.symm) (fun e => h31 e.symm) (fun e => h32 e.symm) (fun e => h33 e.symm)) (fun e => h34 e.symm)) (fun t ht => by
                        have hsz : t < 193 := by
                          simp only [List.mem_cons, List.mem_nil_iff, or_false] at ht
                          omega
                        exact hsz) hd hs hold
                      rw [← hf 122] at eZ
                      have HBW := hide hG
                      subst ha
                      clear hd hs hold hT hf hG
                      show K _ _
                      refine hK _ _ ?_
                      simp only [List.foldl_cons, List.foldl_nil, eZ]
                      generalize f 88 = u88
                      generalize f 89 = u89
                      generalize f 90 = u90
                      generalize f 91 = u91
                      generalize f 92 = u92
                      generalize f 93 = u93
                      generalize f 94 = u94
                      generalize f 95 = u95
                      generalize f 96 = u96
                      generalize f 97 = u97
                      generalize f 98 = u98
                      generalize f 99 = u99
                      generalize f 100 = u100
                      generalize f 101 = u101
                      generalize f 102 = u102
                      generalize f 103 = u103
                      generalize f 104 = u104
                      generalize f 105 = u105
                      generalize f 106 = u106
                      generalize f 107 = u107
                      generalize f 108 = u108
                      generalize f 109 = u109
                      generalize f 110 = u110
                      generalize f 111 = u111
                      generalize f 112 = u112
                      generalize f 113 = u113
                      generalize f 114 = u114
                      generalize f 115 = u115
                      generalize f 116 = u116
                      generalize f 117 = u117
                      generalize f 118 = u118
                      generalize f 119 = u119
                      generalize f 120 = u120
                      generalize f 121 = u121
                      clear hK eZ
                      go_simp
                      go_simp
                      have HL5 : Hid (Lst W 63 L cL k A n c) := hide (FZ.below HL4.out HBW.out)
                      have HB5 := hide (HB4.out.later HBW.out)
                      have HF5 := hide (HF4.out.below HBW.out)
                      have HO5 := hide (FZ.below HO4.out HBW.out)
                      have HT5 := hide (HT4.out.below HBW.out)
                      clear HL4 HB4 HF4 HO4 HT4 HCC HBW
                      go_wp2
                      go_roundw
                      case rel => exact ⟨j + 1, by omega, by go_num, HL5.out, HB5.out, HF5.out, HO5.out, HT5.out⟩
                      case measure => simp [intOf]; omega
                  · go_wp2_with fail
                    rename_i K hK
                    refine wp_tells7 (by kernel_rfl) (T24f L cL G h cH k (n i) (c i) i j 0 (A i) (T i j).sl false) (fun _ W => Below wr.heap.size wr W) (by kernel_rfl) (by kernel_rfl) ?_ (fun _ _ _ _ _ _ h => h) (by kernel_rfl) ?_ (Below.refl _ _).drew ?_ ?_
                    · intro q o q2 c2 ho hgd
                      have hi : q < 35 := (Array.getElem?_eq_some_iff.1 ho).1
                      have hi' : q = 0 ∨ q = 1 ∨ q = 2 ∨ q = 3 ∨ q = 4 ∨ q = 5 ∨ q = 6 ∨ q = 7 ∨ q = 8 ∨ q = 9 ∨ q = 10 ∨ q = 11 ∨ q = 12 ∨ q = 13 ∨ q = 14 ∨ q = 15 ∨ q = 16 ∨ q = 17 ∨ q = 18 ∨ q = 19 ∨ q = 20 ∨ q = 21 ∨ q = 22 ∨ q = 23 ∨ q = 24 ∨ q = 25 ∨ q = 26 ∨ q = 27 ∨ q = 28 ∨ q = 29 ∨ q = 30 ∨ q = 31 ∨ q = 32 ∨ q = 33 ∨ q = 34 := by omega
                      rcases hi' with rfl | rfl | rfl | rfl | rfl | rfl | rfl | rfl | rfl | rfl | rfl | rfl | rfl | rfl | rfl | rfl | rfl | rfl | rfl | rfl | rfl | rfl | rfl | rfl | rfl | rfl | rfl | rfl | rfl | rfl | rfl | rfl | rfl | rfl | rfl
                      all_goals
                        cases ho
                        first
                          | (cases hgd; exact ⟨by kernel_rfl, .inl (fun σ W h => h)⟩)
                          | (cases hgd; exact ⟨by kernel_rfl, .inr ⟨fun σ W h => h, fun σ W => trivial⟩⟩)
                          | cases hgd
                    · intro q oj σ σ' W hj h hs
                      have h0 := hs q (.inl rfl)
                      have hi : q < 35 := (Array.getElem?_eq_some_iff.1 hj).1
                      have hi' : q = 0 ∨ q = 1 ∨ q = 2 ∨ q = 3 ∨ q = 4 ∨ q = 5 ∨ q = 6 ∨ q = 7 ∨ q = 8 ∨ q = 9 ∨ q = 10 ∨ q = 11 ∨ q = 12 ∨ q = 13 ∨ q = 14 ∨ q = 15 ∨ q = 16 ∨ q = 17 ∨ q = 18 ∨ q = 19 ∨ q = 20 ∨ q = 21 ∨ q = 22 ∨ q = 23 ∨ q = 24 ∨ q = 25 ∨ q = 26 ∨ q = 27 ∨ q = 28 ∨ q = 29 ∨ q = 30 ∨ q = 31 ∨ q = 32 ∨ q = 33 ∨ q = 34 := by omega
                      rcases hi' with rfl | rfl | rfl | rfl | rfl | rfl | rfl | rfl | rfl | rfl | rfl | rfl | rfl | rfl | rfl | rfl | rfl | rfl | rfl | rfl | rfl | rfl | rfl | rfl | rfl | rfl | rfl | rfl | rfl | rfl | rfl | rfl | rfl | rfl | rfl
                      all_goals first
                        | (simp only [T24f] at h ⊢; rw [h0]; exact h)
                        | trivial
                    · intro q o ho M a W hi hG hold hT hh hw
                      have hi2 : q < 35 := (Array.getElem?_eq_some_iff.1 ho).1
                      have hi' : q = 0 ∨ q = 1 ∨ q = 2 ∨ q = 3 ∨ q = 4 ∨ q = 5 ∨ q = 6 ∨ q = 7 ∨ q = 8 ∨ q = 9 ∨ q = 10 ∨ q = 11 ∨ q = 12 ∨ q = 13 ∨ q = 14 ∨ q = 15 ∨ q = 16 ∨ q = 17 ∨ q = 18 ∨ q = 19 ∨ q = 20 ∨ q = 21 ∨ q = 22 ∨ q = 23 ∨ q = 24 ∨ q = 25 ∨ q = 26 ∨ q = 27 ∨ q = 28 ∨ q = 29 ∨ q = 30 ∨ q = 31 ∨ q = 32 ∨ q = 33 ∨ q = 34 := by omega
                      rcases hi' with rfl | rfl | rfl | rfl | rfl | rfl | rfl | rfl | rfl | rfl | rfl | rfl | rfl | rfl | rfl | rfl | rfl | rfl | rfl | rfl | rfl | rfl | rfl | rfl | rfl | rfl | rfl | rfl | rfl | rfl | rfl | rfl | rfl | rfl | rfl
                      · cases ho
                        refine step2_told (.slice (some ⟨G, 0, none⟩) k k) ?_ (by decide) hG hT rfl
                        have e0 : a.eval (.tmp 5) = .slice (some ⟨G, 0, none⟩) k k := hold 5 (by kernel_rfl)
                        generalize a.eval = ev at e0 ⊢
                        simp [execOp, go_sem, e0]
                      · cases ho
                        refine step2_told (.int .i64 i) ?_ (by decide) hG hT rfl
                        have e0 : a.eval (.tmp 9) = .int .i64 i := hold 9 (by kernel_rfl)
                        generalize a.eval = ev at e0 ⊢
                        simp [execOp, go_sem, e0]
                      · cases ho
                        refine step2_told (.pointer (some ⟨G, i, none⟩)) ?_ (by decide) hG hT rfl
                        have e0 : a.eval (.tmp 88) = .slice (some ⟨G, 0, none⟩) k k := hT 0 (hh 0 rfl)
                        have e1 : a.eval (.tmp 89) = .int .i64 i := hT 1 (hh 1 rfl)
                        generalize a.eval = ev at e0 e1 ⊢
                        simp [execOp, go_sem, e0, e1, i0, i1']
                      · cases ho
                        have x0 := (HCC.out W hG).2.1
                        refine step2_told (.slice (some ⟨h, 0, none⟩) (n i + 64) cH) ?_ (by decide) hG hT rfl
                        have e0 : a.eval (.tmp 90) = .pointer (some ⟨G, i, none⟩) := hT 2 (hh 2 rfl)
                        generalize a.eval = ev at e0 ⊢
                        simp [execOp, go_sem, e0, x0]
                      · cases ho
                        refine step2_told (.int .i64 j) ?_ (by decide) hG hT rfl
                        have e0 : a.eval (.tmp 10) = .int .i64 j := hold 10 (by kernel_rfl)
                        generalize a.eval = ev at e0 ⊢
                        simp [execOp, go_sem, e0]
                      · cases ho
                        refine step2_told (.pointer (some ⟨h, j, none⟩)) ?_ (by decide) hG hT rfl
                        have e0 : a.eval (.tmp 91) = .slice (some ⟨h, 0, none⟩) (n i + 64) cH := hT 3 (hh 3 rfl)
                        have e1 : a.eval (.tmp 92) = .int .i64 j := hT 4 (hh 4 rfl)
                        generalize a.eval = ev at e0 e1 ⊢
                        simp [execOp, go_sem, e0, e1, j0, j1]
                      · cases ho
                        have x0 := (HCC.out W hG).2.2
                        refine step2_told ((T i j).sl) ?_ (by decide) hG hT rfl
                        have e0 : a.eval (.tmp 93) = .pointer (some ⟨h, j, none⟩) := hT 5 (hh 5 rfl)
                        generalize a.eval = ev at e0 ⊢
                        simp [execOp, go_sem, e0, x0]
                      · cases ho
                        refine step2_told (.int .i64 i) ?_ (by decide) hG hT rfl
                        have e0 : a.eval (.tmp 9) = .int .i64 i := hold 9 (by kernel_rfl)
                        generalize a.eval = ev at e0 ⊢
                        simp [execOp, go_sem, e0]
                      · cases ho
                        refine step2_told (.int .i64 j) ?_ (by decide) hG hT rfl
                        have e0 : a.eval (.tmp 10) = .int .i64 j := hold 10 (by kernel_rfl)
                        generalize a.eval = ev at e0 ⊢
                        simp [execOp, go_sem, e0]
                      · cases ho
                        have e0 : a.eval (.tmp 95) = .int .i64 i := hT 7 (hh 7 rfl)
                        have e1 : a.eval (.tmp 96) = .int .i64 j := hT 8 (hh 8 rfl)
                        refine step2_called (f := 101) (args := #[.int .i64 i, .int .i64 j]) (R := fun v W' => ∃ rg rc, v = .slice (some ⟨rg, 0, none⟩) 8 rc ∧ (mr i j rg rc).At W' ∧ Below W.heap.size W W') ?_ (by decide) ((markRow_is i j W (by omega) (by omega)).mono ?_) ?_
                        · have ef : a.eval (.func 101) = .func (.func 101) #[] #[] := rfl
                          generalize a.eval = ev at e0 e1 ef ⊢
                          simp [execOp, go_sem, e0, e1, ef, hEM]
                        · rintro e W' ⟨rg, rc, h1, h2, h3⟩
                          exact ⟨_, h1, rg, rc, rfl, h2, h3⟩
                        · rintro u W' ⟨rg, rc, rfl, h2, h3⟩
                          exact ⟨hG.trans (h3.mono hG.size), fun q hq => (hT q hq).to (fun rg rc h => h.below h3), rg, rc, rfl, h2⟩
                      · cases ho
                        have e0 : a.eval (.tmp 94) = (T i j).sl := hT 6 (hh 6 rfl)
                        obtain ⟨rg, rc, e1, hr⟩ : ∃ rg rc, a.eval (.tmp 97) = .slice (some ⟨rg, 0, none⟩) 8 rc ∧ (mr i j rg rc).At W := hT 9 (hh 9 rfl)
                        have hsm := same_marks (HAT.out.1.below hG) hr (HAT.out.2) (by rw [HAT.out.2, mtext_len]; decide)
                        rw [mr_sl] at hsm
                        refine step2_called (f := 19) (args := #[(T i j).sl, .slice (some ⟨rg, 0, none⟩) 8 rc]) (R := fun v W' => v = .bool true ∧ Below W.heap.size W W') ?_ (by decide) (hsm.mono ?_) ?_
                        · have ef : a.eval (.func 19) = .func (.func 19) #[] #[] := rfl
                          generalize a.eval = ev at e0 e1 ef ⊢
                          simp [execOp, go_sem, e0, e1, ef, hES]
                        · rintro e W' ⟨h1, h3⟩
                          exact ⟨_, h1, rfl, h3⟩
                        · rintro u W' ⟨rfl, h3⟩
                          exact ⟨hG.trans (h3.mono hG.size), fun q hq => (hT q hq).to (fun rg rc h => h.below h3), rfl⟩
                      · cases ho
                        refine step2_told (.bool false) ?_ (by decide) hG hT rfl
                        have e0 : a.eval (.tmp 98) = .bool true := hT 10 (hh 10 rfl)
                        generalize a.eval = ev at e0 ⊢
                        simp [execOp, go_sem, e0]
                      · cases ho
                        refine step2_told (.bool false) ?_ (by decide) hG hT rfl
                        have e0 : a.eval (.tmp 99) = .bool false := hT 11 (hh 11 rfl)
                        generalize a.eval = ev at e0 ⊢
                        simp [execOp, go_sem, e0]
                      · cases ho
                        refine step2_told (.int .i64 j) ?_ (by decide) hG hT rfl
                        have e0 : a.eval (.tmp 10) = .int .i64 j := hold 10 (by kernel_rfl)
                        generalize a.eval = ev at e0 ⊢
                        simp [execOp, go_sem, e0]
                      · cases ho
                        refine step2_told (.slice (some ⟨L, 0, none⟩) k cL) ?_ (by decide) hG hT rfl
                        have e0 : a.eval (.tmp 0) = .slice (some ⟨L, 0, none⟩) k cL := hold 0 (by kernel_rfl)
                        generalize a.eval = ev at e0 ⊢
                        simp [execOp, go_sem, e0]
                      · cases ho
                        refine step2_told (.int .i64 i) ?_ (by decide) hG hT rfl
                        have e0 : a.eval (.tmp 9) = .int .i64 i := hold 9 (by kernel_rfl)
                        generalize a.eval = ev at e0 ⊢
                        simp [execOp, go_sem, e0]
                      · cases ho
                        refine step2_told (.pointer (some ⟨L, i, none⟩)) ?_ (by decide) hG hT rfl
                        have e0 : a.eval (.tmp 102) = .slice (some ⟨L, 0, none⟩) k cL := hT 14 (hh 14 rfl)
                        have e1 : a.eval (.tmp 103) = .int .i64 i := hT 15 (hh 15 rfl)
                        generalize a.eval = ev at e0 e1 ⊢
                        simp [execOp, go_sem, e0, e1, i0, i1']
                      · cases ho
                        have x0 := (HCC.out W hG).1
                        refine step2_told (.slice (A i) (n i) (c i)) ?_ (by decide) hG hT rfl
                        have e0 : a.eval (.tmp 104) = .pointer (some ⟨L, i, none⟩) := hT 16 (hh 16 rfl)
                        generalize a.eval = ev at e0 ⊢
                        simp [execOp, go_sem, e0, x0]
                      · cases ho
                        refine step2_told (.int .i64 (n i)) ?_ (by decide) hG hT rfl
                        have e0 : a.eval (.tmp 105) = .slice (A i) (n i) (c i) := hT 17 (hh 17 rfl)
                        generalize a.eval = ev at e0 ⊢
                        simp [execOp, go_sem, e0]
                      · cases ho
                        refine step2_told (.bool false) ?_ (by decide) hG hT rfl
                        have e0 : a.eval (.tmp 101) = .int .i64 j := hT 13 (hh 13 rfl)
                        have e1 : a.eval (.tmp 106) = .int .i64 (n i) := hT 18 (hh 18 rfl)
                        generalize a.eval = ev at e0 e1 ⊢
                        simp [execOp, go_sem, e0, e1, hjk]
                      · cases ho
                        refine step2_told (.bool false) ?_ (by decide) hG hT rfl
                        have e0 : a.eval (.tmp 107) = .bool false := hT 19 (hh 19 rfl)
                        generalize a.eval = ev at e0 ⊢
                        simp [execOp, go_sem, e0]
                      · cases ho
                        exact absurd hw (wanted_not (j := 20) (b := true) rfl (hT 20 (hh 20 rfl)))
                      · cases ho
                        exact absurd hw (wanted_not (j := 20) (b := true) rfl (hT 20 (hh 20 rfl)))
                      · cases ho
                        exact absurd hw (wanted_not (j := 20) (b := true) rfl (hT 20 (hh 20 rfl)))
                      · cases ho
                        exact absurd hw (wanted_not (j := 20) (b := true) rfl (hT 20 (hh 20 rfl)))
                      · cases ho
                        exact absurd hw (wanted_not (j := 20) (b := true) rfl (hT 20 (hh 20 rfl)))
                      · cases ho
                        exact absurd hw (wanted_not (j := 20) (b := true) rfl (hT 20 (hh 20 rfl)))
                      · cases ho
                        exact absurd hw (wanted_not (j := 20) (b := true) rfl (hT 20 (hh 20 rfl)))
                      · cases ho
                        exact absurd hw (wanted_not (j := 20) (b := true) rfl (hT 20 (hh 20 rfl)))
                      · cases ho
                        exact absurd hw (wanted_not (j := 20) (b := true) rfl (hT 20 (hh 20 rfl)))
                      · cases ho
                        exact absurd hw (wanted_not (j := 20) (b := true) rfl (hT 20 (hh 20 rfl)))
                      · cases ho
                        exact absurd hw (wanted_not (j := 20) (b := true) rfl (hT 20 (hh 20 rfl)))
                      · cases ho
                        exact absurd hw (wanted_not (j := 20) (b := true) rfl (hT 20 (hh 20 rfl)))
                      · cases ho
                        refine step2_told (.bool false) ?_ (by decide) hG hT rfl
                        have e0 : a.eval (.tmp 108) = .bool false := hT 20 (hh 20 rfl)
                        have e1 : a.eval (.const (.bool false)) = .bool false := rfl
                        generalize a.eval = ev at e0 e1 ⊢
                        simp [execOp, go_sem, e0, e1]
                      · cases ho
                        refine step2_told (.bool false) ?_ (by decide) hG hT rfl
                        have e0 : a.eval (.tmp 100) = .bool false := hT 12 (hh 12 rfl)
                        have e1 : a.eval (.tmp 121) = .bool false := hT 33 (hh 33 rfl)
                        generalize a.eval = ev at e0 e1 ⊢
                        simp [execOp, go_sem, e0, e1]
                    · intro a W hd hs hold hT hG
                      have eZ : a.tmps.getD 122 undef = .bool false := hT 34 (by decide)
                      obtain ⟨f, hf, ha⟩ := act_puts [88, 89, 90, 91, 92, 93, 94, 95, 96, 97, 98, 99, 100, 101, 102, 103, 104, 105, 106, 107, 108, 109, 110, 111, 112, 113, 114, 115, 116, 117, 118, 119, 120, 121, 122] (fun t ht => by
                        by_cases h : t ∈ [88, 89, 90, 91, 92, 93, 94, 95, 96, 97, 98, 99, 100, 101, 102, 103, 104, 105, 106, 107, 108, 109, 110, 111, 112, 113, 114, 115, 116, 117, 118, 119, 120, 121, 122]
                        · exact h
                        · exfalso
                          simp [unwritten] at ht
                          simp only [List.mem_cons, not_or] at h
                          obtain ⟨h0, h1, h2, h3, h4, h5, h6, h7, h8, h9, h10, h11, h12, h13, h14, h15, h16, h17, h18, h19, h20, h21, h22, h23, h24, h25, h26, h27, h28, h29, h30, h31, h32, h33, h34, _⟩ := h
                          exact absurd (ht (fun e => h0 e.symm) (fun e => h1 e.symm) (fun e => h2 e.symm) (fun e => h3 e.symm) (fun e => h4 e.symm) (fun e => h5 e.symm) (fun e => h6 e.symm) (fun e => h7 e.symm) (fun e => h8 e.symm) (fun e => h9 e.symm) (fun e => h10 e.symm) (fun e => h11 e.symm) (fun e => h12 e.symm) (fun e => h13 e.symm) (fun e => h14 e.symm) (fun e => h15 e.symm) (fun e => h16 e.symm) (fun e => h17 e.symm) (fun e => h18 e.symm) (fun e => h19 e.symm) (fun e => h20 e.symm) (fun e => h21 e.symm) (fun e => h22 e.symm) (fun e => h23 e.symm) (fun e => h24 e.symm) (fun e => h25 e.symm) (fun e => h26 e.symm) (fun e => h27 e.symm) (fun e => h28 e.symm) (fun e => h29 e.symm) (fun e => h30 e.symm) (fun e => h31 e.symm) (fun e => h32 e.symm) (fun e => h33 e.symm)) (fun e => h34 e.symm)) (fun t ht => by
                        have hsz : t < 193 := by
                          simp only [List.mem_cons, List.mem_nil_iff, or_false] at ht
                          omega
                        exact hsz) hd hs hold
                      rw [← hf 122] at eZ
                      have HBW := hide hG
                      subst ha
                      clear hd hs hold hT hf hG
                      show K _ _
                      refine hK _ _ ?_
                      simp only [List.foldl_cons, List.foldl_nil, eZ]
                      generalize f 88 = u88
                      generalize f 89 = u89
                      generalize f 90 = u90
                      generalize f 91 = u91
                      generalize f 92 = u92
                      generalize f 93 = u93
                      generalize f 94 = u94
                      generalize f 95 = u95
                      generalize f 96 = u96
                      generalize f 97 = u97
                      generalize f 98 = u98
                      generalize f 99 = u99
                      generalize f 100 = u100
                      generalize f 101 = u101
                      generalize f 102 = u102
                      generalize f 103 = u103
                      generalize f 104 = u104
                      generalize f 105 = u105
                      generalize f 106 = u106
                      generalize f 107 = u107
                      generalize f 108 = u108
                      generalize f 109 = u109
                      generalize f 110 = u110
                      generalize f 111 = u111
                      generalize f 112 = u112
                      generalize f 113 = u113
                      generalize f 114 = u114
                      generalize f 115 = u115
                      generalize f 116 = u116
                      generalize f 117 = u117
                      generalize f 118 = u118
                      generalize f 119 = u119
                      generalize f 120 = u120
                      generalize f 121 = u121
                      clear hK eZ
                      go_simp
                      go_simp
                      have HL5 : Hid (Lst W 63 L cL k A n c) := hide (FZ.below HL4.out HBW.out)
                      have HB5 := hide (HB4.out.later HBW.out)
                      have HF5 := hide (HF4.out.below HBW.out)
                      have HO5 := hide (FZ.below HO4.out HBW.out)
                      have HT5 := hide (HT4.out.below HBW.out)
                      clear HL4 HB4 HF4 HO4 HT4 HCC HBW
                      go_wp2
                      go_roundw
                      case rel => exact ⟨j + 1, by omega, by go_num, HL5.out, HB5.out, HF5.out, HO5.out, HT5.out⟩
                      case measure => simp [intOf]; omega
                · have hj64 : j = n i + 64 := by omega
                  subst hj64
                  go_wp2
                  go_roundw
                  case rel => exact ⟨i + 1, by omega, by go_num, HL4.out, HB4.out, HF4.out, HO4.out, HT4.out⟩
                  case measure => simp [intOf]; omega
            · have hik : k = i := by omega
              subst hik
              have HF4 := hide (HF3.out.again (t' := 64) (H' := fun _ => .slice none 0 0) (C' := fun i => marks (mkT T i) (n i) ++ marks (mkT T (i + k)) 64))
              clear HF3 HZ1
              go_wp2
              go_loopw [11, 12, 13] (fun p _ _ wr => ∃ (i : Nat) (H : Nat → Value) (zs : List Value) (T : Nat → Nat → KR), i ≤ k ∧ p = .int .i64 i ∧ Lst wr 63 L cL k A n c ∧ Kept (Own k A n c) w wr ∧ Fam wr 34 k (rowV A n c) n (mkT T) i 64 H (fun i => marks (mkT T i) (n i) ++ marks (mkT T (i + k)) 64) ∧
                  FRow wr 63 (.slice (some ⟨G, 0, none⟩) k k) k zs ∧ (∀ j, j < i → zs[j]? = some (H j)) ∧ TOk wr T (D4 k n i 0)) (fun p _ _ _ => k - (intOf p).toNat)
              case atStart => exact ⟨0, _, _, T, Nat.zero_le _, rfl, HL3.out, HB3.out, HF4.out, HO3.out, fun i hi => absurd hi (by omega), HT3.out.sub D4_start⟩
              case round =>
                obtain ⟨i, H, zs, T, hi, rfl, hl1, hb1, hf1, ho1, hz1, ht1⟩ := hrel
                have HL1 := hide hl1
                have HB1 := hide hb1
                have HF2 := hide hf1
                have HO1 := hide ho1
                have HZ1 := hide hz1
                have HT1 := hide ht1
                clear hl1 hb1 hf1 ho1 hz1 ht1 HL3 HB3 HF4 HO3 HT3
                by_cases hlt : i < k
                · have hni : n i ≤ 100 := HN.out i
                  obtain ⟨wq, rfl⟩ : ∃ wq : World, wq = wr := ⟨_, rfl⟩
                  go_wp2_with (at_make; refine stop_here ?_)
                  show Hid _
                  refine start_here ?_
                  refine wpList_make_full _ rfl (.const (.int .i64 64)) (.const (.int .i64 64)) 63 rfl 0 34 i1 _ 1 Tryz.underlying63 hi1 hy0 hy1 .i64 .i64 64 64 64 rfl rfl rfl rfl (by rw [hy2]; omega) (by simp only [maxLen]; omega) (Nat.zero_le _) ?_
                  intro w2 ho2 hg2
                  replace ho2 := FZ.of_owns ho2
                  have hbw := (Below.refl _ wq).grown hg2 (Nat.le_refl _) (fun _ e => nomatch e)
                  have HB2 : Hid (Below wq.heap.size wq w2) := hbw
                  have HT : Hid (∃ ys, FRow w2 34 (.slice (some ⟨wq.heap.size, 0, none⟩) 64 64) 64 ys ∧ ys.take 0 = marks (mkT T (i + k)) 0) := ⟨_, ho2, rfl⟩
                  have HT2 := hide (HT1.out.below hbw)
                  clear ho2 hg2 hbw
                  have HTS := hide (rfl : wq.heap.size = wq.heap.size)
                  obtain ⟨S, hS⟩ : ∃ S, S = wq.heap.size := ⟨_, rfl⟩
                  rw [← hS] at HT
                  rw [← hS] at HB2
                  rw [← hS]
                  have HS2 := hide hS
                  clear hS HTS HT1
                  go_wp2_with fail
                  go_loopw [13] (fun p wr => ∃ (j : Nat) (T : Nat → Nat → KR), j ≤ 64 ∧ p = .int .i64 j ∧ Below S wq wr ∧ Fam wq 34 k (rowV A n c) n (mkT T) i 64 H (fun i => marks (mkT T i) (n i) ++ marks (mkT T (i + k)) 64) ∧ TOk wr T (D4 k n i j) ∧ ∃ ys, FRow wr 34 (.slice (some ⟨S, 0, none⟩) 64 64) 64 ys ∧ ys.take j = marks (mkT T (i + k)) j) (fun p _ => 64 - (intOf p).toNat)
                  case atStart => exact ⟨0, T, Nat.zero_le _, rfl, HB2.out, HF2.out, HT2.out, HT.out⟩
                  case round =>
                    obtain ⟨j, T, hj, rfl, hb, hf2, ht2, ys, ho, hy⟩ := hrel
                    have HB3 := hide hb
                    have HF3 := hide hf2
                    have HT3 := hide ht2
                    have HO3 := hide ho
                    have HY := hide hy
                    clear hb ho hy hf2 ht2 HB2 HT HF2 HT2
                    by_cases hjn : j < 64
                    · go_wp2_with (go_at_call 101; refine (markRow_sum i k j _ (by omega) (by omega)).mono ?_; rintro e w2 ⟨rg, rc, rfl, hr, hb2⟩; have HR2 := hide hr; have HB2 := hide hb2; have HO2 := hide (FZ.below HO3.out hb2); have cF : w2.frozen? ⟨S, j, none⟩ = false := FZ.free HO2.out (by omega); obtain ⟨u, _, cU⟩ := FZ.at_ HO2.out (show j < 64 by omega); clear hr hb2)
                      have hmk : mkT (updT T (i + k) j (mr (i + k) j rg rc)) (i + k) j = [.slice (some ⟨rg, 0, none⟩) 8 rc] := by unfold mkT; rw [updT_eq, mr_sl]
                      have HO4 : Hid (∃ ys, FRow (w2.setCell ⟨S, j, none⟩ (.slice (some ⟨rg, 0, none⟩) 8 rc)) 34 (.slice (some ⟨S, 0, none⟩) 64 64) 64 ys ∧ ys.take (j + 1) = marks (mkT (updT T (i + k) j (mr (i + k) j rg rc)) (i + k)) (j + 1)) := by
                        refine ⟨_, FZ.set HO2.out (by omega) _, ?_⟩
                        rw [List.take_add_one, List.take_set_of_le (Nat.le_refl j), HY.out, marks_snoc, hmk, List.getElem?_set_self (by rw [HO2.out.1]; omega), marks_T (T := T) (fun t ht => updT_ne (fun hc => by omega))]
                        rfl
                      have HB4 := hide ((HB3.out.trans (HB2.out.mono (by rw [HS2.out]; exact HB3.out.size))).setCell (p := ⟨S, j, none⟩) (Nat.le_refl S) (.slice (some ⟨rg, 0, none⟩) 8 rc))
                      have HF4 : Hid (Fam wq 34 k (rowV A n c) n (mkT (updT T (i + k) j (mr (i + k) j rg rc))) i 64 H (fun i' => marks (mkT (updT T (i + k) j (mr (i + k) j rg rc)) i') (n i') ++ marks (mkT (updT T (i + k) j (mr (i + k) j rg rc)) (i' + k)) 64)) :=
                        HF3.out.upd (fun i' hi' => marks_T (fun t ht => updT_ne (fun hc => by omega))) (fun i' hi' => by rw [marks_T (T := T) (fun t ht => updT_ne (fun hc => by omega)), marks_T (T := T) (k := i' + k) (fun t ht => updT_ne (fun hc => by omega))])
                      have HT4 := hide ((((HT3.out.below HB2.out).put (k := i + k) (j := j) HR2.out rfl).grown (grown_set w2 S j (.slice (some ⟨rg, 0, none⟩) 8 rc)) (fun r hr => hr.ne HO2.out (by decide))).sub D4_step)
                      clear cF cU HO3 HY HB3 HO2 HB2 hmk HF3 HT3
                      go_roundw
                      case rel => exact ⟨j + 1, _, by omega, by go_num, HB4.out, HF4.out, HT4.out, HO4.out⟩
                      case measure => simp [intOf]; omega
                    · have hj64 : j = 64 := by omega
                      subst hj64
                      have hbq := HB3.out
                      rw [HS2.out] at hbq
                      have hyy : ys = marks (mkT T (i + k)) 64 := by
                        have h := HY.out
                        rw [show (64 : Nat) = ys.length by rw [HO3.out.1], List.take_length] at h
                        rw [h, HO3.out.1]
                      subst hyy
                      have HL5 : Hid (Lst wr 63 L cL k A n c) := FZ.below HL1.out hbq
                      have HB5 := hide (HB1.out.later hbq)
                      have HF5 := hide (HF3.out.below hbq)
                      have HO5 := hide (FZ.below HO1.out hbq)
                      have cK := HL5.out.cell hlt
                      clear hbq HL1 HB1 HF3 HO1 HY HB3
                      go_wp2_with (at_builtin; refine stop_here ?_)
                      show Hid _
                      refine start_here ?_
                      refine wpList_append rfl (.tmp 148) (.tmp 149) 63 rfl 34 i1 _ 24 Tryz.underlying63 hi1 hy0 hy1 hy2 rfl (rowV A n c i) (n i) _ rfl (HF5.out.rows i hlt) ⟨S, 0, none⟩ 64 64 (marks (mkT T (i + k)) 64) rfl HO3.out.1 (FZ.cellsA HO3.out) (marks_Tone T (i + k) 64) (by decide) (by simp only [maxLen]; omega) (by omega) ?_
                      intro v' w' hgw
                      obtain ⟨A', c', rfl⟩ := FZ.slice hgw.1
                      have HG2 := hide ((Grow.start (HF5.out.rows i hlt)).step hgw)
                      have HT6 := hide (HT3.out.grown2 hgw (HF5.out.rows i hlt) (by decide))
                      have HF6 := hide (HF5.out.step hlt HG2.out)
                      have HO6 := hide (HO5.out.kept HG2.out.frame (by
                        rcases FZ.ne HO5.out (HF5.out.rows i hlt) (by decide) with h | h
                        · exact .inl h
                        · exact .inr h))
                      have HL6 : Hid (Lst w' 63 L cL k A n c) := HL5.out.kept HG2.out.frame (by
                        rcases FZ.ne HL5.out (HF5.out.rows i hlt) (by decide) with h | h
                        · exact .inl h
                        · exact .inr h)
                      have HB6 : Hid (Kept (Own k A n c) w w') := HB5.out.grown HG2.out.frame (fun g e _ hF => hF i hlt e)
                      obtain ⟨z0, hz0', cG⟩ := FZ.at_ HO6.out (show i < k by omega)
                      have cF : w'.frozen? ⟨G, i, none⟩ = false := FZ.free HO6.out (by omega)
                      clear HG2 hgw HF5 HO5 HL5 HB5 HO3 cK HT3
                      go_wp2_with fail
                      go_roundw
                      case rel => exact ⟨i + 1, _, _, T, by omega, by go_num, HL6.out.kept (grown_set w' G i _) (.inr (by simp only [Value.ownBlock, ne_eq, Option.some.injEq]; omega)), HB6.out.setCell (p := ⟨G, i, none⟩) (fun h _ => absurd h (Nat.not_lt.2 hGB)) _, HF6.out.set HO6.out (by decide) _, FZ.set HO6.out (by omega) _, set_said HZ1.out (by rw [HO6.out.1]; omega) _, (HT6.out.sub D4_next).grown (grown_set w' G i _) (fun r hr => hr.ne HO6.out (by decide))⟩
                      case measure => simp [intOf]; omega
                · have hik : k = i := by omega
                  subst hik
                  go_wp2
                  go_loopw [14, 15] (fun p _ wr => ∃ (i : Nat), i ≤ k ∧ p = .int .i64 i ∧ Lst wr 63 L cL k A n c ∧ Kept (Own k A n c) w wr ∧ Fam wr 34 k (rowV A n c) n (mkT T) k 64 H (fun i => marks (mkT T i) (n i) ++ marks (mkT T (i + k)) 64) ∧
                      FRow wr 63 (.slice (some ⟨G, 0, none⟩) k k) k zs ∧ TOk wr T (D4 k n k 0)) (fun p _ _ => k - (intOf p).toNat)
                  case atStart => exact ⟨0, Nat.zero_le _, rfl, HL1.out, HB1.out, HF2.out, HO1.out, HT1.out⟩
                  case round =>
                    obtain ⟨i, hi, rfl, hl1, hb1, hf1, ho1, ht1⟩ := hrel
                    have HL3 : Hid (Lst wr 63 L cL k A n c) := hl1
                    have HB3 := hide hb1
                    have HF3 := hide hf1
                    have HO3 := hide ho1
                    have HT3 := hide ht1
                    clear hl1 hb1 hf1 ho1 ht1 HL1 HB1 HF2 HO1 HT1
                    by_cases hlt : i < k
                    · have hni : n i ≤ 100 := HN.out i
                      have hH := HF3.out.gone i hlt
                      obtain ⟨h, cH, eH⟩ := FZ.some_of hH (by omega)
                      have HEH := hide eH
                      clear hH
                      go_wp2
                      go_loopw [15] (fun p wr => ∃ (j : Nat), j ≤ n i ∧ p = .int .i64 j ∧ Lst wr 63 L cL k A n c ∧ Kept (Own k A n c) w wr ∧ Fam wr 34 k (rowV A n c) n (mkT T) k 64 H (fun i => marks (mkT T i) (n i) ++ marks (mkT T (i + k)) 64) ∧
                        FRow wr 63 (.slice (some ⟨G, 0, none⟩) k k) k zs ∧ TOk wr T (D4 k n k 0)) (fun p _ => n i - (intOf p).toNat)
                      case atStart => exact ⟨0, Nat.zero_le _, rfl, HL3.out, HB3.out, HF3.out, HO3.out, HT3.out⟩
                      case round =>
                        obtain ⟨j, hj, rfl, hl1, hb1, hf1, ho1, ht1⟩ := hrel
                        have HL4 : Hid (Lst wr 63 L cL k A n c) := hl1
                        have HB4 := hide hb1
                        have HF4 := hide hf1
                        have HO4 := hide ho1
                        have HT4 := hide ht1
                        clear hl1 hb1 hf1 ho1 ht1 HL3 HB3 HF3 HO3 HT3
                        have cA := HL4.out.cell hlt
                        by_cases hjk : j < n i
                        · obtain ⟨g, hg⟩ := row_some (HF4.out.rows i hlt) (by omega)
                          have hH := HF4.out.gone i hlt
                          rw [HEH.out] at hH
                          have hmH : (marks (mkT T i) (n i) ++ marks (mkT T (i + k)) 64)[j]? = some (T i j).sl := (List.getElem?_append_left (by rw [marks_length _ 1 (fun _ => rfl)]; omega)).trans (marks_Tat hjk)
                          have HAT := hide (HT4.out i j (.inl ⟨hlt, hjk⟩))
                          have HCC : Hid (∀ W, Below wr.heap.size wr W → W.cell? ⟨L, i, none⟩ = some (.slice (A i) (n i) (c i)) ∧ W.cell? ⟨G, i, none⟩ = some (.slice (some ⟨h, 0, none⟩) (n i + 64) cH) ∧ W.cell? ⟨h, j, none⟩ = some (T i j).sl) := hide (fun W hb => by
                            have hH2 := FZ.below hH hb
                            exact ⟨Lst.cell (FZ.below HL4.out hb) hlt, by have := gs_cell (FZ.below HO4.out hb) (HZ1.out i hlt) hlt; rw [HEH.out] at this; exact this, mark_cell hH2 (show j < n i + 64 by omega) hmH⟩)
                          rw [hg] at cA HCC
                          have HCV : Hid (∀ W, Below wr.heap.size wr W → W.cell? ⟨g, j, none⟩ = some (T i j).sl) := hide (fun W hb => by
                            have hV := FZ.below (HF4.out.rows i hlt) hb
                            unfold rowV at hV
                            rw [hg] at hV
                            exact mark_cell hV hjk (marks_Tat hjk))
                          have i0 : (0 : Int) ≤ (i : Int) := by omega
                          have i1' : (i : Int) < (k : Int) := by omega
                          have j0 : (0 : Int) ≤ (j : Int) := by omega
                          have j1 : (j : Int) < ((n i : Int) + 64) := by omega
                          have j2 : (j : Int) < (n i : Int) := by omega
                          clear hH hmH
                          go_wp2_with fail
                          rename_i K hK
                          refine wp_tells7 (by kernel_rfl) (T41 L cL G h cH k (n i) (c i) i j g (some ⟨g, 0, none⟩) (T i j).sl true) (fun _ W => Below wr.heap.size wr W) (by kernel_rfl) (by kernel_rfl) ?_ (fun _ _ _ _ _ _ h => h) (by kernel_rfl) ?_ (Below.refl _ _).drew ?_ ?_
                          · intro q o q2 c2 ho hgd
                            have hi : q < 26 := (Array.getElem?_eq_some_iff.1 ho).1
                            have hi' : q = 0 ∨ q = 1 ∨ q = 2 ∨ q = 3 ∨ q = 4 ∨ q = 5 ∨ q = 6 ∨ q = 7 ∨ q = 8 ∨ q = 9 ∨ q = 10 ∨ q = 11 ∨ q = 12 ∨ q = 13 ∨ q = 14 ∨ q = 15 ∨ q = 16 ∨ q = 17 ∨ q = 18 ∨ q = 19 ∨ q = 20 ∨ q = 21 ∨ q = 22 ∨ q = 23 ∨ q = 24 ∨ q = 25 := by omega
                            rcases hi' with rfl | rfl | rfl | rfl | rfl | rfl | rfl | rfl | rfl | rfl | rfl | rfl | rfl | rfl | rfl | rfl | rfl | rfl | rfl | rfl | rfl | rfl | rfl | rfl | rfl | rfl
                            all_goals
                              cases ho
                              first
                                | (cases hgd; exact ⟨by kernel_rfl, .inl (fun σ W h => h)⟩)
                                | (cases hgd; exact ⟨by kernel_rfl, .inr ⟨fun σ W h => h, fun σ W => trivial⟩⟩)
                                | cases hgd
                          · intro q oj σ σ' W hj h hs
                            have h0 := hs q (.inl rfl)
                            have hi : q < 26 := (Array.getElem?_eq_some_iff.1 hj).1
                            have hi' : q = 0 ∨ q = 1 ∨ q = 2 ∨ q = 3 ∨ q = 4 ∨ q = 5 ∨ q = 6 ∨ q = 7 ∨ q = 8 ∨ q = 9 ∨ q = 10 ∨ q = 11 ∨ q = 12 ∨ q = 13 ∨ q = 14 ∨ q = 15 ∨ q = 16 ∨ q = 17 ∨ q = 18 ∨ q = 19 ∨ q = 20 ∨ q = 21 ∨ q = 22 ∨ q = 23 ∨ q = 24 ∨ q = 25 := by omega
                            rcases hi' with rfl | rfl | rfl | rfl | rfl | rfl | rfl | rfl | rfl | rfl | rfl | rfl | rfl | rfl | rfl | rfl | rfl | rfl | rfl | rfl | rfl | rfl | rfl | rfl | rfl | rfl
                            all_goals first
                              | (simp only [T41] at h ⊢; rw [h0]; exact h)
                              | trivial
                          · intro q o ho M a W hi hG hold hT hh hw
                            have hi2 : q < 26 := (Array.getElem?_eq_some_iff.1 ho).1
                            have hi' : q = 0 ∨ q = 1 ∨ q = 2 ∨ q = 3 ∨ q = 4 ∨ q = 5 ∨ q = 6 ∨ q = 7 ∨ q = 8 ∨ q = 9 ∨ q = 10 ∨ q = 11 ∨ q = 12 ∨ q = 13 ∨ q = 14 ∨ q = 15 ∨ q = 16 ∨ q = 17 ∨ q = 18 ∨ q = 19 ∨ q = 20 ∨ q = 21 ∨ q = 22 ∨ q = 23 ∨ q = 24 ∨ q = 25 := by omega
                            rcases hi' with rfl | rfl | rfl | rfl | rfl | rfl | rfl | rfl | rfl | rfl | rfl | rfl | rfl | rfl | rfl | rfl | rfl | rfl | rfl | rfl | rfl | rfl | rfl | rfl | rfl | rfl
                            · cases ho
                              refine step2_told (.slice (some ⟨L, 0, none⟩) k cL) ?_ (by decide) hG hT rfl
                              have e0 : a.eval (.tmp 0) = .slice (some ⟨L, 0, none⟩) k cL := hold 0 (by kernel_rfl)
                              generalize a.eval = ev at e0 ⊢
                              simp [execOp, go_sem, e0]
                            · cases ho
                              refine step2_told (.int .i64 i) ?_ (by decide) hG hT rfl
                              have e0 : a.eval (.tmp 14) = .int .i64 i := hold 14 (by kernel_rfl)
                              generalize a.eval = ev at e0 ⊢
                              simp [execOp, go_sem, e0]
                            · cases ho
                              refine step2_told (.pointer (some ⟨L, i, none⟩)) ?_ (by decide) hG hT rfl
                              have e0 : a.eval (.tmp 167) = .slice (some ⟨L, 0, none⟩) k cL := hT 0 (hh 0 rfl)
                              have e1 : a.eval (.tmp 168) = .int .i64 i := hT 1 (hh 1 rfl)
                              generalize a.eval = ev at e0 e1 ⊢
                              simp [execOp, go_sem, e0, e1, i0, i1']
                            · cases ho
                              have x0 := (HCC.out W hG).1
                              refine step2_told (.slice (some ⟨g, 0, none⟩) (n i) (c i)) ?_ (by decide) hG hT rfl
                              have e0 : a.eval (.tmp 169) = .pointer (some ⟨L, i, none⟩) := hT 2 (hh 2 rfl)
                              generalize a.eval = ev at e0 ⊢
                              simp [execOp, go_sem, e0, x0]
                            · cases ho
                              refine step2_told (.int .i64 j) ?_ (by decide) hG hT rfl
                              have e0 : a.eval (.tmp 15) = .int .i64 j := hold 15 (by kernel_rfl)
                              generalize a.eval = ev at e0 ⊢
                              simp [execOp, go_sem, e0]
                            · cases ho
                              refine step2_told (.pointer (some ⟨g, j, none⟩)) ?_ (by decide) hG hT rfl
                              have e0 : a.eval (.tmp 170) = .slice (some ⟨g, 0, none⟩) (n i) (c i) := hT 3 (hh 3 rfl)
                              have e1 : a.eval (.tmp 171) = .int .i64 j := hT 4 (hh 4 rfl)
                              generalize a.eval = ev at e0 e1 ⊢
                              simp [execOp, go_sem, e0, e1, j0, j2]
                            · cases ho
                              have x0 := HCV.out W hG
                              refine step2_told ((T i j).sl) ?_ (by decide) hG hT rfl
                              have e0 : a.eval (.tmp 172) = .pointer (some ⟨g, j, none⟩) := hT 5 (hh 5 rfl)
                              generalize a.eval = ev at e0 ⊢
                              simp [execOp, go_sem, e0, x0]
                            · cases ho
                              refine step2_told (.int .i64 i) ?_ (by decide) hG hT rfl
                              have e0 : a.eval (.tmp 14) = .int .i64 i := hold 14 (by kernel_rfl)
                              generalize a.eval = ev at e0 ⊢
                              simp [execOp, go_sem, e0]
                            · cases ho
                              refine step2_told (.int .i64 j) ?_ (by decide) hG hT rfl
                              have e0 : a.eval (.tmp 15) = .int .i64 j := hold 15 (by kernel_rfl)
                              generalize a.eval = ev at e0 ⊢
                              simp [execOp, go_sem, e0]
                            · cases ho
                              have e0 : a.eval (.tmp 174) = .int .i64 i := hT 7 (hh 7 rfl)
                              have e1 : a.eval (.tmp 175) = .int .i64 j := hT 8 (hh 8 rfl)
                              refine step2_called (f := 101) (args := #[.int .i64 i, .int .i64 j]) (R := fun v W' => ∃ rg rc, v = .slice (some ⟨rg, 0, none⟩) 8 rc ∧ (mr i j rg rc).At W' ∧ Below W.heap.size W W') ?_ (by decide) ((markRow_is i j W (by omega) (by omega)).mono ?_) ?_
                              · have ef : a.eval (.func 101) = .func (.func 101) #[] #[] := rfl
                                generalize a.eval = ev at e0 e1 ef ⊢
                                simp [execOp, go_sem, e0, e1, ef, hEM]
                              · rintro e W' ⟨rg, rc, h1, h2, h3⟩
                                exact ⟨_, h1, rg, rc, rfl, h2, h3⟩
                              · rintro u W' ⟨rg, rc, rfl, h2, h3⟩
                                exact ⟨hG.trans (h3.mono hG.size), fun q hq => (hT q hq).to (fun rg rc h => h.below h3), rg, rc, rfl, h2⟩
                            · cases ho
                              have e0 : a.eval (.tmp 173) = (T i j).sl := hT 6 (hh 6 rfl)
                              obtain ⟨rg, rc, e1, hr⟩ : ∃ rg rc, a.eval (.tmp 176) = .slice (some ⟨rg, 0, none⟩) 8 rc ∧ (mr i j rg rc).At W := hT 9 (hh 9 rfl)
                              have hsm := same_marks (HAT.out.1.below hG) hr (HAT.out.2) (by rw [HAT.out.2, mtext_len]; decide)
                              rw [mr_sl] at hsm
                              refine step2_called (f := 19) (args := #[(T i j).sl, .slice (some ⟨rg, 0, none⟩) 8 rc]) (R := fun v W' => v = .bool true ∧ Below W.heap.size W W') ?_ (by decide) (hsm.mono ?_) ?_
                              · have ef : a.eval (.func 19) = .func (.func 19) #[] #[] := rfl
                                generalize a.eval = ev at e0 e1 ef ⊢
                                simp [execOp, go_sem, e0, e1, ef, hES]
                              · rintro e W' ⟨h1, h3⟩
                                exact ⟨_, h1, rfl, h3⟩
                              · rintro u W' ⟨rfl, h3⟩
                                exact ⟨hG.trans (h3.mono hG.size), fun q hq => (hT q hq).to (fun rg rc h => h.below h3), rfl⟩
                            · cases ho
                              refine step2_told (.bool false) ?_ (by decide) hG hT rfl
                              have e0 : a.eval (.tmp 177) = .bool true := hT 10 (hh 10 rfl)
                              generalize a.eval = ev at e0 ⊢
                              simp [execOp, go_sem, e0]
                            · cases ho
                              refine step2_told (.bool false) ?_ (by decide) hG hT rfl
                              have e0 : a.eval (.tmp 178) = .bool false := hT 11 (hh 11 rfl)
                              generalize a.eval = ev at e0 ⊢
                              simp [execOp, go_sem, e0]
                            · cases ho
                              refine step2_told (.slice (some ⟨G, 0, none⟩) k k) ?_ (by decide) hG hT rfl
                              have e0 : a.eval (.tmp 5) = .slice (some ⟨G, 0, none⟩) k k := hold 5 (by kernel_rfl)
                              generalize a.eval = ev at e0 ⊢
                              simp [execOp, go_sem, e0]
                            · cases ho
                              refine step2_told (.int .i64 i) ?_ (by decide) hG hT rfl
                              have e0 : a.eval (.tmp 14) = .int .i64 i := hold 14 (by kernel_rfl)
                              generalize a.eval = ev at e0 ⊢
                              simp [execOp, go_sem, e0]
                            · cases ho
                              refine step2_told (.pointer (some ⟨G, i, none⟩)) ?_ (by decide) hG hT rfl
                              have e0 : a.eval (.tmp 180) = .slice (some ⟨G, 0, none⟩) k k := hT 13 (hh 13 rfl)
                              have e1 : a.eval (.tmp 181) = .int .i64 i := hT 14 (hh 14 rfl)
                              generalize a.eval = ev at e0 e1 ⊢
                              simp [execOp, go_sem, e0, e1, i0, i1']
                            · cases ho
                              have x0 := (HCC.out W hG).2.1
                              refine step2_told (.slice (some ⟨h, 0, none⟩) (n i + 64) cH) ?_ (by decide) hG hT rfl
                              have e0 : a.eval (.tmp 182) = .pointer (some ⟨G, i, none⟩) := hT 15 (hh 15 rfl)
                              generalize a.eval = ev at e0 ⊢
                              simp [execOp, go_sem, e0, x0]
                            · cases ho
                              refine step2_told (.int .i64 j) ?_ (by decide) hG hT rfl
                              have e0 : a.eval (.tmp 15) = .int .i64 j := hold 15 (by kernel_rfl)
                              generalize a.eval = ev at e0 ⊢
                              simp [execOp, go_sem, e0]
                            · cases ho
                              refine step2_told (.pointer (some ⟨h, j, none⟩)) ?_ (by decide) hG hT rfl
                              have e0 : a.eval (.tmp 183) = .slice (some ⟨h, 0, none⟩) (n i + 64) cH := hT 16 (hh 16 rfl)
                              have e1 : a.eval (.tmp 184) = .int .i64 j := hT 17 (hh 17 rfl)
                              generalize a.eval = ev at e0 e1 ⊢
                              simp [execOp, go_sem, e0, e1, j0, j1]
                            · cases ho
                              have x0 := (HCC.out W hG).2.2
                              refine step2_told ((T i j).sl) ?_ (by decide) hG hT rfl
                              have e0 : a.eval (.tmp 185) = .pointer (some ⟨h, j, none⟩) := hT 18 (hh 18 rfl)
                              generalize a.eval = ev at e0 ⊢
                              simp [execOp, go_sem, e0, x0]
                            · cases ho
                              refine step2_told (.int .i64 i) ?_ (by decide) hG hT rfl
                              have e0 : a.eval (.tmp 14) = .int .i64 i := hold 14 (by kernel_rfl)
                              generalize a.eval = ev at e0 ⊢
                              simp [execOp, go_sem, e0]
                            · cases ho
                              refine step2_told (.int .i64 j) ?_ (by decide) hG hT rfl
                              have e0 : a.eval (.tmp 15) = .int .i64 j := hold 15 (by kernel_rfl)
                              generalize a.eval = ev at e0 ⊢
                              simp [execOp, go_sem, e0]
                            · cases ho
                              have e0 : a.eval (.tmp 187) = .int .i64 i := hT 20 (hh 20 rfl)
                              have e1 : a.eval (.tmp 188) = .int .i64 j := hT 21 (hh 21 rfl)
                              refine step2_called (f := 101) (args := #[.int .i64 i, .int .i64 j]) (R := fun v W' => ∃ rg rc, v = .slice (some ⟨rg, 0, none⟩) 8 rc ∧ (mr i j rg rc).At W' ∧ Below W.heap.size W W') ?_ (by decide) ((markRow_is i j W (by omega) (by omega)).mono ?_) ?_
                              · have ef : a.eval (.func 101) = .func (.func 101) #[] #[] := rfl
                                generalize a.eval = ev at e0 e1 ef ⊢
                                simp [execOp, go_sem, e0, e1, ef, hEM]
                              · rintro e W' ⟨rg, rc, h1, h2, h3⟩
                                exact ⟨_, h1, rg, rc, rfl, h2, h3⟩
                              · rintro u W' ⟨rg, rc, rfl, h2, h3⟩
                                exact ⟨hG.trans (h3.mono hG.size), fun q hq => (hT q hq).to (fun rg rc h => h.below h3), rg, rc, rfl, h2⟩
                            · cases ho
                              have e0 : a.eval (.tmp 186) = (T i j).sl := hT 19 (hh 19 rfl)
                              obtain ⟨rg, rc, e1, hr⟩ : ∃ rg rc, a.eval (.tmp 189) = .slice (some ⟨rg, 0, none⟩) 8 rc ∧ (mr i j rg rc).At W := hT 22 (hh 22 rfl)
                              have hsm := same_marks (HAT.out.1.below hG) hr (HAT.out.2) (by rw [HAT.out.2, mtext_len]; decide)
                              rw [mr_sl] at hsm
                              refine step2_called (f := 19) (args := #[(T i j).sl, .slice (some ⟨rg, 0, none⟩) 8 rc]) (R := fun v W' => v = .bool true ∧ Below W.heap.size W W') ?_ (by decide) (hsm.mono ?_) ?_
                              · have ef : a.eval (.func 19) = .func (.func 19) #[] #[] := rfl
                                generalize a.eval = ev at e0 e1 ef ⊢
                                simp [execOp, go_sem, e0, e1, ef, hES]
                              · rintro e W' ⟨h1, h3⟩
                                exact ⟨_, h1, rfl, h3⟩
                              · rintro u W' ⟨rfl, h3⟩
                                exact ⟨hG.trans (h3.mono hG.size), fun q hq => (hT q hq).to (fun rg rc h => h.below h3), rfl⟩
                            · cases ho
                              refine step2_told (.bool false) ?_ (by decide) hG hT rfl
                              have e0 : a.eval (.tmp 190) = .bool true := hT 23 (hh 23 rfl)
                              generalize a.eval = ev at e0 ⊢
                              simp [execOp, go_sem, e0]
                            · cases ho
                              refine step2_told (.bool false) ?_ (by decide) hG hT rfl
                              have e0 : a.eval (.tmp 179) = .bool false := hT 12 (hh 12 rfl)
                              have e1 : a.eval (.tmp 191) = .bool false := hT 24 (hh 24 rfl)
                              generalize a.eval = ev at e0 e1 ⊢
                              simp [execOp, go_sem, e0, e1]
                          · intro a W hd hs hold hT hG
                            have eZ : a.tmps.getD 192 undef = .bool false := hT 25 (by decide)
                            obtain ⟨f, hf, ha⟩ := act_puts [167, 168, 169, 170, 171, 172, 173, 174, 175, 176, 177, 178, 179, 180, 181, 182, 183, 184, 185, 186, 187, 188, 189, 190, 191, 192] (fun t ht => by
                              by_cases h : t ∈ [167, 168, 169, 170, 171, 172, 173, 174, 175, 176, 177, 178, 179, 180, 181, 182, 183, 184, 185, 186, 187, 188, 189, 190, 191, 192]
                              · exact h
                              · exfalso
                                simp [unwritten] at ht
                                simp only [List.mem_cons, not_or] at h
                                obtain ⟨h0, h1, h2, h3, h4, h5, h6, h7, h8, h9, h10, h11, h12, h13, h14, h15, h16, h17, h18, h19, h20, h21, h22, h23, h24, h25, _⟩ := h
                                exact absurd (ht (fun e => h0 e.symm) (fun e => h1 e.symm) (fun e => h2 e.symm) (fun e => h3 e.symm) (fun e => h4 e.symm) (fun e => h5 e.symm) (fun e => h6 e.symm) (fun e => h7 e.symm) (fun e => h8 e.symm) (fun e => h9 e.symm) (fun e => h10 e.symm) (fun e => h11 e.symm) (fun e => h12 e.symm) (fun e => h13 e.symm) (fun e => h14 e.symm) (fun e => h15 e.symm) (fun e => h16 e.symm) (fun e => h17 e.symm) (fun e => h18 e.symm) (fun e => h19 e.symm) (fun e => h20 e.symm) (fun e => h21 e.symm) (fun e => h22 e.symm) (fun e => h23 e.symm) (fun e => h24 e.symm)) (fun e => h25 e.symm)) (fun t ht => by
                              have hsz : t < 193 := by
                                simp only [List.mem_cons, List.mem_nil_iff, or_false] at ht
                                omega
                              exact hsz) hd hs hold
                            rw [← hf 192] at eZ
                            have HBW := hide hG
                            subst ha
                            clear hd hs hold hT hf hG
                            show K _ _
                            refine hK _ _ ?_
                            simp only [List.foldl_cons, List.foldl_nil, eZ]
                            generalize f 167 = u167
                            generalize f 168 = u168
                            generalize f 169 = u169
                            generalize f 170 = u170
                            generalize f 171 = u171
                            generalize f 172 = u172
                            generalize f 173 = u173
                            generalize f 174 = u174
                            generalize f 175 = u175
                            generalize f 176 = u176
                            generalize f 177 = u177
                            generalize f 178 = u178
                            generalize f 179 = u179
                            generalize f 180 = u180
                            generalize f 181 = u181
                            generalize f 182 = u182
                            generalize f 183 = u183
                            generalize f 184 = u184
                            generalize f 185 = u185
                            generalize f 186 = u186
                            generalize f 187 = u187
                            generalize f 188 = u188
                            generalize f 189 = u189
                            generalize f 190 = u190
                            generalize f 191 = u191
                            clear hK eZ
                            go_simp
                            go_simp
                            have HL5 : Hid (Lst W 63 L cL k A n c) := hide (FZ.below HL4.out HBW.out)
                            have HB5 := hide (HB4.out.later HBW.out)
                            have HF5 := hide (HF4.out.below HBW.out)
                            have HO5 := hide (FZ.below HO4.out HBW.out)
                            have HT5 := hide (HT4.out.below HBW.out)
                            clear HL4 HB4 HF4 HO4 HT4 HCC HBW
                            go_wp2
                            go_roundw
                            case rel => exact ⟨j + 1, by omega, by go_num, HL5.out, HB5.out, HF5.out, HO5.out, HT5.out⟩
                            case measure => simp [intOf]; omega
                        · have hjn : n i = j := by omega
                          have hd : decide ((j : Int) < (n i : Int)) = false := by simp; omega
                          go_wp2
                          go_roundw
                          case rel => exact ⟨i + 1, by omega, by go_num, HL4.out, HB4.out, HF4.out, HO4.out, HT4.out⟩
                          case measure => simp [intOf]; omega
                    · have hik : k = i := by omega
                      subst hik
                      go_wp2
                      go_ret
                      exact ⟨rfl, HB3.out⟩
end FZ
end Go.Proofs.YtolodcdhpnapmaaGreat
