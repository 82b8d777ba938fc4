/-
  The calls of both memories, whatever is asked of them; what stands beside them.
-/
import Derived.Test.YtbllnjkagleenaaGreatSM
namespace Go.Proofs.YtbllnjkagleenaaGreat
open Go.RowKit
set_option linter.unusedVariables false

def kOf (L : List (Option PRow)) (i : Int) : Int := match rowAt L i with | some p => p.k | none => 0
def nOf (L : List (Option PRow)) (i : Int) : Nat := match rowAt L i with | some p => p.n | none => 0
/-- What is asked of a region: how many bytes, and which. -/
def viewL (L : List (Option PRow)) (i : Int) : Option (Nat × List Int) := (rowAt L i).map fun p => (p.n, p.bs)
def viewR (R : List RRow) (i : Int) : Option (Nat × List Int) := (rowR R i).map fun p => (p.n, p.bs)
def accE (o : Option (Nat × List Int)) (off size : Int) : Int := match o with | none => 6 | some y => if fitsB y.1 off size = true then 0 else 32
def rdN (o : Option (Nat × List Int)) (off size : Int) : Nat := match o with | none => 0 | some y => if fitsB y.1 off size = true then size.toNat else 0
def rdL (o : Option (Nat × List Int)) (off size : Int) : List Int := match o with | none => [] | some y => if fitsB y.1 off size = true then (y.2.drop off.toNat).take size.toNat else []
def wrL (L : List (Option PRow)) (i off : Int) (q : Nat) (d : List Int) : List (Option PRow) := match rowAt L i with | none => L | some p => if fitsB p.n off q = true then L.set (i - 1).toNat (some { p with bs := splice p.bs off.toNat d }) else L
def wrR (R : List RRow) (i off : Int) (q : Nat) (d : List Int) : List RRow := match rowR R i with | none => R | some p => if fitsB p.n off q = true then R.set (i - 1).toNat { p with bs := splice p.bs off.toNat d } else R
def frE (o : Option (Nat × List Int)) : Int := match o with | none => 6 | some _ => 0
def frL (L : List (Option PRow)) (i : Int) : List (Option PRow) := match rowAt L i with | none => L | some p => L.set (i - 1).toNat none
def frR (R : List RRow) (i : Int) : List RRow := match rowR R i with | none => R | some p => R.set (i - 1).toNat { p with live := false }
def mkE (k : Int) (n : Nat) : Int := if k < 1 ∨ 5 < k then 2 else if 4096 < n then 3 else 0
def mkA (len : Nat) (k : Int) (n : Nat) : Int := if mkE k n = 0 then (len : Int) + 1 else 0
theorem fits_parts {n : Nat} {off size : Int} (h : fitsB n off size = true) : ∃ o s : Nat, off = o ∧ size = s ∧ o + s ≤ n := by
  unfold fitsB at h
  simp at h
  exact ⟨off.toNat, size.toNat, by omega, by omega, by omega⟩
theorem Sim.view {L : List (Option PRow)} {R : List RRow} (h : Sim L R) (i : Int) : viewR R i = viewL L i := by
  unfold viewR viewL
  cases hp : rowAt L i with
  | none => rw [h.none_ hp]; rfl
  | some p =>
    obtain ⟨r, hr, _, h2, h3⟩ := h.some_ hp
    rw [hr]
    simp [h2, h3]
theorem OfM.set {b mm j : Nat} {L : List (Option PRow)} {p : PRow} {o : Option PRow} (hj : L[j]? = some (some p)) (ho : ∀ y, o = some y → y.sl = p.sl) {g : Nat} (h : OfM b mm (L.set j o) g) : OfM b mm L g := by
  rcases h with h | h | ⟨r, hr, y, rfl, hg⟩
  · exact .inl h
  · exact .inr (.inl h)
  · rcases List.mem_or_eq_of_mem_set hr with h1 | h1
    · exact .inr (.inr ⟨_, h1, y, rfl, hg⟩)
    · exact .inr (.inr ⟨_, List.mem_of_getElem? hj, p, rfl, by rw [← ho y h1.symm]; exact hg⟩)
theorem OfR.set {x j : Nat} {v : Value} {R : List RRow} {r s : RRow} (hj : R[j]? = some r) (hs : s.sl = r.sl) {g : Nat} (h : OfR x v (R.set j s) g) : OfR x v R g := by
  rcases h with h | h | ⟨t, ht, hg⟩
  · exact .inl h
  · exact .inr (.inl h)
  · rcases List.mem_or_eq_of_mem_set ht with h1 | h1
    · exact .inr (.inr ⟨t, h1, hg⟩)
    · subst h1
      exact .inr (.inr ⟨r, List.mem_of_getElem? hj, by rw [← hs]; exact hg⟩)
section
variable {w : World} {B b mm x : Nat} {L : List (Option PRow)} {v : Value} {R : List RRow} {i off size : Int}
theorem kind_all (h : Mem w B b mm L) (hw : wfI i) : Calls Tryz.prog 23 #[.pointer (some ⟨b, 0, none⟩), .int .i64 i] w fun e w' => e = .returned (.int .u8 (kOf L i)) ∧ Below w.heap.size w w' := by
  unfold kOf
  cases hr : rowAt L i with
  | none => exact kind_any _ _ _ _ _ _ _ w (h.none_ hw hr none 0 0)
  | some r => exact kind_any _ _ _ _ _ _ _ w (h.some_ hw hr)
theorem size_all (h : Mem w B b mm L) (hw : wfI i) : Calls Tryz.prog 7 #[.pointer (some ⟨b, 0, none⟩), .int .i64 i] w fun e w' => e = .returned (.int .i64 (nOf L i)) ∧ Below w.heap.size w w' := by
  unfold nOf
  cases hr : rowAt L i with
  | none => exact size_any _ _ _ _ _ _ _ w (h.none_ hw hr none 0 0)
  | some r => exact size_any _ _ _ _ _ _ _ w (h.some_ hw hr)
theorem rkind_all (h : RMem w B x v R) (hs : Sim L R) (hl : R.length ≤ 1000000) : Calls Tryz.prog 24 #[.pointer (some ⟨x, 0, none⟩), .int .i64 i] w fun e w' => e = .returned (.int .u8 (kOf L i)) ∧ w = w' := by
  unfold kOf
  cases hr : rowAt L i with
  | none => exact rkind_none h (hs.none_ hr) hl
  | some r =>
    obtain ⟨s, h1, h2, _⟩ := hs.some_ hr
    simp only [h2]
    exact rkind_some h h1 hl
theorem rsize_all (h : RMem w B x v R) (hs : Sim L R) (hl : R.length ≤ 1000000) : Calls Tryz.prog 25 #[.pointer (some ⟨x, 0, none⟩), .int .i64 i] w fun e w' => e = .returned (.int .i64 (nOf L i)) ∧ w = w' := by
  unfold nOf
  cases hr : rowAt L i with
  | none => exact rsize_none h (hs.none_ hr) hl
  | some r =>
    obtain ⟨s, h1, _, h2, _⟩ := hs.some_ hr
    simp only [h2]
    exact rsize_some h h1 hl
theorem own_none (w : World) (B : Nat) : OwnB w B (.slice none 0 0) 0 [] := ⟨⟨rfl, .inl ⟨rfl, rfl⟩⟩, nofun⟩
theorem read_all (h : Mem w B b mm L) (hw : wfI i) (ho : wfI off) : Calls Tryz.prog 15 #[.pointer (some ⟨b, 0, none⟩), .int .i64 i, .int .i64 off, .int .i64 size] w fun e w' => ∃ u, e = .returned (.tuple #[u, .int .i64 (accE (viewL L i) off size)]) ∧ OwnB w' w.heap.size u (rdN (viewL L i) off size) (rdL (viewL L i) off size) ∧ Below w.heap.size w w' := by
  unfold viewL accE rdN rdL
  cases hr : rowAt L i with
  | none => exact (read_not _ _ _ _ _ _ _ _ _ w (h.noneM hw hr) (by decide)).mono fun e w' ⟨h1, h2⟩ => ⟨_, h1, own_none _ _, h2⟩
  | some r =>
    cases hf : fitsB r.n off size with
    | false =>
      simp only [Option.map_some, hf]
      exact (read_not _ _ _ _ _ _ _ _ _ w (h.badM hw ho hr hf) (by decide)).mono fun e w' ⟨h1, h2⟩ => ⟨_, h1, own_none _ _, h2⟩
    | true =>
      obtain ⟨o, s, rfl, rfl, hfit⟩ := fits_parts hf
      simp only [Option.map_some, hf, if_true]
      obtain ⟨h1, h2, _⟩ := h.at_ hr
      exact read_yes _ _ _ o s _ _ _ _ w (h.fitM hw ho hr hf) h1 hfit (by omega)
theorem rread_all (h : RMem w B x v R) (hs : Sim L R) (hl : R.length ≤ 1000000) (ho : off ≤ 9223372036854775807) (ho2 : -9223372036854775808 ≤ off) (hs1 : size ≤ 9223372036854775807) (hs2 : -9223372036854775808 ≤ size) : Calls Tryz.prog 16 #[.pointer (some ⟨x, 0, none⟩), .int .i64 i, .int .i64 off, .int .i64 size] w fun e w' => ∃ u, e = .returned (.tuple #[u, .int .i64 (accE (viewL L i) off size)]) ∧ OwnB w' w.heap.size u (rdN (viewL L i) off size) (rdL (viewL L i) off size) ∧ Below w.heap.size w w' := by
  rw [← hs.view i]
  unfold viewR accE rdN rdL
  cases hr : rowR R i with
  | none => exact (rread_err (B := B) (v := v) (R := R) (rmay_none h hr hl) (by decide)).mono fun e w' ⟨h1, h2⟩ => ⟨_, h1, own_none _ _, h2 ▸ Below.refl _ _⟩
  | some r =>
    have hn : r.n ≤ 4096 := by
      obtain ⟨j, _, hj, _⟩ := rowR_get hr
      exact (h.row j r hj).2
    have hm := rmay_some (off := off) (size := size) h hr hl hn ho ho2 hs1 hs2
    cases hf : fitsB r.n off size with
    | false =>
      rw [hf] at hm
      simp only [Option.map_some, hf]
      exact (rread_err (B := B) (v := v) (R := R) hm (by decide)).mono fun e w' ⟨h1, h2⟩ => ⟨_, h1, own_none _ _, h2 ▸ Below.refl _ _⟩
    | true =>
      obtain ⟨o, s, rfl, rfl, hfit⟩ := fits_parts hf
      simp only [Option.map_some, hf, if_true]
      exact rread_some h hr hl o s hfit
theorem write_both (h : Mem w B b mm L) (hw : wfI i) (ho : wfI off) (q : Nat) (S : Option Addr) (sc C : Nat) (d : List Int) (hd : Rd w C 1 S q (u8s d)) (hC : C ≤ w.heap.size) :
    Calls Tryz.prog 20 #[.pointer (some ⟨b, 0, none⟩), .int .i64 i, .int .i64 off, .slice S q sc] w fun e w' => e = .returned (.int .i64 (accE (viewL L i) off q)) ∧ Mem w' B b mm (wrL L i off q d) ∧ Kept (fun g => ¬ OfM b mm L g) w w' := by
  unfold viewL accE wrL
  cases hr : rowAt L i with
  | none => exact (write_not _ _ _ _ _ _ _ _ _ _ _ w (h.noneM hw hr) (by decide)).mono fun e w' ⟨h1, h2⟩ => ⟨h1, h.below h2, Kept.of_below h2⟩
  | some r =>
    cases hf : fitsB r.n off q with
    | false =>
      simp only [Option.map_some, hf]
      exact (write_not _ _ _ _ _ _ _ _ _ _ _ w (h.badM hw ho hr hf) (by decide)).mono fun e w' ⟨h1, h2⟩ => ⟨h1, h.below h2, Kept.of_below h2⟩
    | true =>
      obtain ⟨o, s, rfl, e2, hfit⟩ := fits_parts hf
      have e3 : s = q := by omega
      subst e3
      simp only [Option.map_some, hf, if_true]
      exact write_M h hw hr o s S sc C d hd hC hfit
theorem rwrite_both (h : RMem w B x v R) (hl : R.length ≤ 1000000) (ho : off ≤ 9223372036854775807) (ho2 : -9223372036854775808 ≤ off) (q : Nat) (hq : q ≤ 1000000) (S : Option Addr) (sc C : Nat) (d : List Int) (hd : Rd w C 1 S q (u8s d)) (hC : C ≤ w.heap.size) :
    Calls Tryz.prog 21 #[.pointer (some ⟨x, 0, none⟩), .int .i64 i, .int .i64 off, .slice S q sc] w fun e w' => e = .returned (.int .i64 (accE (viewR R i) off q)) ∧ RMem w' B x v (wrR R i off q d) ∧ Kept (fun g => ¬ OfR x v R g) w w' := by
  unfold viewR accE wrR
  cases hr : rowR R i with
  | none => exact (rwrite_err (B := B) (v := v) (R := R) (rmay_none h hr hl) (by decide)).mono fun e w' ⟨h1, h2⟩ => ⟨h1, h2 ▸ h, h2 ▸ Kept.refl _ _⟩
  | some r =>
    have hn : r.n ≤ 4096 := by
      obtain ⟨j, _, hj, _⟩ := rowR_get hr
      exact (h.row j r hj).2
    have hm := rmay_some (off := off) (size := (q : Int)) h hr hl hn ho ho2 (by omega) (by omega)
    cases hf : fitsB r.n off q with
    | false =>
      rw [hf] at hm
      simp only [Option.map_some, hf]
      exact (rwrite_err (B := B) (v := v) (R := R) hm (by decide)).mono fun e w' ⟨h1, h2⟩ => ⟨h1, h2 ▸ h, h2 ▸ Kept.refl _ _⟩
    | true =>
      obtain ⟨o, s, rfl, e2, hfit⟩ := fits_parts hf
      have e3 : s = q := by omega
      subst e3
      simp only [Option.map_some, hf, if_true]
      exact rwrite_some h hr hl o s S sc C d hd hC hfit
theorem free_both (h : Mem w B b mm L) (hw : wfI i) : Calls Tryz.prog 18 #[.pointer (some ⟨b, 0, none⟩), .int .i64 i] w fun e w' => e = .returned (.int .i64 (frE (viewL L i))) ∧ Mem w' B b mm (frL L i) ∧ Kept (fun g => ¬ OfM b mm L g) w w' := by
  unfold viewL frE frL
  cases hr : rowAt L i with
  | none => exact (free_not _ _ _ _ _ _ _ w (h.none_ hw hr none 0 0) (by decide)).mono fun e w' ⟨h1, h2⟩ => ⟨h1, h.below h2, Kept.of_below h2⟩
  | some r => exact free_M h hw hr
theorem rfree_both (h : RMem w B x v R) (hl : R.length ≤ 1000000) : Calls Tryz.prog 19 #[.pointer (some ⟨x, 0, none⟩), .int .i64 i] w fun e w' => e = .returned (.int .i64 (frE (viewR R i))) ∧ RMem w' B x v (frR R i) ∧ Kept (fun g => ¬ OfR x v R g) w w' := by
  unfold viewR frE frR
  cases hr : rowR R i with
  | none => exact (rfree_none h hr hl).mono fun e w' ⟨h1, h2⟩ => ⟨h1, h2 ▸ h, h2 ▸ Kept.refl _ _⟩
  | some r => exact rfree_some h hr hl
/-- A region was made, or not. -/
def MadeL (L L' : List (Option PRow)) (k : Int) (n : Nat) (l : List Int) (z : Nat) : Prop := (mkE k n ≠ 0 ∧ L' = L) ∨ (mkE k n = 0 ∧ ∃ p : PRow, L' = L ++ [some p] ∧ p.k = k ∧ p.n = n ∧ p.bs = l ∧ ∀ g, p.sl.ownBlock = some g → z ≤ g)
def MadeR (R R' : List RRow) (k : Int) (n : Nat) (l : List Int) : Prop := (mkE k n ≠ 0 ∧ R' = R) ∨ (mkE k n = 0 ∧ ∃ p : RRow, R' = R ++ [p] ∧ p.k = k ∧ p.n = n ∧ p.bs = l ∧ p.live = true)
theorem Sim.makes {L' : List (Option PRow)} {R' : List RRow} {k : Int} {n z : Nat} {l : List Int} (h : Sim L R) (h1 : MadeL L L' k n l z) (h2 : MadeR R R' k n l) : Sim L' R' := by
  rcases h1 with ⟨e, rfl⟩ | ⟨e, p, rfl, a1, a2, a3, _⟩ <;> rcases h2 with ⟨e', rfl⟩ | ⟨e', r, rfl, b1, b2, b3, b4⟩
  · exact h
  · exact absurd e' e
  · exact absurd e e'
  · exact h.made p r b4 (a1.trans b1.symm) (a2.trans b2.symm) (a3.trans b3.symm)
theorem MadeL.sub {L' : List (Option PRow)} {k : Int} {n z : Nat} {l : List Int} (h : MadeL L L' k n l z) : ∀ g, OfM b mm L' g → OfM b mm L g ∨ z ≤ g := by
  rcases h with ⟨_, rfl⟩ | ⟨_, p, rfl, _, _, _, h5⟩
  · exact fun g hg => .inl hg
  · rintro g (hg | hg | ⟨r, hr, y, rfl, hg⟩)
    · exact .inl (.inl hg)
    · exact .inl (.inr (.inl hg))
    · rcases List.mem_append.1 hr with hr | hr
      · exact .inl (.inr (.inr ⟨_, hr, y, rfl, hg⟩))
      · simp at hr
        subst hr
        exact .inr (h5 g hg)
theorem MadeL.len {L' : List (Option PRow)} {k : Int} {n z : Nat} {l : List Int} (h : MadeL L L' k n l z) : L'.length ≤ L.length + 1 := by
  rcases h with ⟨_, rfl⟩ | ⟨_, p, rfl, _⟩
  · omega
  · simp
theorem made_b {b : Nat} {w : World} (h : Mem w B b mm L) : Calls Tryz.prog 29 #[.pointer (some ⟨b, 0, none⟩)] w fun e w' => e = .returned (.bool true) ∧ w = w' := made_yes _ _ _ w h.pm.blk
theorem make_both (h : Mem w B b mm L) (hq : L.length + 1 ≤ 1000000) (k : Int) (A : Option Addr) (n c C : Nat) (l : List Int) (hn : n ≤ 1000000) (hr : Rd w C 1 A n (u8s l)) (hA : A = none → n = 0) (hC : C ≤ w.heap.size) (hB : B ≤ w.heap.size) :
    Calls Tryz.prog 6 #[.pointer (some ⟨b, 0, none⟩), .int .u8 k, .slice A n c] w fun e w' => ∃ L', e = .returned (.tuple #[.int .i64 (mkA L.length k n), .int .i64 (mkE k n)]) ∧ MadeL L L' k n l w.heap.size ∧ Mem w' B b mm L' ∧ Kept (fun g => ¬ OfM b mm L g) w w' := by
  unfold MadeL mkA
  by_cases hk : k < 1 ∨ 5 < k
  · have e : mkE k n = 2 := by simp [mkE, hk]
    rw [e]
    exact (make_kind _ k A n c w (made_b h) hk).mono fun e w' ⟨h1, h2⟩ => ⟨L, h1, .inl ⟨by decide, rfl⟩, h2 ▸ h, h2 ▸ Kept.refl _ _⟩
  · by_cases h4 : 4096 < n
    · have e : mkE k n = 3 := by simp [mkE, hk, h4]
      rw [e]
      exact (make_long _ k A n c w (made_b h) (fun h => hk (.inl h)) (fun h => hk (.inr h)) h4 hn).mono fun e w' ⟨h1, h2⟩ => ⟨L, h1, .inl ⟨by decide, rfl⟩, h2 ▸ h, h2 ▸ Kept.refl _ _⟩
    · have e : mkE k n = 0 := by simp [mkE, hk, h4]
      rw [e]
      exact (make_M h (by omega) k A n c C l (fun h => hk (.inl h)) (fun h => hk (.inr h)) (by omega) hr hA hC hB).mono fun e w' ⟨r, h1, h2, h3, h4, h5, h6, h7⟩ => ⟨_, h1, .inr ⟨rfl, r, rfl, h2, h3, h4, h5⟩, h6, h7⟩
theorem rmake_both (h : RMem w B x v R) (hl : R.length + 1 ≤ 1000000) (k : Int) (A : Option Addr) (n c C : Nat) (l : List Int) (hn : n ≤ 1000000) (hr : Rd w C 1 A n (u8s l)) (hA : A = none → n = 0) (hC : C ≤ B) (hB : B ≤ w.heap.size) :
    Calls Tryz.prog 14 #[.pointer (some ⟨x, 0, none⟩), .int .u8 k, .slice A n c] w fun e w' => ∃ v' R', e = .returned (.tuple #[.int .i64 (mkA R.length k n), .int .i64 (mkE k n)]) ∧ MadeR R R' k n l ∧ RMem w' B x v' R' ∧ Kept (fun g => ¬ OfR x v R g) w w' ∧ (∀ g, OfR x v' R' g → OfR x v R g ∨ w.heap.size ≤ g) := by
  unfold MadeR mkA
  by_cases hk : k < 1 ∨ 5 < k
  · have e : mkE k n = 2 := by simp [mkE, hk]
    rw [e]
    exact (rmake_kind hk).mono fun e w' ⟨h1, h2⟩ => ⟨v, R, h1, .inl ⟨by decide, rfl⟩, h2 ▸ h, h2 ▸ Kept.refl _ _, fun g hg => .inl hg⟩
  · by_cases h4 : 4096 < n
    · have e : mkE k n = 3 := by simp [mkE, hk, h4]
      rw [e]
      exact (rmake_long (fun h => hk (.inl h)) (fun h => hk (.inr h)) h4 hn).mono fun e w' ⟨h1, h2⟩ => ⟨v, R, h1, .inl ⟨by decide, rfl⟩, h2 ▸ h, h2 ▸ Kept.refl _ _, fun g hg => .inl hg⟩
    · have e : mkE k n = 0 := by simp [mkE, hk, h4]
      rw [e]
      exact (rmake_some h hl k A n c C l (fun h => hk (.inl h)) (fun h => hk (.inr h)) (by omega) hr hA hC hB).mono fun e w' ⟨v', A2, c2, h1, h2, h3, h4⟩ => ⟨v', _, h1, .inr ⟨rfl, _, rfl, rfl, rfl, rfl, rfl⟩, h2, h3, h4⟩
theorem wrL_sub {q : Nat} {d : List Int} {g : Nat} (h : OfM b mm (wrL L i off q d) g) : OfM b mm L g := by
  unfold wrL at h
  split at h
  · exact h
  · rename_i p hp
    split at h
    · exact OfM.set (rowAt_get hp).2 (fun y hy => by cases hy; rfl) h
    · exact h
theorem wrR_sub {q : Nat} {d : List Int} {g : Nat} (h : OfR x v (wrR R i off q d) g) : OfR x v R g := by
  unfold wrR at h
  split at h
  · exact h
  · rename_i p hp
    obtain ⟨j, rfl, hj, _⟩ := rowR_get hp
    rw [show ((j : Int) + 1 - 1).toNat = j by omega] at h
    split at h
    · exact OfR.set hj (by rfl) h
    · exact h
theorem frL_sub {g : Nat} (h : OfM b mm (frL L i) g) : OfM b mm L g := by
  unfold frL at h
  split at h
  · exact h
  · rename_i p hp
    exact OfM.set (rowAt_get hp).2 (fun y hy => by cases hy) h
theorem frR_sub {g : Nat} (h : OfR x v (frR R i) g) : OfR x v R g := by
  unfold frR at h
  split at h
  · exact h
  · rename_i p hp
    obtain ⟨j, rfl, hj, _⟩ := rowR_get hp
    rw [show ((j : Int) + 1 - 1).toNat = j by omega] at h
    exact OfR.set hj (by rfl) h
theorem Sim.writes (h : Sim L R) (q : Nat) (d : List Int) : Sim (wrL L i off q d) (wrR R i off q d) := by
  unfold wrL wrR
  cases hp : rowAt L i with
  | none => rw [h.none_ hp]; exact h
  | some p =>
    obtain ⟨r, hr, _, h2, _⟩ := h.some_ hp
    rw [hr]
    have e : fitsB r.n off q = fitsB p.n off q := by rw [h2]
    simp only [e]
    split
    · exact h.wrote hp hr _ _
    · exact h
theorem Sim.frees (h : Sim L R) : Sim (frL L i) (frR R i) := by
  unfold frL frR
  cases hp : rowAt L i with
  | none => rw [h.none_ hp]; exact h
  | some p =>
    obtain ⟨r, hr, _⟩ := h.some_ hp
    rw [hr]
    exact h.freed hp hr
theorem wrL_len {q : Nat} {d : List Int} : (wrL L i off q d).length = L.length := by
  unfold wrL
  split
  · rfl
  · split <;> simp
theorem frL_len : (frL L i).length = L.length := by
  unfold frL
  split <;> simp
end
/-- All three, and blocks that none of them has, as they were in wx. -/
structure All (w0 wx w : World) (X : Nat → Prop) (B b mm : Nat) (L : List (Option PRow)) (x : Nat) (v : Value) (R : List RRow) (tv : Value) (TL : List TRow) : Prop where
  st : St w0 w B b mm L x v R tv TL
  kept : Kept X wx w
  off : ∀ g, X g → B ≤ g ∧ g < wx.heap.size ∧ ¬ OfM b mm L g ∧ ¬ OfR x v R g ∧ ¬ OfT tv TL g
section
variable {w0 wx w w' : World} {X : Nat → Prop} {B b mm x : Nat} {L L' : List (Option PRow)} {v v' : Value} {R R' : List RRow} {tv tv' : Value} {TL TL' : List TRow}
theorem All.later (h : All w0 wx w X B b mm L x v R tv TL) (hb : Below w.heap.size w w') : All w0 wx w' X B b mm L x v R tv TL := ⟨h.st.later hb, h.kept.later hb, h.off⟩
theorem All.prog (h : All w0 wx w X B b mm L x v R tv TL) (hk : Kept (fun g => ¬ OfM b mm L g) w w') (hm : Mem w' B b mm L') (hs : ∀ g, OfM b mm L' g → OfM b mm L g ∨ w.heap.size ≤ g) : All w0 wx w' X B b mm L' x v R tv TL :=
  ⟨h.st.prog hk hm hs, keptTrans h.kept (hk.mono fun g hg => (h.off g hg).2.2.1), fun g hg => ⟨(h.off g hg).1, (h.off g hg).2.1, fun hm => (hs g hm).elim (h.off g hg).2.2.1 (fun h1 => by have := (h.off g hg).2.1; have := h.kept.size; omega), (h.off g hg).2.2.2⟩⟩
theorem All.doc (h : All w0 wx w X B b mm L x v R tv TL) (hk : Kept (fun g => ¬ OfR x v R g) w w') (hm : RMem w' B x v' R') (hs : ∀ g, OfR x v' R' g → OfR x v R g ∨ w.heap.size ≤ g) : All w0 wx w' X B b mm L x v' R' tv TL :=
  ⟨h.st.doc hk hm hs, keptTrans h.kept (hk.mono fun g hg => (h.off g hg).2.2.2.1), fun g hg => ⟨(h.off g hg).1, (h.off g hg).2.1, (h.off g hg).2.2.1, fun hm => (hs g hm).elim (h.off g hg).2.2.2.1 (fun h1 => by have := (h.off g hg).2.1; have := h.kept.size; omega), (h.off g hg).2.2.2.2⟩⟩
theorem All.tell (h : All w0 wx w X B b mm L x v R tv TL) {t : TRow} {xs : List Value} (ht : w.ownsRow 0 5 1 t.sl t.n xs) (hn : t.n ≤ 1000000) (hw : wx.heap.size ≤ w.heap.size) (hnew : ∀ g, t.sl.ownBlock = some g → B ≤ g ∧ wx.heap.size ≤ g ∧ ¬ OfM b mm L g ∧ ¬ OfR x v R g ∧ ¬ OfT tv TL g)
    (hg : Kept (fun g => tv.ownBlock ≠ some g) w w') (hl : w'.ownsRow 0 26 1 tv' (TL.length + 1) (TL.map TRow.sl ++ [t.sl])) (hv : ∀ g, tv'.ownBlock = some g → tv.ownBlock = some g ∨ w.heap.size ≤ g) : All w0 wx w' X B b mm L x v R tv' (TL ++ [t]) :=
  ⟨h.st.tell (wt := w) ht hn (fun g hgs => ⟨(hnew g hgs).1, (hnew g hgs).2.2⟩) hg hl hv, keptTrans h.kept (hg.mono fun g hX e => (h.off g hX).2.2.2.2 (.inl e)), fun g hX => ⟨(h.off g hX).1, (h.off g hX).2.1, (h.off g hX).2.2.1, (h.off g hX).2.2.2.1, fun ht => by
    have h2 := (h.off g hX).2.1
    rcases ht with h1 | ⟨s, hs, h1⟩
    · rcases hv g h1 with h1 | h1
      · exact (h.off g hX).2.2.2.2 (.inl h1)
      · omega
    · rcases List.mem_append.1 hs with hs | hs
      · exact (h.off g hX).2.2.2.2 (.inr ⟨s, hs, h1⟩)
      · simp at hs
        subst hs
        have := (hnew g h1).2.1
        omega⟩⟩
end
end Go.Proofs.YtbllnjkagleenaaGreat
