/-
  The document's array, in memory: all values in one row of bytes; its Lookup, Update, Set.
-/
import Derived.Test.YtihhbpadafgkoaaGreatAWK
import Derived.Test.YtihhbpadafgkoaaGreatAB
namespace Go.Proofs.YtihhbpadafgkoaaGreat
open Go.RowKit
set_option linter.unusedVariables false

/-- The blocks of a document's array. -/
def OfR (x : Nat) (v : Value) (g : Nat) : Prop := g = x ∨ v.ownBlock = some g
structure RArr (w : World) (B x sz n : Nat) (RA : Option Addr) (rc : Nat) (bs : List Int) : Prop where
  blk : w.heap[x]? = some (.cells #[.int .u8 1, .int .i64 4, .int .i64 sz, .int .i64 n, .slice RA (sz * n) rc] 73 (0, 0))
  row : w.ownsRow 0 5 1 (.slice RA (sz * n) rc) (sz * n) (u8s bs)
  low : ∀ g, OfR x (.slice RA (sz * n) rc) g → B ≤ g
  big : 1 ≤ sz ∧ sz ≤ 1024
  many : 1 ≤ n ∧ n ≤ 1024
theorem RArr.lt {w : World} {B x sz n rc : Nat} {RA : Option Addr} {bs : List Int} (h : RArr w B x sz n RA rc bs) : ∀ g, OfR x (.slice RA (sz * n) rc) g → g < w.heap.size := by
  rintro g (rfl | hg)
  · exact at_lt h.blk
  · exact (h.row.lt g hg).2
theorem RArr.kept {w w' : World} {B x sz n rc : Nat} {RA : Option Addr} {bs : List Int} {F : Nat → Prop} (h : RArr w B x sz n RA rc bs) (hk : Kept F w w') (hF : ∀ g, OfR x (.slice RA (sz * n) rc) g → F g) : RArr w' B x sz n RA rc bs :=
  ⟨(hk.block x (at_lt h.blk) (hF x (.inl rfl))).trans h.blk, owns_kept h.row hk (fun g hg => hF g (.inr hg)), h.low, h.big, h.many⟩
theorem RArr.below {w w' : World} {B x sz n rc : Nat} {RA : Option Addr} {bs : List Int} (h : RArr w B x sz n RA rc bs) (hb : Below w.heap.size w w') : RArr w' B x sz n RA rc bs := h.kept (F := fun _ => True) (Kept.of_below hb) (fun _ _ => trivial)
theorem RArr.size {w : World} {B x sz n rc : Nat} {RA : Option Addr} {bs : List Int} (h : RArr w B x sz n RA rc bs) : w.cell? ⟨x, 2, none⟩ = some (.int .i64 sz) := by rw [blk_cell h.blk]; rfl
theorem RArr.ent {w : World} {B x sz n rc : Nat} {RA : Option Addr} {bs : List Int} (h : RArr w B x sz n RA rc bs) : w.cell? ⟨x, 3, none⟩ = some (.int .i64 n) := by rw [blk_cell h.blk]; rfl
theorem RArr.bytes {w : World} {B x sz n rc : Nat} {RA : Option Addr} {bs : List Int} (h : RArr w B x sz n RA rc bs) : w.cell? ⟨x, 4, none⟩ = some (.slice RA (sz * n) rc) := by rw [blk_cell h.blk]; rfl
theorem RArr.off {w : World} {B x sz n rc : Nat} {RA : Option Addr} {bs : List Int} (h : RArr w B x sz n RA rc bs) : (Value.slice RA (sz * n) rc).ownBlock ≠ some x := fun e => by
  obtain ⟨cur, hc⟩ := owns_cells h.row e
  rw [h.blk] at hc; cases hc
theorem RArr.put {w w' : World} {B x sz n rc : Nat} {RA : Option Addr} {bs bs' : List Int} (h : RArr w B x sz n RA rc bs) (ho : w'.ownsRow 0 5 1 (.slice RA (sz * n) rc) (sz * n) (u8s bs')) (hk : Kept (fun j => (Value.slice RA (sz * n) rc).ownBlock ≠ some j) w w') :
    RArr w' B x sz n RA rc bs' ∧ Kept (fun g => ¬ OfR x (.slice RA (sz * n) rc) g) w w' :=
  ⟨⟨(hk.block x (at_lt h.blk) h.off).trans h.blk, ho, h.low, h.big, h.many⟩, hk.mono (fun g hg e => hg (.inr e))⟩
set_option maxRecDepth 100000 in
set_option maxHeartbeats 2000000 in
theorem rlook_four (B x sz n rc : Nat) (RA : Option Addr) (bs : List Int) (A : Option Addr) (c C : Nat) (b : Nat → Nat) (w : World) (h : RArr w B x sz n RA rc bs) (hb : ∀ i, b i < 256) (hr : Rd w C 1 A 4 (u8s [(b 0 : Int), b 1, b 2, b 3])) :
    Calls Tryz.prog 73 #[.pointer (some ⟨x, 0, none⟩), .slice A 4 c] w fun e w' => e = .returned (.tuple #[.int .i64 (if keyN b < n then (keyN b : Int) else 0), .int .i64 (if keyN b < n then 0 else 6)]) ∧ Below w.heap.size w w' := by
  obtain ⟨ad, rfl, _, hc⟩ := hr.2 (by omega)
  have k0 : w.cell? ad = some (.int .u8 (b 0)) := hc 0 _ rfl
  have k1 : w.cell? ⟨ad.block, ad.off + 1, none⟩ = some (.int .u8 (b 1)) := hc 1 _ rfl
  have k2 : w.cell? ⟨ad.block, ad.off + 2, none⟩ = some (.int .u8 (b 2)) := hc 2 _ rfl
  have k3 : w.cell? ⟨ad.block, ad.off + 3, none⟩ = some (.int .u8 (b 3)) := hc 3 _ rfl
  have h0 := hb 0
  have h1 := hb 1
  have h2 := hb 2
  have h3 := hb 3
  have he := h.ent
  have HK : Hid ((b 0 : Int) + b 1 * 256 + b 2 * 65536 + b 3 * 16777216 = (keyN b : Int)) := hide (by unfold keyN; omega)
  generalize keyN b = kv at *
  generalize b 0 = b0 at *
  generalize b 1 = b1 at *
  generalize b 2 = b2 at *
  generalize b 3 = b3 at *
  have a0 : (0 : Int) ≤ (b0 : Int) := by omega
  have a1 : (0 : Int) ≤ (b1 : Int) := by omega
  have a2 : (0 : Int) ≤ (b2 : Int) := by omega
  have a3 : (0 : Int) ≤ (b3 : Int) := by omega
  have g0 : (b0 : Int) < 256 := by omega
  have g1 : (b1 : Int) < 256 := by omega
  have g2 : (b2 : Int) < 256 := by omega
  have g3 : (b3 : Int) < 256 := by omega
  by_cases hlt : kv < n
  · rw [if_pos hlt, if_pos hlt]
    have d1 : decide ((n : Int) ≤ (kv : Int)) = false := decide_eq_false (by omega)
    have d2 : decide (n ≤ kv) = false := decide_eq_false (by omega)
    clear h hb hr hc
    go_enter Tryz.func73, Tryz.ntmps73
    go_wp2_with fail
    replace he := Later.cell he
    replace k0 := Later.cell k0
    replace k1 := Later.cell k1
    replace k2 := Later.cell k2
    replace k3 := Later.cell k3
    refine wp_region_later (by kernel_rfl) (by kernel_rfl) ?_
    repeat (first | go_big_quiet_step (fail) | (refine wpQuiet_step (fun K hK => ?_); go_simp; refine hK _ ?_; clear hK K))
    refine wpQuiet_nil ?_
    rintro _ ⟨y, rfl⟩
    have e3 := he y
    have HB := hide y.below
    clear he k0 k1 k2 k3
    generalize y.w = W at *
    rw [HK.out]
    go_wp2
    go_ret2
    exact ⟨rfl, HB.out⟩
  · rw [if_neg hlt, if_neg hlt]
    have d1 : decide ((n : Int) ≤ (kv : Int)) = true := decide_eq_true (by omega)
    have d2 : decide (n ≤ kv) = true := decide_eq_true (by omega)
    clear h hb hr hc
    go_enter Tryz.func73, Tryz.ntmps73
    go_wp2_with fail
    replace he := Later.cell he
    replace k0 := Later.cell k0
    replace k1 := Later.cell k1
    replace k2 := Later.cell k2
    replace k3 := Later.cell k3
    refine wp_region_later (by kernel_rfl) (by kernel_rfl) ?_
    repeat (first | go_big_quiet_step (fail) | (refine wpQuiet_step (fun K hK => ?_); go_simp; refine hK _ ?_; clear hK K))
    refine wpQuiet_nil ?_
    rintro _ ⟨y, rfl⟩
    have e3 := he y
    have HB := hide y.below
    clear he k0 k1 k2 k3
    generalize y.w = W at *
    rw [HK.out]
    go_wp2
    go_ret2
    exact ⟨rfl, HB.out⟩
set_option maxRecDepth 100000 in
theorem rlookup_any (B x sz n rc : Nat) (RA : Option Addr) (bs : List Int) (A : Option Addr) (m c C : Nat) (l : List Int) (w : World) (h : RArr w B x sz n RA rc bs) (hr : Rd w C 1 A m (u8s l)) (hb : ∀ x ∈ l, IsByte x) :
    Calls Tryz.prog 73 #[.pointer (some ⟨x, 0, none⟩), .slice A m c] w fun e w' => e = .returned (.tuple #[.int .i64 (lookV m l n).1, .int .i64 (lookV m l n).2]) ∧ Below w.heap.size w w' := by
  unfold lookV
  by_cases hm : m = 4
  · subst hm
    rw [if_pos rfl]
    have hl : l.length = 4 := by have := hr.1; simpa [u8s] using this
    obtain ⟨h1, h2⟩ := key_four hl hb
    rw [h1] at hr
    refine (rlook_four B x sz n rc RA bs A c C _ w h h2 hr).mono ?_
    rintro e w' ⟨rfl, hb⟩
    refine ⟨?_, hb⟩
    show Ending.returned (.tuple #[.int .i64 (if keyV l < n then (keyV l : Int) else 0), .int .i64 (if keyV l < n then 0 else 6)]) = _
    by_cases hlt : keyV l < n
    · rw [if_pos hlt, if_pos hlt, if_pos hlt]
    · rw [if_neg hlt, if_neg hlt, if_neg hlt]
  · rw [if_neg hm]
    have d4 : ((m : Int) != 4) = true := by simp; omega
    clear h hr hb
    go_enter Tryz.func73, Tryz.ntmps73
    go_wp2_with fail
    go_ret2
    exact ⟨rfl, Below.refl _ _⟩
set_option maxRecDepth 100000 in
set_option maxHeartbeats 1000000 in
theorem rset_no (B x sz n rc : Nat) (RA : Option Addr) (bs : List Int) (i off : Int) (S : Option Addr) (k sc : Nat) (w : World) (h : RArr w B x sz n RA rc bs) (ho : off ≤ 9223372036854775807) (hk : (k : Int) ≤ 140737488351232) (he : setE n sz i off k ≠ 0) :
    Calls Tryz.prog 74 #[.pointer (some ⟨x, 0, none⟩), .int .i64 i, .int .i64 off, .slice S k sc] w fun e w' => e = .returned (.int .i64 (setE n sz i off k)) ∧ Below w.heap.size w w' := by
  have c2 := h.size
  have c3 := h.ent
  have hbig := h.big
  clear h
  unfold setE at he ⊢
  by_cases hi : hasB n i = true
  · rw [if_pos hi] at he ⊢
    have hi1 : 0 ≤ i ∧ i < n := by simpa [hasB] using hi
    have d1 : decide (i < 0) = false := decide_eq_false (by omega)
    have d2 : decide ((n : Int) ≤ i) = false := decide_eq_false (by omega)
    by_cases hf : fitsB sz off k = true
    · rw [if_pos hf] at he; exact absurd rfl he
    · rw [if_neg hf]
      have hf1 : ¬ (0 ≤ off ∧ (k : Int) ≤ sz - off) := by simpa [fitsB] using hf
      clear he hi hf
      by_cases h0 : off < 0
      · have d3 : decide (off < 0) = true := decide_eq_true (by omega)
        go_enter Tryz.func74, Tryz.ntmps74
        go_wp2_with fail
        go_ret
        exact ⟨rfl, Below.refl _ _⟩
      · have d3 : decide (off < 0) = false := decide_eq_false (by omega)
        have a0 : 0 ≤ off := by omega
        by_cases h1 : (sz : Int) < off
        · have d4 : decide ((sz : Int) < off) = true := decide_eq_true (by omega)
          go_enter Tryz.func74, Tryz.ntmps74
          go_wp2_with fail
          go_ret
          exact ⟨rfl, Below.refl _ _⟩
        · have d4 : decide ((sz : Int) < off) = false := decide_eq_false (by omega)
          have d5 : decide ((sz : Int) - off < (k : Int)) = true := decide_eq_true (by omega)
          have a1 : off ≤ 1024 := by omega
          go_enter Tryz.func74, Tryz.ntmps74
          go_wp2_with fail
          go_ret
          exact ⟨rfl, Below.refl _ _⟩
  · rw [if_neg hi]
    have hi1 : ¬ (0 ≤ i ∧ i < n) := by simpa [hasB] using hi
    clear he hi
    by_cases h0 : i < 0
    · have d1 : decide (i < 0) = true := decide_eq_true (by omega)
      go_enter Tryz.func74, Tryz.ntmps74
      go_wp2_with fail
      go_ret
      exact ⟨rfl, Below.refl _ _⟩
    · have d1 : decide (i < 0) = false := decide_eq_false (by omega)
      have d2 : decide ((n : Int) ≤ i) = true := decide_eq_true (by omega)
      go_enter Tryz.func74, Tryz.ntmps74
      go_wp2_with fail
      go_ret
      exact ⟨rfl, Below.refl _ _⟩
set_option maxRecDepth 100000 in
set_option maxHeartbeats 1000000 in
theorem rset_yes (B x sz n rc i off C : Nat) (RA : Option Addr) (bs : List Int) (S : Option Addr) (k sc : Nat) (d : List Int) (w : World) (h : RArr w B x sz n RA rc bs) (hi : i < n) (hd : Rd w C 1 S k (u8s d)) (hC : C ≤ w.heap.size) (hfit : off + k ≤ sz) :
    Calls Tryz.prog 74 #[.pointer (some ⟨x, 0, none⟩), .int .i64 i, .int .i64 off, .slice S k sc] w fun e w' => e = .returned (.int .i64 0) ∧ RArr w' B x sz n RA rc (splice bs (i * sz + off) d) ∧ Kept (fun g => ¬ OfR x (.slice RA (sz * n) rc) g) w w' := by
  have c2 := h.size
  have c3 := h.ent
  have c4 := h.bytes
  obtain ⟨hs1, hs2⟩ := h.big
  obtain ⟨hn1, hn2⟩ := h.many
  have hprod : i * sz + sz ≤ sz * n := by
    have : (i + 1) * sz ≤ n * sz := Nat.mul_le_mul_right _ (by omega)
    rw [Nat.mul_comm n] at this
    rw [Nat.add_mul] at this
    omega
  have hprod2 : sz * n ≤ 1048576 := by
    have : sz * n ≤ 1024 * 1024 := Nat.mul_le_mul hs2 hn2
    omega
  have hmul : (i : Int) * (sz : Int) = ((i * sz : Nat) : Int) := by simp
  obtain ⟨p, hp⟩ : ∃ p, p = i * sz := ⟨_, rfl⟩
  rw [← hp] at hprod hmul ⊢
  obtain ⟨A2, c2', hcut, hg2⟩ := cut_rest (P := Tryz.prog) Tryz.underlying34 u8size h.row (p + off) (by omega)
  have hcw := hcut w.drew
  rw [show ((p + off : Nat) : Int) = (p : Int) + (off : Int) by omega] at hcw
  have p1 : IntKind.i64.wrap ((i : Int) * (sz : Int)) = (p : Int) := by rw [hmul]; exact IntWalk.i64_in _ (by omega)
  have p2 : IntKind.i64.wrap ((p : Int) + (off : Int)) = (p : Int) + (off : Int) := IntWalk.i64_in _ (by omega)
  have d1 : decide ((i : Int) < 0) = false := decide_eq_false (by omega)
  have d2 : decide ((n : Int) ≤ (i : Int)) = false := decide_eq_false (by omega)
  have d3 : decide ((off : Int) < 0) = false := decide_eq_false (by omega)
  have d4 : decide ((sz : Int) < (off : Int)) = false := decide_eq_false (by omega)
  have d5 : decide ((sz : Int) - (off : Int) < (k : Int)) = false := decide_eq_false (by omega)
  have HG2 := hide hg2
  have HR := hide h
  have HD := hide hd
  clear h hd hcut hg2 hp hmul
  go_enter Tryz.func74, Tryz.ntmps74
  go_wp2_with fail
  refine wp_region_still_tail 15 (by kernel_rfl) (by kernel_rfl) ?_
  simp only [List.take_succ_cons, List.take_zero, List.drop_succ_cons, List.drop_zero]
  repeat still_step
  refine wpStill_nil ?_
  have hbw := (Below.refl w.heap.size w).drew
  refine wpList_copy_owns (e := 5) (n := sz * n) (xs := u8s bs) rfl (.tmp 56) (.tmp 57) 34 34 rfl Tryz.underlying34 u8size RA rc (owns_kept_below HR.out.row hbw) (p + off) A2 (sz * n - (p + off)) c2' rfl HG2.out C S k sc rfl (u8s d) (HD.out.below (hbw.mono hC)) (u8s_one d) (by omega) (by omega) ?_
  intro w4 ho4 hg4 hz4
  have HO4 := hide ho4
  have HG4 := hide hg4
  clear ho4 hg4 hz4 hcw
  go_wp2
  go_ret
  obtain ⟨h1, h2⟩ := (HR.out.below hbw).put (bs' := splice bs (p + off) d) (by rw [u8s_splice]; exact HO4.out) ((Kept.refl _ _).grown HG4.out (fun j e _ h => h e))
  exact ⟨rfl, h1, keptTrans (Kept.of_below hbw) h2⟩
end Go.Proofs.YtihhbpadafgkoaaGreat
