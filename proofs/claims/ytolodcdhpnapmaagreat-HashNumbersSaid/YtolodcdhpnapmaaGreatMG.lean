/-
  The texts HSB, HT2, HT, GR4 as one.
-/
import Derived.Test.YtolodcdhpnapmaaGreatHF6
import Derived.Test.YtolodcdhpnapmaaGreatMC
import Derived.Test.YtolodcdhpnapmaaGreatMB
import Derived.Test.YtolodcdhpnapmaaGreatMD
import Derived.Test.YtolodcdhpnapmaaGreatMF
import Derived.Deep.CutBlock
import Derived.Deep.CutRange
import Derived.Deep.QuietTactic
import Derived.BigQuiet

/-
  The program's hash and the document's, side by side; each call that changes, of both.
-/
namespace Go.Proofs.YtolodcdhpnapmaaGreat
open Go.RowKit Go.Maps Go.Sort
set_option linter.unusedVariables false
set_option linter.unusedSimpArgs false

theorem SameA.symm {L M : List HS} (h : SameA L M) : SameA M L := ⟨h.1.symm, fun i r s hr hs => by
  obtain ⟨a, b⟩ := h.2 i s r hs hr
  exact ⟨a.symm, b.symm⟩⟩
theorem OfR.same {x y sz : Nat} {L M : List HS} {g : Nat} (hA : SameA M L) (h : OfR x y sz M g) : OfR x y sz L g := by
  rcases h with rfl | rfl | ⟨r, hr, hg⟩
  · exact .inl rfl
  · exact .inr (.inl rfl)
  · obtain ⟨i, hi⟩ := List.mem_iff_getElem?.1 hr
    have hl : i < L.length := hA.1 ▸ (List.getElem?_eq_some_iff.1 hi).1
    obtain ⟨h1, h2⟩ := hA.2 i r _ hi (List.getElem?_eq_getElem hl)
    exact .inr (.inr ⟨L[i], List.getElem_mem hl, by unfold HS.sl at hg ⊢; rw [← h1, ← h2]; exact hg⟩)
/-- Both hashes, apart from each other and from what N leaves out. -/
structure Both (N : Nat → Prop) (w0 w : World) (b cb mb ks sz : Nat) (L : List HS) (x y lc : Nat) : Prop where
  a : Hsh w w0.heap.size b cb mb ks sz L
  r : ∃ M, RHsh w w0.heap.size x y lc ks sz M ∧ Par L M ∧ ∀ g, OfR x y sz M g → ¬ OfH b cb mb sz L g ∧ N g
  n : ∀ g, OfH b cb mb sz L g → N g
  below : Below w0.heap.size w0 w
section
variable {N N' F : Nat → Prop} {w0 w w' : World} {b cb mb ks sz x y lc : Nat} {L : List HS}
theorem Both.kept (h : Both N w0 w b cb mb ks sz L x y lc) (hk : Kept F w w') (hF : ∀ g, N g → F g) (h0 : ∀ g, g < w0.heap.size → F g) : Both N w0 w' b cb mb ks sz L x y lc := by
  obtain ⟨M, h1, h2, h3⟩ := h.r
  exact ⟨h.a.kept hk (fun g hg => hF g (h.n g hg)), ⟨M, h1.kept hk (fun g hg => hF g (h3 g hg).2), h2, h3⟩, h.n, h.below.trans (hk.to_below h0 h.below.size)⟩
theorem Both.later (h : Both N w0 w b cb mb ks sz L x y lc) (hb : Below w.heap.size w w') : Both N w0 w' b cb mb ks sz L x y lc :=
  h.kept (F := fun _ => True) (Kept.of_below hb) (fun _ _ => trivial) (fun _ _ => trivial)
theorem Both.mono (h : Both N w0 w b cb mb ks sz L x y lc) (hN : ∀ g, g < w.heap.size → N g → N' g) : Both N' w0 w b cb mb ks sz L x y lc := by
  obtain ⟨M, h1, h2, h3⟩ := h.r
  exact ⟨h.a, ⟨M, h1, h2, fun g hg => ⟨(h3 g hg).1, hN g (h1.lt g hg) (h3 g hg).2⟩⟩, fun g hg => hN g (h.a.lt g hg) (h.n g hg), h.below⟩
/-- What is kept where all blocks below the heap's end are kept. -/
theorem Both.over {B : Nat} (h : Both N w0 w b cb mb ks sz L x y lc) (hb : Below B w w') (hB : ∀ g, g < w.heap.size → N g → g < B) (h0 : w0.heap.size ≤ B) : Both N w0 w' b cb mb ks sz L x y lc := by
  obtain ⟨M, h1, h2, h3⟩ := h.r
  have hk : Kept (fun g => g < B) w w' := ⟨hb.os, hb.tape, hb.output, hb.size, fun k _ hF => hb.block k hF⟩
  exact ⟨h.a.kept hk (fun g hg => hB g (h.a.lt g hg) (h.n g hg)), ⟨M, h1.kept hk (fun g hg => hB g (h1.lt g hg) (h3 g hg).2), h2, h3⟩, h.n, h.below.trans (hb.mono h0)⟩
end
/-- What a call of the document's makes of it. -/
def RGo (B x y lc ks sz : Nat) (LU : List HS) (w : World) (M : List HS) (w' : World) : Prop := ∃ M', RHsh w' B x y lc ks sz M' ∧ Par LU M' ∧ Kept (fun g => ¬ OfR x y sz M g) w w' ∧ ∀ g, OfR x y sz M' g → OfR x y sz M g ∨ w.heap.size ≤ g
section
variable {B x y lc ks sz : Nat} {L M : List HS} {w : World}
theorem RGo.no {w' : World} (h : RHsh w B x y lc ks sz M) (hp : Par L M) (hb : Below w.heap.size w w') : RGo B x y lc ks sz L w M w' := ⟨M, h.below hb, hp, Kept.of_below hb, fun g hg => .inl hg⟩
theorem rupd_both {A S : Option Addr} {n c C k sc : Nat} {fl : Int} {l d : List Int} (h : RHsh w B x y lc ks sz M) (hp : Par L M) (hr : KRow w C A n l) (hC : C ≤ w.heap.size) (hd : Rd w C 1 S k (u8s d)) (hS : S = none → k = 0) :
    Calls Tryz.prog 39 #[.pointer (some ⟨x, 0, none⟩), .slice A n c, .slice S k sc, .int .u64 fl] w fun e w' => e = .returned (.int .i64 (updE ks sz n k L (kb l) fl)) ∧ RGo B x y lc ks sz (updL ks sz n k L (kb l) fl d) w M w' := by
  have hpu := hp.updL ks sz n k (kb l) fl d
  have e := hp.updE ks sz n k (kb l) fl
  by_cases he : updE ks sz n k L (kb l) fl = 0
  · rw [he]
    rw [e] at he
    obtain ⟨rfl, rfl, hf, hpk⟩ := updE_yes he
    have eu : updL n k n k M (kb l) fl d = putB (putK M (kb l)) (putAt M (kb l)) 0 d := by unfold updL; rw [if_pos he]
    rw [eu] at hpu
    refine (rupd_yes B x y lc n k M A S c C sc fl l d w h hr hC hd hS hf hpk).mono ?_
    rintro e2 w' ⟨M', h1, h2, h3, h4, h5⟩
    exact ⟨h1, M', h2, hpu.trans h3.symm, h4, h5⟩
  · have el : updL ks sz n k L (kb l) fl d = L := by unfold updL; rw [if_neg he]
    rw [el]
    rw [e] at he ⊢
    exact (rupd_no B x y lc ks sz M A S n c C k sc fl l w h hr hC he).mono (fun e2 w' ⟨h1, h2⟩ => ⟨h1, RGo.no h hp h2⟩)
theorem rset_both {i off : Int} {S : Option Addr} {k sc C : Nat} {d : List Int} (h : RHsh w B x y lc ks sz M) (hp : Par L M) (ho : off ≤ 9223372036854775807) (hk : (k : Int) ≤ 140737488351232) (hd : Rd w C 1 S k (u8s d)) (hC : C ≤ w.heap.size) :
    Calls Tryz.prog 37 #[.pointer (some ⟨x, 0, none⟩), .int .i64 i, .int .i64 off, .slice S k sc] w fun e w' => e = .returned (.int .i64 (setE L.length sz i off k)) ∧ RGo B x y lc ks sz (setL L sz i off k d) w M w' := by
  have hpu := hp.setL sz i off k d
  rw [hp.len]
  by_cases he : setE M.length sz i off k = 0
  · rw [he]
    obtain ⟨a, o, rfl, rfl, ha, hf⟩ := setE_yes he
    have eu : setL M sz a o k d = putB M a o d := by unfold setL; rw [if_pos he]; simp
    rw [eu] at hpu
    refine (rset_yes B x y lc ks sz a o C M M[a] S k sc d w h (List.getElem?_eq_getElem ha) hd hC hf).mono ?_
    rintro e2 w' ⟨h1, h2, h3⟩
    exact ⟨h1, _, h2, hpu, h3, fun g hg => .inl (hg.same (sameA_putB _ _ _ _))⟩
  · have el : setL L sz i off k d = L := by unfold setL; rw [hp.len, if_neg he]
    rw [el]
    exact (rset_no B x y lc ks sz M i off S k sc w h ho hk he).mono (fun e2 w' ⟨h1, h2⟩ => ⟨h1, RGo.no h hp h2⟩)
theorem delE_yes2 {ks n : Nat} {L : List HS} {k : List UInt8} (he : delE ks n L k = 0) : n = ks ∧ ∃ i, findK L k = some i ∧ delL ks n L k = dropK L i := by
  unfold delE at he
  split at he
  · rename_i hn
    split at he
    · rename_i i hi
      refine ⟨hn, i, hi, ?_⟩
      unfold delL
      rw [if_pos hn, hi]
    · cases he
  · cases he
theorem delL_no {ks n : Nat} {L : List HS} {k : List UInt8} (he : delE ks n L k ≠ 0) : delL ks n L k = L := by
  unfold delE at he
  unfold delL
  split
  · rename_i hn
    rw [if_pos hn] at he
    cases hf : findK L k with
    | none => rfl
    | some i => rw [hf] at he; exact absurd rfl he
  · rfl
theorem rdel_both {A : Option Addr} {n c C : Nat} {l : List Int} (h : RHsh w B x y lc ks sz M) (hp : Par L M) (hr : KRow w C A n l) (hC : C ≤ w.heap.size) :
    Calls Tryz.prog 38 #[.pointer (some ⟨x, 0, none⟩), .slice A n c] w fun e w' => e = .returned (.int .i64 (delE ks n L (kb l))) ∧ RGo B x y lc ks sz (delL ks n L (kb l)) w M w' := by
  have hpu := hp.delL ks n (kb l)
  have e := hp.delE ks n (kb l)
  by_cases he : delE ks n L (kb l) = 0
  · rw [he]
    rw [e] at he
    obtain ⟨rfl, i, hi, hd⟩ := delE_yes2 he
    rw [hd] at hpu
    obtain ⟨r, hr1, _, _⟩ := findK_some hi
    refine (rdel_yes B x y lc n sz i M A c C l r w h hr hC hi hr1).mono ?_
    rintro e2 w' ⟨h1, h2, h3⟩
    exact ⟨h1, _, h2, hpu, h3, fun g hg => .inl (hg.same (sameA_dropK _ _))⟩
  · rw [delL_no he]
    rw [e] at he ⊢
    exact (rdel_no B x y lc ks sz M A n c C l w h hr hC he).mono (fun e2 w' ⟨h1, h2⟩ => ⟨h1, RGo.no h hp h2⟩)
end
theorem set_any {B b cb mb ks sz : Nat} {L : List HS} {i off : Int} {S : Option Addr} {k sc C : Nat} {d : List Int} {w : World} (h : Hsh w B b cb mb ks sz L) (ho : off ≤ 9223372036854775807) (hd : Rd w C 1 S k (u8s d)) (hC : C ≤ w.heap.size) :
    Calls Tryz.prog 27 #[.pointer (some ⟨b, 0, none⟩), .int .i64 i, .int .i64 off, .slice S k sc] w fun e w' => e = .returned (.int .i64 (setE L.length sz i off k)) ∧ Hsh w' B b cb mb ks sz (setL L sz i off k d) ∧ Kept (fun g => ¬ OfH b cb mb sz L g) w w' := by
  by_cases he : setE L.length sz i off k = 0
  · rw [he]
    have el : setL L sz i off k d = putB L i.toNat off.toNat d := by unfold setL; rw [if_pos he]
    rw [el]
    obtain ⟨a, o, rfl, rfl, ha, hf⟩ := setE_yes he
    exact set_yes B b cb mb ks sz a o C L L[a] S k sc d w h (List.getElem?_eq_getElem ha) hd hC hf
  · have el : setL L sz i off k d = L := by unfold setL; rw [if_neg he]
    rw [el]
    exact (set_no B b cb mb ks sz L i off S k sc w h ho he).mono (fun e w' ⟨h1, h2⟩ => ⟨h1, h.below h2, Kept.of_below h2⟩)
/-- What a step has beside the hashes: its deed's box, and the rows that it lent. -/
structure Fr (W : World) (bx : Nat) (cs : Array Value) (g1 n1 : Nat) (x1 : List Value) (g2 n2 : Nat) (x2 : List Value) : Prop where
  box : W.heap[bx]? = some (.cells cs 37 (0, 0))
  r1 : Row W g1 (n1 + 12) 5 1 (n1 + 12) x1
  r2 : Row W g2 (n2 + 12) 5 1 (n2 + 12) x2
theorem Fr.kept {W W' : World} {bx g1 n1 g2 n2 : Nat} {cs : Array Value} {x1 x2 : List Value} {F : Nat → Prop} (h : Fr W bx cs g1 n1 x1 g2 n2 x2) (hk : Kept F W W') (hb : F bx) (h1 : F g1) (h2 : F g2) : Fr W' bx cs g1 n1 x1 g2 n2 x2 :=
  ⟨(hk.block _ (at_lt h.box) hb).trans h.box, owns_kept h.r1 hk (fun g hg => by simp [Value.ownBlock] at hg; rw [← hg]; exact h1), owns_kept h.r2 hk (fun g hg => by simp [Value.ownBlock] at hg; rw [← hg]; exact h2)⟩
theorem Fr.below {W W' : World} {bx g1 n1 g2 n2 : Nat} {cs : Array Value} {x1 x2 : List Value} (h : Fr W bx cs g1 n1 x1 g2 n2 x2) (hb : Below W.heap.size W W') : Fr W' bx cs g1 n1 x1 g2 n2 x2 := h.kept (F := fun _ => True) (Kept.of_below hb) trivial trivial trivial
theorem Fr.krow {W : World} {bx g1 n1 g2 n2 : Nat} {cs : Array Value} {l : List Int} {ms x2 : List Value} (h : Fr W bx cs g1 n1 (u8s l ++ ms) g2 n2 x2) (hl : l.length = n1) (hb : ∀ x ∈ l, IsByte x) : KRow W (g1 + 1) (some ⟨g1, 0, none⟩) n1 l := by
  refine ⟨?_, nofun, hb⟩
  have h1 := Rd.of_owns h.r1
  refine ⟨by simp [u8s, hl], fun hn => ?_⟩
  obtain ⟨ad, e, hlt, hc⟩ := h1.2 (by omega)
  cases e
  refine ⟨_, rfl, hlt, fun j u hu => hc j u ?_⟩
  rw [List.getElem?_append_left (by have := (List.getElem?_eq_some_iff.1 hu).1; exact this)]
  exact hu
theorem row_head {W : World} {g n : Nat} {l : List Int} {ms : List Value} (h : Row W g (n + 12) 5 1 (n + 12) (u8s l ++ ms)) (hl : l.length = n) : Rd W (g + 1) 1 (some ⟨g, 0, none⟩) n (u8s l) := by
  have h1 := Rd.of_owns h
  refine ⟨by simp [u8s, hl], fun hn => ?_⟩
  obtain ⟨ad, e, hlt, hc⟩ := h1.2 (by omega)
  cases e
  refine ⟨_, rfl, hlt, fun j u hu => hc j u ?_⟩
  rw [List.getElem?_append_left (by have := (List.getElem?_eq_some_iff.1 hu).1; exact this)]
  exact hu
/-- What is not the step's own. -/
def Els (bx ga gb : Nat) (g : Nat) : Prop := g ≠ bx ∧ g ≠ ga ∧ g ≠ gb
/-- What stands beside a deed's step: both hashes, each before or behind its call, and the step's own. -/
structure Two (w0 : World) (b cb mb ks sz x y lc : Nat) (L LU : List HS) (bx : Nat) (cs : Array Value) (ga n1 : Nat) (x1 : List Value) (gb n2 : Nat) (x2 : List Value) (pa pr : Bool) (W : World) : Prop where
  a : Hsh W w0.heap.size b cb mb ks sz (if pa = true then LU else L)
  r : ∃ M, RHsh W w0.heap.size x y lc ks sz M ∧ Par (if pr = true then LU else L) M ∧ ∀ g, OfR x y sz M g → ¬ OfH b cb mb sz L g ∧ Els bx ga gb g
  n : ∀ g, OfH b cb mb sz L g → Els bx ga gb g ∧ g < W.heap.size
  below : Below w0.heap.size w0 W
  fr : Fr W bx cs ga n1 x1 gb n2 x2
  same : SameA LU L
section
variable {w0 : World} {b cb mb ks sz x y lc : Nat} {L LU M : List HS} {bx : Nat} {cs : Array Value} {ga n1 : Nat} {x1 : List Value} {gb n2 : Nat} {x2 : List Value} {pa pr : Bool} {W W' : World}
theorem Two.fresh (h : Two w0 b cb mb ks sz x y lc L LU bx cs ga n1 x1 gb n2 x2 pa pr W) {g : Nat} (hg : W.heap.size ≤ g) : ¬ OfH b cb mb sz L g ∧ Els bx ga gb g := by
  have h1 := at_lt h.fr.box
  have h2 := row_lt h.fr.r1
  have h3 := row_lt h.fr.r2
  exact ⟨fun hc => by have := (h.n g hc).2; omega, by omega, by omega, by omega⟩
theorem Two.later (h : Two w0 b cb mb ks sz x y lc L LU bx cs ga n1 x1 gb n2 x2 pa pr W) (hb : Below W.heap.size W W') : Two w0 b cb mb ks sz x y lc L LU bx cs ga n1 x1 gb n2 x2 pa pr W' := by
  obtain ⟨M, h1, h2, h3⟩ := h.r
  exact ⟨h.a.below hb, ⟨M, h1.below hb, h2, h3⟩, fun g hg => ⟨(h.n g hg).1, Nat.lt_of_lt_of_le (h.n g hg).2 hb.size⟩, h.below.trans (hb.mono h.below.size), h.fr.below hb, h.same⟩
theorem Two.one (h : Two w0 b cb mb ks sz x y lc L LU bx cs ga n1 x1 gb n2 x2 false pr W) (ha : Hsh W' w0.heap.size b cb mb ks sz LU) (hk : Kept (fun g => ¬ OfH b cb mb sz L g) W W') : Two w0 b cb mb ks sz x y lc L LU bx cs ga n1 x1 gb n2 x2 true pr W' := by
  obtain ⟨M, h1, h2, h3⟩ := h.r
  have h0 := h.a
  rw [if_neg Bool.false_ne_true] at h0
  refine ⟨by rw [if_pos rfl]; exact ha, ⟨M, h1.kept hk (fun g hg => (h3 g hg).1), h2, h3⟩, fun g hg => ⟨(h.n g hg).1, Nat.lt_of_lt_of_le (h.n g hg).2 hk.size⟩, h.below.trans (hk.to_below (fun g hg hc => ?_) h.below.size), h.fr.kept hk (fun hc => (h.n _ hc).1.1 rfl) (fun hc => (h.n _ hc).1.2.1 rfl) (fun hc => (h.n _ hc).1.2.2 rfl), h.same⟩
  have := h0.low g hc
  omega
theorem Two.two (h : Two w0 b cb mb ks sz x y lc L LU bx cs ga n1 x1 gb n2 x2 pa false W) (hM : RHsh W w0.heap.size x y lc ks sz M) (hN : ∀ g, OfR x y sz M g → ¬ OfH b cb mb sz L g ∧ Els bx ga gb g) (hr : RGo w0.heap.size x y lc ks sz LU W M W') : Two w0 b cb mb ks sz x y lc L LU bx cs ga n1 x1 gb n2 x2 pa true W' := by
  obtain ⟨M', h1, h2, hk, h4⟩ := hr
  refine ⟨h.a.kept hk (fun g hg hc => (hN g hc).1 ?_), ⟨M', h1, by rw [if_pos rfl]; exact h2, fun g hg => ?_⟩, fun g hg => ⟨(h.n g hg).1, Nat.lt_of_lt_of_le (h.n g hg).2 hk.size⟩, h.below.trans (hk.to_below (fun g hg hc => ?_) h.below.size), h.fr.kept hk (fun hc => (hN _ hc).2.1 rfl) (fun hc => (hN _ hc).2.2.1 rfl) (fun hc => (hN _ hc).2.2.2 rfl), h.same⟩
  · split at hg
    · exact hg.same h.same
    · exact hg
  · rcases h4 g hg with hg | hg
    · exact hN g hg
    · exact h.fresh hg
  · have := hM.low g hc
    omega
theorem Two.start (h : Both (Els bx ga gb) w0 W b cb mb ks sz L x y lc) (hf : Fr W bx cs ga n1 x1 gb n2 x2) (hs : SameA LU L) : Two w0 b cb mb ks sz x y lc L LU bx cs ga n1 x1 gb n2 x2 false false W := by
  refine ⟨by rw [if_neg Bool.false_ne_true]; exact h.a, ?_, fun g hg => ⟨h.n g hg, h.a.lt g hg⟩, h.below, hf, hs⟩
  rw [if_neg Bool.false_ne_true]
  exact h.r
theorem Two.done (h : Two w0 b cb mb ks sz x y lc L LU bx cs ga n1 x1 gb n2 x2 true true W) : Both (Els bx ga gb) w0 W b cb mb ks sz LU x y lc := by
  have h1 := h.a
  obtain ⟨M, h2, h3, h4⟩ := h.r
  rw [if_pos rfl] at h1 h3
  exact ⟨h1, ⟨M, h2, h3, fun g hg => ⟨fun hc => (h4 g hg).1 (hc.same h.same), (h4 g hg).2⟩⟩, fun g hg => (h.n g (hg.same h.same)).1, h.below⟩
theorem Two.flags {pa' pr' : Bool} (h : Two w0 b cb mb ks sz x y lc L LU bx cs ga n1 x1 gb n2 x2 pa pr W) (h1 : pa' = pa) (h2 : pr' = pr) : Two w0 b cb mb ks sz x y lc L LU bx cs ga n1 x1 gb n2 x2 pa' pr' W := by
  rw [h1, h2]; exact h
end
theorem flag_same {L : Nat → Bool} {p i : Nat} (h : i ≠ p) : (L p || p == i) = L p := by
  have : (p == i) = false := by simpa using fun e => h e.symm
  rw [this, Bool.or_false]
theorem flag_now {L : Nat → Bool} {i : Nat} : (L i || i == i) = true := by simp
section
variable {w0 : World} {b cb mb ks sz x y lc : Nat} {L LU M : List HS} {bx : Nat} {cs : Array Value} {ga n1 : Nat} {x1 : List Value} {gb n2 : Nat} {x2 : List Value} {W W' : World} {p q i : Nat} {D : Nat → Bool}
/-- The same, told by the done operations. -/
def GTwo (w0 : World) (b cb mb ks sz x y lc : Nat) (L LU : List HS) (bx : Nat) (cs : Array Value) (ga n1 : Nat) (x1 : List Value) (gb n2 : Nat) (x2 : List Value) (p q : Nat) (D : Nat → Bool) (W : World) : Prop := Two w0 b cb mb ks sz x y lc L LU bx cs ga n1 x1 gb n2 x2 (D p) (D q) W
theorem GTwo.both (h : GTwo w0 b cb mb ks sz x y lc L LU bx cs ga n1 x1 gb n2 x2 p q D W) : Two w0 b cb mb ks sz x y lc L LU bx cs ga n1 x1 gb n2 x2 (D p) (D q) W := h
theorem GTwo.same (h : GTwo w0 b cb mb ks sz x y lc L LU bx cs ga n1 x1 gb n2 x2 p q D W) (h0 : i ≠ p) (h1 : i ≠ q) : GTwo w0 b cb mb ks sz x y lc L LU bx cs ga n1 x1 gb n2 x2 p q (fun j => D j || j == i) W := Two.flags h (flag_same h0) (flag_same h1)
theorem GTwo.fst (h : GTwo w0 b cb mb ks sz x y lc L LU bx cs ga n1 x1 gb n2 x2 p q D W) (hD : D p = false) : Hsh W w0.heap.size b cb mb ks sz L := by
  have h1 := (Two.flags h hD.symm rfl).a
  rw [if_neg Bool.false_ne_true] at h1
  exact h1
theorem GTwo.snd (h : GTwo w0 b cb mb ks sz x y lc L LU bx cs ga n1 x1 gb n2 x2 p q D W) (hD : D q = false) : ∃ M, RHsh W w0.heap.size x y lc ks sz M ∧ Par L M ∧ ∀ g, OfR x y sz M g → ¬ OfH b cb mb sz L g ∧ Els bx ga gb g := by
  have h1 := (Two.flags h rfl hD.symm).r
  rw [if_neg Bool.false_ne_true] at h1
  exact h1
theorem GTwo.one (h : GTwo w0 b cb mb ks sz x y lc L LU bx cs ga n1 x1 gb n2 x2 p q D W) (hD : D p = false) (hpq : p ≠ q) (ha : Hsh W' w0.heap.size b cb mb ks sz LU) (hk : Kept (fun g => ¬ OfH b cb mb sz L g) W W') : GTwo w0 b cb mb ks sz x y lc L LU bx cs ga n1 x1 gb n2 x2 p q (fun j => D j || j == p) W' :=
  ((Two.flags h hD.symm rfl).one ha hk).flags flag_now (flag_same hpq)
theorem GTwo.two (h : GTwo w0 b cb mb ks sz x y lc L LU bx cs ga n1 x1 gb n2 x2 p q D W) (hD : D q = false) (hpq : q ≠ p) (hM : RHsh W w0.heap.size x y lc ks sz M) (hN : ∀ g, OfR x y sz M g → ¬ OfH b cb mb sz L g ∧ Els bx ga gb g) (hr : RGo w0.heap.size x y lc ks sz LU W M W') : GTwo w0 b cb mb ks sz x y lc L LU bx cs ga n1 x1 gb n2 x2 p q (fun j => D j || j == q) W' :=
  ((Two.flags h rfl hD.symm).two hM hN hr).flags (flag_same hpq) flag_now
end
end Go.Proofs.YtolodcdhpnapmaaGreat

/-
  Two rows that were told lie apart; what Value tells, by both.
-/
namespace Go.Proofs.YtolodcdhpnapmaaGreat
open Go.RowKit Go.Maps
set_option linter.unusedVariables false

theorem rd_of_slice {w : World} {e : TypeId} {sz n c : Nat} {A : Option Addr} {xs : List Value} (h : w.ownsRow 0 e sz (.slice A n c) n xs) : Rd w w.heap.size sz A n xs := by
  obtain ⟨A', c', h1, h2⟩ := owns_slice h
  injection h1 with h1
  subst h1
  exact h2
def duo {α : Type} (a b : α) (i : Nat) : α := if i = 0 then a else b
theorem two_apart {B n0 c0 n1 c1 : Nat} {A0 A1 : Option Addr} {l0 l1 : List Int} {w : World} (h0 : OwnB w B (.slice A0 n0 c0) n0 l0) (h1 : OwnB w B (.slice A1 n1 c1) n1 l1) (hs : ∀ g, (Value.slice A0 n0 c0).ownBlock = some g → (Value.slice A1 n1 c1).ownBlock ≠ some g) (hn0 : n0 ≤ 1000000) (hn1 : n1 ≤ 1000000) (hB : B ≤ w.heap.size) :
    Calls Tryz.prog 42 #[.slice (some ⟨w.heap.size, 0, none⟩) 2 2] (w.alloc (.cells #[.slice A0 n0 c0, .slice A1 n1 c1] 34)) fun e w' => e = .returned (.bool true) ∧ Below B w w' := by
  have hx := World.alloc_heap_new w (.cells #[.slice A0 n0 c0, .slice A1 n1 c1] 34)
  have hb := below1 w (.cells #[.slice A0 n0 c0, .slice A1 n1 c1] 34)
  have hl : (w.alloc (.cells #[.slice A0 n0 c0, .slice A1 n1 c1] 34)).ownsRow 0 34 1 (.slice (some ⟨w.heap.size, 0, none⟩) 2 2) 2 (rowsV (duo A0 A1) (duo n0 n1) (duo c0 c1) 2) := by
    refine ⟨rfl, .inr ⟨_, 2, _, rfl, Nat.zero_le _, hx, Nat.le_refl _, by decide, rfl, rfl⟩⟩
  have hv : ∀ i, i < 2 → ∃ xs, (w.alloc (.cells #[.slice A0 n0 c0, .slice A1 n1 c1] 34)).ownsRow 0 5 1 (rowV (duo A0 A1) (duo n0 n1) (duo c0 c1) i) (duo n0 n1 i) xs := fun i hi => by
    have hi2 : i = 0 ∨ i = 1 := by omega
    rcases hi2 with rfl | rfl
    · exact ⟨_, World.ownsRow.alloc h0.1 _⟩
    · exact ⟨_, World.ownsRow.alloc h1.1 _⟩
  have hsp : Sep 2 (rowV (duo A0 A1) (duo n0 n1) (duo c0 c1)) := fun i j hi hj hij b hb => by
    have hi2 : i = 0 ∧ j = 1 ∨ i = 1 ∧ j = 0 := by omega
    rcases hi2 with ⟨rfl, rfl⟩ | ⟨rfl, rfl⟩
    · exact hs b hb
    · exact fun e => hs b e hb
  refine (apartBytes_any _ 2 (duo A0 A1) (duo n0 n1) (duo c0 c1) _ hl hv hsp (fun i => by unfold duo; split <;> omega) (by decide)).mono ?_
  rintro e w' ⟨h2, hk⟩
  refine ⟨h2, (hb.mono hB).trans (hk.to_below (fun g hg i hi e => ?_) (by simp; omega))⟩
  have hi2 : i = 0 ∨ i = 1 := by omega
  rcases hi2 with rfl | rfl
  · have := h0.2 g e; omega
  · have := h1.2 g e; omega
theorem nil_apart {B : Nat} {w : World} (hB : B ≤ w.heap.size) :
    Calls Tryz.prog 42 #[.slice (some ⟨w.heap.size, 0, none⟩) 2 2] (w.alloc (.cells #[.slice none 0 0, .slice none 0 0] 34)) fun e w' => e = .returned (.bool true) ∧ Below B w w' :=
  two_apart (l0 := []) (l1 := []) ⟨owns_nil w _ 1, fun g hg => by cases hg⟩ ⟨owns_nil w _ 1, fun g hg => by cases hg⟩ (fun g hg => by cases hg) (by decide) (by decide) hB
def valE (n : Nat) (i : Int) : Int := if hasB n i = true then 0 else 6
def valM (n sz : Nat) (i : Int) : Nat := if hasB n i = true then sz else 0
def valL (n : Nat) (i : Int) (l : List Int) : List Int := if hasB n i = true then l else []
theorem valM_le (n sz : Nat) (i : Int) : valM n sz i ≤ sz := by unfold valM; split <;> omega
/-- What Value tells, whatever is asked. -/
def ValAny (n sz : Nat) (i : Int) (l : List Int) (w : World) (e : Ending) (w' : World) : Prop := ∃ A m c er, e = .returned (.tuple #[.slice A m c, .int .i64 er]) ∧ er = valE n i ∧ m = valM n sz i ∧ OwnB w' w.heap.size (.slice A m c) m (valL n i l) ∧ Below w.heap.size w w'
theorem hasB_yes {n : Nat} {i : Int} (h : hasB n i = true) : ∃ k : Nat, i = k ∧ k < n := by
  unfold hasB at h
  simp at h
  exact ⟨i.toNat, by omega, by omega⟩
theorem valAny_told {n sz : Nat} {i : Int} {l : List Int} {w : World} {e : Ending} {w' : World} (hi : hasB n i = true) (h : ValTold sz l w e w') : ValAny n sz i l w e w' := by
  obtain ⟨v, h1, h2, h3⟩ := h
  obtain ⟨A, c, rfl, _⟩ := owns_slice h2.1
  unfold ValAny valE valM valL
  exact ⟨A, sz, c, 0, h1, by rw [if_pos hi], by rw [if_pos hi], by rw [if_pos hi]; exact h2, h3⟩
theorem valAny_no {n sz : Nat} {i : Int} {l : List Int} {w : World} {e : Ending} {w' : World} (hi : hasB n i = false) (h1 : e = .returned (.tuple #[.slice none 0 0, .int .i64 6])) (h3 : Below w.heap.size w w') : ValAny n sz i l w e w' := by
  have hn : ¬ hasB n i = true := by simp [hi]
  unfold ValAny valE valM valL
  exact ⟨none, 0, 0, 6, h1, by rw [if_neg hn], by rw [if_neg hn], by rw [if_neg hn]; exact ⟨owns_nil w' _ 1, fun g hg => by cases hg⟩, h3⟩
def vbs (L : List HS) (i : Int) : List Int := ((L[i.toNat]?).map (·.bs)).getD []
theorem value_any {B b cb mb ks sz : Nat} {L : List HS} {i : Int} {w : World} (h : Hsh w B b cb mb ks sz L) :
    Calls Tryz.prog 17 #[.pointer (some ⟨b, 0, none⟩), .int .i64 i] w (ValAny L.length sz i (vbs L i) w) := by
  cases hi : hasB L.length i with
  | false => exact (value_no B b cb mb ks sz L i w h hi).mono (fun e w' ⟨h1, h2⟩ => valAny_no hi h1 h2)
  | true =>
    obtain ⟨k, rfl, hk⟩ := hasB_yes hi
    have hr := List.getElem?_eq_getElem hk
    refine (value_yes B b cb mb ks sz k L L[k] w h hr).mono (fun e w' h1 => valAny_told hi ?_)
    have : vbs L (k : Int) = L[k].bs := by simp [vbs, hr]
    rw [this]
    exact h1
theorem rvalue_any {B x y lc ks sz : Nat} {M : List HS} {i : Int} {w : World} (h : RHsh w B x y lc ks sz M) :
    Calls Tryz.prog 18 #[.pointer (some ⟨x, 0, none⟩), .int .i64 i] w (ValAny M.length sz i (vbs M i) w) := by
  cases hi : hasB M.length i with
  | false => exact (rvalue_no B x y lc ks sz M i w h hi).mono (fun e w' ⟨h1, h2⟩ => valAny_no hi h1 h2)
  | true =>
    obtain ⟨k, rfl, hk⟩ := hasB_yes hi
    have hr := List.getElem?_eq_getElem hk
    refine (rvalue_yes B x y lc ks sz k M M[k] w h hr).mono (fun e w' h1 => valAny_told hi ?_)
    have : vbs M (k : Int) = M[k].bs := by simp [vbs, hr]
    rw [this]
    exact h1
theorem Par.vbs {L M : List HS} (h : Par L M) (i : Int) : vbs M i = vbs L i := by
  unfold YtolodcdhpnapmaaGreat.vbs
  cases hr : L[i.toNat]? with
  | none => rw [h.none hr]
  | some r =>
    obtain ⟨s, hs, _, h2⟩ := h.at hr
    rw [hs]
    exact h2
/-- A document's hash that stands beside tells the same. -/
theorem Both.rvalue {N : Nat → Prop} {w0 w : World} {b cb mb ks sz x y lc : Nat} {L : List HS} (h : Both N w0 w b cb mb ks sz L x y lc) (i : Int) :
    Calls Tryz.prog 18 #[.pointer (some ⟨x, 0, none⟩), .int .i64 i] w (ValAny L.length sz i (vbs L i) w) := by
  obtain ⟨M, h1, h2, _⟩ := h.r
  have := rvalue_any (i := i) h1
  rw [← h2.len, h2.vbs] at this
  exact this
theorem Both.rkeys {N : Nat → Prop} {w0 w : World} {b cb mb ks sz x y lc : Nat} {L : List HS} (h : Both N w0 w b cb mb ks sz L x y lc) :
    Calls Tryz.prog 23 #[.pointer (some ⟨x, 0, none⟩)] w fun e w' => ∃ v rs, e = .returned v ∧ KeysTold w' w.heap.size v rs ∧ rs.map KR.k = keysM L ∧ Below w.heap.size w w' := by
  obtain ⟨M, h1, h2, _⟩ := h.r
  have := rkeys_any w0.heap.size x y lc ks sz M w h1
  rw [← h2.keys] at this
  exact this
theorem Both.rlook {N : Nat → Prop} {w0 w : World} {b cb mb ks sz x y lc : Nat} {L : List HS} (h : Both N w0 w b cb mb ks sz L x y lc) {A : Option Addr} {n c C : Nat} {l : List Int} (hr : KRow w C A n l) (hC : C ≤ w.heap.size) :
    Calls Tryz.prog 36 #[.pointer (some ⟨x, 0, none⟩), .slice A n c] w fun e w' => e = .returned (.tuple #[.int .i64 (lookE ks n L (kb l)).1, .int .i64 (lookE ks n L (kb l)).2]) ∧ Below w.heap.size w w' := by
  obtain ⟨M, h1, h2, _⟩ := h.r
  have := rlookup_any w0.heap.size x y lc ks sz M A n c C l w h1 hr hC
  rw [← h2.lookE] at this
  exact this
/-- Two tellings of the same keys are the same rows. -/
theorem same_keys {B1 B2 n1 c1 n2 c2 : Nat} {A1 A2 : Option Addr} {rs1 rs2 : List KR} {L : List HS} {w : World} (hL : L.length ≤ 1024) (h1 : KeysTold w B1 (.slice A1 n1 c1) rs1) (h2 : KeysTold w B2 (.slice A2 n2 c2) rs2) (e1 : rs1.map KR.k = keysM L) (e2 : rs2.map KR.k = keysM L) (hk : ∀ k ∈ keysM L, k.length ≤ 1000000) :
    Calls Tryz.prog 22 #[.slice A1 n1 c1, .slice A2 n2 c2] w fun e w' => e = .returned (.bool true) ∧ Below w.heap.size w w' := by
  obtain ⟨rfl, r1⟩ := h1.rows
  obtain ⟨rfl, r2⟩ := h2.rows
  have hl : rs2.length = rs1.length := by
    have := congrArg List.length (e2.trans e1.symm)
    simpa using this
  have hi : rs2.map (fun r => ints r.k) = rs1.map (fun r => ints r.k) := by
    have : ∀ rs : List KR, rs.map (fun r => ints r.k) = (rs.map KR.k).map ints := fun rs => by rw [List.map_map]; rfl
    rw [this, this, e1, e2]
  have hlen : rs1.length ≤ 1024 := by
    have := congrArg List.length e1
    rw [List.length_map, keysM_len] at this
    have h3 := takenK_le L
    omega
  rw [hi, hl] at r2
  rw [hl]
  refine sameRows_yes A1 A2 rs1.length c1 c2 w.heap.size _ _ _ w r1 r2 (Nat.le_refl _) (by omega) (fun l hl => ?_)
  rw [show rs1.map (fun r => ints r.k) = (keysM L).map ints by rw [← e1, List.map_map]; rfl] at hl
  obtain ⟨k, hk1, rfl⟩ := List.mem_map.1 hl
  have := hk k hk1
  simpa [ints] using this
theorem Hsh.keys_len {w : World} {B b cb mb ks sz : Nat} {L : List HS} (h : Hsh w B b cb mb ks sz L) : ∀ k ∈ keysM L, k.length ≤ 1000000 := fun k hk => by
  obtain ⟨i, hi⟩ := keysM_mem.1 hk
  obtain ⟨r, h1, h2, _⟩ := findK_some hi
  have := h.keyl i r k h1 h2
  have := h.kbig.2
  omega
end Go.Proofs.YtolodcdhpnapmaaGreat

/-
  One deed, by the program and by the document.
-/
namespace Go.Proofs.YtolodcdhpnapmaaGreat
open Go.RowKit Go.Maps
set_option linter.unusedVariables false

theorem upd_self (σ : Nat → Value) (i : Nat) (v : Value) : upd σ i v i = v := by simp [upd]
theorem upd_other (σ : Nat → Value) {i j : Nat} {v : Value} (h : j ≠ i) : upd σ i v j = σ j := by simp [upd, h]
/-- A lent row of n bytes, made since the heap had S blocks. -/
def LentR (S n : Nat) (l : List Int) (v : Value) (W : World) : Prop := ∃ g, v = .slice (some ⟨g, 0, none⟩) n (n + 12) ∧ S ≤ g ∧ Row W g (n + 12) 5 1 (n + 12) (u8s l ++ marks (mkB 1) 12)
theorem LentR.below {S n : Nat} {l : List Int} {v : Value} {W W' : World} (h : LentR S n l v W) (hb : Below W.heap.size W W') : LentR S n l v W' := by
  obtain ⟨g, h1, h2, h3⟩ := h
  exact ⟨g, h1, h2, owns_kept_below h3 hb⟩
def TLent (bx S : Nat) (d : ADo) (j : Nat) (σ : Nat → Value) (W : World) : Prop :=
  match j with
  | 0 => σ 0 = .pointer (some ⟨bx, 1, none⟩)
  | 1 => σ 1 = .slice d.k.A d.k.n d.k.c
  | 2 => LentR S d.k.n d.k.bs (σ 2) W
  | 3 => σ 3 = .pointer (some ⟨bx, 2, none⟩)
  | 4 => σ 4 = .slice d.v.A d.v.n d.v.c
  | 5 => LentR S d.v.n d.v.bs (σ 5) W
  | 6 => LentR S d.k.n d.k.bs (σ 6) W
  | 7 => LentR S d.v.n d.v.bs (σ 7) W
  | _ => True
theorem TLent.below {bx S : Nat} {d : ADo} {j : Nat} {σ : Nat → Value} {W W' : World} (h : TLent bx S d j σ W) (hb : Below W.heap.size W W') : TLent bx S d j σ W' := by
  unfold TLent at h ⊢
  split at h
  all_goals first
    | exact h
    | exact h.below hb
/-- The two rows lie apart. -/
def GLent (w1 : World) (L : Nat → Bool) (σ : Nat → Value) (W : World) : Prop :=
  Below w1.heap.size w1 W ∧ (L 2 = true → L 5 = true → (σ 2).ownBlock ≠ (σ 5).ownBlock) ∧ (L 6 = true → σ 6 = σ 2) ∧ (L 7 = true → σ 7 = σ 5)
/-- What a step tells. -/
def StepTold (w0 : World) (b cb mb ks sz x y lc : Nat) (L : List HS) (e : Ending) (w' : World) : Prop := e = .returned (.bool true) ∧ ∃ L', L'.length = L.length ∧ Both (fun _ => True) w0 w' b cb mb ks sz L' x y lc
def TDUpd (b x bx ga gb : Nat) (er : Int) (d : ADo) (j : Nat) (σ : Nat → Value) (W : World) : Prop :=
  match j with
  | 0 => σ 0 = .pointer (some ⟨b, 0, none⟩)
  | 1 => σ 1 = .slice (some ⟨ga, 0, none⟩) d.k.n (d.k.n + 12)
  | 2 => σ 2 = .slice (some ⟨gb, 0, none⟩) d.v.n (d.v.n + 12)
  | 3 => σ 3 = .pointer (some ⟨bx, 3, none⟩)
  | 4 => σ 4 = .int .u64 d.fl
  | 5 => σ 5 = .int .i64 er
  | 6 => σ 6 = .pointer (some ⟨x, 0, none⟩)
  | 7 => σ 7 = .pointer (some ⟨bx, 1, none⟩)
  | 8 => σ 8 = .slice d.k.A d.k.n d.k.c
  | 9 => σ 9 = .pointer (some ⟨bx, 2, none⟩)
  | 10 => σ 10 = .slice d.v.A d.v.n d.v.c
  | 11 => σ 11 = .pointer (some ⟨bx, 3, none⟩)
  | 12 => σ 12 = .int .u64 d.fl
  | 13 => σ 13 = .int .i64 er
  | 14 => σ 14 = .bool true
  | 15 => σ 15 = .bool true
  | _ => True
theorem TDUpd.at {b x bx ga gb : Nat} {er : Int} {d : ADo} {j : Nat} {σ : Nat → Value} {W W' : World} (h : TDUpd b x bx ga gb er d j σ W) : TDUpd b x bx ga gb er d j σ W' := by
  unfold TDUpd at h ⊢
  split at h
  all_goals exact h
def TDSet (b x bx ga gb : Nat) (er : Int) (d : ADo) (j : Nat) (σ : Nat → Value) (W : World) : Prop :=
  match j with
  | 0 => σ 0 = .pointer (some ⟨b, 0, none⟩)
  | 1 => σ 1 = .pointer (some ⟨bx, 4, none⟩)
  | 2 => σ 2 = .int .i64 d.pl
  | 3 => σ 3 = .pointer (some ⟨bx, 5, none⟩)
  | 4 => σ 4 = .int .i64 d.of
  | 5 => σ 5 = .slice (some ⟨gb, 0, none⟩) d.v.n (d.v.n + 12)
  | 6 => σ 6 = .int .i64 er
  | 7 => σ 7 = .pointer (some ⟨x, 0, none⟩)
  | 8 => σ 8 = .pointer (some ⟨bx, 4, none⟩)
  | 9 => σ 9 = .int .i64 d.pl
  | 10 => σ 10 = .pointer (some ⟨bx, 5, none⟩)
  | 11 => σ 11 = .int .i64 d.of
  | 12 => σ 12 = .pointer (some ⟨bx, 2, none⟩)
  | 13 => σ 13 = .slice d.v.A d.v.n d.v.c
  | 14 => σ 14 = .int .i64 er
  | 15 => σ 15 = .bool true
  | 16 => σ 16 = .bool true
  | _ => True
theorem TDSet.at {b x bx ga gb : Nat} {er : Int} {d : ADo} {j : Nat} {σ : Nat → Value} {W W' : World} (h : TDSet b x bx ga gb er d j σ W) : TDSet b x bx ga gb er d j σ W' := by
  unfold TDSet at h ⊢
  split at h
  all_goals exact h
def TDDel (b x bx ga gb : Nat) (er : Int) (d : ADo) (j : Nat) (σ : Nat → Value) (W : World) : Prop :=
  match j with
  | 0 => σ 0 = .pointer (some ⟨b, 0, none⟩)
  | 1 => σ 1 = .slice (some ⟨ga, 0, none⟩) d.k.n (d.k.n + 12)
  | 2 => σ 2 = .int .i64 er
  | 3 => σ 3 = .pointer (some ⟨x, 0, none⟩)
  | 4 => σ 4 = .pointer (some ⟨bx, 1, none⟩)
  | 5 => σ 5 = .slice d.k.A d.k.n d.k.c
  | 6 => σ 6 = .int .i64 er
  | 7 => σ 7 = .bool true
  | 8 => σ 8 = .bool true
  | _ => True
theorem TDDel.at {b x bx ga gb : Nat} {er : Int} {d : ADo} {j : Nat} {σ : Nat → Value} {W W' : World} (h : TDDel b x bx ga gb er d j σ W) : TDDel b x bx ga gb er d j σ W' := by
  unfold TDDel at h ⊢
  split at h
  all_goals exact h
theorem KRow.upto {W : World} {C D n : Nat} {A : Option Addr} {l : List Int} (h : KRow W C A n l) (hC : C ≤ D) : KRow W D A n l := ⟨h.rd.mono hC, h.nil, h.byte⟩
set_option maxRecDepth 100000 in
set_option maxHeartbeats 8000000 in
theorem step_any (w0 w : World) (b cb mb ks sz x y lc : Nat) (L : List HS) (d : ADo) (hB : Both (fun _ => True) w0 w b cb mb ks sz L x y lc) (hd : d.Is w0 w0.heap.size) (hk : d.k.n ≤ 20000) (hv : d.v.n ≤ 20000) :
    Calls Tryz.prog 16 #[.pointer (some ⟨b, 0, none⟩), .pointer (some ⟨x, 0, none⟩), .agg #[.int .i64 d.what, .slice d.k.A d.k.n d.k.c, .slice d.v.A d.v.n d.v.c, .int .u64 d.fl, .int .i64 d.pl, .int .i64 d.of]] w (StepTold w0 b cb mb ks sz x y lc L) := by
  have hx := World.alloc_heap_new w (.cells #[.int .i64 d.what, .slice d.k.A d.k.n d.k.c, .slice d.v.A d.v.n d.v.c, .int .u64 d.fl, .int .i64 d.pl, .int .i64 d.of] 37)
  have hb1 := below1 w (.cells #[.int .i64 d.what, .slice d.k.A d.k.n d.k.c, .slice d.v.A d.v.n d.v.c, .int .u64 d.fl, .int .i64 d.pl, .int .i64 d.of] 37)
  have HBo := hide ((hB.mono (N' := fun g => g < w.heap.size) (fun g hg _ => hg)).later hb1)
  have HX := hide hx
  have HBx := hide hb1
  have HD := hide hd
  have h0w := hB.below.size
  have hEL : ∀ args (W : World), (callFunc 34 args).run Tryz.prog W = .ok (.enter 34 args) W := by intro args W; kernel_rfl
  clear hx hb1 hB hd
  go_enter Tryz.func16, Tryz.ntmps16
  go_wp2_with fail
  rename_i K hK
  have hz1 : (w.alloc (.cells #[.int .i64 d.what, .slice d.k.A d.k.n d.k.c, .slice d.v.A d.v.n d.v.c, .int .u64 d.fl, .int .i64 d.pl, .int .i64 d.of] 37)).heap.size = w.heap.size + 1 := by simp
  generalize w.alloc (.cells #[.int .i64 d.what, .slice d.k.A d.k.n d.k.c, .slice d.v.A d.v.n d.v.c, .int .u64 d.fl, .int .i64 d.pl, .int .i64 d.of] 37) = W1 at *
  have HB1 := hide HBo.out.below
  refine wp_tells8 (by kernel_rfl) (TLent w.heap.size W1.heap.size d) (GLent W1) (by kernel_rfl) (by kernel_rfl) (by kernel_rfl) (by kernel_rfl) ?_ ?_ ?_ ?_
  · intro q oj σ σ' W hj h hs
    have hi : q < 8 := (Array.getElem?_eq_some_iff.1 hj).1
    have h0 := hs q (.inl rfl)
    have hi' : q = 0 ∨ q = 1 ∨ q = 2 ∨ q = 3 ∨ q = 4 ∨ q = 5 ∨ q = 6 ∨ q = 7 := by omega
    rcases hi' with rfl | rfl | rfl | rfl | rfl | rfl | rfl | rfl
    all_goals (simp only [TLent] at h ⊢; rw [h0]; exact h)
  · exact ⟨(Below.refl _ _).drew, fun h => absurd h Bool.false_ne_true, fun h => absurd h Bool.false_ne_true, fun h => absurd h Bool.false_ne_true⟩
  · intro q o ho L a W hi hG hold hT hcl hh
    have hi2 : q < 8 := (Array.getElem?_eq_some_iff.1 ho).1
    have hi' : q = 0 ∨ q = 1 ∨ q = 2 ∨ q = 3 ∨ q = 4 ∨ q = 5 ∨ q = 6 ∨ q = 7 := by omega
    rcases hi' with rfl | rfl | rfl | rfl | rfl | rfl | rfl | rfl
    · cases ho
      refine step8_told (.pointer (some ⟨w.heap.size, 1, none⟩)) ?_ (by decide) ⟨hG.1, fun ha hb => hG.2.1 (by simpa using ha) (by simpa using hb), fun ha => hG.2.2.1 (by simpa using ha), fun ha => hG.2.2.2 (by simpa using ha)⟩ hT rfl
      have e0 : a.eval (.tmp 5) = .pointer (some ⟨w.heap.size, 0, none⟩) := hold 5 (unyet_of (by kernel_rfl))
      generalize a.eval = ev at e0 ⊢
      simp [execOp, go_sem, e0]
    · cases ho
      have k1 : W.cell? ⟨w.heap.size, 1, none⟩ = some (.slice d.k.A d.k.n d.k.c) := (blk_cell ((hG.1.block _ (at_lt HX.out)).trans HX.out) 1).trans rfl
      refine step8_told (.slice d.k.A d.k.n d.k.c) ?_ (by decide) ⟨hG.1, fun ha hb => hG.2.1 (by simpa using ha) (by simpa using hb), fun ha => hG.2.2.1 (by simpa using ha), fun ha => hG.2.2.2 (by simpa using ha)⟩ hT rfl
      have e0 : a.eval (.tmp 20) = .pointer (some ⟨w.heap.size, 1, none⟩) := hT 0 (hh 0 rfl)
      generalize a.eval = ev at e0 ⊢
      simp [execOp, go_sem, e0, k1]
    · cases ho
      obtain ⟨g1, g2, g3, g4⟩ := hG
      have e0 : a.eval (.tmp 21) = .slice d.k.A d.k.n d.k.c := hT 1 (hh 1 rfl)
      have hcall := lentBytes_any d.k.A d.k.n d.k.c w0.heap.size d.k.bs W (HD.out.k.rd.below (HB1.out.trans (g1.mono HB1.out.size))) HD.out.k.nil (Nat.le_trans HB1.out.size g1.size) (by omega)
      refine step8_called (R := fun u W' => LentR W1.heap.size d.k.n d.k.bs u W' ∧ u.ownBlock = some W.heap.size ∧ Below W.heap.size W W') ?_ (by decide) (hcall.mono ?_) ?_
      · have ef : a.eval (.func 34) = .func (.func 34) #[] #[] := rfl
        generalize a.eval = ev at e0 ef ⊢
        simp [execOp, go_sem, e0, ef, hEL]
      · rintro e W' ⟨h1, h2, h3⟩
        exact ⟨_, h1, ⟨W.heap.size, rfl, g1.size, h2⟩, rfl, h3⟩
      · rintro u W' ⟨h1, h2, h3⟩
        refine ⟨⟨g1.trans (h3.mono g1.size), fun ha hb => ?_, fun ha => ?_, fun ha => ?_⟩, fun j hj => (hT j hj).below h3, h1⟩
        · have hl : L 5 = true := by simpa using hb
          obtain ⟨gg, hg1, hg2, hg3⟩ := (show LentR W1.heap.size d.v.n d.v.bs (sl _ a 5) W from hT 5 hl)
          have hlt : gg < W.heap.size := (World.ownsRow.lt hg3 gg rfl).2
          rw [upd_self, upd_other _ (show 5 ≠ 2 by decide), h2, hg1]
          intro hc
          simp [Value.ownBlock] at hc
          omega
        · have hl : L 6 = true := by simpa using ha
          have := hcl 6 _ hl rfl 2 (by kernel_rfl)
          rw [hi] at this; cases this
        · have hl : L 7 = true := by simpa using ha
          have := hcl 7 _ hl rfl 5 (by kernel_rfl)
          exact g4 hl
    · cases ho
      refine step8_told (.pointer (some ⟨w.heap.size, 2, none⟩)) ?_ (by decide) ⟨hG.1, fun ha hb => hG.2.1 (by simpa using ha) (by simpa using hb), fun ha => hG.2.2.1 (by simpa using ha), fun ha => hG.2.2.2 (by simpa using ha)⟩ hT rfl
      have e0 : a.eval (.tmp 5) = .pointer (some ⟨w.heap.size, 0, none⟩) := hold 5 (unyet_of (by kernel_rfl))
      generalize a.eval = ev at e0 ⊢
      simp [execOp, go_sem, e0]
    · cases ho
      have k2 : W.cell? ⟨w.heap.size, 2, none⟩ = some (.slice d.v.A d.v.n d.v.c) := (blk_cell ((hG.1.block _ (at_lt HX.out)).trans HX.out) 2).trans rfl
      refine step8_told (.slice d.v.A d.v.n d.v.c) ?_ (by decide) ⟨hG.1, fun ha hb => hG.2.1 (by simpa using ha) (by simpa using hb), fun ha => hG.2.2.1 (by simpa using ha), fun ha => hG.2.2.2 (by simpa using ha)⟩ hT rfl
      have e0 : a.eval (.tmp 23) = .pointer (some ⟨w.heap.size, 2, none⟩) := hT 3 (hh 3 rfl)
      generalize a.eval = ev at e0 ⊢
      simp [execOp, go_sem, e0, k2]
    · cases ho
      obtain ⟨g1, g2, g3, g4⟩ := hG
      have e0 : a.eval (.tmp 24) = .slice d.v.A d.v.n d.v.c := hT 4 (hh 4 rfl)
      have hcall := lentBytes_any d.v.A d.v.n d.v.c w0.heap.size d.v.bs W (HD.out.v.rd.below (HB1.out.trans (g1.mono HB1.out.size))) HD.out.v.nil (Nat.le_trans HB1.out.size g1.size) (by omega)
      refine step8_called (R := fun u W' => LentR W1.heap.size d.v.n d.v.bs u W' ∧ u.ownBlock = some W.heap.size ∧ Below W.heap.size W W') ?_ (by decide) (hcall.mono ?_) ?_
      · have ef : a.eval (.func 34) = .func (.func 34) #[] #[] := rfl
        generalize a.eval = ev at e0 ef ⊢
        simp [execOp, go_sem, e0, ef, hEL]
      · rintro e W' ⟨h1, h2, h3⟩
        exact ⟨_, h1, ⟨W.heap.size, rfl, g1.size, h2⟩, rfl, h3⟩
      · rintro u W' ⟨h1, h2, h3⟩
        refine ⟨⟨g1.trans (h3.mono g1.size), fun ha hb => ?_, fun ha => ?_, fun ha => ?_⟩, fun j hj => (hT j hj).below h3, h1⟩
        · have hl : L 2 = true := by simpa using ha
          obtain ⟨gg, hg1, hg2, hg3⟩ := (show LentR W1.heap.size d.k.n d.k.bs (sl _ a 2) W from hT 2 hl)
          have hlt : gg < W.heap.size := (World.ownsRow.lt hg3 gg rfl).2
          rw [upd_self, upd_other _ (show 2 ≠ 5 by decide), h2, hg1]
          intro hc
          simp [Value.ownBlock] at hc
          omega
        · have hl : L 6 = true := by simpa using ha
          have := hcl 6 _ hl rfl 2 (by kernel_rfl)
          exact g3 hl
        · have hl : L 7 = true := by simpa using ha
          have := hcl 7 _ hl rfl 5 (by kernel_rfl)
          rw [hi] at this; cases this
    · cases ho
      have hl : LentR W1.heap.size d.k.n d.k.bs (a.eval (.tmp 22)) W := hT 2 (hh 2 rfl)
      refine step8_told (a.eval (.tmp 22)) ?_ (by decide) ⟨hG.1, fun ha hb => hG.2.1 (by simpa using ha) (by simpa using hb), fun ha => rfl, fun ha => hG.2.2.2 (by simpa using ha)⟩ hT hl
      generalize hv : a.eval (.tmp 22) = vv
      generalize a.eval = ev at hv ⊢
      simp [execOp, go_sem, hv]
    · cases ho
      have hl : LentR W1.heap.size d.v.n d.v.bs (a.eval (.tmp 25)) W := hT 5 (hh 5 rfl)
      refine step8_told (a.eval (.tmp 25)) ?_ (by decide) ⟨hG.1, fun ha hb => hG.2.1 (by simpa using ha) (by simpa using hb), fun ha => hG.2.2.1 (by simpa using ha), fun ha => rfl⟩ hT hl
      generalize hv : a.eval (.tmp 25) = vv
      generalize a.eval = ev at hv ⊢
      simp [execOp, go_sem, hv]
  · intro a W hd hs hold hT hG
    obtain ⟨ga, e7, hga, hra⟩ : LentR W1.heap.size d.k.n d.k.bs (a.tmps.getD 7 undef) W := hT 6 (by decide)
    obtain ⟨gb, e8, hgb, hrb⟩ : LentR W1.heap.size d.v.n d.v.bs (a.tmps.getD 8 undef) W := hT 7 (by decide)
    obtain ⟨hBW, hap, h6, h7⟩ := hG
    have hne : ga ≠ gb := by
      have h1 := hap (by decide) (by decide)
      have e1 : a.tmps.getD 7 undef = sl _ a 2 := h6 (by decide)
      have e2 : a.tmps.getD 8 undef = sl _ a 5 := h7 (by decide)
      rw [← e1, ← e2, e7, e8] at h1
      intro e
      exact h1 (by simp [Value.ownBlock, e])
    obtain ⟨f, hf, ha⟩ := act_puts [20, 21, 22, 23, 24, 25, 7, 8] (fun t ht => by
      by_cases h : t ∈ [20, 21, 22, 23, 24, 25, 7, 8]
      · exact h
      · exfalso
        simp [unwritten] at ht
        simp only [List.mem_cons, not_or] at h
        obtain ⟨h0, h1, h2, h3, h4, h5, h6, h7, _⟩ := h
        exact absurd (ht (fun e => h0 e.symm) (fun e => h1 e.symm) (fun e => h2 e.symm) (fun e => h3 e.symm) (fun e => h4 e.symm) (fun e => h5 e.symm) (fun e => h6 e.symm)) (fun e => h7 e.symm)) (fun t ht => by
      have hsz : t < 158 := by
        simp only [List.mem_cons, List.mem_nil_iff, or_false] at ht
        omega
      exact hsz) hd hs hold
    rw [← hf 7] at e7
    rw [← hf 8] at e8
    have HBW := hide ((HBo.out.later hBW).mono (N' := Els w.heap.size ga gb) (fun g _ hg => ⟨by omega, by omega, by omega⟩))
    have HFr := hide (show Fr W w.heap.size #[.int .i64 d.what, .slice d.k.A d.k.n d.k.c, .slice d.v.A d.v.n d.v.c, .int .u64 d.fl, .int .i64 d.pl, .int .i64 d.of] ga d.k.n (u8s d.k.bs ++ marks (mkB 1) 12) gb d.v.n (u8s d.v.bs ++ marks (mkB 1) 12) from ⟨(hBW.block _ (at_lt HX.out)).trans HX.out, hra, hrb⟩)
    have HNe := hide (show (ga ≠ gb ∧ w.heap.size ≠ ga ∧ w.heap.size ≠ gb) ∧ (w0.heap.size ≤ w.heap.size ∧ w.heap.size < ga ∧ w.heap.size < gb) from ⟨⟨hne, by omega, by omega⟩, by omega, by omega, by omega⟩)
    subst ha
    clear hd hs hold hT hf hra hrb hBW hap h6 h7 hne hga hgb HB1 HBx HBo HX hz1
    show K _ _
    refine hK _ _ ?_
    simp only [List.foldl_cons, List.foldl_nil, e7, e8]
    obtain ⟨u20, hu20⟩ : ∃ u, u = f 20 := ⟨_, rfl⟩
    obtain ⟨u21, hu21⟩ : ∃ u, u = f 21 := ⟨_, rfl⟩
    obtain ⟨u22, hu22⟩ : ∃ u, u = f 22 := ⟨_, rfl⟩
    obtain ⟨u23, hu23⟩ : ∃ u, u = f 23 := ⟨_, rfl⟩
    obtain ⟨u24, hu24⟩ : ∃ u, u = f 24 := ⟨_, rfl⟩
    obtain ⟨u25, hu25⟩ : ∃ u, u = f 25 := ⟨_, rfl⟩
    rw [← hu20, ← hu21, ← hu22, ← hu23, ← hu24, ← hu25]
    clear hu20 hu21 hu22 hu23 hu24 hu25 e7 e8
    go_simp
    have k0 : W.cell? ⟨w.heap.size, 0, none⟩ = some (.int .i64 d.what) := (blk_cell HFr.out.box 0).trans rfl
    go_wp2_with fail
    refine (pick_any d.what 6 W (by decide) (by decide) HD.out.what.1 HD.out.what.2).mono ?_
    rintro e w5 ⟨q, hq5, rfl, rfl⟩
    clear k0
    go_upto_block 0 with fail
    have HLK : Hid (d.k.bs.length = d.k.n) := hide (by have := HD.out.k.rd.1; simpa [u8s] using this)
    have HLV : Hid (d.v.bs.length = d.v.n) := hide (by have := HD.out.v.rd.1; simpa [u8s] using this)
    have hEU : ∀ args (W : World), (callFunc 25 args).run Tryz.prog W = .ok (.enter 25 args) W := by intro args W; kernel_rfl
    have hEV : ∀ args (W : World), (callFunc 39 args).run Tryz.prog W = .ok (.enter 39 args) W := by intro args W; kernel_rfl
    have hES : ∀ args (W : World), (callFunc 27 args).run Tryz.prog W = .ok (.enter 27 args) W := by intro args W; kernel_rfl
    have hET : ∀ args (W : World), (callFunc 37 args).run Tryz.prog W = .ok (.enter 37 args) W := by intro args W; kernel_rfl
    have hEW : ∀ args (W : World), (callFunc 26 args).run Tryz.prog W = .ok (.enter 26 args) W := by intro args W; kernel_rfl
    have hEX : ∀ args (W : World), (callFunc 38 args).run Tryz.prog W = .ok (.enter 38 args) W := by intro args W; kernel_rfl
    go_cut [9, 10, 11, 12, 13] from 29 to 95 (fun s9 s10 s11 s12 s13 wc => s9 = .bool true ∧ ∃ L', L'.length = L.length ∧ Both (Els w.heap.size ga gb) w0 wc b cb mb ks sz L' x y lc ∧ Fr wc w.heap.size #[.int .i64 d.what, .slice d.k.A d.k.n d.k.c, .slice d.v.A d.v.n d.v.c, .int .u64 d.fl, .int .i64 d.pl, .int .i64 d.of] ga d.k.n (u8s d.k.bs ++ marks (mkB 1) 12) gb d.v.n (u8s d.v.bs ++ marks (mkB 1) 12))
    case first =>
      have k1 : W.cell? ⟨w.heap.size, 1, none⟩ = some (.slice d.k.A d.k.n d.k.c) := (blk_cell HFr.out.box 1).trans rfl
      have hq : q = 0 ∨ q = 1 ∨ q = 2 ∨ q = 3 ∨ q = 4 ∨ q = 5 := by omega
      clear hq5
      rcases hq with rfl | rfl | rfl | rfl | rfl | rfl
      · skip
        go_wp2_with fail
        rename_i K hK
        refine wp_tells4 (by kernel_rfl) (TDUpd b x w.heap.size ga gb (updE ks sz d.k.n d.v.n L (kb d.k.bs) d.fl) d) (GTwo w0 b cb mb ks sz x y lc L (updL ks sz d.k.n d.v.n L (kb d.k.bs) d.fl d.v.bs) w.heap.size #[.int .i64 d.what, .slice d.k.A d.k.n d.k.c, .slice d.v.A d.v.n d.v.c, .int .u64 d.fl, .int .i64 d.pl, .int .i64 d.of] ga d.k.n (u8s d.k.bs ++ marks (mkB 1) 12) gb d.v.n (u8s d.v.bs ++ marks (mkB 1) 12) 5 13) (by kernel_rfl) (by kernel_rfl) (by kernel_rfl) (by kernel_rfl) ?_ ?_ ?_ ?_
        · intro q oj σ σ' W hj h hs
          have hi : q < 16 := (Array.getElem?_eq_some_iff.1 hj).1
          have h0 := hs q (.inl rfl)
          have hi' : q = 0 ∨ q = 1 ∨ q = 2 ∨ q = 3 ∨ q = 4 ∨ q = 5 ∨ q = 6 ∨ q = 7 ∨ q = 8 ∨ q = 9 ∨ q = 10 ∨ q = 11 ∨ q = 12 ∨ q = 13 ∨ q = 14 ∨ q = 15 := by omega
          rcases hi' with rfl | rfl | rfl | rfl | rfl | rfl | rfl | rfl | rfl | rfl | rfl | rfl | rfl | rfl | rfl | rfl
          all_goals (simp only [TDUpd] at h ⊢; rw [h0]; exact h)
        · exact Two.start (HBW.out.later (Below.refl _ _).drew) (HFr.out.below (Below.refl _ _).drew) (sameA_updL _ _ _ _ _ _ _ _)
        · intro q o ho Dn a W hi hG hold hT hcl hh
          have hi2 : q < 16 := (Array.getElem?_eq_some_iff.1 ho).1
          have hi' : q = 0 ∨ q = 1 ∨ q = 2 ∨ q = 3 ∨ q = 4 ∨ q = 5 ∨ q = 6 ∨ q = 7 ∨ q = 8 ∨ q = 9 ∨ q = 10 ∨ q = 11 ∨ q = 12 ∨ q = 13 ∨ q = 14 ∨ q = 15 := by omega
          rcases hi' with rfl | rfl | rfl | rfl | rfl | rfl | rfl | rfl | rfl | rfl | rfl | rfl | rfl | rfl | rfl | rfl
          · cases ho
            refine step4_told (.pointer (some ⟨b, 0, none⟩)) ?_ (by decide) (hG.same (by decide) (by decide)) hT rfl
            have e0 : a.eval (.tmp 0) = .pointer (some ⟨b, 0, none⟩) := hold 0 (unyet_of (by kernel_rfl))
            generalize a.eval = ev at e0 ⊢
            simp [execOp, go_sem, e0]
          · cases ho
            refine step4_told (.slice (some ⟨ga, 0, none⟩) d.k.n (d.k.n + 12)) ?_ (by decide) (hG.same (by decide) (by decide)) hT rfl
            have e0 : a.eval (.tmp 7) = .slice (some ⟨ga, 0, none⟩) d.k.n (d.k.n + 12) := hold 7 (unyet_of (by kernel_rfl))
            generalize a.eval = ev at e0 ⊢
            simp [execOp, go_sem, e0]
          · cases ho
            refine step4_told (.slice (some ⟨gb, 0, none⟩) d.v.n (d.v.n + 12)) ?_ (by decide) (hG.same (by decide) (by decide)) hT rfl
            have e0 : a.eval (.tmp 8) = .slice (some ⟨gb, 0, none⟩) d.v.n (d.v.n + 12) := hold 8 (unyet_of (by kernel_rfl))
            generalize a.eval = ev at e0 ⊢
            simp [execOp, go_sem, e0]
          · cases ho
            refine step4_told (.pointer (some ⟨w.heap.size, 3, none⟩)) ?_ (by decide) (hG.same (by decide) (by decide)) hT rfl
            have e0 : a.eval (.tmp 5) = .pointer (some ⟨w.heap.size, 0, none⟩) := hold 5 (unyet_of (by kernel_rfl))
            generalize a.eval = ev at e0 ⊢
            simp [execOp, go_sem, e0]
          · cases ho
            have k0 : W.cell? ⟨w.heap.size, 3, none⟩ = some (.int .u64 d.fl) := (blk_cell hG.both.fr.box 3).trans rfl
            refine step4_told (.int .u64 d.fl) ?_ (by decide) (hG.same (by decide) (by decide)) hT rfl
            have e0 : a.eval (.tmp 32) = .pointer (some ⟨w.heap.size, 3, none⟩) := hT 3 (hh 3 rfl)
            generalize a.eval = ev at e0 ⊢
            simp [execOp, go_sem, e0, k0]
          · cases ho
            have e0 : a.eval (.tmp 29) = .pointer (some ⟨b, 0, none⟩) := hT 0 (hh 0 rfl)
            have e1 : a.eval (.tmp 30) = .slice (some ⟨ga, 0, none⟩) d.k.n (d.k.n + 12) := hT 1 (hh 1 rfl)
            have e2 : a.eval (.tmp 31) = .slice (some ⟨gb, 0, none⟩) d.v.n (d.v.n + 12) := hT 2 (hh 2 rfl)
            have e3 : a.eval (.tmp 33) = .int .u64 d.fl := hT 4 (hh 4 rfl)
            refine step4_called (R := fun u W' => u = .int .i64 (updE ks sz d.k.n d.v.n L (kb d.k.bs) d.fl) ∧ Hsh W' w0.heap.size b cb mb ks sz (updL ks sz d.k.n d.v.n L (kb d.k.bs) d.fl d.v.bs) ∧ Kept (fun g => ¬ OfH b cb mb sz L g) W W') ?_ (by decide) ((upd_any w0.heap.size b cb mb ks sz L _ _ d.k.n (d.k.n + 12) W.heap.size d.v.n (d.v.n + 12) d.fl d.k.bs d.v.bs W (hG.fst hi) ((hG.both.fr.krow HLK.out HD.out.k.byte).upto (row_lt hG.both.fr.r1)) (Nat.le_refl _) ((row_head hG.both.fr.r2 HLV.out).mono (row_lt hG.both.fr.r2))).mono ?_) ?_
            · have ef : a.eval (.func 25) = .func (.func 25) #[] #[] := rfl
              generalize a.eval = ev at e0 e1 e2 e3 ef ⊢
              simp [execOp, go_sem, e0, e1, e2, e3, ef, hEU]
            · rintro e W' ⟨h1, h2⟩
              exact ⟨_, h1, rfl, h2⟩
            · rintro u W' ⟨rfl, ha', hk'⟩
              exact ⟨hG.one hi (by decide) ha' hk', fun j hj => (hT j hj).at, rfl⟩
          · cases ho
            refine step4_told (.pointer (some ⟨x, 0, none⟩)) ?_ (by decide) (hG.same (by decide) (by decide)) hT rfl
            have e0 : a.eval (.tmp 1) = .pointer (some ⟨x, 0, none⟩) := hold 1 (unyet_of (by kernel_rfl))
            generalize a.eval = ev at e0 ⊢
            simp [execOp, go_sem, e0]
          · cases ho
            refine step4_told (.pointer (some ⟨w.heap.size, 1, none⟩)) ?_ (by decide) (hG.same (by decide) (by decide)) hT rfl
            have e0 : a.eval (.tmp 5) = .pointer (some ⟨w.heap.size, 0, none⟩) := hold 5 (unyet_of (by kernel_rfl))
            generalize a.eval = ev at e0 ⊢
            simp [execOp, go_sem, e0]
          · cases ho
            have k0 : W.cell? ⟨w.heap.size, 1, none⟩ = some (.slice d.k.A d.k.n d.k.c) := (blk_cell hG.both.fr.box 1).trans rfl
            refine step4_told (.slice d.k.A d.k.n d.k.c) ?_ (by decide) (hG.same (by decide) (by decide)) hT rfl
            have e0 : a.eval (.tmp 36) = .pointer (some ⟨w.heap.size, 1, none⟩) := hT 7 (hh 7 rfl)
            generalize a.eval = ev at e0 ⊢
            simp [execOp, go_sem, e0, k0]
          · cases ho
            refine step4_told (.pointer (some ⟨w.heap.size, 2, none⟩)) ?_ (by decide) (hG.same (by decide) (by decide)) hT rfl
            have e0 : a.eval (.tmp 5) = .pointer (some ⟨w.heap.size, 0, none⟩) := hold 5 (unyet_of (by kernel_rfl))
            generalize a.eval = ev at e0 ⊢
            simp [execOp, go_sem, e0]
          · cases ho
            have k0 : W.cell? ⟨w.heap.size, 2, none⟩ = some (.slice d.v.A d.v.n d.v.c) := (blk_cell hG.both.fr.box 2).trans rfl
            refine step4_told (.slice d.v.A d.v.n d.v.c) ?_ (by decide) (hG.same (by decide) (by decide)) hT rfl
            have e0 : a.eval (.tmp 38) = .pointer (some ⟨w.heap.size, 2, none⟩) := hT 9 (hh 9 rfl)
            generalize a.eval = ev at e0 ⊢
            simp [execOp, go_sem, e0, k0]
          · cases ho
            refine step4_told (.pointer (some ⟨w.heap.size, 3, none⟩)) ?_ (by decide) (hG.same (by decide) (by decide)) hT rfl
            have e0 : a.eval (.tmp 5) = .pointer (some ⟨w.heap.size, 0, none⟩) := hold 5 (unyet_of (by kernel_rfl))
            generalize a.eval = ev at e0 ⊢
            simp [execOp, go_sem, e0]
          · cases ho
            have k0 : W.cell? ⟨w.heap.size, 3, none⟩ = some (.int .u64 d.fl) := (blk_cell hG.both.fr.box 3).trans rfl
            refine step4_told (.int .u64 d.fl) ?_ (by decide) (hG.same (by decide) (by decide)) hT rfl
            have e0 : a.eval (.tmp 40) = .pointer (some ⟨w.heap.size, 3, none⟩) := hT 11 (hh 11 rfl)
            generalize a.eval = ev at e0 ⊢
            simp [execOp, go_sem, e0, k0]
          · cases ho
            obtain ⟨M, hM, hP, hN⟩ := hG.snd hi
            have e0 : a.eval (.tmp 35) = .pointer (some ⟨x, 0, none⟩) := hT 6 (hh 6 rfl)
            have e1 : a.eval (.tmp 37) = .slice d.k.A d.k.n d.k.c := hT 8 (hh 8 rfl)
            have e2 : a.eval (.tmp 39) = .slice d.v.A d.v.n d.v.c := hT 10 (hh 10 rfl)
            have e3 : a.eval (.tmp 41) = .int .u64 d.fl := hT 12 (hh 12 rfl)
            refine step4_called (R := fun u W' => u = .int .i64 (updE ks sz d.k.n d.v.n L (kb d.k.bs) d.fl) ∧ RGo w0.heap.size x y lc ks sz (updL ks sz d.k.n d.v.n L (kb d.k.bs) d.fl d.v.bs) W M W') ?_ (by decide) ((rupd_both (c := d.k.c) (sc := d.v.c) (fl := d.fl) hM hP ⟨HD.out.k.rd.below hG.both.below, HD.out.k.nil, HD.out.k.byte⟩ hG.both.below.size (HD.out.v.rd.below hG.both.below) HD.out.v.nil).mono ?_) ?_
            · have ef : a.eval (.func 39) = .func (.func 39) #[] #[] := rfl
              generalize a.eval = ev at e0 e1 e2 e3 ef ⊢
              simp [execOp, go_sem, e0, e1, e2, e3, ef, hEV]
            · rintro e W' ⟨h1, h2⟩
              exact ⟨_, h1, rfl, h2⟩
            · rintro u W' ⟨rfl, ha'⟩
              exact ⟨hG.two hi (by decide) hM hN ha', fun j hj => (hT j hj).at, rfl⟩
          · cases ho
            refine step4_told (.bool true) ?_ (by decide) (hG.same (by decide) (by decide)) hT rfl
            have e0 : a.eval (.tmp 34) = .int .i64 (updE ks sz d.k.n d.v.n L (kb d.k.bs) d.fl) := hT 5 (hh 5 rfl)
            have e1 : a.eval (.tmp 42) = .int .i64 (updE ks sz d.k.n d.v.n L (kb d.k.bs) d.fl) := hT 13 (hh 13 rfl)
            generalize a.eval = ev at e0 e1 ⊢
            simp [execOp, go_sem, e0, e1]
          · cases ho
            refine step4_told (.bool true) ?_ (by decide) (hG.same (by decide) (by decide)) hT rfl
            have e0 : a.eval (.tmp 43) = .bool true := hT 14 (hh 14 rfl)
            generalize a.eval = ev at e0 ⊢
            simp [execOp, go_sem, e0]
        · intro a W hd hs hold hT hG
          have e9 : a.tmps.getD 9 undef = .bool true := hT 15 (by decide)
          obtain ⟨f, hf, ha⟩ := act_puts [29, 30, 31, 32, 33, 34, 35, 36, 37, 38, 39, 40, 41, 42, 43, 9] (fun t ht => by
            by_cases h : t ∈ [29, 30, 31, 32, 33, 34, 35, 36, 37, 38, 39, 40, 41, 42, 43, 9]
            · exact h
            · exfalso
              simp [unwritten] at ht
              simp only [List.mem_cons, not_or] at h
              obtain ⟨h0, h1, h2, h3, h4, h5, h6, h7, h8, h9, h10, h11, h12, h13, h14, h15, _⟩ := h
              exact absurd (ht (fun e => h0 e.symm) (fun e => h1 e.symm) (fun e => h2 e.symm) (fun e => h3 e.symm) (fun e => h4 e.symm) (fun e => h5 e.symm) (fun e => h6 e.symm) (fun e => h7 e.symm) (fun e => h8 e.symm) (fun e => h9 e.symm) (fun e => h10 e.symm) (fun e => h11 e.symm) (fun e => h12 e.symm) (fun e => h13 e.symm) (fun e => h14 e.symm)) (fun e => h15 e.symm)) (fun t ht => by
            have hsz : t < 158 := by
              simp only [List.mem_cons, List.mem_nil_iff, or_false] at ht
              omega
            exact hsz) hd hs hold
          rw [← hf 9] at e9
          have HB2 := hide (Two.done (Two.flags hG (by decide) (by decide)))
          have HF2 := hide hG.both.fr
          have HLE : Hid ((updL ks sz d.k.n d.v.n L (kb d.k.bs) d.fl d.v.bs).length = L.length) := hide ((sameA_updL _ _ _ _ _ _ _ _).1)
          subst ha
          clear hd hs hold hT hf hG
          simp only [List.foldl_cons, List.foldl_nil, e9]
          obtain ⟨u29, hu29⟩ : ∃ u, u = f 29 := ⟨_, rfl⟩
          obtain ⟨u30, hu30⟩ : ∃ u, u = f 30 := ⟨_, rfl⟩
          obtain ⟨u31, hu31⟩ : ∃ u, u = f 31 := ⟨_, rfl⟩
          obtain ⟨u32, hu32⟩ : ∃ u, u = f 32 := ⟨_, rfl⟩
          obtain ⟨u33, hu33⟩ : ∃ u, u = f 33 := ⟨_, rfl⟩
          obtain ⟨u34, hu34⟩ : ∃ u, u = f 34 := ⟨_, rfl⟩
          obtain ⟨u35, hu35⟩ : ∃ u, u = f 35 := ⟨_, rfl⟩
          obtain ⟨u36, hu36⟩ : ∃ u, u = f 36 := ⟨_, rfl⟩
          obtain ⟨u37, hu37⟩ : ∃ u, u = f 37 := ⟨_, rfl⟩
          obtain ⟨u38, hu38⟩ : ∃ u, u = f 38 := ⟨_, rfl⟩
          obtain ⟨u39, hu39⟩ : ∃ u, u = f 39 := ⟨_, rfl⟩
          obtain ⟨u40, hu40⟩ : ∃ u, u = f 40 := ⟨_, rfl⟩
          obtain ⟨u41, hu41⟩ : ∃ u, u = f 41 := ⟨_, rfl⟩
          obtain ⟨u42, hu42⟩ : ∃ u, u = f 42 := ⟨_, rfl⟩
          obtain ⟨u43, hu43⟩ : ∃ u, u = f 43 := ⟨_, rfl⟩
          rw [← hu29, ← hu30, ← hu31, ← hu32, ← hu33, ← hu34, ← hu35, ← hu36, ← hu37, ← hu38, ← hu39, ← hu40, ← hu41, ← hu42, ← hu43]
          clear hu29 hu30 hu31 hu32 hu33 hu34 hu35 hu36 hu37 hu38 hu39 hu40 hu41 hu42 hu43 e9
          go_simp
          refine K _ _ (Met.intro (hK _ _ ?_))
          (repeat apply Exists.intro)
          refine ⟨?rel, rfl⟩
          case rel => exact ⟨rfl, updL ks sz d.k.n d.v.n L (kb d.k.bs) d.fl d.v.bs, HLE.out, HB2.out, HF2.out⟩
      · skip
        go_wp2_with fail
        rename_i K hK
        refine wp_tells4 (by kernel_rfl) (TDUpd b x w.heap.size ga gb (updE ks sz d.k.n d.v.n L (kb d.k.bs) d.fl) d) (GTwo w0 b cb mb ks sz x y lc L (updL ks sz d.k.n d.v.n L (kb d.k.bs) d.fl d.v.bs) w.heap.size #[.int .i64 d.what, .slice d.k.A d.k.n d.k.c, .slice d.v.A d.v.n d.v.c, .int .u64 d.fl, .int .i64 d.pl, .int .i64 d.of] ga d.k.n (u8s d.k.bs ++ marks (mkB 1) 12) gb d.v.n (u8s d.v.bs ++ marks (mkB 1) 12) 5 13) (by kernel_rfl) (by kernel_rfl) (by kernel_rfl) (by kernel_rfl) ?_ ?_ ?_ ?_
        · intro q oj σ σ' W hj h hs
          have hi : q < 16 := (Array.getElem?_eq_some_iff.1 hj).1
          have h0 := hs q (.inl rfl)
          have hi' : q = 0 ∨ q = 1 ∨ q = 2 ∨ q = 3 ∨ q = 4 ∨ q = 5 ∨ q = 6 ∨ q = 7 ∨ q = 8 ∨ q = 9 ∨ q = 10 ∨ q = 11 ∨ q = 12 ∨ q = 13 ∨ q = 14 ∨ q = 15 := by omega
          rcases hi' with rfl | rfl | rfl | rfl | rfl | rfl | rfl | rfl | rfl | rfl | rfl | rfl | rfl | rfl | rfl | rfl
          all_goals (simp only [TDUpd] at h ⊢; rw [h0]; exact h)
        · exact Two.start (HBW.out.later (Below.refl _ _).drew) (HFr.out.below (Below.refl _ _).drew) (sameA_updL _ _ _ _ _ _ _ _)
        · intro q o ho Dn a W hi hG hold hT hcl hh
          have hi2 : q < 16 := (Array.getElem?_eq_some_iff.1 ho).1
          have hi' : q = 0 ∨ q = 1 ∨ q = 2 ∨ q = 3 ∨ q = 4 ∨ q = 5 ∨ q = 6 ∨ q = 7 ∨ q = 8 ∨ q = 9 ∨ q = 10 ∨ q = 11 ∨ q = 12 ∨ q = 13 ∨ q = 14 ∨ q = 15 := by omega
          rcases hi' with rfl | rfl | rfl | rfl | rfl | rfl | rfl | rfl | rfl | rfl | rfl | rfl | rfl | rfl | rfl | rfl
          · cases ho
            refine step4_told (.pointer (some ⟨b, 0, none⟩)) ?_ (by decide) (hG.same (by decide) (by decide)) hT rfl
            have e0 : a.eval (.tmp 0) = .pointer (some ⟨b, 0, none⟩) := hold 0 (unyet_of (by kernel_rfl))
            generalize a.eval = ev at e0 ⊢
            simp [execOp, go_sem, e0]
          · cases ho
            refine step4_told (.slice (some ⟨ga, 0, none⟩) d.k.n (d.k.n + 12)) ?_ (by decide) (hG.same (by decide) (by decide)) hT rfl
            have e0 : a.eval (.tmp 7) = .slice (some ⟨ga, 0, none⟩) d.k.n (d.k.n + 12) := hold 7 (unyet_of (by kernel_rfl))
            generalize a.eval = ev at e0 ⊢
            simp [execOp, go_sem, e0]
          · cases ho
            refine step4_told (.slice (some ⟨gb, 0, none⟩) d.v.n (d.v.n + 12)) ?_ (by decide) (hG.same (by decide) (by decide)) hT rfl
            have e0 : a.eval (.tmp 8) = .slice (some ⟨gb, 0, none⟩) d.v.n (d.v.n + 12) := hold 8 (unyet_of (by kernel_rfl))
            generalize a.eval = ev at e0 ⊢
            simp [execOp, go_sem, e0]
          · cases ho
            refine step4_told (.pointer (some ⟨w.heap.size, 3, none⟩)) ?_ (by decide) (hG.same (by decide) (by decide)) hT rfl
            have e0 : a.eval (.tmp 5) = .pointer (some ⟨w.heap.size, 0, none⟩) := hold 5 (unyet_of (by kernel_rfl))
            generalize a.eval = ev at e0 ⊢
            simp [execOp, go_sem, e0]
          · cases ho
            have k0 : W.cell? ⟨w.heap.size, 3, none⟩ = some (.int .u64 d.fl) := (blk_cell hG.both.fr.box 3).trans rfl
            refine step4_told (.int .u64 d.fl) ?_ (by decide) (hG.same (by decide) (by decide)) hT rfl
            have e0 : a.eval (.tmp 32) = .pointer (some ⟨w.heap.size, 3, none⟩) := hT 3 (hh 3 rfl)
            generalize a.eval = ev at e0 ⊢
            simp [execOp, go_sem, e0, k0]
          · cases ho
            have e0 : a.eval (.tmp 29) = .pointer (some ⟨b, 0, none⟩) := hT 0 (hh 0 rfl)
            have e1 : a.eval (.tmp 30) = .slice (some ⟨ga, 0, none⟩) d.k.n (d.k.n + 12) := hT 1 (hh 1 rfl)
            have e2 : a.eval (.tmp 31) = .slice (some ⟨gb, 0, none⟩) d.v.n (d.v.n + 12) := hT 2 (hh 2 rfl)
            have e3 : a.eval (.tmp 33) = .int .u64 d.fl := hT 4 (hh 4 rfl)
            refine step4_called (R := fun u W' => u = .int .i64 (updE ks sz d.k.n d.v.n L (kb d.k.bs) d.fl) ∧ Hsh W' w0.heap.size b cb mb ks sz (updL ks sz d.k.n d.v.n L (kb d.k.bs) d.fl d.v.bs) ∧ Kept (fun g => ¬ OfH b cb mb sz L g) W W') ?_ (by decide) ((upd_any w0.heap.size b cb mb ks sz L _ _ d.k.n (d.k.n + 12) W.heap.size d.v.n (d.v.n + 12) d.fl d.k.bs d.v.bs W (hG.fst hi) ((hG.both.fr.krow HLK.out HD.out.k.byte).upto (row_lt hG.both.fr.r1)) (Nat.le_refl _) ((row_head hG.both.fr.r2 HLV.out).mono (row_lt hG.both.fr.r2))).mono ?_) ?_
            · have ef : a.eval (.func 25) = .func (.func 25) #[] #[] := rfl
              generalize a.eval = ev at e0 e1 e2 e3 ef ⊢
              simp [execOp, go_sem, e0, e1, e2, e3, ef, hEU]
            · rintro e W' ⟨h1, h2⟩
              exact ⟨_, h1, rfl, h2⟩
            · rintro u W' ⟨rfl, ha', hk'⟩
              exact ⟨hG.one hi (by decide) ha' hk', fun j hj => (hT j hj).at, rfl⟩
          · cases ho
            refine step4_told (.pointer (some ⟨x, 0, none⟩)) ?_ (by decide) (hG.same (by decide) (by decide)) hT rfl
            have e0 : a.eval (.tmp 1) = .pointer (some ⟨x, 0, none⟩) := hold 1 (unyet_of (by kernel_rfl))
            generalize a.eval = ev at e0 ⊢
            simp [execOp, go_sem, e0]
          · cases ho
            refine step4_told (.pointer (some ⟨w.heap.size, 1, none⟩)) ?_ (by decide) (hG.same (by decide) (by decide)) hT rfl
            have e0 : a.eval (.tmp 5) = .pointer (some ⟨w.heap.size, 0, none⟩) := hold 5 (unyet_of (by kernel_rfl))
            generalize a.eval = ev at e0 ⊢
            simp [execOp, go_sem, e0]
          · cases ho
            have k0 : W.cell? ⟨w.heap.size, 1, none⟩ = some (.slice d.k.A d.k.n d.k.c) := (blk_cell hG.both.fr.box 1).trans rfl
            refine step4_told (.slice d.k.A d.k.n d.k.c) ?_ (by decide) (hG.same (by decide) (by decide)) hT rfl
            have e0 : a.eval (.tmp 36) = .pointer (some ⟨w.heap.size, 1, none⟩) := hT 7 (hh 7 rfl)
            generalize a.eval = ev at e0 ⊢
            simp [execOp, go_sem, e0, k0]
          · cases ho
            refine step4_told (.pointer (some ⟨w.heap.size, 2, none⟩)) ?_ (by decide) (hG.same (by decide) (by decide)) hT rfl
            have e0 : a.eval (.tmp 5) = .pointer (some ⟨w.heap.size, 0, none⟩) := hold 5 (unyet_of (by kernel_rfl))
            generalize a.eval = ev at e0 ⊢
            simp [execOp, go_sem, e0]
          · cases ho
            have k0 : W.cell? ⟨w.heap.size, 2, none⟩ = some (.slice d.v.A d.v.n d.v.c) := (blk_cell hG.both.fr.box 2).trans rfl
            refine step4_told (.slice d.v.A d.v.n d.v.c) ?_ (by decide) (hG.same (by decide) (by decide)) hT rfl
            have e0 : a.eval (.tmp 38) = .pointer (some ⟨w.heap.size, 2, none⟩) := hT 9 (hh 9 rfl)
            generalize a.eval = ev at e0 ⊢
            simp [execOp, go_sem, e0, k0]
          · cases ho
            refine step4_told (.pointer (some ⟨w.heap.size, 3, none⟩)) ?_ (by decide) (hG.same (by decide) (by decide)) hT rfl
            have e0 : a.eval (.tmp 5) = .pointer (some ⟨w.heap.size, 0, none⟩) := hold 5 (unyet_of (by kernel_rfl))
            generalize a.eval = ev at e0 ⊢
            simp [execOp, go_sem, e0]
          · cases ho
            have k0 : W.cell? ⟨w.heap.size, 3, none⟩ = some (.int .u64 d.fl) := (blk_cell hG.both.fr.box 3).trans rfl
            refine step4_told (.int .u64 d.fl) ?_ (by decide) (hG.same (by decide) (by decide)) hT rfl
            have e0 : a.eval (.tmp 40) = .pointer (some ⟨w.heap.size, 3, none⟩) := hT 11 (hh 11 rfl)
            generalize a.eval = ev at e0 ⊢
            simp [execOp, go_sem, e0, k0]
          · cases ho
            obtain ⟨M, hM, hP, hN⟩ := hG.snd hi
            have e0 : a.eval (.tmp 35) = .pointer (some ⟨x, 0, none⟩) := hT 6 (hh 6 rfl)
            have e1 : a.eval (.tmp 37) = .slice d.k.A d.k.n d.k.c := hT 8 (hh 8 rfl)
            have e2 : a.eval (.tmp 39) = .slice d.v.A d.v.n d.v.c := hT 10 (hh 10 rfl)
            have e3 : a.eval (.tmp 41) = .int .u64 d.fl := hT 12 (hh 12 rfl)
            refine step4_called (R := fun u W' => u = .int .i64 (updE ks sz d.k.n d.v.n L (kb d.k.bs) d.fl) ∧ RGo w0.heap.size x y lc ks sz (updL ks sz d.k.n d.v.n L (kb d.k.bs) d.fl d.v.bs) W M W') ?_ (by decide) ((rupd_both (c := d.k.c) (sc := d.v.c) (fl := d.fl) hM hP ⟨HD.out.k.rd.below hG.both.below, HD.out.k.nil, HD.out.k.byte⟩ hG.both.below.size (HD.out.v.rd.below hG.both.below) HD.out.v.nil).mono ?_) ?_
            · have ef : a.eval (.func 39) = .func (.func 39) #[] #[] := rfl
              generalize a.eval = ev at e0 e1 e2 e3 ef ⊢
              simp [execOp, go_sem, e0, e1, e2, e3, ef, hEV]
            · rintro e W' ⟨h1, h2⟩
              exact ⟨_, h1, rfl, h2⟩
            · rintro u W' ⟨rfl, ha'⟩
              exact ⟨hG.two hi (by decide) hM hN ha', fun j hj => (hT j hj).at, rfl⟩
          · cases ho
            refine step4_told (.bool true) ?_ (by decide) (hG.same (by decide) (by decide)) hT rfl
            have e0 : a.eval (.tmp 34) = .int .i64 (updE ks sz d.k.n d.v.n L (kb d.k.bs) d.fl) := hT 5 (hh 5 rfl)
            have e1 : a.eval (.tmp 42) = .int .i64 (updE ks sz d.k.n d.v.n L (kb d.k.bs) d.fl) := hT 13 (hh 13 rfl)
            generalize a.eval = ev at e0 e1 ⊢
            simp [execOp, go_sem, e0, e1]
          · cases ho
            refine step4_told (.bool true) ?_ (by decide) (hG.same (by decide) (by decide)) hT rfl
            have e0 : a.eval (.tmp 43) = .bool true := hT 14 (hh 14 rfl)
            generalize a.eval = ev at e0 ⊢
            simp [execOp, go_sem, e0]
        · intro a W hd hs hold hT hG
          have e9 : a.tmps.getD 9 undef = .bool true := hT 15 (by decide)
          obtain ⟨f, hf, ha⟩ := act_puts [29, 30, 31, 32, 33, 34, 35, 36, 37, 38, 39, 40, 41, 42, 43, 9] (fun t ht => by
            by_cases h : t ∈ [29, 30, 31, 32, 33, 34, 35, 36, 37, 38, 39, 40, 41, 42, 43, 9]
            · exact h
            · exfalso
              simp [unwritten] at ht
              simp only [List.mem_cons, not_or] at h
              obtain ⟨h0, h1, h2, h3, h4, h5, h6, h7, h8, h9, h10, h11, h12, h13, h14, h15, _⟩ := h
              exact absurd (ht (fun e => h0 e.symm) (fun e => h1 e.symm) (fun e => h2 e.symm) (fun e => h3 e.symm) (fun e => h4 e.symm) (fun e => h5 e.symm) (fun e => h6 e.symm) (fun e => h7 e.symm) (fun e => h8 e.symm) (fun e => h9 e.symm) (fun e => h10 e.symm) (fun e => h11 e.symm) (fun e => h12 e.symm) (fun e => h13 e.symm) (fun e => h14 e.symm)) (fun e => h15 e.symm)) (fun t ht => by
            have hsz : t < 158 := by
              simp only [List.mem_cons, List.mem_nil_iff, or_false] at ht
              omega
            exact hsz) hd hs hold
          rw [← hf 9] at e9
          have HB2 := hide (Two.done (Two.flags hG (by decide) (by decide)))
          have HF2 := hide hG.both.fr
          have HLE : Hid ((updL ks sz d.k.n d.v.n L (kb d.k.bs) d.fl d.v.bs).length = L.length) := hide ((sameA_updL _ _ _ _ _ _ _ _).1)
          subst ha
          clear hd hs hold hT hf hG
          simp only [List.foldl_cons, List.foldl_nil, e9]
          obtain ⟨u29, hu29⟩ : ∃ u, u = f 29 := ⟨_, rfl⟩
          obtain ⟨u30, hu30⟩ : ∃ u, u = f 30 := ⟨_, rfl⟩
          obtain ⟨u31, hu31⟩ : ∃ u, u = f 31 := ⟨_, rfl⟩
          obtain ⟨u32, hu32⟩ : ∃ u, u = f 32 := ⟨_, rfl⟩
          obtain ⟨u33, hu33⟩ : ∃ u, u = f 33 := ⟨_, rfl⟩
          obtain ⟨u34, hu34⟩ : ∃ u, u = f 34 := ⟨_, rfl⟩
          obtain ⟨u35, hu35⟩ : ∃ u, u = f 35 := ⟨_, rfl⟩
          obtain ⟨u36, hu36⟩ : ∃ u, u = f 36 := ⟨_, rfl⟩
          obtain ⟨u37, hu37⟩ : ∃ u, u = f 37 := ⟨_, rfl⟩
          obtain ⟨u38, hu38⟩ : ∃ u, u = f 38 := ⟨_, rfl⟩
          obtain ⟨u39, hu39⟩ : ∃ u, u = f 39 := ⟨_, rfl⟩
          obtain ⟨u40, hu40⟩ : ∃ u, u = f 40 := ⟨_, rfl⟩
          obtain ⟨u41, hu41⟩ : ∃ u, u = f 41 := ⟨_, rfl⟩
          obtain ⟨u42, hu42⟩ : ∃ u, u = f 42 := ⟨_, rfl⟩
          obtain ⟨u43, hu43⟩ : ∃ u, u = f 43 := ⟨_, rfl⟩
          rw [← hu29, ← hu30, ← hu31, ← hu32, ← hu33, ← hu34, ← hu35, ← hu36, ← hu37, ← hu38, ← hu39, ← hu40, ← hu41, ← hu42, ← hu43]
          clear hu29 hu30 hu31 hu32 hu33 hu34 hu35 hu36 hu37 hu38 hu39 hu40 hu41 hu42 hu43 e9
          go_simp
          refine K _ _ (Met.intro (hK _ _ ?_))
          (repeat apply Exists.intro)
          refine ⟨?rel, rfl⟩
          case rel => exact ⟨rfl, updL ks sz d.k.n d.v.n L (kb d.k.bs) d.fl d.v.bs, HLE.out, HB2.out, HF2.out⟩
      · skip
        go_wp2_with first
          | (go_at_call 24; refine (lookup_any w0.heap.size b cb mb ks sz L (some ⟨ga, 0, none⟩) d.k.n (d.k.n + 12) (ga + 1) d.k.bs W HBW.out.a (HFr.out.krow HLK.out HD.out.k.byte) (row_lt HFr.out.r1)).mono ?_; rintro e wl ⟨rfl, hb⟩; have HBL := hide (HBW.out.later hb); have HFL := hide (HFr.out.below hb); have k1 : wl.cell? ⟨w.heap.size, 1, none⟩ = some (.slice d.k.A d.k.n d.k.c) := (blk_cell HFL.out.box 1).trans rfl; clear hb)
          | (go_at_call 36; refine (HBL.out.rlook (A := d.k.A) (n := d.k.n) (c := d.k.c) (C := w0.heap.size) (l := d.k.bs) ⟨HD.out.k.rd.below HBL.out.below, HD.out.k.nil, HD.out.k.byte⟩ HBL.out.below.size).mono ?_; rintro e wm ⟨rfl, hb⟩; have HBM := hide (HBL.out.later hb); have HFM := hide (HFL.out.below hb); clear hb)
        go_meet
        case rel => exact ⟨rfl, L, rfl, HBM.out, HFM.out⟩
      · skip
        go_wp2_with fail
        rename_i K hK
        refine wp_tells4 (by kernel_rfl) (TDSet b x w.heap.size ga gb (setE L.length sz d.pl d.of d.v.n) d) (GTwo w0 b cb mb ks sz x y lc L (setL L sz d.pl d.of d.v.n d.v.bs) w.heap.size #[.int .i64 d.what, .slice d.k.A d.k.n d.k.c, .slice d.v.A d.v.n d.v.c, .int .u64 d.fl, .int .i64 d.pl, .int .i64 d.of] ga d.k.n (u8s d.k.bs ++ marks (mkB 1) 12) gb d.v.n (u8s d.v.bs ++ marks (mkB 1) 12) 6 14) (by kernel_rfl) (by kernel_rfl) (by kernel_rfl) (by kernel_rfl) ?_ ?_ ?_ ?_
        · intro q oj σ σ' W hj h hs
          have hi : q < 17 := (Array.getElem?_eq_some_iff.1 hj).1
          have h0 := hs q (.inl rfl)
          have hi' : q = 0 ∨ q = 1 ∨ q = 2 ∨ q = 3 ∨ q = 4 ∨ q = 5 ∨ q = 6 ∨ q = 7 ∨ q = 8 ∨ q = 9 ∨ q = 10 ∨ q = 11 ∨ q = 12 ∨ q = 13 ∨ q = 14 ∨ q = 15 ∨ q = 16 := by omega
          rcases hi' with rfl | rfl | rfl | rfl | rfl | rfl | rfl | rfl | rfl | rfl | rfl | rfl | rfl | rfl | rfl | rfl | rfl
          all_goals (simp only [TDSet] at h ⊢; rw [h0]; exact h)
        · exact Two.start (HBW.out.later (Below.refl _ _).drew) (HFr.out.below (Below.refl _ _).drew) (sameA_setL _ _ _ _ _ _)
        · intro q o ho Dn a W hi hG hold hT hcl hh
          have hi2 : q < 17 := (Array.getElem?_eq_some_iff.1 ho).1
          have hi' : q = 0 ∨ q = 1 ∨ q = 2 ∨ q = 3 ∨ q = 4 ∨ q = 5 ∨ q = 6 ∨ q = 7 ∨ q = 8 ∨ q = 9 ∨ q = 10 ∨ q = 11 ∨ q = 12 ∨ q = 13 ∨ q = 14 ∨ q = 15 ∨ q = 16 := by omega
          rcases hi' with rfl | rfl | rfl | rfl | rfl | rfl | rfl | rfl | rfl | rfl | rfl | rfl | rfl | rfl | rfl | rfl | rfl
          · cases ho
            refine step4_told (.pointer (some ⟨b, 0, none⟩)) ?_ (by decide) (hG.same (by decide) (by decide)) hT rfl
            have e0 : a.eval (.tmp 0) = .pointer (some ⟨b, 0, none⟩) := hold 0 (unyet_of (by kernel_rfl))
            generalize a.eval = ev at e0 ⊢
            simp [execOp, go_sem, e0]
          · cases ho
            refine step4_told (.pointer (some ⟨w.heap.size, 4, none⟩)) ?_ (by decide) (hG.same (by decide) (by decide)) hT rfl
            have e0 : a.eval (.tmp 5) = .pointer (some ⟨w.heap.size, 0, none⟩) := hold 5 (unyet_of (by kernel_rfl))
            generalize a.eval = ev at e0 ⊢
            simp [execOp, go_sem, e0]
          · cases ho
            have k0 : W.cell? ⟨w.heap.size, 4, none⟩ = some (.int .i64 d.pl) := (blk_cell hG.both.fr.box 4).trans rfl
            refine step4_told (.int .i64 d.pl) ?_ (by decide) (hG.same (by decide) (by decide)) hT rfl
            have e0 : a.eval (.tmp 70) = .pointer (some ⟨w.heap.size, 4, none⟩) := hT 1 (hh 1 rfl)
            generalize a.eval = ev at e0 ⊢
            simp [execOp, go_sem, e0, k0]
          · cases ho
            refine step4_told (.pointer (some ⟨w.heap.size, 5, none⟩)) ?_ (by decide) (hG.same (by decide) (by decide)) hT rfl
            have e0 : a.eval (.tmp 5) = .pointer (some ⟨w.heap.size, 0, none⟩) := hold 5 (unyet_of (by kernel_rfl))
            generalize a.eval = ev at e0 ⊢
            simp [execOp, go_sem, e0]
          · cases ho
            have k0 : W.cell? ⟨w.heap.size, 5, none⟩ = some (.int .i64 d.of) := (blk_cell hG.both.fr.box 5).trans rfl
            refine step4_told (.int .i64 d.of) ?_ (by decide) (hG.same (by decide) (by decide)) hT rfl
            have e0 : a.eval (.tmp 72) = .pointer (some ⟨w.heap.size, 5, none⟩) := hT 3 (hh 3 rfl)
            generalize a.eval = ev at e0 ⊢
            simp [execOp, go_sem, e0, k0]
          · cases ho
            refine step4_told (.slice (some ⟨gb, 0, none⟩) d.v.n (d.v.n + 12)) ?_ (by decide) (hG.same (by decide) (by decide)) hT rfl
            have e0 : a.eval (.tmp 8) = .slice (some ⟨gb, 0, none⟩) d.v.n (d.v.n + 12) := hold 8 (unyet_of (by kernel_rfl))
            generalize a.eval = ev at e0 ⊢
            simp [execOp, go_sem, e0]
          · cases ho
            have e0 : a.eval (.tmp 69) = .pointer (some ⟨b, 0, none⟩) := hT 0 (hh 0 rfl)
            have e1 : a.eval (.tmp 71) = .int .i64 d.pl := hT 2 (hh 2 rfl)
            have e2 : a.eval (.tmp 73) = .int .i64 d.of := hT 4 (hh 4 rfl)
            have e3 : a.eval (.tmp 74) = .slice (some ⟨gb, 0, none⟩) d.v.n (d.v.n + 12) := hT 5 (hh 5 rfl)
            refine step4_called (R := fun u W' => u = .int .i64 (setE L.length sz d.pl d.of d.v.n) ∧ Hsh W' w0.heap.size b cb mb ks sz (setL L sz d.pl d.of d.v.n d.v.bs) ∧ Kept (fun g => ¬ OfH b cb mb sz L g) W W') ?_ (by decide) ((set_any (i := d.pl) (sc := d.v.n + 12) (hG.fst hi) HD.out.of.2 ((row_head hG.both.fr.r2 HLV.out).mono (row_lt hG.both.fr.r2)) (Nat.le_refl _)).mono ?_) ?_
            · have ef : a.eval (.func 27) = .func (.func 27) #[] #[] := rfl
              generalize a.eval = ev at e0 e1 e2 e3 ef ⊢
              simp [execOp, go_sem, e0, e1, e2, e3, ef, hES]
            · rintro e W' ⟨h1, h2⟩
              exact ⟨_, h1, rfl, h2⟩
            · rintro u W' ⟨rfl, ha', hk'⟩
              exact ⟨hG.one hi (by decide) ha' hk', fun j hj => (hT j hj).at, rfl⟩
          · cases ho
            refine step4_told (.pointer (some ⟨x, 0, none⟩)) ?_ (by decide) (hG.same (by decide) (by decide)) hT rfl
            have e0 : a.eval (.tmp 1) = .pointer (some ⟨x, 0, none⟩) := hold 1 (unyet_of (by kernel_rfl))
            generalize a.eval = ev at e0 ⊢
            simp [execOp, go_sem, e0]
          · cases ho
            refine step4_told (.pointer (some ⟨w.heap.size, 4, none⟩)) ?_ (by decide) (hG.same (by decide) (by decide)) hT rfl
            have e0 : a.eval (.tmp 5) = .pointer (some ⟨w.heap.size, 0, none⟩) := hold 5 (unyet_of (by kernel_rfl))
            generalize a.eval = ev at e0 ⊢
            simp [execOp, go_sem, e0]
          · cases ho
            have k0 : W.cell? ⟨w.heap.size, 4, none⟩ = some (.int .i64 d.pl) := (blk_cell hG.both.fr.box 4).trans rfl
            refine step4_told (.int .i64 d.pl) ?_ (by decide) (hG.same (by decide) (by decide)) hT rfl
            have e0 : a.eval (.tmp 77) = .pointer (some ⟨w.heap.size, 4, none⟩) := hT 8 (hh 8 rfl)
            generalize a.eval = ev at e0 ⊢
            simp [execOp, go_sem, e0, k0]
          · cases ho
            refine step4_told (.pointer (some ⟨w.heap.size, 5, none⟩)) ?_ (by decide) (hG.same (by decide) (by decide)) hT rfl
            have e0 : a.eval (.tmp 5) = .pointer (some ⟨w.heap.size, 0, none⟩) := hold 5 (unyet_of (by kernel_rfl))
            generalize a.eval = ev at e0 ⊢
            simp [execOp, go_sem, e0]
          · cases ho
            have k0 : W.cell? ⟨w.heap.size, 5, none⟩ = some (.int .i64 d.of) := (blk_cell hG.both.fr.box 5).trans rfl
            refine step4_told (.int .i64 d.of) ?_ (by decide) (hG.same (by decide) (by decide)) hT rfl
            have e0 : a.eval (.tmp 79) = .pointer (some ⟨w.heap.size, 5, none⟩) := hT 10 (hh 10 rfl)
            generalize a.eval = ev at e0 ⊢
            simp [execOp, go_sem, e0, k0]
          · cases ho
            refine step4_told (.pointer (some ⟨w.heap.size, 2, none⟩)) ?_ (by decide) (hG.same (by decide) (by decide)) hT rfl
            have e0 : a.eval (.tmp 5) = .pointer (some ⟨w.heap.size, 0, none⟩) := hold 5 (unyet_of (by kernel_rfl))
            generalize a.eval = ev at e0 ⊢
            simp [execOp, go_sem, e0]
          · cases ho
            have k0 : W.cell? ⟨w.heap.size, 2, none⟩ = some (.slice d.v.A d.v.n d.v.c) := (blk_cell hG.both.fr.box 2).trans rfl
            refine step4_told (.slice d.v.A d.v.n d.v.c) ?_ (by decide) (hG.same (by decide) (by decide)) hT rfl
            have e0 : a.eval (.tmp 81) = .pointer (some ⟨w.heap.size, 2, none⟩) := hT 12 (hh 12 rfl)
            generalize a.eval = ev at e0 ⊢
            simp [execOp, go_sem, e0, k0]
          · cases ho
            obtain ⟨M, hM, hP, hN⟩ := hG.snd hi
            have e0 : a.eval (.tmp 76) = .pointer (some ⟨x, 0, none⟩) := hT 7 (hh 7 rfl)
            have e1 : a.eval (.tmp 78) = .int .i64 d.pl := hT 9 (hh 9 rfl)
            have e2 : a.eval (.tmp 80) = .int .i64 d.of := hT 11 (hh 11 rfl)
            have e3 : a.eval (.tmp 82) = .slice d.v.A d.v.n d.v.c := hT 13 (hh 13 rfl)
            refine step4_called (R := fun u W' => u = .int .i64 (setE L.length sz d.pl d.of d.v.n) ∧ RGo w0.heap.size x y lc ks sz (setL L sz d.pl d.of d.v.n d.v.bs) W M W') ?_ (by decide) ((rset_both (i := d.pl) (sc := d.v.c) hM hP HD.out.of.2 (by omega) (HD.out.v.rd.below hG.both.below) hG.both.below.size).mono ?_) ?_
            · have ef : a.eval (.func 37) = .func (.func 37) #[] #[] := rfl
              generalize a.eval = ev at e0 e1 e2 e3 ef ⊢
              simp [execOp, go_sem, e0, e1, e2, e3, ef, hET]
            · rintro e W' ⟨h1, h2⟩
              exact ⟨_, h1, rfl, h2⟩
            · rintro u W' ⟨rfl, ha'⟩
              exact ⟨hG.two hi (by decide) hM hN ha', fun j hj => (hT j hj).at, rfl⟩
          · cases ho
            refine step4_told (.bool true) ?_ (by decide) (hG.same (by decide) (by decide)) hT rfl
            have e0 : a.eval (.tmp 75) = .int .i64 (setE L.length sz d.pl d.of d.v.n) := hT 6 (hh 6 rfl)
            have e1 : a.eval (.tmp 83) = .int .i64 (setE L.length sz d.pl d.of d.v.n) := hT 14 (hh 14 rfl)
            generalize a.eval = ev at e0 e1 ⊢
            simp [execOp, go_sem, e0, e1]
          · cases ho
            refine step4_told (.bool true) ?_ (by decide) (hG.same (by decide) (by decide)) hT rfl
            have e0 : a.eval (.tmp 84) = .bool true := hT 15 (hh 15 rfl)
            generalize a.eval = ev at e0 ⊢
            simp [execOp, go_sem, e0]
        · intro a W hd hs hold hT hG
          have e9 : a.tmps.getD 9 undef = .bool true := hT 16 (by decide)
          obtain ⟨f, hf, ha⟩ := act_puts [69, 70, 71, 72, 73, 74, 75, 76, 77, 78, 79, 80, 81, 82, 83, 84, 9] (fun t ht => by
            by_cases h : t ∈ [69, 70, 71, 72, 73, 74, 75, 76, 77, 78, 79, 80, 81, 82, 83, 84, 9]
            · exact h
            · exfalso
              simp [unwritten] at ht
              simp only [List.mem_cons, not_or] at h
              obtain ⟨h0, h1, h2, h3, h4, h5, h6, h7, h8, h9, h10, h11, h12, h13, h14, h15, h16, _⟩ := h
              exact absurd (ht (fun e => h0 e.symm) (fun e => h1 e.symm) (fun e => h2 e.symm) (fun e => h3 e.symm) (fun e => h4 e.symm) (fun e => h5 e.symm) (fun e => h6 e.symm) (fun e => h7 e.symm) (fun e => h8 e.symm) (fun e => h9 e.symm) (fun e => h10 e.symm) (fun e => h11 e.symm) (fun e => h12 e.symm) (fun e => h13 e.symm) (fun e => h14 e.symm) (fun e => h15 e.symm)) (fun e => h16 e.symm)) (fun t ht => by
            have hsz : t < 158 := by
              simp only [List.mem_cons, List.mem_nil_iff, or_false] at ht
              omega
            exact hsz) hd hs hold
          rw [← hf 9] at e9
          have HB2 := hide (Two.done (Two.flags hG (by decide) (by decide)))
          have HF2 := hide hG.both.fr
          have HLE : Hid ((setL L sz d.pl d.of d.v.n d.v.bs).length = L.length) := hide ((sameA_setL _ _ _ _ _ _).1)
          subst ha
          clear hd hs hold hT hf hG
          simp only [List.foldl_cons, List.foldl_nil, e9]
          obtain ⟨u69, hu69⟩ : ∃ u, u = f 69 := ⟨_, rfl⟩
          obtain ⟨u70, hu70⟩ : ∃ u, u = f 70 := ⟨_, rfl⟩
          obtain ⟨u71, hu71⟩ : ∃ u, u = f 71 := ⟨_, rfl⟩
          obtain ⟨u72, hu72⟩ : ∃ u, u = f 72 := ⟨_, rfl⟩
          obtain ⟨u73, hu73⟩ : ∃ u, u = f 73 := ⟨_, rfl⟩
          obtain ⟨u74, hu74⟩ : ∃ u, u = f 74 := ⟨_, rfl⟩
          obtain ⟨u75, hu75⟩ : ∃ u, u = f 75 := ⟨_, rfl⟩
          obtain ⟨u76, hu76⟩ : ∃ u, u = f 76 := ⟨_, rfl⟩
          obtain ⟨u77, hu77⟩ : ∃ u, u = f 77 := ⟨_, rfl⟩
          obtain ⟨u78, hu78⟩ : ∃ u, u = f 78 := ⟨_, rfl⟩
          obtain ⟨u79, hu79⟩ : ∃ u, u = f 79 := ⟨_, rfl⟩
          obtain ⟨u80, hu80⟩ : ∃ u, u = f 80 := ⟨_, rfl⟩
          obtain ⟨u81, hu81⟩ : ∃ u, u = f 81 := ⟨_, rfl⟩
          obtain ⟨u82, hu82⟩ : ∃ u, u = f 82 := ⟨_, rfl⟩
          obtain ⟨u83, hu83⟩ : ∃ u, u = f 83 := ⟨_, rfl⟩
          obtain ⟨u84, hu84⟩ : ∃ u, u = f 84 := ⟨_, rfl⟩
          rw [← hu69, ← hu70, ← hu71, ← hu72, ← hu73, ← hu74, ← hu75, ← hu76, ← hu77, ← hu78, ← hu79, ← hu80, ← hu81, ← hu82, ← hu83, ← hu84]
          clear hu69 hu70 hu71 hu72 hu73 hu74 hu75 hu76 hu77 hu78 hu79 hu80 hu81 hu82 hu83 hu84 e9
          go_simp
          refine K _ _ (Met.intro (hK _ _ ?_))
          (repeat apply Exists.intro)
          refine ⟨?rel, rfl⟩
          case rel => exact ⟨rfl, setL L sz d.pl d.of d.v.n d.v.bs, HLE.out, HB2.out, HF2.out⟩
      · skip
        go_wp2_with fail
        rename_i K hK
        refine wp_tells4 (by kernel_rfl) (TDDel b x w.heap.size ga gb (delE ks d.k.n L (kb d.k.bs)) d) (GTwo w0 b cb mb ks sz x y lc L (delL ks d.k.n L (kb d.k.bs)) w.heap.size #[.int .i64 d.what, .slice d.k.A d.k.n d.k.c, .slice d.v.A d.v.n d.v.c, .int .u64 d.fl, .int .i64 d.pl, .int .i64 d.of] ga d.k.n (u8s d.k.bs ++ marks (mkB 1) 12) gb d.v.n (u8s d.v.bs ++ marks (mkB 1) 12) 2 6) (by kernel_rfl) (by kernel_rfl) (by kernel_rfl) (by kernel_rfl) ?_ ?_ ?_ ?_
        · intro q oj σ σ' W hj h hs
          have hi : q < 9 := (Array.getElem?_eq_some_iff.1 hj).1
          have h0 := hs q (.inl rfl)
          have hi' : q = 0 ∨ q = 1 ∨ q = 2 ∨ q = 3 ∨ q = 4 ∨ q = 5 ∨ q = 6 ∨ q = 7 ∨ q = 8 := by omega
          rcases hi' with rfl | rfl | rfl | rfl | rfl | rfl | rfl | rfl | rfl
          all_goals (simp only [TDDel] at h ⊢; rw [h0]; exact h)
        · exact Two.start (HBW.out.later (Below.refl _ _).drew) (HFr.out.below (Below.refl _ _).drew) (sameA_delL _ _ _ _)
        · intro q o ho Dn a W hi hG hold hT hcl hh
          have hi2 : q < 9 := (Array.getElem?_eq_some_iff.1 ho).1
          have hi' : q = 0 ∨ q = 1 ∨ q = 2 ∨ q = 3 ∨ q = 4 ∨ q = 5 ∨ q = 6 ∨ q = 7 ∨ q = 8 := by omega
          rcases hi' with rfl | rfl | rfl | rfl | rfl | rfl | rfl | rfl | rfl
          · cases ho
            refine step4_told (.pointer (some ⟨b, 0, none⟩)) ?_ (by decide) (hG.same (by decide) (by decide)) hT rfl
            have e0 : a.eval (.tmp 0) = .pointer (some ⟨b, 0, none⟩) := hold 0 (unyet_of (by kernel_rfl))
            generalize a.eval = ev at e0 ⊢
            simp [execOp, go_sem, e0]
          · cases ho
            refine step4_told (.slice (some ⟨ga, 0, none⟩) d.k.n (d.k.n + 12)) ?_ (by decide) (hG.same (by decide) (by decide)) hT rfl
            have e0 : a.eval (.tmp 7) = .slice (some ⟨ga, 0, none⟩) d.k.n (d.k.n + 12) := hold 7 (unyet_of (by kernel_rfl))
            generalize a.eval = ev at e0 ⊢
            simp [execOp, go_sem, e0]
          · cases ho
            have e0 : a.eval (.tmp 88) = .pointer (some ⟨b, 0, none⟩) := hT 0 (hh 0 rfl)
            have e1 : a.eval (.tmp 89) = .slice (some ⟨ga, 0, none⟩) d.k.n (d.k.n + 12) := hT 1 (hh 1 rfl)
            refine step4_called (R := fun u W' => u = .int .i64 (delE ks d.k.n L (kb d.k.bs)) ∧ Hsh W' w0.heap.size b cb mb ks sz (delL ks d.k.n L (kb d.k.bs)) ∧ Kept (fun g => ¬ OfH b cb mb sz L g) W W') ?_ (by decide) ((del_any w0.heap.size b cb mb ks sz L _ d.k.n (d.k.n + 12) W.heap.size d.k.bs W (hG.fst hi) ((hG.both.fr.krow HLK.out HD.out.k.byte).upto (row_lt hG.both.fr.r1)) (Nat.le_refl _)).mono ?_) ?_
            · have ef : a.eval (.func 26) = .func (.func 26) #[] #[] := rfl
              generalize a.eval = ev at e0 e1 ef ⊢
              simp [execOp, go_sem, e0, e1, ef, hEW]
            · rintro e W' ⟨h1, h2⟩
              exact ⟨_, h1, rfl, h2⟩
            · rintro u W' ⟨rfl, ha', hk'⟩
              exact ⟨hG.one hi (by decide) ha' hk', fun j hj => (hT j hj).at, rfl⟩
          · cases ho
            refine step4_told (.pointer (some ⟨x, 0, none⟩)) ?_ (by decide) (hG.same (by decide) (by decide)) hT rfl
            have e0 : a.eval (.tmp 1) = .pointer (some ⟨x, 0, none⟩) := hold 1 (unyet_of (by kernel_rfl))
            generalize a.eval = ev at e0 ⊢
            simp [execOp, go_sem, e0]
          · cases ho
            refine step4_told (.pointer (some ⟨w.heap.size, 1, none⟩)) ?_ (by decide) (hG.same (by decide) (by decide)) hT rfl
            have e0 : a.eval (.tmp 5) = .pointer (some ⟨w.heap.size, 0, none⟩) := hold 5 (unyet_of (by kernel_rfl))
            generalize a.eval = ev at e0 ⊢
            simp [execOp, go_sem, e0]
          · cases ho
            have k0 : W.cell? ⟨w.heap.size, 1, none⟩ = some (.slice d.k.A d.k.n d.k.c) := (blk_cell hG.both.fr.box 1).trans rfl
            refine step4_told (.slice d.k.A d.k.n d.k.c) ?_ (by decide) (hG.same (by decide) (by decide)) hT rfl
            have e0 : a.eval (.tmp 92) = .pointer (some ⟨w.heap.size, 1, none⟩) := hT 4 (hh 4 rfl)
            generalize a.eval = ev at e0 ⊢
            simp [execOp, go_sem, e0, k0]
          · cases ho
            obtain ⟨M, hM, hP, hN⟩ := hG.snd hi
            have e0 : a.eval (.tmp 91) = .pointer (some ⟨x, 0, none⟩) := hT 3 (hh 3 rfl)
            have e1 : a.eval (.tmp 93) = .slice d.k.A d.k.n d.k.c := hT 5 (hh 5 rfl)
            refine step4_called (R := fun u W' => u = .int .i64 (delE ks d.k.n L (kb d.k.bs)) ∧ RGo w0.heap.size x y lc ks sz (delL ks d.k.n L (kb d.k.bs)) W M W') ?_ (by decide) ((rdel_both (c := d.k.c) hM hP ⟨HD.out.k.rd.below hG.both.below, HD.out.k.nil, HD.out.k.byte⟩ hG.both.below.size).mono ?_) ?_
            · have ef : a.eval (.func 38) = .func (.func 38) #[] #[] := rfl
              generalize a.eval = ev at e0 e1 ef ⊢
              simp [execOp, go_sem, e0, e1, ef, hEX]
            · rintro e W' ⟨h1, h2⟩
              exact ⟨_, h1, rfl, h2⟩
            · rintro u W' ⟨rfl, ha'⟩
              exact ⟨hG.two hi (by decide) hM hN ha', fun j hj => (hT j hj).at, rfl⟩
          · cases ho
            refine step4_told (.bool true) ?_ (by decide) (hG.same (by decide) (by decide)) hT rfl
            have e0 : a.eval (.tmp 90) = .int .i64 (delE ks d.k.n L (kb d.k.bs)) := hT 2 (hh 2 rfl)
            have e1 : a.eval (.tmp 94) = .int .i64 (delE ks d.k.n L (kb d.k.bs)) := hT 6 (hh 6 rfl)
            generalize a.eval = ev at e0 e1 ⊢
            simp [execOp, go_sem, e0, e1]
          · cases ho
            refine step4_told (.bool true) ?_ (by decide) (hG.same (by decide) (by decide)) hT rfl
            have e0 : a.eval (.tmp 95) = .bool true := hT 7 (hh 7 rfl)
            generalize a.eval = ev at e0 ⊢
            simp [execOp, go_sem, e0]
        · intro a W hd hs hold hT hG
          have e9 : a.tmps.getD 9 undef = .bool true := hT 8 (by decide)
          obtain ⟨f, hf, ha⟩ := act_puts [88, 89, 90, 91, 92, 93, 94, 95, 9] (fun t ht => by
            by_cases h : t ∈ [88, 89, 90, 91, 92, 93, 94, 95, 9]
            · exact h
            · exfalso
              simp [unwritten] at ht
              simp only [List.mem_cons, not_or] at h
              obtain ⟨h0, h1, h2, h3, h4, h5, h6, h7, h8, _⟩ := h
              exact absurd (ht (fun e => h0 e.symm) (fun e => h1 e.symm) (fun e => h2 e.symm) (fun e => h3 e.symm) (fun e => h4 e.symm) (fun e => h5 e.symm) (fun e => h6 e.symm) (fun e => h7 e.symm)) (fun e => h8 e.symm)) (fun t ht => by
            have hsz : t < 158 := by
              simp only [List.mem_cons, List.mem_nil_iff, or_false] at ht
              omega
            exact hsz) hd hs hold
          rw [← hf 9] at e9
          have HB2 := hide (Two.done (Two.flags hG (by decide) (by decide)))
          have HF2 := hide hG.both.fr
          have HLE : Hid ((delL ks d.k.n L (kb d.k.bs)).length = L.length) := hide ((sameA_delL _ _ _ _).1)
          subst ha
          clear hd hs hold hT hf hG
          simp only [List.foldl_cons, List.foldl_nil, e9]
          obtain ⟨u88, hu88⟩ : ∃ u, u = f 88 := ⟨_, rfl⟩
          obtain ⟨u89, hu89⟩ : ∃ u, u = f 89 := ⟨_, rfl⟩
          obtain ⟨u90, hu90⟩ : ∃ u, u = f 90 := ⟨_, rfl⟩
          obtain ⟨u91, hu91⟩ : ∃ u, u = f 91 := ⟨_, rfl⟩
          obtain ⟨u92, hu92⟩ : ∃ u, u = f 92 := ⟨_, rfl⟩
          obtain ⟨u93, hu93⟩ : ∃ u, u = f 93 := ⟨_, rfl⟩
          obtain ⟨u94, hu94⟩ : ∃ u, u = f 94 := ⟨_, rfl⟩
          obtain ⟨u95, hu95⟩ : ∃ u, u = f 95 := ⟨_, rfl⟩
          rw [← hu88, ← hu89, ← hu90, ← hu91, ← hu92, ← hu93, ← hu94, ← hu95]
          clear hu88 hu89 hu90 hu91 hu92 hu93 hu94 hu95 e9
          go_simp
          refine K _ _ (Met.intro (hK _ _ ?_))
          (repeat apply Exists.intro)
          refine ⟨?rel, rfl⟩
          case rel => exact ⟨rfl, delL ks d.k.n L (kb d.k.bs), HLE.out, HB2.out, HF2.out⟩
      · skip
        go_wp2_with fail
        rename_i K hK
        refine wp_tells4 (by kernel_rfl) (TDDel b x w.heap.size ga gb (delE ks d.k.n L (kb d.k.bs)) d) (GTwo w0 b cb mb ks sz x y lc L (delL ks d.k.n L (kb d.k.bs)) w.heap.size #[.int .i64 d.what, .slice d.k.A d.k.n d.k.c, .slice d.v.A d.v.n d.v.c, .int .u64 d.fl, .int .i64 d.pl, .int .i64 d.of] ga d.k.n (u8s d.k.bs ++ marks (mkB 1) 12) gb d.v.n (u8s d.v.bs ++ marks (mkB 1) 12) 2 6) (by kernel_rfl) (by kernel_rfl) (by kernel_rfl) (by kernel_rfl) ?_ ?_ ?_ ?_
        · intro q oj σ σ' W hj h hs
          have hi : q < 9 := (Array.getElem?_eq_some_iff.1 hj).1
          have h0 := hs q (.inl rfl)
          have hi' : q = 0 ∨ q = 1 ∨ q = 2 ∨ q = 3 ∨ q = 4 ∨ q = 5 ∨ q = 6 ∨ q = 7 ∨ q = 8 := by omega
          rcases hi' with rfl | rfl | rfl | rfl | rfl | rfl | rfl | rfl | rfl
          all_goals (simp only [TDDel] at h ⊢; rw [h0]; exact h)
        · exact Two.start (HBW.out.later (Below.refl _ _).drew) (HFr.out.below (Below.refl _ _).drew) (sameA_delL _ _ _ _)
        · intro q o ho Dn a W hi hG hold hT hcl hh
          have hi2 : q < 9 := (Array.getElem?_eq_some_iff.1 ho).1
          have hi' : q = 0 ∨ q = 1 ∨ q = 2 ∨ q = 3 ∨ q = 4 ∨ q = 5 ∨ q = 6 ∨ q = 7 ∨ q = 8 := by omega
          rcases hi' with rfl | rfl | rfl | rfl | rfl | rfl | rfl | rfl | rfl
          · cases ho
            refine step4_told (.pointer (some ⟨b, 0, none⟩)) ?_ (by decide) (hG.same (by decide) (by decide)) hT rfl
            have e0 : a.eval (.tmp 0) = .pointer (some ⟨b, 0, none⟩) := hold 0 (unyet_of (by kernel_rfl))
            generalize a.eval = ev at e0 ⊢
            simp [execOp, go_sem, e0]
          · cases ho
            refine step4_told (.slice (some ⟨ga, 0, none⟩) d.k.n (d.k.n + 12)) ?_ (by decide) (hG.same (by decide) (by decide)) hT rfl
            have e0 : a.eval (.tmp 7) = .slice (some ⟨ga, 0, none⟩) d.k.n (d.k.n + 12) := hold 7 (unyet_of (by kernel_rfl))
            generalize a.eval = ev at e0 ⊢
            simp [execOp, go_sem, e0]
          · cases ho
            have e0 : a.eval (.tmp 88) = .pointer (some ⟨b, 0, none⟩) := hT 0 (hh 0 rfl)
            have e1 : a.eval (.tmp 89) = .slice (some ⟨ga, 0, none⟩) d.k.n (d.k.n + 12) := hT 1 (hh 1 rfl)
            refine step4_called (R := fun u W' => u = .int .i64 (delE ks d.k.n L (kb d.k.bs)) ∧ Hsh W' w0.heap.size b cb mb ks sz (delL ks d.k.n L (kb d.k.bs)) ∧ Kept (fun g => ¬ OfH b cb mb sz L g) W W') ?_ (by decide) ((del_any w0.heap.size b cb mb ks sz L _ d.k.n (d.k.n + 12) W.heap.size d.k.bs W (hG.fst hi) ((hG.both.fr.krow HLK.out HD.out.k.byte).upto (row_lt hG.both.fr.r1)) (Nat.le_refl _)).mono ?_) ?_
            · have ef : a.eval (.func 26) = .func (.func 26) #[] #[] := rfl
              generalize a.eval = ev at e0 e1 ef ⊢
              simp [execOp, go_sem, e0, e1, ef, hEW]
            · rintro e W' ⟨h1, h2⟩
              exact ⟨_, h1, rfl, h2⟩
            · rintro u W' ⟨rfl, ha', hk'⟩
              exact ⟨hG.one hi (by decide) ha' hk', fun j hj => (hT j hj).at, rfl⟩
          · cases ho
            refine step4_told (.pointer (some ⟨x, 0, none⟩)) ?_ (by decide) (hG.same (by decide) (by decide)) hT rfl
            have e0 : a.eval (.tmp 1) = .pointer (some ⟨x, 0, none⟩) := hold 1 (unyet_of (by kernel_rfl))
            generalize a.eval = ev at e0 ⊢
            simp [execOp, go_sem, e0]
          · cases ho
            refine step4_told (.pointer (some ⟨w.heap.size, 1, none⟩)) ?_ (by decide) (hG.same (by decide) (by decide)) hT rfl
            have e0 : a.eval (.tmp 5) = .pointer (some ⟨w.heap.size, 0, none⟩) := hold 5 (unyet_of (by kernel_rfl))
            generalize a.eval = ev at e0 ⊢
            simp [execOp, go_sem, e0]
          · cases ho
            have k0 : W.cell? ⟨w.heap.size, 1, none⟩ = some (.slice d.k.A d.k.n d.k.c) := (blk_cell hG.both.fr.box 1).trans rfl
            refine step4_told (.slice d.k.A d.k.n d.k.c) ?_ (by decide) (hG.same (by decide) (by decide)) hT rfl
            have e0 : a.eval (.tmp 92) = .pointer (some ⟨w.heap.size, 1, none⟩) := hT 4 (hh 4 rfl)
            generalize a.eval = ev at e0 ⊢
            simp [execOp, go_sem, e0, k0]
          · cases ho
            obtain ⟨M, hM, hP, hN⟩ := hG.snd hi
            have e0 : a.eval (.tmp 91) = .pointer (some ⟨x, 0, none⟩) := hT 3 (hh 3 rfl)
            have e1 : a.eval (.tmp 93) = .slice d.k.A d.k.n d.k.c := hT 5 (hh 5 rfl)
            refine step4_called (R := fun u W' => u = .int .i64 (delE ks d.k.n L (kb d.k.bs)) ∧ RGo w0.heap.size x y lc ks sz (delL ks d.k.n L (kb d.k.bs)) W M W') ?_ (by decide) ((rdel_both (c := d.k.c) hM hP ⟨HD.out.k.rd.below hG.both.below, HD.out.k.nil, HD.out.k.byte⟩ hG.both.below.size).mono ?_) ?_
            · have ef : a.eval (.func 38) = .func (.func 38) #[] #[] := rfl
              generalize a.eval = ev at e0 e1 ef ⊢
              simp [execOp, go_sem, e0, e1, ef, hEX]
            · rintro e W' ⟨h1, h2⟩
              exact ⟨_, h1, rfl, h2⟩
            · rintro u W' ⟨rfl, ha'⟩
              exact ⟨hG.two hi (by decide) hM hN ha', fun j hj => (hT j hj).at, rfl⟩
          · cases ho
            refine step4_told (.bool true) ?_ (by decide) (hG.same (by decide) (by decide)) hT rfl
            have e0 : a.eval (.tmp 90) = .int .i64 (delE ks d.k.n L (kb d.k.bs)) := hT 2 (hh 2 rfl)
            have e1 : a.eval (.tmp 94) = .int .i64 (delE ks d.k.n L (kb d.k.bs)) := hT 6 (hh 6 rfl)
            generalize a.eval = ev at e0 e1 ⊢
            simp [execOp, go_sem, e0, e1]
          · cases ho
            refine step4_told (.bool true) ?_ (by decide) (hG.same (by decide) (by decide)) hT rfl
            have e0 : a.eval (.tmp 95) = .bool true := hT 7 (hh 7 rfl)
            generalize a.eval = ev at e0 ⊢
            simp [execOp, go_sem, e0]
        · intro a W hd hs hold hT hG
          have e9 : a.tmps.getD 9 undef = .bool true := hT 8 (by decide)
          obtain ⟨f, hf, ha⟩ := act_puts [88, 89, 90, 91, 92, 93, 94, 95, 9] (fun t ht => by
            by_cases h : t ∈ [88, 89, 90, 91, 92, 93, 94, 95, 9]
            · exact h
            · exfalso
              simp [unwritten] at ht
              simp only [List.mem_cons, not_or] at h
              obtain ⟨h0, h1, h2, h3, h4, h5, h6, h7, h8, _⟩ := h
              exact absurd (ht (fun e => h0 e.symm) (fun e => h1 e.symm) (fun e => h2 e.symm) (fun e => h3 e.symm) (fun e => h4 e.symm) (fun e => h5 e.symm) (fun e => h6 e.symm) (fun e => h7 e.symm)) (fun e => h8 e.symm)) (fun t ht => by
            have hsz : t < 158 := by
              simp only [List.mem_cons, List.mem_nil_iff, or_false] at ht
              omega
            exact hsz) hd hs hold
          rw [← hf 9] at e9
          have HB2 := hide (Two.done (Two.flags hG (by decide) (by decide)))
          have HF2 := hide hG.both.fr
          have HLE : Hid ((delL ks d.k.n L (kb d.k.bs)).length = L.length) := hide ((sameA_delL _ _ _ _).1)
          subst ha
          clear hd hs hold hT hf hG
          simp only [List.foldl_cons, List.foldl_nil, e9]
          obtain ⟨u88, hu88⟩ : ∃ u, u = f 88 := ⟨_, rfl⟩
          obtain ⟨u89, hu89⟩ : ∃ u, u = f 89 := ⟨_, rfl⟩
          obtain ⟨u90, hu90⟩ : ∃ u, u = f 90 := ⟨_, rfl⟩
          obtain ⟨u91, hu91⟩ : ∃ u, u = f 91 := ⟨_, rfl⟩
          obtain ⟨u92, hu92⟩ : ∃ u, u = f 92 := ⟨_, rfl⟩
          obtain ⟨u93, hu93⟩ : ∃ u, u = f 93 := ⟨_, rfl⟩
          obtain ⟨u94, hu94⟩ : ∃ u, u = f 94 := ⟨_, rfl⟩
          obtain ⟨u95, hu95⟩ : ∃ u, u = f 95 := ⟨_, rfl⟩
          rw [← hu88, ← hu89, ← hu90, ← hu91, ← hu92, ← hu93, ← hu94, ← hu95]
          clear hu88 hu89 hu90 hu91 hu92 hu93 hu94 hu95 e9
          go_simp
          refine K _ _ (Met.intro (hK _ _ ?_))
          (repeat apply Exists.intro)
          refine ⟨?rel, rfl⟩
          case rel => exact ⟨rfl, delL ks d.k.n L (kb d.k.bs), HLE.out, HB2.out, HF2.out⟩
    case rest =>
      obtain ⟨rfl, L', hlen, hboth, hfr⟩ := hcut
      have hbig := hboth.a.big
      have HLEN := hide hlen
      have HC := hide hboth
      have HF := hide hfr
      have HLG : Hid (w0.heap.size ≤ wc.heap.size) := hide hboth.below.size
      clear hlen hboth hfr HBW HFr hEL hEU hEV hES hET hEW hEX
      have k1 : wc.cell? ⟨w.heap.size, 1, none⟩ = some (.slice d.k.A d.k.n d.k.c) := (blk_cell HF.out.box 1).trans rfl
      go_wp2_with fail
      refine (keptBytes_any ga d.k.A d.k.n d.k.c w0.heap.size d.k.bs wc (HD.out.k.rd.below HC.out.below) HLG.out HF.out.r1 (by omega)).mono ?_
      rintro e wd ⟨rfl, hb⟩
      have HCd := hide (HC.out.later hb)
      have HFd := hide (HF.out.below hb)
      have k2 : wd.cell? ⟨w.heap.size, 2, none⟩ = some (.slice d.v.A d.v.n d.v.c) := (blk_cell HFd.out.box 2).trans rfl
      clear hb k1 HC HF
      go_wp2_with fail
      refine (keptBytes_any gb d.v.A d.v.n d.v.c w0.heap.size d.v.bs wd (HD.out.v.rd.below HCd.out.below) HCd.out.below.size HFd.out.r2 (by omega)).mono ?_
      rintro e we ⟨rfl, hb⟩
      have HCe := hide (HCd.out.later hb)
      have HFe := hide (HFd.out.below hb)
      clear hb k2 HCd HFd
      go_wp2_with fail
      refine (over_any ga d.k.n _ we HFe.out.r1 (by omega)).mono ?_
      rintro e wf ⟨rfl, hkf⟩
      have HCf := hide (HCe.out.kept hkf (fun g hg => hg.2.1) (fun g hg => by have h1 := HNe.out.2; omega))
      have HXf := hide ((hkf.block _ (at_lt HFe.out.box) HNe.out.1.2.1).trans HFe.out.box)
      have HRf := hide (owns_kept HFe.out.r2 hkf (fun g hg => by simp [Value.ownBlock] at hg; rw [← hg]; exact fun e => HNe.out.1.1 e.symm))
      clear hkf HCe HFe
      go_wp2_with fail
      refine (over_any gb d.v.n _ wf HRf.out (by omega)).mono ?_
      rintro e wg ⟨rfl, hkg⟩
      have HCg := hide ((HCf.out.kept hkg (fun g hg => hg.2.2) (fun g hg => by have h1 := HNe.out.2; omega)).mono (N' := fun g => g < wg.heap.size) (fun g hg _ => hg))
      have HXg := hide ((hkg.block _ (at_lt HXf.out) HNe.out.1.2.2).trans HXf.out)
      have k4 : wg.cell? ⟨w.heap.size, 4, none⟩ = some (.int .i64 d.pl) := (blk_cell HXg.out 4).trans rfl
      clear hkg HCf HXf HRf
      go_wp2_with fail
      refine (value_any (i := d.pl) HCg.out.a).mono ?_
      rintro e wh ⟨A1, m1, c1, er, rfl, he1, hm1, ho1, hb⟩
      have HCh := hide (HCg.out.later hb)
      have HXh := hide ((hb.block _ (at_lt HXg.out)).trans HXg.out)
      have HO1 := hide ho1
      have HE1 := hide he1
      have HM1 := hide hm1
      have HS1 := hide hb.size
      have k4 : wh.cell? ⟨w.heap.size, 4, none⟩ = some (.int .i64 d.pl) := (blk_cell HXh.out 4).trans rfl
      clear hb ho1 HXg he1 hm1
      go_wp2_with fail
      refine (HCh.out.rvalue d.pl).mono ?_
      rintro e wi ⟨A2, m2, c2, er2, rfl, he2, hm2, ho2, hb⟩
      obtain rfl : er2 = er := he2.trans HE1.out.symm
      obtain rfl : m2 = m1 := hm2.trans HM1.out.symm
      have HCi := hide (HCh.out.later hb)
      have HXi := hide ((hb.block _ (at_lt HXh.out)).trans HXh.out)
      have HO2 := hide ho2
      have HS2 := hide hb.size
      have HO1i : Hid (wi.ownsRow 0 5 1 (.slice A1 m2 c1) m2 _) := hide (owns_kept_below HO1.out.1 hb)
      have HLT1 : Hid (∀ g, (Value.slice A1 m2 c1).ownBlock = some g → wg.heap.size ≤ g ∧ g < wh.heap.size) := hide (fun g hg => ⟨HO1.out.2 g hg, (World.ownsRow.lt HO1.out.1 g hg).2⟩)
      have k4 : wi.cell? ⟨w.heap.size, 4, none⟩ = some (.int .i64 d.pl) := (blk_cell HXi.out 4).trans rfl
      clear hb ho2 HXh he2 hm2
      go_wp2_with fail
      refine (value_any (i := d.pl) HCi.out.a).mono ?_
      rintro e wj ⟨A3, m3, c3, er3, rfl, he3, hm3, ho3, hb⟩
      obtain rfl : m3 = m2 := hm3.trans HM1.out.symm
      have hm20 : m3 ≤ 1000000 := by
        rw [HM1.out]
        exact Nat.le_trans (valM_le _ _ _) (by omega)
      have HCj := hide (HCi.out.later hb)
      have HO3 := hide ho3
      have HR1 := hide (owns_kept_below HO1i.out hb)
      have HR2 := hide (owns_kept_below HO2.out.1 hb)
      have HS3 := hide hb.size
      clear hb ho3 he3 hm3 HO1i HO2 HXi k4
      go_wp2_with fail
      have hr1 := rd_of_slice HR1.out
      have hr2 := rd_of_slice HR2.out
      refine (sameBytes_yes A1 A2 m3 c1 c2 wj.heap.size _ wj hr1 hr2 (Nat.le_refl _) hm20).mono ?_
      rintro e wk ⟨rfl, hb⟩
      have HCk := hide (HCj.out.later hb)
      have HOk1 : Hid (OwnB wk wg.heap.size (.slice A1 m3 c1) m3 _) := hide ⟨owns_kept_below HR1.out hb, fun g hg => (HLT1.out g hg).1⟩
      have HOk3 : Hid (OwnB wk wg.heap.size (.slice A3 m3 c3) m3 _) := hide ⟨owns_kept_below HO3.out.1 hb, fun g hg => Nat.le_trans (Nat.le_trans HS1.out HS2.out) (HO3.out.2 g hg)⟩
      have HSk := hide (Nat.le_trans (Nat.le_trans (Nat.le_trans HS1.out HS2.out) HS3.out) hb.size)
      clear hb hr1 hr2
      go_wp2_with fail
      refine (two_apart HOk1.out HOk3.out (fun g hg hc => by have h1 := (HLT1.out g hg).2; have h2 := HO3.out.2 g hc; have h3 := HS2.out; omega) hm20 hm20 HSk.out).mono ?_
      rintro e wl ⟨rfl, hb⟩
      have HCl := hide (HCk.out.over hb (fun g _ h => h) HCg.out.below.size)
      clear hb
      go_wp2_with fail
      refine (keys_any w0.heap.size b cb mb ks sz L' wl HCl.out.a).mono ?_
      rintro e wm ⟨v4, rs4, rfl, ht4, hk4, hb⟩
      obtain ⟨A4, c4, rfl, _⟩ := owns_slice ht4.row
      have HCm := hide (HCl.out.later hb)
      have HT4 := hide ht4
      have HK4 := hide hk4
      clear hb ht4 hk4
      go_wp2_with fail
      refine HCm.out.rkeys.mono ?_
      rintro e wn ⟨v5, rs5, rfl, ht5, hk5, hb⟩
      obtain ⟨A5, c5, rfl, _⟩ := owns_slice ht5.row
      have HCn := hide (HCm.out.later hb)
      have HT4n := hide (HT4.out.below hb)
      have HT5 := hide ht5
      have HK5 := hide hk5
      clear hb ht5 hk5 HT4
      go_wp2_with fail
      refine (same_keys (by have := HCn.out.a.many.2; omega) HT4n.out HT5.out HK4.out HK5.out HCn.out.a.keys_len).mono ?_
      rintro e wo ⟨rfl, hb⟩
      have HCo := hide (HCn.out.later hb)
      clear hb
      go_wp2_with fail
      go_ret
      exact ⟨rfl, L', HLEN.out, HCo.out.mono (fun _ _ _ => trivial)⟩
end Go.Proofs.YtolodcdhpnapmaaGreat

/-
  Are a make, and deeds, more than is gone through in time?
-/
namespace Go.Proofs.YtolodcdhpnapmaaGreat
open Go.RowKit
set_option linter.unusedVariables false

/-- Of the first j deeds none has many bytes. -/
def Small (ds : List ADo) (j nn : Nat) : Prop := ∀ (i : Nat) (d : ADo), i < j → ds[i]? = some d → (d.k.n + d.v.n) / 40 ≤ nn
theorem Small.next {ds : List ADo} {j nn : Nat} {d : ADo} (h : Small ds j nn) (hd : ds[j]? = some d) : Small ds (j + 1) (nn + (d.k.n + d.v.n) / 40) := fun i e hi he => by
  by_cases hij : i = j
  · subst hij
    rw [hd] at he
    injection he with he
    subst he
    omega
  · have := h i e (by omega) he
    omega
/-- What 'great' tells. -/
def GreatTold (ent : Int) (ds : List ADo) (w : World) (e : Ending) (w' : World) : Prop := ∃ g : Bool, e = .returned (.bool g) ∧ Below w.heap.size w w' ∧ (g = false → (∀ d ∈ ds, d.k.n ≤ 20000 ∧ d.v.n ≤ 20000) ∧ ¬ (40 < ent ∧ ent ≤ 1024))
set_option maxRecDepth 100000 in
set_option maxHeartbeats 2000000 in
theorem great_any (k key val ent : Int) (A : Option Addr) (m c B : Nat) (ds : List ADo) (w : World) (h : ADos w B A m ds) (hB : B ≤ w.heap.size) (hm : m ≤ 140737488351232) :
    Calls Tryz.prog 15 #[.agg #[.int .u8 k, .int .i64 key, .int .i64 val, .int .i64 ent], .slice A m c] w (GreatTold ent ds w) := by
  have HH := hide h
  have hx := World.alloc_heap_new w (.cells #[.int .u8 k, .int .i64 key, .int .i64 val, .int .i64 ent] 25)
  have hb0 := below1 w (.cells #[.int .u8 k, .int .i64 key, .int .i64 val, .int .i64 ent] 25)
  have HX := hide hx
  have HB0 := hide hb0
  have hlx := at_lt hx
  clear h hx hb0
  go_enter Tryz.func15, Tryz.ntmps15
  go_wp2_with fail
  generalize w.alloc (.cells #[.int .u8 k, .int .i64 key, .int .i64 val, .int .i64 ent] 25) = W1 at *
  go_loopw [5, 6] (fun a b wr => ∃ j nn : Nat, j ≤ m ∧ m ≤ nn ∧ nn ≤ 562949953421312 ∧ a = .int .i64 nn ∧ b = .int .i64 j ∧ Below W1.heap.size W1 wr ∧ Small ds j nn) (fun _ b _ => m - (intOf b).toNat)
  case atStart => exact ⟨0, m, Nat.zero_le _, Nat.le_refl _, by omega, rfl, rfl, Below.refl _ _, fun i d hi => by omega⟩
  case round =>
    obtain ⟨j, nn, hj, hmn, hnn, rfl, rfl, hbr, hs⟩ := hrel
    have HS := hide hs
    have HBR := hide hbr
    have hxr := (hbr.block _ hlx).trans HX.out
    have x2 := (blk_cell hxr 2).trans rfl
    have x3 := (blk_cell hxr 3).trans rfl
    simp at x2 x3
    clear hs hbr hxr
    by_cases hgo : j < m ∧ nn ≤ 300
    · obtain ⟨hjm, hn4⟩ := hgo
      have HHr := (HH.out.below ((HB0.out.trans (HBR.out.mono HB0.out.size)).mono hB))
      obtain ⟨ad, d, rfl, hd, _, hc⟩ := HHr.cell hjm
      have c1 := hc 1 _ rfl
      have c2 := hc 2 _ rfl
      rw [add_parts ad _ 1 (by decide)] at c1
      rw [add_parts ad _ 2 (by decide)] at c2
      have hle1 := (HHr.inner d (List.mem_of_getElem? hd)).k.le
      have hcp1 := (HHr.inner d (List.mem_of_getElem? hd)).k.cap
      have hle2 := (HHr.inner d (List.mem_of_getElem? hd)).v.le
      have hcp2 := (HHr.inner d (List.mem_of_getElem? hd)).v.cap
      have HD := hide hd
      have q1 : decide ((j : Int) < (m : Int)) = true := decide_eq_true (by omega)
      have q2 : decide ((nn : Int) ≤ 300) = true := decide_eq_true (by omega)
      have q3 : IntKind.i64.wrap ((d.k.n : Int) + (d.v.n : Int)) = (d.k.n : Int) + (d.v.n : Int) := IntWalk.i64_in _ (by omega)
      have q4 : ((d.k.n : Int) + (d.v.n : Int)).tdiv 40 = (((d.k.n + d.v.n) / 40 : Nat) : Int) := by
        rw [Int.tdiv_eq_ediv_of_nonneg (by omega)]; omega
      have q5 : IntKind.i64.wrap ((nn : Int) + (((d.k.n + d.v.n) / 40 : Nat) : Int)) = ((nn + (d.k.n + d.v.n) / 40 : Nat) : Int) := by rw [IntWalk.i64_in _ (by omega)]; omega
      replace c1 := Later.cell c1
      replace c2 := Later.cell c2
      have j0 : (0 : Int) ≤ (j : Int) := by omega
      have j1 : (j : Int) < (m : Int) := by omega
      clear hd hc HHr x2 x3
      have hqb : (d.k.n + d.v.n) / 40 ≤ 7036874417767 := by omega
      generalize hq : (d.k.n + d.v.n) / 40 = qq at q4 q5 hqb
      have qq0 : (0 : Int) ≤ (qq : Int) := by omega
      have qq1 : (qq : Int) ≤ 7036874417767 := by omega
      have HQ := hide hq
      clear hq
      go_wp2_with fail
      refine wp_region_later (by kernel_rfl) (by kernel_rfl) ?_
      repeat (first | go_big_quiet_step (fail) | (refine wpQuiet_step (fun K hK => ?_); go_simp; refine hK _ ?_; clear hK K))
      refine wpQuiet_nil ?_
      rintro _ ⟨y, rfl⟩
      have HBY := hide (HBR.out.trans (y.below.mono HBR.out.size))
      clear c1 c2 q3 q4 q5 q1 q2
      generalize y.w = wy at *
      go_wp2
      go_roundw
      case rel => exact ⟨j + 1, nn + qq, by omega, by omega, by omega, by go_num, by go_num, HBY.out, by rw [← HQ.out]; exact HS.out.next HD.out⟩
      case measure => simp [intOf]; omega
    · have hsmall : nn ≤ 300 → ∀ d ∈ ds, d.k.n ≤ 20000 ∧ d.v.n ≤ 20000 := fun hn d hd => by
        obtain ⟨i, hi⟩ := List.mem_iff_getElem?.1 hd
        have h1 := (List.getElem?_eq_some_iff.1 hi).1
        have hl := HH.out.len
        have := HS.out i d (by omega) hi
        omega
      have HSm := hide hsmall
      have HBf := hide (HB0.out.trans (HBR.out.mono HB0.out.size))
      clear hsmall
      by_cases hbig : 300 < nn
      · have q2 : decide ((nn : Int) ≤ 300) = false := decide_eq_false (by omega)
        have q3 : decide ((300 : Int) < (nn : Int)) = true := decide_eq_true (by omega)
        by_cases hjm : j < m
        · have q1 : decide ((j : Int) < (m : Int)) = true := decide_eq_true (by omega)
          clear hgo
          go_wp2
          go_ret
          exact ⟨true, rfl, HBf.out, nofun⟩
        · have q1 : decide ((j : Int) < (m : Int)) = false := decide_eq_false (by omega)
          clear hgo
          go_wp2
          go_ret
          exact ⟨true, rfl, HBf.out, nofun⟩
      · have q1 : decide ((j : Int) < (m : Int)) = false := decide_eq_false (by omega)
        have q1' : decide (j < m) = false := decide_eq_false (by omega)
        have q3 : decide ((300 : Int) < (nn : Int)) = false := decide_eq_false (by omega)
        have hsm := hide (HSm.out (by omega))
        clear hgo
        go_wp2
        all_goals
          go_ret
          exact ⟨_, rfl, HBf.out, fun hg => ⟨hsm.out, by simp at hg; omega⟩⟩
end Go.Proofs.YtolodcdhpnapmaaGreat
