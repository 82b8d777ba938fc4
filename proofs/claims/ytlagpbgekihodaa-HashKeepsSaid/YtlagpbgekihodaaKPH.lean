/-
  HashKeeps: two rows made and copied into; what a round of it does to what is remembered.
-/
import Derived.Test.YtlagpbgekihodaaKP2
import Derived.Test.YtlagpbgekihodaaCQ
import Derived.Test.YtlagpbgekihodaaGR
namespace Go.Proofs.Ytlagpbgekihodaa
open Go.RowKit Go.Maps Go.Sort
set_option linter.unusedVariables false

theorem heads_byte {l : List Int} (n : Nat) (h : ∀ x ∈ l, IsByte x) : ∀ x ∈ heads (List.replicate n 0) l n, IsByte x := by
  intro x hx
  unfold heads splice at hx
  simp only [List.mem_append] at hx
  simp only [List.take_zero, List.not_mem_nil, false_or] at hx
  rcases hx with hx | hx
  · exact h x (List.mem_of_mem_take hx)
  · have := List.eq_of_mem_replicate (List.mem_of_mem_drop hx)
    subst this
    exact ⟨by decide, by decide⟩
theorem copied_head {wr W2 w5 : World} {g g2 n n2 c c2 : Nat} {xs l : List Int} {ys : List Value} (hb : Below wr.heap.size wr W2) (hg : wr.heap.size ≤ g) (hne : g2 ≠ g) (ho2 : W2.ownsRow 0 5 1 (.slice (some ⟨g2, 0, none⟩) n2 c2) n2 ys)
    (ho : w5.ownsRow 0 5 1 (.slice (some ⟨g, 0, none⟩) n c) n (splice (u8s xs) 0 ((u8s l).take n))) (hgr : W2.grownBy w5 (some g)) :
    Below wr.heap.size wr w5 ∧ w5.ownsRow 0 5 1 (.slice (some ⟨g, 0, none⟩) n c) n (u8s (heads xs l n)) ∧ w5.ownsRow 0 5 1 (.slice (some ⟨g2, 0, none⟩) n2 c2) n2 ys := by
  refine ⟨⟨hgr.os.trans hb.os, hgr.tape.trans hb.tape, hgr.output.trans hb.output, Nat.le_trans hb.size hgr.size, fun k hk => (hgr.block k (by have := hb.size; omega) (by intro e; injection e with e; omega)).trans (hb.block k hk)⟩, ?_, ?_⟩
  · unfold heads
    rw [u8s_splice, show u8s (l.take n) = (u8s l).take n by simp [u8s, List.map_take]]
    exact ho
  · exact owns_kept (F := fun q => q ≠ g) ho2 ((Kept.refl _ W2).grown hgr (fun q e _ hh => hh (by injection e with e; exact e.symm))) (fun q hq e => hne (by
      simp [Value.ownBlock] at hq
      omega))
theorem deed_cells {w : World} {ad : Addr} {m i : Nat} {ds : List ADo} {d : ADo} (h : ADos w w.heap.size (some ad) m ds) (hi : i < m) (hd : ds[i]? = some d) : ∀ W, Below w.heap.size w W → W.cell? (ad.add (i * 6)) = some (.int .i64 d.what) ∧ W.cell? ⟨(ad.add (i * 6)).block, (ad.add (i * 6)).off + 1, none⟩ = some (.slice d.k.A d.k.n d.k.c) ∧ W.cell? ⟨(ad.add (i * 6)).block, (ad.add (i * 6)).off + 2, none⟩ = some (.slice d.v.A d.v.n d.v.c) := fun W hb => by
  obtain ⟨ad', d', hA, hd', _, hc⟩ := (h.below hb).cell hi
  injection hA with hA
  subst hA
  rw [hd] at hd'
  injection hd' with hd'
  subst hd'
  have c0 := hc 0 _ rfl
  have c1 := hc 1 _ rfl
  have c2 := hc 2 _ rfl
  rw [Nat.add_zero] at c0
  rw [add_parts ad _ 1 (by decide)] at c1
  rw [add_parts ad _ 2 (by decide)] at c2
  exact ⟨c0, c1, c2⟩
theorem twoRows_a (wr : World) (ks sz : Nat) (h1 : ks ≤ 1024) (h2 : sz ≤ 1024) :
    Below wr.heap.size wr ((wr.alloc (.cells (u8s (List.replicate ks 0)).toArray 5)).alloc (.cells (u8s (List.replicate sz 0)).toArray 5)).drew ∧ ((wr.alloc (.cells (u8s (List.replicate ks 0)).toArray 5)).alloc (.cells (u8s (List.replicate sz 0)).toArray 5)).drew.ownsRow 0 5 1 (.slice (some ⟨wr.heap.size, 0, none⟩) ks ks) ks (u8s (List.replicate ks 0)) ∧
    ((wr.alloc (.cells (u8s (List.replicate ks 0)).toArray 5)).alloc (.cells (u8s (List.replicate sz 0)).toArray 5)).drew.ownsRow 0 5 1 (.slice (some ⟨wr.heap.size + 1, 0, none⟩) sz sz) sz (u8s (List.replicate sz 0)) ∧
    ((wr.alloc (.cells (u8s (List.replicate ks 0)).toArray 5)).alloc (.cells (u8s (List.replicate sz 0)).toArray 5)).drew.heap.size = wr.heap.size + 2 := by
  obtain ⟨q0, q1⟩ := two_boxes wr (.cells (u8s (List.replicate ks 0)).toArray 5) (.cells (u8s (List.replicate sz 0)).toArray 5)
  have hb := below2 wr (.cells (u8s (List.replicate ks 0)).toArray 5) (.cells (u8s (List.replicate sz 0)).toArray 5)
  exact ⟨hb.drew, owns_new q0 h1, owns_new q1 h2, by show ((wr.alloc (.cells (u8s (List.replicate ks 0)).toArray 5)).alloc (.cells (u8s (List.replicate sz 0)).toArray 5)).heap.size = _; simp⟩
theorem twoRows_b (wr : World) (ks sz : Nat) (h1 : ks ≤ 1024) (h2 : sz ≤ 1024) :
    Below wr.heap.size wr ((wr.alloc (.cells (u8s (List.replicate sz 0)).toArray 5)).alloc (.cells (u8s (List.replicate ks 0)).toArray 5)).drew ∧ ((wr.alloc (.cells (u8s (List.replicate sz 0)).toArray 5)).alloc (.cells (u8s (List.replicate ks 0)).toArray 5)).drew.ownsRow 0 5 1 (.slice (some ⟨wr.heap.size + 1, 0, none⟩) ks ks) ks (u8s (List.replicate ks 0)) ∧
    ((wr.alloc (.cells (u8s (List.replicate sz 0)).toArray 5)).alloc (.cells (u8s (List.replicate ks 0)).toArray 5)).drew.ownsRow 0 5 1 (.slice (some ⟨wr.heap.size, 0, none⟩) sz sz) sz (u8s (List.replicate sz 0)) ∧
    ((wr.alloc (.cells (u8s (List.replicate sz 0)).toArray 5)).alloc (.cells (u8s (List.replicate ks 0)).toArray 5)).drew.heap.size = wr.heap.size + 2 := by
  obtain ⟨h0, h3, h4, h5⟩ := twoRows_a wr sz ks h2 h1
  exact ⟨h0, h4, h3, h5⟩
/-- The hash has taken nothing. -/
theorem KS.still {w wr w1 : World} {S n ks sz b cb mb ma mt B1 i : Nat} {L : List HS} {fT : Lit → Option Value} (h : KS w wr S n ks sz b cb mb ma mt B1 i L fT) (hw1 : Hsh w1 B1 b cb mb ks sz L) (hk : Kept (fun g => ¬ OfH b cb mb sz L g) wr w1) : KS w w1 S n ks sz b cb mb ma mt B1 i L fT := by
  obtain ⟨g1, g2, g3, g4⟩ := h.turned (L' := L) hk
  exact ⟨g1, hw1, h.len, g2, g3, h.pl, h.sep, h.low, g4⟩
theorem delE_yes {ks j : Nat} {L : List HS} {k : List UInt8} (h : findK L k = some j) : delE ks ks L k = 0 ∧ delL ks ks L k = dropK L j := by
  unfold delE delL
  rw [if_pos rfl, if_pos rfl, h]
  exact ⟨rfl, rfl⟩
theorem delE_no {ks : Nat} {L : List HS} {k : List UInt8} (h : findK L k = none) : delE ks ks L k = 6 ∧ delL ks ks L k = L := by
  unfold delE delL
  rw [if_pos rfl, if_pos rfl, h]
  exact ⟨rfl, rfl⟩
theorem updE_is {ks sz : Nat} {L : List HS} {k : List UInt8} : updE ks sz ks sz L k 0 = pickE L k 0 := by
  unfold updE
  rw [if_pos rfl, if_pos ⟨rfl, by decide⟩]
theorem updL_no {ks sz : Nat} {L : List HS} {k : List UInt8} {d : List Int} (h : pickE L k 0 = 8) : updL ks sz ks sz L k 0 d = L := by
  unfold updL
  rw [if_neg (by rw [updE_is, h]; decide)]
theorem updL_yes {ks sz : Nat} {L : List HS} {k : List UInt8} {d : List Int} (h : pickE L k 0 = 0) : updL ks sz ks sz L k 0 d = putB (putK L k) (putAt L k) 0 d := by
  unfold updL
  rw [if_pos (by rw [updE_is, h])]
theorem lookE_is {ks j : Nat} {L : List HS} {k : List UInt8} (h : findK L k = some j) : lookE ks ks L k = ((j : Int), 0) := by
  unfold lookE
  rw [if_pos rfl, h]

theorem row_past {F : Nat → Prop} {w w' : World} {g n c : Nat} {xs : List Value} (h : w.ownsRow 0 5 1 (.slice (some ⟨g, 0, none⟩) n c) n xs) (hk : Kept F w w') (hF : F g) : w'.ownsRow 0 5 1 (.slice (some ⟨g, 0, none⟩) n c) n xs :=
  owns_kept h hk (fun q hq => by
    simp [Value.ownBlock] at hq
    subst hq
    exact hF)
theorem kept_then {F : Nat → Prop} {w w1 w2 : World} (h : Kept F w w1) (hb : Below w1.heap.size w1 w2) : Kept F w w2 :=
  ⟨hb.os.trans h.os, hb.tape.trans h.tape, hb.output.trans h.output, Nat.le_trans h.size hb.size, fun k hk hF => (hb.block k (Nat.lt_of_lt_of_le hk h.size)).trans (h.block k hk hF)⟩
theorem KS.at1 {w wr w1 : World} {S n ks sz b cb mb ma mt B1 i j : Nat} {L : List HS} {fT : Lit → Option Value} {k : List UInt8} (h : KS w wr S n ks sz b cb mb ma mt B1 i L fT) (hk : Kept (fun g => ¬ OfH b cb mb sz L g) wr w1) (hf : findK L k = some j) (hkl : k.length ≤ maxLen) :
    (Instr.lookup 28 (.map (some mt)) (encStr k) false).run Try.prog w1 = .ok (.int .i64 (j : Nat)) w1 := by
  obtain ⟨_, _, ⟨N, _, g4⟩, _⟩ := h.turned (L' := L) hk
  have := g4.look1 strK Try.underlying28 (Try.zeroValue3 w1) (plainElem_int (H := Unit) Try.underlying3 (a := 0) (by decide)) (keyOf_str_mk Try.underlying9 hkl)
  rw [h.pl k j hf] at this
  exact this
theorem putAt_is {L : List HS} {k : List UInt8} {j : Nat} (h : findK L k = some j) : putAt L k = j := by
  unfold putAt
  rw [h]
end Go.Proofs.Ytlagpbgekihodaa
