/-
  An append onto a row of the call's own, told exactly: in place, or moved; and what becomes of the row that it grew from. No program is named here.
-/
import Derived.Test.YtolodcdhpnapmaaGreatK1
namespace Go.Proofs.YtolodcdhpnapmaaGreat
open Go.RowKit
set_option linter.unusedVariables false

/-- What an append leaves: the longer row stands in the old block, or in a new one, and then nothing that was there has turned. -/
def Grown2 (w w' : World) (e : TypeId) (sz : Nat) (v v' : Value) (n m : Nat) (xs : List Value) : Prop :=
  w'.ownsRow 0 e sz v' (n + m) xs ∧
  ((∃ g cap, v = .slice (some ⟨g, 0, none⟩) n cap ∧ v' = .slice (some ⟨g, 0, none⟩) (n + m) cap ∧ w.grownBy w' (some g)) ∨ (v'.ownBlock = some w.heap.size ∧ Below w.heap.size w w'))

section
variable {P : Program} (w : World)
theorem run_append_two (t ty e : TypeId) (i : TypeInfo) (z : Value) (sz bytes : Nat) (ht : P.underlying t = some (.slice e)) (hi : P.info? e = some i) (hz : i.zero = some z)
    (hsize : i.size = sz) (hby : i.bytes = bytes) (hzs : z.cells.size = sz) (hsz : 0 < sz)
    (v : Value) (n : Nat) (xs : List Value) (hown : w.ownsRow 0 e sz v n xs)
    (a : Addr) (m c : Nat) (news : List Value) (hl : news.length = m * sz) (hnews : ∀ j u, news[j]? = some u → w.cell? (a.add j) = some u) (h1 : ∀ u ∈ news, u.oneCell' = true) (hm : 0 < m)
    (h63 : n + m ≤ maxLen) (hbytes : (n + m) * bytes ≤ 140737488355328) :
    ∃ v' w', (Builtin.append_ #[t, t] ty #[v, .slice (some a) m c]).run P w = .ok v' w' ∧ Grown2 w w' e sz v v' n m (xs ++ news) := by
  obtain ⟨v', w', hrun, h2, h3, _, h5⟩ := run_append_own_at (P := P) w 0 t ty e i z sz bytes ht hi hz hsize hby hzs hsz v n xs hown a m c news hl hnews h1 h63 hbytes (Nat.zero_le _)
  refine ⟨v', w', hrun, h2, ?_⟩
  rcases hown.2 with ⟨rfl, rfl⟩ | ⟨g, cap, cur, rfl, hb, hg, hnc, hcm, hcs, htake⟩
  · rcases h2.2 with ⟨_, h0⟩ | ⟨g', cap', cur', rfl, _, hg', _⟩
    · omega
    · rcases h5 with h5 | h5
      · simp [Value.ownBlock] at h5
      · exact .inr ⟨h5, h3.os, h3.tape, h3.output, h3.size, fun k hk => h3.block k hk (by simp [Value.ownBlock])⟩
  · by_cases hroom : n + m ≤ cap
    · obtain ⟨w2, hr2, h6, h7⟩ := run_append_own_spare (P := P) w 0 t ty e i sz ht hi hsize g n cap xs hown a m c news hl hnews h1 hroom
      rw [hrun] at hr2
      injection hr2 with e1 e2
      subst e1 e2
      exact .inl ⟨g, cap, rfl, rfl, h7⟩
    · subst hsize
      subst hby
      have holds : ∀ j u, xs[j]? = some u → w.cell? ((⟨g, 0, none⟩ : Addr).add j) = some u := hown.cells (g := g) rfl
      have hsmall : n + m ≤ 9223372036854775807 := by simp only [maxLen] at h63; omega
      have hr := run_append_grow (P := P) w t ty e i z ht hi hz ⟨g, 0, none⟩ n cap xs hown.1 holds a m c news hl hnews (by omega) (by omega) (growslice_fits (by omega) hbytes)
      rw [hrun] at hr
      injection hr with e1 e2
      subst e1 e2
      exact .inr ⟨rfl, ((Below.refl w.heap.size w).drew).alloc (Nat.le_refl _) _⟩

theorem wpList_append_two {ops : Array Oper} {rest : List Oper} {o : Oper} {a : Act} {Q : Exit → Act → World → Prop} (hw : Region.wanted o (yielded ops a.tmps) = true) (s x : Operand) (t : TypeId)
    (ho : o.op = .call { callee := .builtin .append, args := #[s, x], argTypes := #[t, t] })
    (e : TypeId) (i : TypeInfo) (z : Value) (sz bytes : Nat) (ht : P.underlying t = some (.slice e)) (hi : P.info? e = some i) (hz : i.zero = some z)
    (hsize : i.size = sz) (hby : i.bytes = bytes) (hzs : z.cells.size = sz) (hsz : 0 < sz)
    (v : Value) (n : Nat) (xs : List Value) (hs : a.eval s = v) (hown : w.ownsRow 0 e sz v n xs)
    (ad : Addr) (m c : Nat) (news : List Value) (hx : a.eval x = .slice (some ad) m c) (hl : news.length = m * sz) (hnews : ∀ j u, news[j]? = some u → w.cell? (ad.add j) = some u) (h1 : ∀ u ∈ news, u.oneCell' = true) (hm : 0 < m)
    (h63 : n + m ≤ maxLen) (hbytes : (n + m) * bytes ≤ 140737488355328)
    (h : ∀ v' w', Grown2 w w' e sz v v' n m (xs ++ news) → wpList P ops Q rest (a.put o.dst v') w') : wpList P ops Q (o :: rest) a w := by
  obtain ⟨v', w', hrun, hg⟩ := run_append_two (P := P) w t o.type e i z sz bytes ht hi hz hsize hby hzs hsz v n xs hown ad m c news hl hnews h1 hm h63 hbytes
  refine wpList_step fun K hK => ?_
  rw [if_pos hw]
  unfold Oper.wp execOp
  simp only [ho, resolve, invoke, builtin, Sem.run_bind, Sem.run_pure, Result.andThen_ok, List.map_toArray, List.map_cons, List.map_nil, hs, hx, hrun]
  exact hK _ _ (h v' w' hg)
end

theorem owns_prefix {w : World} {e : TypeId} {sz g n n' cap : Nat} {ys : List Value} (h : w.ownsRow 0 e sz (.slice (some ⟨g, 0, none⟩) n' cap) n' ys) (hn : n ≤ n') : w.ownsRow 0 e sz (.slice (some ⟨g, 0, none⟩) n cap) n (ys.take (n * sz)) := by
  have hle : n * sz ≤ n' * sz := Nat.mul_le_mul_right _ hn
  rcases h.2 with ⟨h0, _⟩ | ⟨g', cap', cur, hv, hb, hg, hnc, hcm, hcs, htake⟩
  · cases h0
  · cases hv
    refine ⟨by rw [List.length_take, h.1]; omega, .inr ⟨g, cap, cur, rfl, hb, hg, Nat.le_trans hn hnc, hcm, hcs, ?_⟩⟩
    rw [← htake, List.take_take, Nat.min_eq_left hle]

/-- A row V, and the row G that was grown from it since the world was w0: both stand; of what was there in w0, V's block alone may have turned. -/
structure Grow (w0 wr : World) (e : TypeId) (sz : Nat) (V G : Value) (N M : Nat) (xs ys : List Value) : Prop where
  base : wr.ownsRow 0 e sz V N xs
  top : wr.ownsRow 0 e sz G M ys
  pre : xs = ys.take (N * sz)
  le : N ≤ M
  from_ : (∃ b cap, V = .slice (some ⟨b, 0, none⟩) N cap ∧ G = .slice (some ⟨b, 0, none⟩) M cap) ∨ (∃ b, G.ownBlock = some b ∧ w0.heap.size ≤ b) ∨ G = .slice none 0 0
  frame : w0.grownBy wr V.ownBlock
  low : ∀ b, V.ownBlock = some b → b < w0.heap.size

theorem Grow.start {w : World} {e : TypeId} {sz N : Nat} {V : Value} {xs : List Value} (h : w.ownsRow 0 e sz V N xs) : Grow w w e sz V V N N xs xs := by
  refine ⟨h, h, by rw [← h.1, List.take_length], Nat.le_refl _, ?_, ⟨rfl, rfl, rfl, Nat.le_refl _, fun _ _ _ => rfl⟩, fun b hb => (h.lt b hb).2⟩
  rcases h.2 with ⟨rfl, rfl⟩ | ⟨g, cap, cur, rfl, _⟩
  · exact .inr (.inr rfl)
  · exact .inl ⟨g, cap, rfl, rfl⟩
theorem Grow.alloc {w0 wr : World} {e : TypeId} {sz N M : Nat} {V G : Value} {xs ys : List Value} (h : Grow w0 wr e sz V G N M xs ys) (o : Obj) : Grow w0 (wr.alloc o) e sz V G N M xs ys :=
  ⟨h.base.alloc o, h.top.alloc o, h.pre, h.le, h.from_, h.frame.trans (World.grownBy_alloc wr o _), h.low⟩
theorem Grow.step {w0 wr w' : World} {e : TypeId} {sz N M m : Nat} {V G G' : Value} {xs ys news : List Value} (h : Grow w0 wr e sz V G N M xs ys) (hg : Grown2 wr w' e sz G G' M m (ys ++ news)) : Grow w0 w' e sz V G' N (M + m) xs (ys ++ news) := by
  have hle : N * sz ≤ ys.length := by rw [h.top.1]; exact Nat.mul_le_mul_right _ h.le
  have hpre : xs = (ys ++ news).take (N * sz) := by rw [List.take_append_of_le_length hle]; exact h.pre
  have hle' : N ≤ M + m := Nat.le_trans h.le (Nat.le_add_right _ _)
  obtain ⟨ht, ⟨g, cap, rfl, rfl, hgr⟩ | ⟨hblk, hb⟩⟩ := hg
  · rcases h.from_ with ⟨b, cap', rfl, e2⟩ | ⟨b, e1, e2⟩ | h0
    · cases e2
      refine ⟨?_, ht, hpre, hle', .inl ⟨g, cap, rfl, rfl⟩, h.frame.trans hgr, h.low⟩
      rw [hpre]
      exact owns_prefix ht hle'
    · simp only [Value.ownBlock, Option.some.injEq] at e1
      subst e1
      have hne : V.ownBlock ≠ some g := fun hv => by have := h.low _ hv; omega
      refine ⟨h.base.kept hgr (.inr hne), ht, hpre, hle', .inr (.inl ⟨g, rfl, e2⟩), ?_, h.low⟩
      exact ⟨hgr.os.trans h.frame.os, hgr.tape.trans h.frame.tape, hgr.output.trans h.frame.output, Nat.le_trans h.frame.size hgr.size,
        fun k hk hn => (hgr.block k (Nat.lt_of_lt_of_le hk h.frame.size) (fun e => by cases e; omega)).trans (h.frame.block k hk hn)⟩
    · cases h0
  · have hbk : ∀ {v : Value} {n : Nat} {zs : List Value}, wr.ownsRow 0 e sz v n zs → w'.ownsRow 0 e sz v n zs := fun {v n zs} hv => by
      refine ⟨hv.1, ?_⟩
      rcases hv.2 with hn | ⟨g, cap, cur, rfl, h1, h2, rest⟩
      · exact .inl hn
      · exact .inr ⟨g, cap, cur, rfl, h1, (hb.block g (Array.getElem?_eq_some_iff.1 h2).1).trans h2, rest⟩
    refine ⟨hbk h.base, ht, hpre, hle', .inr (.inl ⟨_, hblk, h.frame.size⟩), ?_, h.low⟩
    exact ⟨hb.os.trans h.frame.os, hb.tape.trans h.frame.tape, hb.output.trans h.frame.output, Nat.le_trans h.frame.size hb.size,
      fun k hk hn => (hb.block k (Nat.lt_of_lt_of_le hk h.frame.size)).trans (h.frame.block k hk hn)⟩
end Go.Proofs.YtolodcdhpnapmaaGreat
