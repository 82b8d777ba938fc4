/-
  No trie, and one that nobody made, have nothing: TrieNone's walk.
-/
import Derived.Test.YthefgfcjjbjjkaaTY
import Derived.Test.YthefgfcjjbjjkaaTZ
import Derived.Deep.QuietTactic
import Derived.BigQuiet
namespace Go.Proofs.Ythefgfcjjbjjkaa
open Go.RowKit
set_option linter.unusedVariables false

theorem upd_not (p : Option Addr) (A S : Option Addr) (n c q sc : Nat) (fl : Int) (w : World) (h : NoT p w) :
    Calls Try.prog 26 #[.pointer p, .slice A n c, .slice S q sc, .int .u64 fl] w fun e w' => e = .returned (.int .i64 1) ∧ w = w' := by
  have H := hide (refusal_not p A n c w h)
  clear h
  go_enter Try.func26, Try.ntmps26
  go_wp2_with (go_at_call 37; refine H.out.mono ?_; rintro e w' ⟨rfl, rfl⟩)
  go_ret
  exact ⟨rfl, rfl⟩
theorem quiet_l {P : Program} {f : FuncId} {args : Array Value} {w : World} {n : Nat} {v : Value} (h : Calls P f args (w.drewN n) fun e w' => e = .returned v ∧ w.drewN n = w') : Calls P f args (w.drewN n) fun e w'' => e = .returned v ∧ ∃ m, w'' = w.drewN m := h.mono fun _ _ ⟨he, hm⟩ => ⟨he, n, hm.symm⟩
theorem below_in {w0 W w' : World} (h : Below w0.heap.size w0 W) (hb : Below W.heap.size W w') : Below w0.heap.size w0 w' := h.trans (hb.mono h.size)
def NewAll (k key val ent : Int) (w : World) (e : Ending) (w' : World) : Prop := ∃ v : Option Addr, e = .returned (.tuple #[.pointer v, .int .i64 (newE k key val ent)]) ∧ Below w.heap.size w w'
theorem new_all (k key val ent : Int) (w : World) (hk : 0 ≤ k ∧ k < 256) : Calls Try.prog 9 #[.agg #[.int .u8 k, .int .i64 key, .int .i64 val, .int .i64 ent]] w (NewAll k key val ent w) := by
  by_cases he : newE k key val ent = 0
  · obtain ⟨rfl, hsp, h1, h2, h3, h4, h5, h6⟩ := newE_yes he
    obtain ⟨ks, rfl⟩ : ∃ n : Nat, key = n := ⟨key.toNat, by omega⟩
    obtain ⟨sz, rfl⟩ : ∃ n : Nat, val = n := ⟨val.toNat, by omega⟩
    obtain ⟨n, rfl⟩ : ∃ n : Nat, ent = n := ⟨ent.toNat, by omega⟩
    refine (new_yes n ks sz w hsp (by omega) (by omega) (by omega)).mono ?_
    rintro e w' ⟨t, s, N, rfl, _, _, _, _, hb⟩
    exact ⟨_, by rw [he], hb⟩
  · exact (new_no k key val ent w hk he).mono fun e w' ⟨h1, h2⟩ => ⟨_, h1, h2⟩
theorem rnew_all (k key val ent : Int) (w : World) (hk : 0 ≤ k ∧ k < 256) : Calls Try.prog 10 #[.agg #[.int .u8 k, .int .i64 key, .int .i64 val, .int .i64 ent]] w (NewAll k key val ent w) := by
  by_cases he : newE k key val ent = 0
  · obtain ⟨rfl, hsp, h1, h2, h3, h4, h5, h6⟩ := newE_yes he
    obtain ⟨ks, rfl⟩ : ∃ n : Nat, key = n := ⟨key.toNat, by omega⟩
    obtain ⟨sz, rfl⟩ : ∃ n : Nat, val = n := ⟨val.toNat, by omega⟩
    obtain ⟨n, rfl⟩ : ∃ n : Nat, ent = n := ⟨ent.toNat, by omega⟩
    refine (rnew_yes n ks sz w hsp (by omega) (by omega) (by omega)).mono ?_
    rintro e w' ⟨Bp, x, v, M, rfl, hR, hM⟩
    exact ⟨_, by rw [he], hR.below⟩
  · exact (rnew_no k key val ent w hk he).mono fun e w' ⟨h1, h2⟩ => ⟨_, h1, h2⟩
theorem InB.mono {w : World} {B B' : Nat} {r : ARow} (h : InB w B r) (hB : B ≤ B') : InB w B' r := ⟨h.rd.mono hB, h.nil, h.le, h.cap, h.byte⟩
theorem one_deed {w : World} {B : Nat} {d : ADo} (h : d.Is w B) (hB : B ≤ w.heap.size) : ADos (w.alloc (.cells d.cells.toArray 38)) (w.heap.size + 1) (some ⟨w.heap.size, 0, none⟩) 1 [d] := by
  have hb := below1 w (.cells d.cells.toArray 38)
  refine ⟨?_, fun e he => ?_⟩
  · have := cells_rd w d.cells 38 6 1 rfl
    simpa using this
  · rw [List.mem_singleton] at he
    subst he
    have := h.below (hb.mono hB)
    exact ⟨this.k.mono (by omega), this.v.mono (by omega), this.what, this.fl, this.pl, this.of⟩
set_option maxRecDepth 100000 in
set_option maxHeartbeats 2000000 in
theorem law_trieNone (d : ADo) (k key val ent : Int) (w : World) (hd : d.Is w w.heap.size) (hk : 0 ≤ k ∧ k < 256) : Calls Try.prog 4 #[.agg #[.int .i64 d.what, .slice d.k.A d.k.n d.k.c, .slice d.v.A d.v.n d.v.c, .int .u64 d.fl, .int .i64 d.pl, .int .i64 d.of], .agg #[.int .u8 k, .int .i64 key, .int .i64 val, .int .i64 ent]] w fun e w' => e = .returned (.bool true) ∧ Below w.heap.size w w' := by
  obtain ⟨q0, q1⟩ := two_boxes w (.cells #[.int .i64 d.what, .slice d.k.A d.k.n d.k.c, .slice d.v.A d.v.n d.v.c, .int .u64 d.fl, .int .i64 d.pl, .int .i64 d.of] 38) (.cells #[.int .u8 k, .int .i64 key, .int .i64 val, .int .i64 ent] 24)
  have hb2 := below2 w (.cells #[.int .i64 d.what, .slice d.k.A d.k.n d.k.c, .slice d.v.A d.v.n d.v.c, .int .u64 d.fl, .int .i64 d.pl, .int .i64 d.of] 38) (.cells #[.int .u8 k, .int .i64 key, .int .i64 val, .int .i64 ent] 24)
  generalize hW1 : (w.alloc (.cells #[.int .i64 d.what, .slice d.k.A d.k.n d.k.c, .slice d.v.A d.v.n d.v.c, .int .u64 d.fl, .int .i64 d.pl, .int .i64 d.of] 38)).alloc (.cells #[.int .u8 k, .int .i64 key, .int .i64 val, .int .i64 ent] 24) = W1 at q0 q1 hb2
  replace hW1 := hide hW1
  have HB := hide hb2
  have HC : Hid (∀ W, Below W1.heap.size W1 W → (W.cell? ⟨w.heap.size, 0, none⟩ = some (.int .i64 d.what) ∧ W.cell? ⟨w.heap.size, 1, none⟩ = some (.slice d.k.A d.k.n d.k.c) ∧ W.cell? ⟨w.heap.size, 2, none⟩ = some (.slice d.v.A d.v.n d.v.c) ∧ W.cell? ⟨w.heap.size, 3, none⟩ = some (.int .u64 d.fl) ∧ W.cell? ⟨w.heap.size, 4, none⟩ = some (.int .i64 d.pl) ∧ W.cell? ⟨w.heap.size, 5, none⟩ = some (.int .i64 d.of)) ∧
      (W.cell? ⟨w.heap.size + 1, 0, none⟩ = some (.int .u8 k) ∧ W.cell? ⟨w.heap.size + 1, 1, none⟩ = some (.int .i64 key) ∧ W.cell? ⟨w.heap.size + 1, 2, none⟩ = some (.int .i64 val) ∧ W.cell? ⟨w.heap.size + 1, 3, none⟩ = some (.int .i64 ent))) := hide (fun W hb => by
    have h1 := (hb.block _ (at_lt q0)).trans q0
    have h2 := (hb.block _ (at_lt q1)).trans q1
    refine ⟨⟨?_, ?_, ?_, ?_, ?_, ?_⟩, ?_, ?_, ?_, ?_⟩ <;> first | (rw [blk_cell h1]; rfl) | (rw [blk_cell h2]; rfl))
  have HD := hide hd
  have HN := hide (fun w => new_all k key val ent w hk)
  have HR := hide (fun w => rnew_all k key val ent w hk)
  generalize hne : newE k key val ent = ne
  clear q0 q1 hb2 hd
  go_enter Try.func4, Try.ntmps4
  go_upto_region 1 with fail
  refine Eq.mp (congrArg (Code.wp Try.prog _ _ _) hW1.out.symm) ?_
  go_wp2_with fail
  refine (awake_any W1).mono ?_
  rintro e w2 ⟨rfl, hb⟩
  have HB2 := hide hb
  clear hb
  obtain ⟨⟨c0, c1, c2, c3, c4, c5⟩, s0, s1, s2, s3⟩ := HC.out w2 HB2.out
  go_wp2_with fail
  have hds := one_deed (HD.out.below (HB.out.trans (HB2.out.mono HB.out.size))) (Nat.le_trans HB.out.size HB2.out.size)
  have hb := below1 w2 (.cells d.cells.toArray 38)
  refine (light_any k key val ent _ 1 1 _ [d] _ hds (by simp) (by omega)).mono ?_
  rintro e w3 ⟨bl, rfl, _, hb3⟩
  have HB3 := hide (below_in HB2.out (below_in hb hb3))
  clear hds hb hb3 c0 c1 c2 c3 c4 c5 s0 s1 s2 s3
  obtain ⟨⟨c0, c1, c2, c3, c4, c5⟩, s0, s1, s2, s3⟩ := HC.out w3 HB3.out
  cases bl
  · go_wp2_with fail
    go_ret
    exact ⟨rfl, below_in HB.out HB3.out⟩
  go_wp2_with fail
  refine (HN.out w3).mono ?_
  rintro e w4 ⟨v4, rfl, hb⟩
  have HB4 := hide (below_in HB3.out hb)
  clear hb c0 c1 c2 c3 c4 c5 s0 s1 s2 s3
  obtain ⟨⟨c0, c1, c2, c3, c4, c5⟩, s0, s1, s2, s3⟩ := HC.out w4 HB4.out
  go_wp2_with fail
  refine (HR.out w4).mono ?_
  rintro e w5 ⟨v5, rfl, hb⟩
  have HB5 := hide (below_in HB4.out hb)
  clear hb c0 c1 c2 c3 c4 c5 s0 s1 s2 s3
  rw [hne]
  go_upto_region 10 with fail
  obtain ⟨q0, q1⟩ := two_boxes w5 (.cells #[.pointer none, .int .i64 0, .pointer none, .int .i64 0, .slice none 0 0] 60) (.cells #[.pointer none, .pointer (some ⟨w5.heap.size, 0, none⟩)] 28)
  have hb2 := below2 w5 (.cells #[.pointer none, .int .i64 0, .pointer none, .int .i64 0, .slice none 0 0] 60) (.cells #[.pointer none, .pointer (some ⟨w5.heap.size, 0, none⟩)] 28)
  generalize (w5.alloc (.cells #[.pointer none, .int .i64 0, .pointer none, .int .i64 0, .slice none 0 0] 60)).alloc (.cells #[.pointer none, .pointer (some ⟨w5.heap.size, 0, none⟩)] 28) = W6 at q0 q1 hb2 ⊢
  have HB6 := hide (below_in HB5.out hb2)
  have HN1 : Hid (NoT none W6) := hide (noT_nil W6)
  have HN2 : Hid (NoT (some ⟨w5.heap.size, 0, none⟩) W6) := hide (noT_zero (by rw [blk_cell q0]; rfl))
  have HE : Hid (∀ W, Below W6.heap.size W6 W → W.cell? ⟨w5.heap.size + 1, 0, none⟩ = some (.pointer none) ∧ W.cell? ⟨w5.heap.size + 1, 1, none⟩ = some (.pointer (some ⟨w5.heap.size, 0, none⟩))) := hide (fun W hb => by
    have h1 := (hb.block _ (at_lt q1)).trans q1
    exact ⟨by rw [blk_cell h1]; rfl, by rw [blk_cell h1]; rfl⟩)
  have HZ0 := hide (Below.refl W6.heap.size W6)
  clear q0 q1 hb2
  obtain ⟨⟨c0, c1, c2, c3, c4, c5⟩, s0, s1, s2, s3⟩ := HC.out W6 HB6.out
  obtain ⟨e0, e1⟩ := HE.out W6 HZ0.out
  go_wp2_with fail
  refine wp_loop_rounds 3 ?_
  rw [rounds_succ]
  go_wp2_with fail
  go_quiet ((go_at_call 13; exact quiet_l (look_not _ d.k.A d.k.n d.k.c _ (HN1.out.later (below_drewN HZ0.out _)))))
  clear c0 c1 c2 c3 c4 c5 s0 s1 s2 s3 e0 e1
  obtain ⟨⟨c0, c1, c2, c3, c4, c5⟩, s0, s1, s2, s3⟩ := HC.out (W6.drewN nq) (below_in HB6.out (below_drewN HZ0.out nq))
  obtain ⟨e0, e1⟩ := HE.out (W6.drewN nq) (below_drewN HZ0.out nq)
  have HZ1 := hide (below_drewN HZ0.out nq)
  generalize W6.drewN nq = W7 at HZ1 c0 c1 c2 c3 c4 c5 s0 s1 s2 s3 e0 e1 ⊢
  go_wp2_with fail
  go_quiet ((go_at_call 17; exact quiet_l (value_not _ d.pl _ (HN1.out.later (below_drewN HZ1.out _)))))
  clear c0 c1 c2 c3 c4 c5 s0 s1 s2 s3 e0 e1
  obtain ⟨⟨c0, c1, c2, c3, c4, c5⟩, s0, s1, s2, s3⟩ := HC.out (W7.drewN nq) (below_in HB6.out (below_drewN HZ1.out nq))
  obtain ⟨e0, e1⟩ := HE.out (W7.drewN nq) (below_drewN HZ1.out nq)
  have HZ2 := hide (below_drewN HZ1.out nq)
  generalize W7.drewN nq = W8 at HZ2 c0 c1 c2 c3 c4 c5 s0 s1 s2 s3 e0 e1 ⊢
  go_wp2_with fail
  go_quiet ((first | (go_at_call 26; exact quiet_l (upd_not _ d.k.A d.v.A d.k.n d.k.c d.v.n d.v.c d.fl _ (HN1.out.later (below_drewN HZ2.out _)))) | (go_at_call 15; exact quiet_l (del_not _ d.k.A d.k.n d.k.c _ (HN1.out.later (below_drewN HZ2.out _)))) | (go_at_call 21; exact quiet_l (set_not _ d.pl d.of d.v.A d.v.n d.v.c _ (HN1.out.later (below_drewN HZ2.out _)))) | (go_at_call 23; exact quiet_l (keys_not _ _ (HN1.out.later (below_drewN HZ2.out _))))))
  clear c0 c1 c2 c3 c4 c5 s0 s1 s2 s3 e0 e1
  obtain ⟨⟨c0, c1, c2, c3, c4, c5⟩, s0, s1, s2, s3⟩ := HC.out (W8.drewN nq) (below_in HB6.out (below_drewN HZ2.out nq))
  obtain ⟨e0, e1⟩ := HE.out (W8.drewN nq) (below_drewN HZ2.out nq)
  have HZ3 := hide (below_drewN HZ2.out nq)
  generalize W8.drewN nq = W9 at HZ3 c0 c1 c2 c3 c4 c5 s0 s1 s2 s3 e0 e1 ⊢
  go_wp2_with fail
  rw [rounds_succ]
  go_wp2_with fail
  go_quiet ((go_at_call 13; exact quiet_l (look_not _ d.k.A d.k.n d.k.c _ (HN2.out.later (below_drewN HZ3.out _)))))
  clear c0 c1 c2 c3 c4 c5 s0 s1 s2 s3 e0 e1
  obtain ⟨⟨c0, c1, c2, c3, c4, c5⟩, s0, s1, s2, s3⟩ := HC.out (W9.drewN nq) (below_in HB6.out (below_drewN HZ3.out nq))
  obtain ⟨e0, e1⟩ := HE.out (W9.drewN nq) (below_drewN HZ3.out nq)
  have HZ4 := hide (below_drewN HZ3.out nq)
  generalize W9.drewN nq = W10 at HZ4 c0 c1 c2 c3 c4 c5 s0 s1 s2 s3 e0 e1 ⊢
  go_wp2_with fail
  go_quiet ((go_at_call 17; exact quiet_l (value_not _ d.pl _ (HN2.out.later (below_drewN HZ4.out _)))))
  clear c0 c1 c2 c3 c4 c5 s0 s1 s2 s3 e0 e1
  obtain ⟨⟨c0, c1, c2, c3, c4, c5⟩, s0, s1, s2, s3⟩ := HC.out (W10.drewN nq) (below_in HB6.out (below_drewN HZ4.out nq))
  obtain ⟨e0, e1⟩ := HE.out (W10.drewN nq) (below_drewN HZ4.out nq)
  have HZ5 := hide (below_drewN HZ4.out nq)
  generalize W10.drewN nq = W11 at HZ5 c0 c1 c2 c3 c4 c5 s0 s1 s2 s3 e0 e1 ⊢
  go_wp2_with fail
  go_quiet ((first | (go_at_call 26; exact quiet_l (upd_not _ d.k.A d.v.A d.k.n d.k.c d.v.n d.v.c d.fl _ (HN2.out.later (below_drewN HZ5.out _)))) | (go_at_call 15; exact quiet_l (del_not _ d.k.A d.k.n d.k.c _ (HN2.out.later (below_drewN HZ5.out _)))) | (go_at_call 21; exact quiet_l (set_not _ d.pl d.of d.v.A d.v.n d.v.c _ (HN2.out.later (below_drewN HZ5.out _)))) | (go_at_call 23; exact quiet_l (keys_not _ _ (HN2.out.later (below_drewN HZ5.out _))))))
  clear c0 c1 c2 c3 c4 c5 s0 s1 s2 s3 e0 e1
  obtain ⟨⟨c0, c1, c2, c3, c4, c5⟩, s0, s1, s2, s3⟩ := HC.out (W11.drewN nq) (below_in HB6.out (below_drewN HZ5.out nq))
  obtain ⟨e0, e1⟩ := HE.out (W11.drewN nq) (below_drewN HZ5.out nq)
  have HZ6 := hide (below_drewN HZ5.out nq)
  generalize W11.drewN nq = W12 at HZ6 c0 c1 c2 c3 c4 c5 s0 s1 s2 s3 e0 e1 ⊢
  go_wp2_with fail
  rw [rounds_succ]
  go_wp2_with fail
  go_ret
  exact ⟨rfl, below_in HB.out (below_in HB6.out HZ6.out)⟩
end Go.Proofs.Ythefgfcjjbjjkaa
