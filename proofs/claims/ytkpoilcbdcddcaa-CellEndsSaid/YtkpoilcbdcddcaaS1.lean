/-
  Bytes are set.
-/
import Derived.Test.YtkpoilcbdcddcaaIT
import Derived.Test.YtkpoilcbdcddcaaF2
namespace Go.Proofs.Ytkpoilcbdcddcaa
open Go.RowKit
set_option linter.unusedVariables false
set_option linter.unusedSimpArgs false
attribute [local go_sem] Oper.semAt_some

theorem add_add (a : Addr) (i j : Nat) : (a.add i).add j = a.add (i + j) := by
  by_cases hj : j = 0
  · subst hj
    simp [Addr.add]
  · rw [add_parts a i j (by omega)]
    conv => lhs; unfold Addr.add
    rw [if_neg hj]
    rfl
theorem sliceT : Try.prog.underlying 37 = some (.slice (Try.prog.elem 37)) := by kernel_rfl
theorem elemT : Try.prog.elem 37 = 5 := by kernel_rfl
def cutA (S : Option Addr) (sc k : Nat) : Option Addr := if sc = k then S else S.map (·.add (k * 1))
theorem cut_run (S : Option Addr) (q sc k : Nat) (hk : k ≤ q) (W : World) : (Instr.slice 37 (.slice S q sc) (some (.int .i64 k)) none none).run Try.prog W = .ok (.slice (cutA S sc k) (q - k) (sc - k)) W := by
  obtain ⟨i0, hi, hz0, hz1, hz2⟩ := info_parts u8info
  rw [run_slice_l (P := Try.prog) W 37 S q sc sliceT .i64 k (by omega) (by omega), elemT]
  simp [sizeOf, typeInfo, hi, hz1, Result.andThen, sliced, cutA]
theorem cut_src {w : World} {b q : Nat} {S : Option Addr} {l : List Int} (h : Src w b S q l) (sc : Nat) (hc : q ≤ sc) (k : Nat) (hk : k ≤ q) : Src w b (cutA S sc k) (q - k) (l.drop k) := by
  refine ⟨by rw [List.length_drop, h.1], fun hp => ?_⟩
  obtain ⟨ad, rfl, h1, h2, h3⟩ := h.2 (by omega)
  refine ⟨ad.add k, by unfold cutA; rw [if_neg (by omega)]; simp, by rw [block_add]; exact h1, by rw [block_add]; exact h2, fun j u hu => ?_⟩
  rw [add_add]
  refine h3 (k + j) u ?_
  rw [← hu]
  simp [u8s, List.getElem?_drop]
theorem parts_step {off q k : Nat} {pre : List PartM} {p : PartM} (h : pre ++ parts (off + k) (q - k) = parts off q) (hk : k ≤ q) (hp : pre ++ [p] <+: parts off q) :
    k < q ∧ p = ⟨(off + k) / 8, (off + k) % 8, min 8 ((off + k) % 8 + (q - k))⟩ ∧ (pre ++ [p]) ++ parts (off + (k + (p.y - p.x))) (q - (k + (p.y - p.x))) = parts off q := by
  obtain ⟨r, hr⟩ := hp
  rw [← h, List.append_assoc, List.append_cancel_left_eq] at hr
  by_cases hlt : k < q
  · rw [parts_next _ _ (by omega)] at hr
    simp only [List.cons_append, List.nil_append, List.cons.injEq] at hr
    obtain ⟨rfl, h2⟩ := hr
    refine ⟨hlt, rfl, ?_⟩
    rw [← h, parts_next (off + k) (q - k) (by omega), List.append_assoc]
    simp only
    rw [show off + k + (min 8 ((off + k) % 8 + (q - k)) - (off + k) % 8) = off + (k + (min 8 ((off + k) % 8 + (q - k)) - (off + k) % 8)) by omega,
      show q - k - (min 8 ((off + k) % 8 + (q - k)) - (off + k) % 8) = q - (k + (min 8 ((off + k) % 8 + (q - k)) - (off + k) % 8)) by omega]
    rfl
  · rw [show q - k = 0 by omega, parts_zero] at hr
    simp at hr
/-- What stands when the parts pre have been set. -/
def SetI (w : World) (b off q X : Nat) (A : AS) (l : List Int) (pre : List PartM) (W : World) : Prop :=
  ∃ k S c, k ≤ q ∧ pre ++ parts (off + k) (q - k) = parts off q ∧ PS W b (A.put off (l.take k)) ∧ (Src W b S (q - k) (l.drop k) ∧ Src W X S (q - k) (l.drop k)) ∧ q - k ≤ c ∧ Boxed W X 37 (.slice S (q - k) c) ∧ Turn b w W
theorem Src.via {w w' : World} {b c q : Nat} {S : Option Addr} {l : List Int} (h : Src w b S q l) (h2 : Src w c S q l) (ht : Turn c w w') : Src w' b S q l := by
  have k := h2.turn ht
  refine ⟨h.1, fun hq => ?_⟩
  obtain ⟨ad, e, h3, _, _⟩ := h.2 hq
  obtain ⟨ad', e', _, h5, h6⟩ := k.2 hq
  cases e.symm.trans e'
  exact ⟨ad, e, h3, h5, h6⟩
theorem Src.fresh {w : World} {b q : Nat} {S : Option Addr} {l : List Int} (h : Src w b S q l) : Src w w.heap.size S q l := by
  refine ⟨h.1, fun hq => ?_⟩
  obtain ⟨ad, e, h1, h2, h3⟩ := h.2 hq
  exact ⟨ad, e, Nat.ne_of_lt h2, h2, h3⟩
theorem Turn.new {b X : Nat} {w W : World} (h : Turn b w W) (hX : w.heap.size ≤ X) (u : Value) : Turn b w (W.setCell ⟨X, 0, none⟩ u) :=
  ⟨h.os, h.tape, h.output, by simpa [World.setCell] using h.size, fun k hk hn => (Below.heap_setCell W ⟨X, 0, none⟩ u k (fun e => by simp only at e; omega)).trans (h.block k hk hn)⟩
theorem Stays.block {B : Nat} {X Y : World} (h : Stays B X Y) {k : Nat} {cs : Array Value} {t : TypeId} {fr : Nat × Nat} (hk : X.heap[k]? = some (.cells cs t fr)) : Y.heap[k]? = some (.cells cs t fr) := h.same k _ hk (.inr rfl)
theorem PS.stays {B b : Nat} {X Y : World} {A : AS} (h : PS X b A) (hst : Stays B X Y) : PS Y b A := by
  obtain ⟨cs, h1, h2⟩ := h
  exact ⟨cs, hst.block h1, h2⟩
theorem Src.stays {B b q : Nat} {X Y : World} {S : Option Addr} {l : List Int} (h : Src X b S q l) (hst : Stays B X Y) : Src Y b S q l := by
  refine ⟨h.1, fun hq => ?_⟩
  obtain ⟨ad, e, h1, h2, h3⟩ := h.2 hq
  exact ⟨ad, e, h1, Nat.lt_of_lt_of_le h2 hst.size, fun j u hu => hst.cell (h3 j u hu)⟩
theorem Turn.stays {B b : Nat} {w X Y : World} (h : Turn b w X) (hst : Stays B X Y) (hB : w.heap.size ≤ B) : Turn b w Y :=
  ⟨hst.os.trans h.os, hst.tape.trans h.tape, hst.output.trans h.output, Nat.le_trans h.size hst.size, fun k hk hn => by
    have hlt : k < X.heap.size := Nat.lt_of_lt_of_le hk h.size
    rw [hst.same k _ (Array.getElem?_eq_getElem hlt) (.inl (Nat.lt_of_lt_of_le hk hB)), ← h.block k hk hn, Array.getElem?_eq_getElem hlt]⟩
theorem SetI.stays {w : World} {b off q X : Nat} {A : AS} {l : List Int} {pre : List PartM} {B : Nat} {U V : World} (h : SetI w b off q X A l pre U) (hst : Stays B U V) (hB : w.heap.size ≤ B) : SetI w b off q X A l pre V := by
  obtain ⟨k, S, c, h1, h2, h3, h4, h5, h6, h7⟩ := h
  exact ⟨k, S, c, h1, h2, h3.stays hst, ⟨h4.1.stays hst, h4.2.stays hst⟩, h5, hst.boxed h6, h7.stays hst hB⟩
theorem KeepT.put {B n l : Nat} (X : World) (o' : Obj) (h : B + 2 < l) (hl : l < n) : KeepT B n X (X.putObj l o') := ⟨.put X o' h, fun k cs hk hx => (World.putObj_heap_other (by omega)).trans hx⟩
/-- What lasts of the statement that asks for the groups. -/
def TSet (b off q X : Nat) (S : Option Addr) (sc B0 : Nat) (j : Nat) (σ : Nat → Value) (W : World) : Prop :=
  match j with
  | 0 => σ 0 = .pointer (some ⟨b, 0, none⟩)
  | 1 => σ 1 = .pointer (some ⟨b, 0, none⟩)
  | 2 => σ 2 = .pointer (some ⟨b, 1, none⟩)
  | 3 => σ 3 = .int .i64 off
  | 4 => σ 4 = .slice S q sc
  | 5 => σ 5 = .int .i64 q
  | 6 => ∃ B, σ 6 = .func (.func 48) #[] #[.pointer (some ⟨B + 1, 0, none⟩), .pointer (some ⟨B + 2, 0, none⟩), .pointer (some ⟨B, 0, none⟩)] ∧ Bx3 W B b off q ∧ B0 ≤ B
  | _ => True
theorem TSet.below {b off q X : Nat} {S : Option Addr} {sc B0 j : Nat} {σ : Nat → Value} {W W' : World} (h : TSet b off q X S sc B0 j σ W) (hb : Below W.heap.size W W') : TSet b off q X S sc B0 j σ W' := by
  unfold TSet at h ⊢
  split at h
  all_goals try exact h
  obtain ⟨B, h1, h2, h3⟩ := h
  exact ⟨B, h1, h2.keep (.of_below h2.lt hb), h3⟩
set_option maxRecDepth 100000 in
set_option maxHeartbeats 4000000 in
theorem set_any (b off q sc : Nat) (A : AS) (S : Option Addr) (l : List Int) (w : World) (h : PS w b A) (hsrc : Src w b S q l) (hc : q ≤ sc) (hq : off + q ≤ 512) :
    Calls Try.prog 37 #[.pointer (some ⟨b, 0, none⟩), .int .i64 off, .slice S q sc] w fun e w' => e = .returned (.tuple #[]) ∧ PS w' b (A.put off l) ∧ Turn b w w' := by
  have hblt := h.lt
  have hE : ∀ args (W : World), (callFunc 42 args).run Try.prog W = .ok (.enter 42 args) W := by intro args W; kernel_rfl
  have hmo : Try.prog.follows .mixedOrders = true := by kernel_rfl
  have hbw := below1 w (.cells #[.slice S q sc] 37)
  have h1 := h.below hbw
  have hs1 := hsrc.turn (.of_below hbw)
  have hs2 := hsrc.fresh.turn (.of_below hbw)
  have hx := World.alloc_heap_new w (.cells #[.slice S q sc] 37)
  refine (callsIn_wide (n := 3)).1 ?_
  refine callsIn_of_wp_marks Try.func37 rfl trivial ?_ rfl
  simp only [Try.ntmps37, List.size_toArray, List.length_cons, List.length_nil, Nat.reduceAdd, Nat.reduceSub, Array.replicate_succ, Array.replicate_zero, List.push_toArray, List.append_toArray, List.nil_append, List.cons_append]
  gi_wp2_with fail
  generalize w.alloc (.cells _ 37) = w1 at hbw h1 hs1 hs2 hx ⊢
  have c0 : w1.cell? ⟨w.heap.size, 0, none⟩ = some (.slice S q sc) := by rw [blk_cell hx 0]; rfl
  have HBW := hide hbw
  have HP := hide h1
  have HS := hide hs1
  have HS2 := hide hs2
  have HX := hide hx
  have hlt := at_lt hx
  clear h hsrc hbw h1 hs1 hs2 hx
  refine wpIn_wide.2 ?_
  refine wp_tells (by kernel_rfl) (TSet b off q w.heap.size S sc w1.heap.size) (fun W => Below w1.heap.size w1 W) (by kernel_rfl) (by kernel_rfl) (by kernel_rfl) (by kernel_rfl) ?_ (Below.refl _ _).drew ?_ ?_
  · intro j oj σ σ' W hj h hs
    have h0 := hs j (.inl rfl)
    have hi : j < 7 := (Array.getElem?_eq_some_iff.1 hj).1
    have hi' : j = 0 ∨ j = 1 ∨ j = 2 ∨ j = 3 ∨ j = 4 ∨ j = 5 ∨ j = 6 := by omega
    rcases hi' with rfl | rfl | rfl | rfl | rfl | rfl | rfl
    all_goals
      simp only [TSet] at h ⊢; rw [h0]; exact h
  · intro i o ho L a W hi hG hold hT hh
    have hi2 : i < 7 := (Array.getElem?_eq_some_iff.1 ho).1
    have hi' : i = 0 ∨ i = 1 ∨ i = 2 ∨ i = 3 ∨ i = 4 ∨ i = 5 ∨ i = 6 := by omega
    have hkb : ∀ {W'}, Below W.heap.size W W' → ∀ j, L j = true → TSet b off q w.heap.size S sc w1.heap.size j (sl _ a) W' := fun hb j hj => (hT j hj).below hb
    rcases hi' with rfl | rfl | rfl | rfl | rfl | rfl | rfl
    · cases ho
      refine step_told (.pointer (some ⟨b, 0, none⟩)) ?_ (by decide) hG hT rfl
      have e1 : a.eval (.tmp 0) = .pointer (some ⟨b, 0, none⟩) := hold 0 (by kernel_rfl)
      generalize a.eval = ev at e1 ⊢
      simp [execOp, go_sem, e1]
    · cases ho
      refine step_told (.pointer (some ⟨b, 0, none⟩)) ?_ (by decide) hG hT rfl
      have e1 : a.eval (.tmp 8) = .pointer (some ⟨b, 0, none⟩) := hT 0 (hh 0 rfl)
      generalize a.eval = ev at e1 ⊢
      simp [execOp, go_sem, e1]
    · cases ho
      refine step_told (.pointer (some ⟨b, 1, none⟩)) ?_ (by decide) hG hT rfl
      have e1 : a.eval (.tmp 9) = .pointer (some ⟨b, 0, none⟩) := hT 1 (hh 1 rfl)
      generalize a.eval = ev at e1 ⊢
      simp [execOp, go_sem, e1]
    · cases ho
      refine step_told (.int .i64 off) ?_ (by decide) hG hT rfl
      have e1 : a.eval (.tmp 1) = .int .i64 off := hold 1 (by kernel_rfl)
      generalize a.eval = ev at e1 ⊢
      simp [execOp, go_sem, e1]
    · cases ho
      refine step_told (.slice S q sc) ?_ (by decide) hG hT rfl
      have e1 : a.eval (.tmp 5) = .pointer (some ⟨w.heap.size, 0, none⟩) := hold 5 (by kernel_rfl)
      have d0 := (hG.cell (p := ⟨w.heap.size, 0, none⟩) hlt).trans c0
      generalize a.eval = ev at e1 ⊢
      simp [execOp, go_sem, e1, d0]
    · cases ho
      refine step_told (.int .i64 q) ?_ (by decide) hG hT rfl
      have e1 : a.eval (.tmp 12) = .slice S q sc := hT 4 (hh 4 rfl)
      generalize a.eval = ev at e1 ⊢
      simp [execOp, go_sem, e1]
    · cases ho
      have e1 : a.eval (.tmp 10) = .pointer (some ⟨b, 1, none⟩) := hT 2 (hh 2 rfl)
      have e2 : a.eval (.tmp 11) = .int .i64 off := hT 3 (hh 3 rfl)
      have e3 : a.eval (.tmp 13) = .int .i64 q := hT 5 (hh 5 rfl)
      refine step_called (f := 42) (args := #[.pointer (some ⟨b, 1, none⟩), .int .i64 off, .int .i64 q]) (R := fun v W' => (∃ B, v = .func (.func 48) #[] #[.pointer (some ⟨B + 1, 0, none⟩), .pointer (some ⟨B + 2, 0, none⟩), .pointer (some ⟨B, 0, none⟩)] ∧ Bx3 W' B b off q ∧ w1.heap.size ≤ B) ∧ Below W.heap.size W W') ?_ (by decide) ((touched_any b off q W).mono (fun e w' ⟨h1, h2, h3⟩ => ⟨_, h1, ⟨_, rfl, h3, hG.size⟩, h2⟩)) ?_
      · have e0 : a.eval (.func 42) = .func (.func 42) #[] #[] := rfl
        generalize a.eval = ev at e0 e1 e2 e3 ⊢
        simp [execOp, go_sem, e0, e1, e2, e3, hE]
      · rintro v W' ⟨⟨B, rfl, hbx, hB⟩, hb⟩
        exact ⟨hG.trans (hb.mono hG.size), hkb hb, B, rfl, hbx, hB⟩
  · intro a W hd hs hold hT hG
    obtain ⟨B, e14, hbx, hBB⟩ : ∃ B, a.tmps.getD 14 undef = .func (.func 48) #[] #[.pointer (some ⟨B + 1, 0, none⟩), .pointer (some ⟨B + 2, 0, none⟩), .pointer (some ⟨B, 0, none⟩)] ∧ Bx3 W B b off q ∧ w1.heap.size ≤ B := hT 6 (by decide)
    have e0 : a.tmps.getD 0 undef = .pointer (some ⟨b, 0, none⟩) := hold 0 (by kernel_rfl)
    have e1 : a.tmps.getD 1 undef = .int .i64 off := hold 1 (by kernel_rfl)
    have e2 : a.tmps.getD 2 undef = .slice S q sc := hold 2 (by kernel_rfl)
    have e5 : a.tmps.getD 5 undef = .pointer (some ⟨w.heap.size, 0, none⟩) := hold 5 (by kernel_rfl)
    obtain ⟨u3, hu3⟩ : ∃ u, a.tmps.getD 3 undef = u := ⟨_, rfl⟩
    obtain ⟨u4, hu4⟩ : ∃ u, a.tmps.getD 4 undef = u := ⟨_, rfl⟩
    obtain ⟨u6, hu6⟩ : ∃ u, a.tmps.getD 6 undef = u := ⟨_, rfl⟩
    obtain ⟨u7, hu7⟩ : ∃ u, a.tmps.getD 7 undef = u := ⟨_, rfl⟩
    obtain ⟨u8, hu8⟩ : ∃ u, a.tmps.getD 8 undef = u := ⟨_, rfl⟩
    obtain ⟨u9, hu9⟩ : ∃ u, a.tmps.getD 9 undef = u := ⟨_, rfl⟩
    obtain ⟨u10, hu10⟩ : ∃ u, a.tmps.getD 10 undef = u := ⟨_, rfl⟩
    obtain ⟨u11, hu11⟩ : ∃ u, a.tmps.getD 11 undef = u := ⟨_, rfl⟩
    obtain ⟨u12, hu12⟩ : ∃ u, a.tmps.getD 12 undef = u := ⟨_, rfl⟩
    obtain ⟨u13, hu13⟩ : ∃ u, a.tmps.getD 13 undef = u := ⟨_, rfl⟩
    obtain ⟨u15, hu15⟩ : ∃ u, a.tmps.getD 15 undef = u := ⟨_, rfl⟩
    obtain ⟨u16, hu16⟩ : ∃ u, a.tmps.getD 16 undef = u := ⟨_, rfl⟩
    obtain ⟨u17, hu17⟩ : ∃ u, a.tmps.getD 17 undef = u := ⟨_, rfl⟩
    obtain ⟨u18, hu18⟩ : ∃ u, a.tmps.getD 18 undef = u := ⟨_, rfl⟩
    obtain ⟨u19, hu19⟩ : ∃ u, a.tmps.getD 19 undef = u := ⟨_, rfl⟩
    obtain ⟨u20, hu20⟩ : ∃ u, a.tmps.getD 20 undef = u := ⟨_, rfl⟩
    obtain ⟨u21, hu21⟩ : ∃ u, a.tmps.getD 21 undef = u := ⟨_, rfl⟩
    obtain ⟨u22, hu22⟩ : ∃ u, a.tmps.getD 22 undef = u := ⟨_, rfl⟩
    obtain ⟨u23, hu23⟩ : ∃ u, a.tmps.getD 23 undef = u := ⟨_, rfl⟩
    obtain ⟨u24, hu24⟩ : ∃ u, a.tmps.getD 24 undef = u := ⟨_, rfl⟩
    have ha : a = ⟨#[.pointer (some ⟨b, 0, none⟩), .int .i64 off, .slice S q sc, u3, u4, .pointer (some ⟨w.heap.size, 0, none⟩), u6, u7, u8, u9, u10, u11, u12, u13, .func (.func 48) #[] #[.pointer (some ⟨B + 1, 0, none⟩), .pointer (some ⟨B + 2, 0, none⟩), .pointer (some ⟨B, 0, none⟩)], u15, u16, u17, u18, u19, u20, u21, u22, u23, u24], []⟩ := by
      refine act_lit hd (by rw [hs]; rfl) (fun t ht => ?_)
      have ht' : t < 25 := ht
      have hi' : t = 0 ∨ t = 1 ∨ t = 2 ∨ t = 3 ∨ t = 4 ∨ t = 5 ∨ t = 6 ∨ t = 7 ∨ t = 8 ∨ t = 9 ∨ t = 10 ∨ t = 11 ∨ t = 12 ∨ t = 13 ∨ t = 14 ∨ t = 15 ∨ t = 16 ∨ t = 17 ∨ t = 18 ∨ t = 19 ∨ t = 20 ∨ t = 21 ∨ t = 22 ∨ t = 23 ∨ t = 24 := by omega
      rcases hi' with rfl | rfl | rfl | rfl | rfl | rfl | rfl | rfl | rfl | rfl | rfl | rfl | rfl | rfl | rfl | rfl | rfl | rfl | rfl | rfl | rfl | rfl | rfl | rfl | rfl
      all_goals first | assumption
    subst ha
    have HBX := hide hbx
    have HG := hide hG
    clear hold hT hd hs e0 e1 e2 e5 e14 hG hbx hu3 hu4 hu6 hu7 hu8 hu9 hu10 hu11 hu12 hu13 hu15 hu16 hu17 hu18 hu19 hu20 hu21 hu22 hu23 hu24
    gi_wp2_with fail
    have hltB := HBX.out.lt
    have hwW : w.heap.size ≤ W.heap.size := Nat.le_trans (Nat.le_of_lt hlt) HG.out.size
    have hBw : w.heap.size < B := Nat.lt_of_lt_of_le hlt hBB
    refine range_ends (α := PartM) (F := Fence.wide) (n := 3) rfl (by omega) (gf := 48) (lb := #[.pointer (some ⟨B + 1, 0, none⟩), .pointer (some ⟨B + 2, 0, none⟩), .pointer (some ⟨B, 0, none⟩)]) rfl trivial (enters_of Try.func48 (by kernel_rfl) rfl)
      (touched_iter (3 - 1) (by omega) B b off q hq W HBX.out) (Below.refl _ _) KeepT.trans ?_ (fun _ => rfl) (SetI w b off q w.heap.size A l) (fun _ _ => False) ?_ (fun _ _ _ h _ => h) ?_ ?round ?done ?stop
    · intro X l o o' hl hl2 h ho
      exact KeepT.put X o' (by omega) hl2
    · intro s X Y h hst
      exact h.stays hst hwW
    · have hx := (HG.out.block _ (at_lt HX.out)).trans HX.out
      exact ⟨0, S, sc, Nat.zero_le _, rfl, by simpa [AS.put] using HP.out.below HG.out, ⟨by simpa using HS.out.turn (.of_below HG.out), by simpa using HS2.out.turn (.of_below HG.out)⟩, by simpa using hc, hx, (Turn.of_below HBW.out).trans (.of_below HG.out)⟩
    case round =>
      rintro lp pre ⟨g, x, y⟩ W2 hle hloop hws ⟨k, S2, c2, h1, h2, h3, h4, h5, h6, h7⟩ hpre
      obtain ⟨hkq, hpe, hpn⟩ := parts_step h2 h1 hpre
      simp only [PartM.mk.injEq] at hpe
      obtain ⟨m, hm⟩ : ∃ m, m = y - x := ⟨_, rfl⟩
      have hpm : g < 64 ∧ x < y ∧ y ≤ 8 ∧ 8 * g + x = off + k ∧ m ≤ q - k ∧ y - x = m := by omega
      obtain ⟨hg, hx, hy, hgx, hmq, hyx⟩ := hpm
      simp only [hyx] at hpn
      have HPN := hide hpn
      have H2 := hide h2
      have H3 := hide h3
      have H4 := hide h4
      have H6 := hide h6
      have H7 := hide h7
      clear hpe h2 h3 h4 h6 h7 hpre hpn hm
      simp only [PartM.encs]
      gi_wp2
      have hbA := below1 W2 (.cells #[.int .i64 x, .int .i64 y] 86)
      refine ⟨(KeepsOthers.alloc _ _).from _, .of_below (by omega) hbA, ⟨k, S2, c2, h1, H2.out, H3.out.below hbA, ⟨H4.out.1.turn (.of_below hbA), H4.out.2.turn (.of_below hbA)⟩, h5, (hbA.block _ (at_lt H6.out)).trans H6.out, H7.out.trans (.of_below hbA)⟩, fun W3 hst => ?_⟩
      have hp3 := hst.block (World.alloc_heap_new W2 (.cells #[.int .i64 x, .int .i64 y] 86))
      have hx3 : Boxed W3 w.heap.size 37 (.slice S2 (q - k) c2) := hst.boxed ((hbA.block _ (at_lt H6.out)).trans H6.out)
      have G3 := hide ((H3.out.below hbA).stays hst)
      have G4 := hide ((H4.out.1.turn (.of_below hbA)).stays hst)
      have G5 := hide ((H4.out.2.turn (.of_below hbA)).stays hst)
      have G7 := hide ((H7.out.trans (.of_below hbA)).stays hst hwW)
      have GP := hide hp3
      have GX := hide hx3
      have hs3 : W.heap.size + 2 < W3.heap.size := Nat.lt_of_le_of_lt hws (at_lt hp3)
      have hPW : W.heap.size + 2 ≤ W2.heap.size := hws
      obtain ⟨X2, hX2⟩ : ∃ X2, X2 = W2.heap.size := ⟨_, rfl⟩
      rw [← hX2] at GP hp3 hPW ⊢
      have e0 := blk_cell hp3 0
      have e1 := blk_cell hp3 1
      have e2 := blk_cell hx3 0
      simp at e0 e1 e2
      clear hX2 hst hbA H2 H3 H4 H6 H7 hp3 hx3 hle hloop hws
      gi_wp2_with fail
      refine ⟨trivial, (CallsIn.inRound lp (callsIn_wide.2 (gput_any b g x y _ S2 (q - k) c2 (l.drop k) W3 G3.out hg hx hy G4.out (by omega)))).mono ?_⟩
      rintro e w4 ⟨rfl, hps, htu⟩
      have hps2 : PS w4 b (A.put off (l.take (k + m))) := by
        have := hps
        rw [hyx, hgx] at this
        have e3 : l.take (k + m) = l.take k ++ (l.drop k).take m := List.take_add
        rw [e3, AS.put_append, show (l.take k).length = k by rw [List.length_take]; have := HS.out.1; omega]
        exact this
      have hp4 := (htu.block X2 (at_lt GP.out) (fun e => by cases e; omega)).trans GP.out
      have hx4 := (htu.block w.heap.size (at_lt GX.out) (fun e => by cases e; omega)).trans GX.out
      have k0 := blk_cell hp4 0
      have k1 := blk_cell hp4 1
      have k2 := blk_cell hx4 0
      have k3 := blk_free hx4 0
      simp at k0 k1 k2
      have HPS := hide hps2
      have HTU := hide htu
      have HP4 := hide hp4
      have HX4 := hide hx4
      have hl4x := at_lt hx4
      have hl4p := at_lt hp4
      have HQ : Hid (∀ W, Calls Try.prog 46 #[.agg #[.int .i64 x, .int .i64 y]] W fun e w' => e = .returned (.int .i64 m) ∧ Below W.heap.size W w') := fun W => by
        have := partSize_any (x : Int) (y : Int) W (by omega) (by omega)
        rw [show ((y : Int) - (x : Int)) = (m : Int) by omega] at this
        exact this
      have hcut := cut_run S2 (q - k) c2 m (by omega)
      clear hps hps2 htu hp4 hx4 e0 e1 e2
      gi_wp2_with fail
      gi_region_with_o (refine ⟨trivial, (CallsIn.inRound lp (callsIn_wide.2 (HQ.out _))).mono ?_⟩; rintro e w5 ⟨rfl, hb5⟩; have k2 := (hb5.cell (p := ⟨w.heap.size, 0, none⟩) hl4x).trans k2; have k3 := (hb5.frozen (p := ⟨w.heap.size, 0, none⟩) hl4x).trans k3; have HB5 := hide hb5; have hl5x := Nat.lt_of_lt_of_le hl4x hb5.size; clear hb5)
      all_goals
        have hB45 : Below w4.heap.size w4 w5 := (Below.refl w4.heap.size w4).drew.trans HB5.out
        have hTX : Turn w.heap.size w5 (w5.setCell ⟨w.heap.size, 0, none⟩ (.slice (cutA S2 c2 m) (q - k - m) (c2 - m))) := Turn.set _ _ _ _
        have hsz4 := HTU.out.size
        have hsz5 := hB45.size
        have q4 := cut_src ((G4.out.turn HTU.out).turn (.of_below hB45)) c2 h5 m hmq
        have q5 := cut_src ((G5.out.via G4.out HTU.out).turn (.of_below hB45)) c2 h5 m hmq
        rw [List.drop_drop, Nat.sub_sub] at q4 q5
        refine ⟨?_, ?_, k + m, cutA S2 c2 m, c2 - m, by omega, HPN.out, ?_, ⟨q4.via q5 hTX, q5.turn hTX⟩, by omega, ?_, ?_⟩
        · exact ((KeepsFrom.of_grownBy HTU.out (fun j e => by cases e; omega)).trans ⟨hsz5, fun j o hj ho _ => (hB45.block j (at_lt ho)).trans ho⟩).trans (KeepsFrom.of_grownBy hTX (fun j e => by cases e; omega))
        · exact ((KeepT.turn (by omega) HTU.out (by omega) (by omega)).trans (.of_below (by omega) hB45)).trans (KeepT.turn (by omega) hTX hBw (by omega))
        · exact (HPS.out.below hB45).same (Below.heap_setCell _ _ _ b (fun e => by simp only at e; omega))
        · have hx5 : Boxed w5 w.heap.size 37 (.slice S2 (q - k) c2) := (hB45.block _ (at_lt HX4.out)).trans HX4.out
          rw [← Nat.sub_sub]
          exact hx5.set _
        · exact ((G7.out.trans HTU.out).trans (.of_below hB45)).new (Nat.le_refl _) _
    case done =>
      rintro D xs W2 hD hxs ⟨k, S2, c2, h1, h2, h3, h4, h5, h6, h7⟩ hdef
      have hkq : k = q := by
        rw [hxs] at h2
        have h8 : parts (off + k) (q - k) = [] := by simpa using h2
        by_cases hk : k < q
        · rw [parts_next _ _ (by omega)] at h8; cases h8
        · omega
      subst hkq
      have hl : l.take k = l := List.take_of_length_le (by have := HS.out.1; omega)
      rw [hl] at h3
      have H3 := hide h3
      have H7 := hide h7
      have HDEF := hide hdef
      clear h2 h3 h4 h6 h7 hdef hxs hl
      gi_wp2
      refine ⟨by simp, .inl ⟨_, _, rfl, run_takeDeferred HDEF.out, ?_⟩⟩
      have hst := Stays.putObj (B := w.heap.size) (.deferred none) (by omega) HDEF.out rfl
      exact ⟨.tuple #[], by simp [results, Try.results37, go_sem], rfl, H3.out.stays hst, H7.out.stays hst (Nat.le_refl _)⟩
    case stop =>
      rintro D xs W2 hD hF
      exact hF.elim
end Go.Proofs.Ytkpoilcbdcddcaa
