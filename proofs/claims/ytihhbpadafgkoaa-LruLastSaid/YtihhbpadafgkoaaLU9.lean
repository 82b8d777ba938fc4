/-
  The links of a chain are gone through, the eldest first, whatever becomes of those that came.
-/
import Derived.Test.YtihhbpadafgkoaaLU8
import Derived.Test.YtihhbpadafgkoaaRS
import Derived.LaidEqlPtr
import Derived.Lib.Builder
namespace Go.Proofs.Ytihhbpadafgkoaa
open Go.RowKit Go.Maps
set_option linter.unusedVariables false
set_option linter.unusedSimpArgs false
attribute [local go_sem] Oper.semAt_some

theorem linkInfo : ∃ j, Try.prog.info? 79 = some j ∧ j.size ≠ 0 := by
  have h : (Try.prog.info? 79).map (fun i => i.size) = some 4 := by kernel_rfl
  cases hi : Try.prog.info? 79 with
  | none => rw [hi] at h; cases h
  | some j => rw [hi] at h; simp at h; exact ⟨j, rfl, by omega⟩
theorem neq_same (g : Nat) (w : World) : (binOp .neq 54 (.pointer (some ⟨g, 0, none⟩)) (.pointer (some ⟨g, 0, none⟩))).run Try.prog w = .ok (.bool false) w := by
  obtain ⟨j, hj, hsz⟩ := linkInfo
  have h1 : ∀ d : Nat, (Op.equalIn (d + 1) 54 (.pointer (some ⟨g, 0, none⟩)) (.pointer (some ⟨g, 0, none⟩))).run Try.prog w = .ok true w := fun d => by
    simp [Op.equalIn, run_underlying Try.underlying54, sizeOf, typeInfo, hj, run_sameAddr_same]
  simp only [binOp]
  simp [Op.equal, Op.maxDepth, h1 9999]
theorem neq_other {g h : Nat} {w : World} {k k2 : List UInt8} {p q n p2 q2 n2 : Nat} (hne : g ≠ h) (hg : LinkAt w g k p q n) (hh : LinkAt w h k2 p2 q2 n2) : (binOp .neq 54 (.pointer (some ⟨g, 0, none⟩)) (.pointer (some ⟨h, 0, none⟩))).run Try.prog w = .ok (.bool true) w := by
  obtain ⟨j, hj, hsz⟩ := linkInfo
  have h1 : ∀ d : Nat, (Op.equalIn (d + 1) 54 (.pointer (some ⟨g, 0, none⟩)) (.pointer (some ⟨h, 0, none⟩))).run Try.prog w = .ok false w := fun d => by
    simp [Op.equalIn, run_underlying Try.underlying54, sizeOf, typeInfo, hj, hsz, run_sameAddr_other w (a := ⟨g, 0, none⟩) (b := ⟨h, 0, none⟩) (fun e => hne (by injection e)) hg hh]
  simp only [binOp]
  simp [Op.equal, Op.maxDepth, h1 9999]
theorem links_any (e : Nat) (w : World) : Calls Try.prog 44 #[.agg #[.pointer (some ⟨e, 0, none⟩)]] w fun en w' => en = .returned (.func (.func 57) #[] #[.pointer (some ⟨w.heap.size, 0, none⟩)]) ∧ w' = w.alloc (.cells #[.pointer (some ⟨e, 0, none⟩)] 56) := by
  have hmf : ∀ (fn : Fn) (first cap : Array Value) (w : World), (Instr.makeFunc fn first cap).run Try.prog w = .ok (.func fn first cap) w := fun _ _ _ _ => rfl
  go_enter Try.func44, Try.ntmps44
  go_wp2
  go_ret
  exact ⟨rfl, rfl⟩
/-- What a round may do: each link still tells the next one. -/
def KpL (Bx e : Nat) (L : List LK) (X Y : World) : Prop :=
  X.heap.size ≤ Y.heap.size ∧ (∀ (c : Array Value) (t : TypeId), X.heap[Bx]? = some (.cells c t (0, 0)) → Y.heap[Bx]? = some (.cells c t (0, 0))) ∧ (∀ k p q n, LinkAt X e k p q n → ∃ q' n', LinkAt Y e k p q' n') ∧ ∀ r ∈ L, ∀ q n, LinkAt X r.g r.k r.p q n → ∃ q', LinkAt Y r.g r.k r.p q' n
theorem KpL.trans {Bx e : Nat} {L : List LK} {X Y Z : World} (h : KpL Bx e L X Y) (h2 : KpL Bx e L Y Z) : KpL Bx e L X Z :=
  ⟨Nat.le_trans h.1 h2.1, fun c t hc => h2.2.1 c t (h.2.1 c t hc), fun k p q n hl => by
    obtain ⟨q1, n1, h3⟩ := h.2.2.1 k p q n hl
    exact h2.2.2.1 k p q1 n1 h3, fun r hr q n hl => by
    obtain ⟨q1, h3⟩ := h.2.2.2 r hr q n hl
    exact h2.2.2.2 r hr q1 n h3⟩
theorem KpL.same {Bx e : Nat} {L : List LK} {X Y : World} (hs : X.heap.size ≤ Y.heap.size) (hb : ∀ (g : Nat) (c : Array Value) (t : TypeId), X.heap[g]? = some (.cells c t (0, 0)) → Y.heap[g]? = some (.cells c t (0, 0))) : KpL Bx e L X Y :=
  ⟨hs, fun c t hc => hb Bx c t hc, fun k p q n hl => ⟨q, n, hb e _ _ hl⟩, fun r _ q n hl => ⟨q, hb r.g _ _ hl⟩⟩
def posOf (l : List Nat) (u : Nat) : Nat := (l.findIdx? fun x => x == u).getD 0
theorem posOf_is {l : List Nat} {j u : Nat} (hn : l.Nodup) (h : l[j]? = some u) : posOf l u = j := by
  unfold posOf
  cases hf : l.findIdx? (fun x => x == u) with
  | none =>
    have := List.findIdx?_eq_none_iff.1 hf u (List.mem_of_getElem? h)
    simp at this
  | some i =>
    obtain ⟨hi, h1, _⟩ := List.findIdx?_eq_some_iff_getElem.1 hf
    simp at h1
    exact nodup_at hn (show l[i]? = some u by rw [List.getElem?_eq_getElem hi, h1]) h
def blkOf : Value → Nat
  | .pointer (some a) => a.block
  | _ => 0
set_option maxRecDepth 100000 in
set_option maxHeartbeats 1000000 in
theorem links_iter (n Bx e : Nat) (L : List LK) (nx pv : Nat → Nat) (w0 : World) (hbox : w0.heap[Bx]? = some (.cells #[.pointer (some ⟨e, 0, none⟩)] 56 (0, 0))) (hr : RingM w0 e L nx pv) (hL : L.length ≤ 1000000) :
    IterX Fence.wide n Try.prog 57 #[.pointer (some ⟨Bx, 0, none⟩)] (fun r : LK => #[.pointer (some ⟨r.g, 0, none⟩)]) (fun _ => KpL Bx e L) (fun pre x => ∃ j : Nat, pre = L.take j ∧ L[j]? = some x) (fun xs => xs = L) w0 := by
  intro lp J Jx W hW hJ hJx hY h0
  have hb := (hW.block _ (at_lt hbox)).trans hbox
  have hring := hr.below hW
  have HE : Hid (∃ k p q m, LinkAt W e k p q m) := hide ⟨_, _, _, _, hring.ends⟩
  have HLK : Hid (∀ r ∈ L, ∃ q, LinkAt W r.g r.k r.p q (nx r.g)) := hide (fun r hr => ⟨_, hring.each r hr⟩)
  have HB := hide hb
  have HLN := hide hring.lnk
  have HND := hide hring.nodup
  have k0 : W.cell? ⟨Bx, 0, none⟩ = some (.pointer (some ⟨e, 0, none⟩)) := (blk_cell hb 0).trans rfl
  have k1 := hring.ends.c3
  clear hbox hr hW hb hring
  refine callsIn_of_wp Try.func57 rfl trivial ?_ rfl
  simp only [Try.ntmps57, List.size_toArray, List.length_cons, List.length_nil, Nat.reduceAdd, Nat.reduceSub, Array.replicate_succ, Array.replicate_zero, List.push_toArray, List.append_toArray, List.nil_append, List.cons_append]
  gi_wp2
  clear k0 k1
  gi_loopw [3] (fun q wr => ∃ (j u : Nat), j ≤ L.length ∧ (L.map LK.g ++ [e])[j]? = some u ∧ q = .pointer (some ⟨u, 0, none⟩) ∧ J (L.take j) wr ∧ KpL Bx e L W wr) (fun q _ => L.length - posOf (L.map LK.g ++ [e]) (blkOf q))
  case atStart => exact ⟨0, _, Nat.zero_le _, HLN.out.first, rfl, h0, KpL.same (Nat.le_refl _) (fun _ _ _ h => h)⟩
  case round =>
    obtain ⟨j, u, hj, hu, rfl, hJj, hk⟩ := hrel
    have k0 : wr.cell? ⟨Bx, 0, none⟩ = some (.pointer (some ⟨e, 0, none⟩)) := (blk_cell (hk.2.1 _ _ HB.out) 0).trans rfl
    have HPU : Hid (posOf (L.map LK.g ++ [e]) u = j) := hide (posOf_is (nodup_turn HND.out) hu)
    by_cases hlt : j < L.length
    · have hr : L[j]? = some L[j] := List.getElem?_eq_getElem hlt
      obtain ⟨r, hrr⟩ : ∃ r, r = L[j] := ⟨_, rfl⟩
      rw [← hrr] at hr
      have hug : u = r.g := by
        rw [List.getElem?_append_left (by simpa using hlt), List.getElem?_map, hr] at hu
        injection hu with hu
        exact hu.symm
      subst hug
      obtain ⟨ek, ep, eq_, em, he⟩ := HE.out
      obtain ⟨eq', em', he'⟩ := hk.2.2.1 _ _ _ _ he
      obtain ⟨q, hl⟩ := HLK.out r (List.mem_of_getElem? hr)
      obtain ⟨q', hl'⟩ := hk.2.2.2 r (List.mem_of_getElem? hr) q _ hl
      have hne : r.g ≠ e := fun e2 => by
        have := (List.nodup_cons.1 HND.out).1
        exact this (by rw [← e2]; exact List.mem_map_of_mem (List.mem_of_getElem? hr))
      have hcmp := neq_other hne hl' he'
      have HR := hide hr
      have HK := hide hk
      have HJ := hide hJj
      have HNX : Hid ((L.map LK.g ++ [e])[j + 1]? = some (nx r.g)) := hide (HLN.out.next (by rw [List.getElem?_map, hr]; rfl))
      have HT : Hid (L.take j ++ [r] = L.take (j + 1)) := hide (by rw [List.take_add_one, hr]; rfl)
      have HL := hide hl
      obtain ⟨fn, tmps, assign, body, hy, hR⟩ := hY (L.take j) r wr hJj ⟨j, rfl, hr⟩ hk.1
      clear hr hrr hu he he' hl hl' hne hk hJj
      gi_wp2
      refine ⟨fun h => by simp [Fence.wide] at h, hR.mono ?_⟩
      rintro e2 W' (⟨rfl, hJ', hs', hk'⟩ | ⟨rfl, hJx'⟩)
      · have HK2 := hide (HK.out.trans hk')
        obtain ⟨q2, hl2⟩ := HK2.out.2.2.2 r (List.mem_of_getElem? HR.out) q _ HL.out
        have k3 := hl2.c3
        have HJ2 := hide hJ'
        clear hk' hJ' hs' hl2 k0
        gi_wp2
        go_roundw
        case rel => exact ⟨j + 1, nx r.g, by omega, HNX.out, rfl, by rw [← HT.out]; exact HJ2.out, HK2.out⟩
        case measure =>
          have h1 : posOf (L.map LK.g ++ [e]) (nx r.g) = j + 1 := posOf_is (nodup_turn HND.out) HNX.out
          have h2 := HPU.out
          simp only [blkOf, h1, h2]
          omega
      · gi_wp2
        refine bodyPost_ret (results_none rfl _ _ _) rfl ?_
        exact ⟨_, rfl, .inr ⟨_, hJx'⟩⟩
    · have hjq : j = L.length := by omega
      have hue : u = e := by
        rw [hjq, List.getElem?_append_right (by simp)] at hu
        simp at hu
        exact hu.symm
      subst hue
      have hcmp := neq_same u wr
      have HJ : Hid (J L wr) := hide (by rw [hjq, List.take_length] at hJj; exact hJj)
      clear hu hk hJj hlt hj
      gi_wp2
      go_end0
      exact ⟨_, rfl, .inl ⟨_, rfl, HJ.out⟩⟩
end Go.Proofs.Ytihhbpadafgkoaa
