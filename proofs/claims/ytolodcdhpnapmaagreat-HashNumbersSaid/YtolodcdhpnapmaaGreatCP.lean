/-
  A row of the call's own, cut and written over. No program is named here.
-/
import Derived.Test.YtolodcdhpnapmaaGreatAP3
import Derived.Test.YtolodcdhpnapmaaGreatRL
import Derived.Laws.CopyOwn
namespace Go.Proofs.YtolodcdhpnapmaaGreat
open Go.RowKit
set_option linter.unusedVariables false

theorem keptTrans {F : Nat → Prop} {a b c : World} (h : Kept F a b) (k : Kept F b c) : Kept F a c :=
  ⟨k.os.trans h.os, k.tape.trans h.tape, k.output.trans h.output, Nat.le_trans h.size k.size, fun i hi hF => (k.block i (Nat.lt_of_lt_of_le hi h.size) hF).trans (h.block i hi hF)⟩
theorem owns_kept {F : Nat → Prop} {w w' : World} {e : TypeId} {sz n : Nat} {v : Value} {xs : List Value} (h : w.ownsRow 0 e sz v n xs) (hk : Kept F w w') (hF : ∀ g, v.ownBlock = some g → F g) : w'.ownsRow 0 e sz v n xs := by
  refine ⟨h.1, ?_⟩
  rcases h.2 with hn | ⟨g, cap, cur, rfl, h1, h2, rest⟩
  · exact .inl hn
  · exact .inr ⟨g, cap, cur, rfl, h1, (hk.block g (Array.getElem?_eq_some_iff.1 h2).1 (hF g rfl)).trans h2, rest⟩
theorem own_add (g o j : Nat) : (⟨g, o, none⟩ : Addr).add j = ⟨g, o + j, none⟩ := by
  unfold Addr.add
  split
  · subst_vars; rfl
  · rfl
theorem take_splice {α : Type} (L : List α) (off n : Nat) (cs : List α) (h : off + cs.length ≤ n) (hn : n ≤ L.length) : (L.take off ++ (cs ++ L.drop (off + cs.length))).take n = splice (L.take n) off cs := by
  unfold splice
  apply List.ext_getElem?
  intro i
  simp only [List.getElem?_take, List.getElem?_append, List.length_take, List.getElem?_drop]
  have e1 : min off L.length = off := by omega
  have e2 : min off (min n L.length) = off := by omega
  simp only [e1, e2]
  by_cases h1 : i < n
  · by_cases h2 : i < off
    · simp [h1, h2]
    · by_cases h3 : i - off < cs.length
      · simp [h1, h2, h3]
      · have e3 : off + cs.length + (i - off - cs.length) = i := by omega
        simp [h1, h2, h3, e3]
  · have h2 : ¬ i < off := by omega
    have h3 : ¬ i - off < cs.length := by omega
    have e3 : off + cs.length + (i - off - cs.length) = i := by omega
    simp [h1, h2, h3, e3]
section
variable {P : Program} {w : World} {t e : TypeId} {v : Value} {n : Nat} {xs : List Value}
theorem Rd.of_own {sz c : Nat} {A : Option Addr} (h : w.ownsRow 0 e sz (.slice A n c) n xs) : Rd w w.heap.size sz A n xs := by
  rcases h.2 with ⟨h0, h1⟩ | ⟨g, cap, cur, h0, _, hg, _⟩
  · injection h0 with h0
    subst h0
    subst h1
    have : xs = [] := List.eq_nil_of_length_eq_zero (by have := h.1; omega)
    subst this
    exact Rd.nil
  · injection h0 with h0 _ h2
    subst h0
    subst h2
    exact (Rd.of_owns h).mono (at_lt hg)
/-- The part of a row from off on, k elements of it. -/
theorem cut_part {A : Option Addr} {c : Nat} (ht : P.underlying t = some (.slice e)) (hs : (P.info? e).map (·.size) = some 1) (h : w.ownsRow 0 e 1 (.slice A n c) n xs) (off k : Nat) (hok : off + k ≤ n) :
    ∃ A2 c2, (∀ W, (Instr.slice t (.slice A n c) (some (.int .i64 off)) (some (.int .i64 ((off : Int) + (k : Int)))) none).run P W = .ok (.slice A2 k c2) W) ∧ (A2 = none → k = 0) ∧ (0 < k → ∃ g, A = some ⟨g, 0, none⟩ ∧ A2 = some ⟨g, off, none⟩) := by
  obtain ⟨i, hi, hsi⟩ : ∃ i, P.info? e = some i ∧ i.size = 1 := by
    cases hq : P.info? e with
    | none => rw [hq] at hs; cases hs
    | some i => rw [hq] at hs; exact ⟨i, rfl, by simpa using hs⟩
  have hcap : n ≤ c := by
    rcases h.2 with ⟨h0, h1⟩ | ⟨g, cap, cur, h0, _, _, hnc, _⟩
    · injection h0 with _ _ h2; omega
    · injection h0 with _ _ h2; omega
  refine ⟨if c = off then A else A.map (·.add (off * 1)), c - off, fun W => ?_, fun h0 => ?_, fun hk => ?_⟩
  · have hht : P.underlying t = some (.slice (P.elem t)) := by simp [Program.elem, ht]
    rw [run_slice_lh (P := P) W t A n c hht .i64 .i64 off ((off : Int) + k) (by omega) (by omega) (by omega)]
    have : P.elem t = e := by simp [Program.elem, ht]
    rw [this]
    simp only [sizeOf, typeInfo]
    simp [hi, hsi, Result.andThen, sliced]
    omega
  · rcases h.2 with ⟨h0, h1⟩ | ⟨g, cap, cur, h1, _, _, hnc, _⟩
    · omega
    · injection h1 with h1
      subst h1
      split at h0 <;> simp at h0
  · rcases h.2 with ⟨h0, h1⟩ | ⟨g, cap, cur, h1, _, _, hnc, _⟩
    · omega
    · have hcc : c = cap := by injection h1
      injection h1 with h1
      subst h1
      refine ⟨g, rfl, ?_⟩
      rw [if_neg (by omega), Option.map_some, own_add]
      simp
theorem cut_rd {A A2 : Option Addr} {c : Nat} (h : w.ownsRow 0 e 1 (.slice A n c) n xs) (off k : Nat) (hok : off + k ≤ n) (h2 : 0 < k → ∃ g, A = some ⟨g, 0, none⟩ ∧ A2 = some ⟨g, off, none⟩) : Rd w w.heap.size 1 A2 k ((xs.drop off).take k) := by
  have hl := h.1
  refine ⟨by simp; omega, fun hk => ?_⟩
  obtain ⟨g, rfl, rfl⟩ := h2 hk
  have hr := Rd.of_own h
  obtain ⟨ad, e1, hlt, hc⟩ := hr.2 (by omega)
  cases e1
  refine ⟨_, rfl, hlt, fun j u hu => ?_⟩
  have hj : j < k := by
    have := (List.getElem?_eq_some_iff.1 hu).1
    simp at this; omega
  rw [List.getElem?_take_of_lt hj, List.getElem?_drop] at hu
  have := hc (off + j) u hu
  rw [own_add] at this ⊢
  rwa [Nat.zero_add] at this
/-- The rest of a row from off on. -/
theorem cut_rest {A : Option Addr} {c : Nat} (ht : P.underlying t = some (.slice e)) (hs : (P.info? e).map (·.size) = some 1) (h : w.ownsRow 0 e 1 (.slice A n c) n xs) (off : Nat) (hok : off ≤ n) :
    ∃ A2 c2, (∀ W, (Instr.slice t (.slice A n c) (some (.int .i64 off)) none none).run P W = .ok (.slice A2 (n - off) c2) W) ∧ (0 < n - off → ∃ g, A = some ⟨g, 0, none⟩ ∧ A2 = some ⟨g, off, none⟩) := by
  obtain ⟨i, hi, hsi⟩ : ∃ i, P.info? e = some i ∧ i.size = 1 := by
    cases hq : P.info? e with
    | none => rw [hq] at hs; cases hs
    | some i => rw [hq] at hs; exact ⟨i, rfl, by simpa using hs⟩
  have hcap : n ≤ c := by
    rcases h.2 with ⟨h0, h1⟩ | ⟨g, cap, cur, h0, _, _, hnc, _⟩
    · injection h0 with _ _ h2; omega
    · injection h0 with _ _ h2; omega
  refine ⟨if c = off then A else A.map (·.add (off * 1)), c - off, fun W => ?_, fun hk => ?_⟩
  · have hht : P.underlying t = some (.slice (P.elem t)) := by simp [Program.elem, ht]
    rw [run_slice_l (P := P) W t A n c hht .i64 off (by omega) (by omega)]
    have : P.elem t = e := by simp [Program.elem, ht]
    rw [this]
    simp only [sizeOf, typeInfo]
    simp [hi, hsi, Result.andThen, sliced]
  · rcases h.2 with ⟨h0, h1⟩ | ⟨g, cap, cur, h1, _, _, hnc, _⟩
    · omega
    · have hcc : c = cap := by injection h1
      injection h1 with h1
      subst h1
      refine ⟨g, rfl, ?_⟩
      rw [if_neg (by omega), Option.map_some, own_add]
      simp
theorem stop_copy {P : Program} {ops : Array Oper} {Q : Exit → Act → World → Prop} {rest : List Oper} {a : Act} {w : World} {dst : Option Tmp} {args : Array Operand} {tys : Array TypeId} {ty : TypeId} {pos : String} {aft : Array Edge} {gd : Option (Nat × Bool)}
    (h : Hid (wpList P ops Q ({ dst := dst, op := .call { callee := .builtin .copy, args := args, argTypes := tys }, type := ty, pos := pos, after := aft, guard := gd } :: rest) a w)) : wpList P ops Q ({ dst := dst, op := .call { callee := .builtin .copy, args := args, argTypes := tys }, type := ty, pos := pos, after := aft, guard := gd } :: rest) a w := h
/-- Elements are copied over a part of a row. -/
theorem wpList_copy_owns {ops : Array Oper} {rest : List Oper} {o : Oper} {a : Act} {Q : Exit → Act → World → Prop} (hgd : o.guard = none) (d s : Operand) (dT sT : TypeId)
    (ho : o.op = .call { callee := .builtin .copy, args := #[d, s], argTypes := #[dT, sT] }) (hu : P.underlying dT = some (.slice e)) (hsz : (P.info? e).map (·.size) = some 1)
    (A : Option Addr) (c : Nat) (h : w.ownsRow 0 e 1 (.slice A n c) n xs) (off : Nat) (dp : Option Addr) (dLen dCap : Nat) (hd : a.eval d = .slice dp dLen dCap) (hdp : 0 < dLen → ∃ g, A = some ⟨g, 0, none⟩ ∧ dp = some ⟨g, off, none⟩)
    (B : Nat) (sp : Option Addr) (k sCap : Nat) (hs : a.eval s = .slice sp k sCap) (news : List Value) (hr : Rd w B 1 sp k news) (h1 : ∀ u ∈ news, u.oneCell' = true) (hle : k ≤ dLen) (hfit : off + k ≤ n)
    (hK : ∀ w', w'.ownsRow 0 e 1 (.slice A n c) n (splice xs off news) → w.grownBy w' (Value.slice A n c).ownBlock → w'.heap.size = w.heap.size → wpList P ops Q rest (a.put o.dst (goInt k)) w') : wpList P ops Q (o :: rest) a w := by
  have hnl : news.length = k := by have := hr.1; omega
  rcases Nat.eq_zero_or_pos k with h0 | h0
  · subst h0
    obtain rfl : news = [] := List.eq_nil_of_length_eq_zero hnl
    refine wpList_copy_nothing hgd d s dT sT ho e hu hsz dp sp dLen dCap 0 sCap hd hs (by simp) ?_
    exact hK w (by simpa [splice] using h) ⟨rfl, rfl, rfl, Nat.le_refl _, fun _ _ _ => rfl⟩ rfl
  · obtain ⟨g, rfl, rfl⟩ := hdp (by omega)
    obtain ⟨ad, rfl, _, hc⟩ := hr.2 h0
    rcases h.2 with ⟨h2, _⟩ | ⟨g', cap, cur, h2, hb, hg, hnc, hcm, hcs, htake⟩
    · cases h2
    · cases h2
      have hxl := h.1
      refine wpList_copy_own hgd d s dT sT ho e hu hsz g off dLen dCap ad k sCap hd hs cur e hg news (by rw [hnl]; exact (Nat.min_eq_left hle).symm) hc (by omega) h1 ?_
      rw [hnl]
      refine hK _ ⟨by rw [length_splice xs off news (by rw [hxl, hnl]; omega)]; exact hxl, .inr ⟨g, c, _, rfl, hb, setRow_heap w g _ _ e _ hg, hnc, hcm, ?_, ?_⟩⟩ ⟨rfl, rfl, rfl, by simp [World.setRow], fun j _ hj => setRow_other w g j _ (fun e => hj (by rw [e]; rfl))⟩ (by simp [World.setRow])
      · simp only [List.size_toArray, List.length_append, List.length_take, List.length_drop, Array.length_toList, hnl]
        omega
      · simp only [Nat.mul_one] at htake ⊢
        rw [← htake]
        have e1 := take_splice cur.toList off n news (by omega) (by rw [Array.length_toList]; omega)
        rw [hnl] at e1
        exact e1
end
end Go.Proofs.YtolodcdhpnapmaaGreat
