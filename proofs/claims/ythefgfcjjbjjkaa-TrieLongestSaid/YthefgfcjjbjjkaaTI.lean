/-
  A copy of a key, whose bits that don't count are 0.
-/
import Derived.Test.YthefgfcjjbjjkaaTH
import Derived.Test.YthefgfcjjbjjkaaCP
import Derived.Laws.CopyOwn
import Derived.Test.YthefgfcjjbjjkaaRTW
import Derived.Test.YthefgfcjjbjjkaaAP4
namespace Go.Proofs.Ythefgfcjjbjjkaa
open Go.RowKit
set_option linter.unusedVariables false
set_option linter.unusedSimpArgs false
attribute [local go_sem] Oper.semAt_some

theorem wpListIn_copy_own {F : Fence} {m : Nat} {P : Program} {w : World} {ops : Array Oper} {rest : List Oper} {o : Oper} {a : Act} {Q : Exit → Act → World → Prop} (hgd : o.guard = none) (d s : Operand) (dT sT : TypeId)
    (ho : o.op = .call { callee := .builtin .copy, args := #[d, s], argTypes := #[dT, sT] }) (elem : TypeId) (hu : P.underlying dT = some (.slice elem)) (hsz : (P.info? elem).map (·.size) = some 1)
    (g off dLen dCap : Nat) (ad : Addr) (sLen sCap : Nat) (hd : a.eval d = .slice (some ⟨g, off, none⟩) dLen dCap) (hs : a.eval s = .slice (some ad) sLen sCap)
    (cur : Array Value) (t : TypeId) (hg : w.heap[g]? = some (.cells cur t (0, 0))) (cs : List Value) (hn : cs.length = Nat.min sLen dLen)
    (hsrc : ∀ j v, cs[j]? = some v → w.cell? (ad.add j) = some v) (hfit : off + cs.length ≤ cur.size) (h1 : ∀ v ∈ cs, v.oneCell' = true)
    (h : wpListIn F m P ops Q rest (a.put o.dst (goInt cs.length)) (w.setRow g (cur.toList.take off ++ (cs ++ cur.toList.drop (off + cs.length))).toArray)) : wpListIn F m P ops Q (o :: rest) a w := by
  refine wpListIn_plain hgd fun K hK => ?_
  have hrun := run_copy_row (P := P) w dT sT o.type elem g off dLen dCap ad sLen sCap cur t cs hu hsz hg hn hsrc hfit h1
  unfold Oper.wpIn
  refine ⟨?_, ?_⟩
  · simp [Oper.about, ho, resolve, Target.leads, Sem.run_pure]
  · rw [Oper.semAt_plain F _ _ (by rw [ho]; intro c hc'; cases hc')]
    simp [execOp, ho, resolve, invoke, builtin, hd, hs, hrun, Result.andThen]
    exact hK _ _ h
/-- Byte i of the copy, behind j bits. -/
def plN (k : List Int) : Nat → Nat → Nat
  | 0, i => if i < 4 then byN k i else 0
  | j + 1, i => if i = 4 + j / 8 then plN k j i ||| (if btN k j then 1 else 0) * 2 ^ (7 - j % 8) else plN k j i
def plL (k : List Int) (n j : Nat) : List Int := (List.range n).map fun i => (plN k j i : Int)
theorem plL_len (k : List Int) (n j : Nat) : (plL k n j).length = n := by simp [plL]
theorem plN_lt {k : List Int} (hk : ∀ b ∈ k, IsByte b) : ∀ j i, plN k j i < 256
  | 0, i => by unfold plN; split; exact byN_lt hk i; omega
  | j + 1, i => by
    unfold plN
    split
    · refine Nat.or_lt_two_pow (n := 8) (plN_lt hk j i) ?_
      have : 2 ^ (7 - j % 8) ≤ 2 ^ 7 := Nat.pow_le_pow_right (by omega) (by omega)
      split <;> omega
    · exact plN_lt hk j i
theorem plN_head (k : List Int) (j i : Nat) (h : i < 4) : plN k j i = byN k i := by
  induction j with
  | zero => simp [plN, h]
  | succ j ih => unfold plN; rw [if_neg (by omega), ih]
theorem plN_bit (k : List Int) (j i s : Nat) (h : 4 ≤ i) (hs : s < 8) : (plN k j i).testBit s = (decide (8 * (i - 4) + (7 - s) < j) && btN k (8 * (i - 4) + (7 - s))) := by
  induction j with
  | zero => simp [plN, show ¬ i < 4 by omega]
  | succ j ih =>
    unfold plN
    split
    · rename_i e
      rw [Nat.testBit_or, ih]
      by_cases hj : 8 * (i - 4) + (7 - s) = j
      · have e2 : 7 - j % 8 = s := by omega
        rw [e2, hj]
        have h3 : ((if btN k j then 1 else 0) * 2 ^ s).testBit s = btN k j := by
          cases btN k j <;> simp [Nat.testBit_two_pow]
        rw [h3]
        simp
      · have h3 : ((if btN k j then 1 else 0) * 2 ^ (7 - j % 8)).testBit s = false := by
          cases btN k j
          · simp
          · simp only [if_true, Nat.one_mul, Nat.testBit_two_pow]
            simp only [decide_eq_false_iff_not]
            omega
        rw [h3, Bool.or_false]
        congr 1
        simp only [decide_eq_decide]
        omega
    · rename_i e
      rw [ih]
      congr 1
      simp only [decide_eq_decide]
      omega
theorem byN_plL (k : List Int) (n j i : Nat) (hi : i < n) : byN (plL k n j) i = plN k j i := by simp [byN, plL, hi]
theorem plL_byte {k : List Int} (hk : ∀ b ∈ k, IsByte b) (n j : Nat) : ∀ b ∈ plL k n j, IsByte b := by
  intro b hb
  simp only [plL, List.mem_map, List.mem_range] at hb
  obtain ⟨i, _, rfl⟩ := hb
  have := plN_lt hk j i
  exact ⟨by omega, by omega⟩
theorem btN_test (k : List Int) (i : Nat) : btN k i = (byN k (4 + i / 8)).testBit (7 - i % 8) := by
  unfold btN
  rw [Nat.testBit_eq_decide_div_mod_eq]
  rfl
theorem bcN_plL {k : List Int} {n j : Nat} (hn : 4 ≤ n) : bcN (plL k n j) = bcN k := by
  unfold bcN
  rw [byN_plL _ _ _ _ (by omega), byN_plL _ _ _ _ (by omega), byN_plL _ _ _ _ (by omega), byN_plL _ _ _ _ (by omega), plN_head _ _ _ (by omega), plN_head _ _ _ (by omega), plN_head _ _ _ (by omega), plN_head _ _ _ (by omega)]
/-- The copy has the same bits. -/
theorem kb_plL {k : List Int} {n : Nat} (hn : 4 ≤ n) (hr : bcN k ≤ 8 * (n - 4)) : kb (plL k n (bcN k)) = kb k := by
  unfold kb
  rw [bcN_plL hn]
  refine List.map_congr_left fun i hi => ?_
  have hi := List.mem_range.1 hi
  rw [btN_test, byN_plL _ _ _ _ (by omega), plN_bit _ _ _ _ (by omega) (by omega)]
  rw [show 8 * (4 + i / 8 - 4) + (7 - (7 - i % 8)) = i by omega]
  simp [hi]
theorem plL_at (k : List Int) {n j i : Nat} (hi : i < n) : (plL k n j)[i]? = some (plN k j i : Int) := by simp [plL, hi]
theorem plL_set {k : List Int} {n j : Nat} (h : 4 + j / 8 < n) : (plL k n j).set (4 + j / 8) ((plN k j (4 + j / 8) ||| (if btN k j then 1 else 0) * 2 ^ (7 - j % 8) : Nat) : Int) = plL k n (j + 1) := by
  apply List.ext_getElem?
  intro i
  by_cases hi : i < n
  · rw [plL_at k hi]
    by_cases e : 4 + j / 8 = i
    · subst e
      rw [List.getElem?_set_self (by rw [plL_len]; exact h)]
      simp [plN]
    · rw [List.getElem?_set_ne e, plL_at k hi]
      simp [plN, show ¬ i = 4 + j / 8 by omega]
  · rw [List.getElem?_eq_none (by rw [List.length_set, plL_len]; omega), List.getElem?_eq_none (by rw [plL_len]; omega)]
theorem head_cells {k : List Int} {n : Nat} (hk : ∀ b ∈ k, IsByte b) (hl : k.length = n) (hn : 4 ≤ n) : u8s (k.take 4) ++ u8s ((List.replicate n (0 : Int)).drop 4) = u8s (plL k n 0) := by
  unfold u8s
  rw [← List.map_append]
  congr 1
  apply List.ext_getElem?
  intro i
  by_cases hi : i < n
  · rw [plL_at k hi]
    by_cases h4 : i < 4
    · rw [List.getElem?_append_left (by simp; omega), List.getElem?_take_of_lt h4, List.getElem?_eq_getElem (by omega), (byN_at hk (List.getElem?_eq_getElem (by omega))).1]
      simp [plN, h4]
    · rw [List.getElem?_append_right (by simp; omega)]
      simp only [List.length_take, List.drop_replicate, List.getElem?_replicate, plN, if_neg h4]
      rw [if_pos (by omega)]
      rfl
  · rw [List.getElem?_eq_none (by simp; omega), List.getElem?_eq_none (by rw [plL_len]; omega)]
theorem copy_head (g n c B : Nat) (ad : Addr) (k : List Int) (W : World) (hk : ∀ b ∈ k, IsByte b) (hr : Rd W B 1 (some ad) n (u8s k)) (hn : 4 ≤ n) (hg : W.heap[g]? = some (.cells (u8s (List.replicate n 0)).toArray 5 (0, 0))) :
    ∃ W2, (Builtin.copy_ #[35, 35] 3 #[.slice (some ⟨g, 0, none⟩) 4 n, .slice (some ad) n c]).run Try.prog W = .ok (.int .i64 4) W2 ∧ W2.heap[g]? = some (.cells (u8s (plL k n 0)).toArray 5 (0, 0)) ∧ W.grownBy W2 (some g) ∧ W2.heap.size = W.heap.size := by
  have hl : k.length = n := by have := hr.1; simpa [u8s] using this
  obtain ⟨ad2, e, _, hc⟩ := hr.2 (by omega)
  injection e with e
  subst e
  have hl4 : (u8s (k.take 4)).length = 4 := by simp [u8s]; omega
  have := run_copy_row (P := Try.prog) W 35 35 3 5 g 0 4 n ad n c (u8s (List.replicate n 0)).toArray 5 (u8s (k.take 4)) Try.underlying35 u8size hg (by rw [hl4]; exact (Nat.min_eq_right hn).symm) (fun j v hv => hc j v (by
    have h4 : j < 4 := by have := (List.getElem?_eq_some_iff.1 hv).1; rwa [hl4] at this
    simp only [u8s, List.map_take] at hv ⊢
    rwa [List.getElem?_take_of_lt h4] at hv)) (by rw [hl4]; simp [u8s]; omega) (fun v hv => by unfold u8s at hv; obtain ⟨b, _, rfl⟩ := List.mem_map.1 hv; rfl)
  have hrow : (u8s (List.replicate n 0)).toArray.toList.take 0 ++ u8s (k.take 4) ++ (u8s (List.replicate n 0)).toArray.toList.drop (0 + (u8s (k.take 4)).length) = u8s (plL k n 0) := by
    rw [hl4, ← head_cells hk hl hn]
    simp [u8s]
  rw [hrow, hl4] at this
  exact ⟨_, this, setRow_heap W g _ _ _ _ hg, ⟨rfl, rfl, rfl, by simp [World.setRow], fun j _ hj => setRow_other W g j _ (fun e => hj (by rw [e]))⟩, by simp [World.setRow]⟩
def GP (X0 X1 : World) (L : Nat → Bool) (W : World) : Prop := W = if L 14 = true then X1 else X0
theorem nyet {ops : Array Oper} {L : Nat → Bool} (hcl : ∀ j oj, L j = true → ops[j]? = some oj → ∀ k, hangs oj k = true → L k = true) {i j : Nat} {oj : Oper} (hi : L i = false) (hj : ops[j]? = some oj) (hh : hangs oj i = true) : L j = false := by
  cases h : L j with
  | false => rfl
  | true => rw [hcl j oj h hj i hh] at hi; cases hi
theorem shl8_lt (z i : Nat) (hz : z < 2) : z * 2 ^ (7 - i % 8) < 256 := by
  have : 2 ^ (7 - i % 8) ≤ 2 ^ 7 := Nat.pow_le_pow_right (by omega) (by omega)
  have h2 : z * 2 ^ (7 - i % 8) ≤ 1 * 2 ^ 7 := Nat.mul_le_mul (by omega) this
  omega
theorem shl8 (z i : Nat) (hz : z < 2) : IntKind.u8.wrap ((z : Int) * 2 ^ min (7 - i % 8) 8) = ((z * 2 ^ (7 - i % 8) : Nat) : Int) := by
  have h := shl8_lt z i hz
  rw [show min (7 - i % 8) 8 = 7 - i % 8 by omega]
  have e : ((z : Int) * 2 ^ (7 - i % 8)) = ((z * 2 ^ (7 - i % 8) : Nat) : Int) := by simp
  rw [e, IntKind.wrap_u8]
  omega
set_option maxRecDepth 100000 in
set_option maxHeartbeats 2000000 in
theorem plain_any (A : Option Addr) (n c B : Nat) (k : List Int) (w : World) (hk : ∀ b ∈ k, IsByte b) (hr : Rd w B 1 A n (u8s k)) (hB : B ≤ w.heap.size) (hn : 4 ≤ n) (hc : n ≤ c) (hb : n ≤ 1000000) (hright : bcN k ≤ 8 * (n - 4)) :
    Calls Try.prog 67 #[.slice A n c] w fun e w' => ∃ g, e = .returned (.slice (some ⟨g, 0, none⟩) n n) ∧ w.heap.size ≤ g ∧ w'.heap[g]? = some (.cells (u8s (plL k n (bcN k))).toArray 5 (0, 0)) ∧ Below w.heap.size w w' := by
  obtain ⟨ad, _, rfl, _, _⟩ := hr.byte (show 0 < n by omega)
  have hz := zeros_made Try.underlying35 n (by omega) w
  refine (callsIn_wide (n := 3)).1 ?_
  refine callsIn_of_wp_marks Try.func67 rfl trivial ?_ rfl
  simp only [Try.ntmps67, List.size_toArray, List.length_cons, List.length_nil, Nat.reduceAdd, Nat.reduceSub, Array.replicate_succ, Array.replicate_zero, List.push_toArray, List.append_toArray, List.nil_append, List.cons_append]
  obtain ⟨q0, q1⟩ := two_boxes w (.cells (u8s (List.replicate n 0)).toArray 5) (.cells #[.slice (some ⟨w.heap.size, 0, none⟩) n n] 35)
  have hb2 := below2 w (.cells (u8s (List.replicate n 0)).toArray 5) (.cells #[.slice (some ⟨w.heap.size, 0, none⟩) n n] 35)
  obtain ⟨W2, hcp, hp0, hgr, hsz⟩ := copy_head w.heap.size n c B ad k _ hk (hr.below (hb2.mono hB)) hn q0
  have hbx : Boxed W2 (w.heap.size + 1) 35 (.slice (some ⟨w.heap.size, 0, none⟩) n n) := blk_kept q1 hgr (by omega)
  have hb3 : Below w.heap.size w W2 := hb2.grown hgr (by simp; omega) (fun j e => by injection e with e; omega)
  have hsz2 : W2.heap.size = w.heap.size + 2 := by rw [hsz]; simp
  clear q0 q1 hgr
  have hr2 := hr.below (hb3.mono hB)
  gi_wp2_with fail
  refine ⟨trivial, (callsIn_wide.2 (bits_any _ _ _ _)).mono ?_⟩
  rintro e w' ⟨rfl, rfl⟩
  gi_wp2_with fail
  have hbk := Boxed.new W2 35 (.slice (some ad) n c)
  have hb4 := below1 W2 (.cells #[.slice (some ad) n c] 35)
  rw [hsz2] at hbk
  have hs3 : (W2.alloc (.cells #[.slice (some ad) n c] 35)).heap.size = w.heap.size + 3 := by simp [hsz2]
  have hi0 : Below w.heap.size w (W2.alloc (.cells #[.slice (some ad) n c] 35)) := hb3.trans (hb4.mono (by omega))
  have hi1 := (hb4.block _ (by omega : w.heap.size < W2.heap.size)).trans hp0
  have hi2 := hbx.alloc (.cells #[.slice (some ad) n c] 35)
  generalize hW3 : W2.alloc (.cells #[.slice (some ad) n c] 35) = W3 at hbk hb4 hs3 hi0 hi1 hi2 ⊢
  clear hW3 hp0 hbx hb4 hcp hz hr2 hb3
  have hle3 : w.heap.size ≤ W3.heap.size := by omega
  refine range_w (α := Nat × Bool) (t := none) (F := Fence.wide) (n := 3) rfl (by omega) (gf := 58) (lb := #[.pointer (some ⟨w.heap.size + 2, 0, none⟩)]) rfl trivial (enters_of Try.func58 (by kernel_rfl) rfl)
    (bits_iter none (3 - 1) (w.heap.size + 2) B n c (some ad) k W3 hk hn hc hb hright (by omega) (by omega) ⟨hbk.cell, hr.below (hi0.mono hB)⟩) (Below.refl _ _)
    (fun h1 h2 => Nat.le_trans h1 h2) (fun X l o o' _ _ _ _ => by simp) (fun _ => rfl)
    (fun pre V => Below w.heap.size w V ∧ V.heap[w.heap.size]? = some (.cells (u8s (plL k n pre.length)).toArray 5 (0, 0)) ∧ Boxed V (w.heap.size + 1) 35 (.slice (some ⟨w.heap.size, 0, none⟩) n n) ∧ Boxed V (w.heap.size + 2) 35 (.slice (some ad) n c))
    (fun _ _ => False)
    ?_ (fun _ _ _ h _ => h) (fun s V hs h => ⟨h.2.2.2.cell, hr.below (h.1.mono hB)⟩) (fun s X Y h hst => h) ⟨hi0, hi1, hi2, hbk⟩ ?round ?done (fun _ _ _ _ h => h.elim)
  · rintro s X Y ⟨h1, h2, h3, h4⟩ hst
    exact ⟨hst.below hle3 (Nat.le_refl _) h1, hst.blk (by decide) h2, hst.blk (by decide) h3, hst.blk (by decide) h4⟩
  case round =>
    rintro lq pre x V hle hloop hws ⟨h1, h2, h3, h4⟩ ⟨i, hi, hpre, rfl⟩
    have hlen : pre.length = i := by rw [hpre]; simp [els]; omega
    rw [hlen] at h2
    have H1 := hide h1
    have H2 := hide h2
    have H3 := hide h3
    have H4 := hide h4
    have HP := hide hpre
    have HLE := hide hlen
    clear h1 h2 h3 h4 hloop hpre hlen hr
    simp only [encB]
    obtain ⟨z, hzz⟩ : ∃ z : Nat, z = if btN k i then 1 else 0 := ⟨_, rfl⟩
    have hbz : z < 2 := by rw [hzz]; split <;> omega
    rw [show (if btN k i = true then (1 : Int) else 0) = (z : Int) by rw [hzz]; split <;> rfl]
    have HZZ := hide hzz
    clear hzz
    gi_wp2
    refine ⟨KeepsFrom.refl _ _, Nat.le_refl _, ⟨H1.out, by rw [HLE.out]; exact H2.out, H3.out, H4.out⟩, fun W4 hst => ?_⟩
    have hk1 := hst.below hle3 (Nat.le_refl _) H1.out
    have hk2 := hst.same _ _ H2.out (.inr rfl)
    have hk3 := hst.boxed H3.out
    have hk4 := hst.boxed H4.out
    have c3 := hk3.cell
    have hbn : 4 + i / 8 < n := by omega
    have c2 : W4.cell? ⟨w.heap.size, 4 + i / 8, none⟩ = some (.int .u8 (plN k i (4 + i / 8) : Nat)) := by
      rw [blk_cell hk2]
      simp [u8s, plL_at k hbn]
    have f2 : W4.frozen? ⟨w.heap.size, 4 + i / 8, none⟩ = false := Joins.unfrozen_of_block hk2 _
    have hpl := plN_lt hk i (4 + i / 8)
    have hib : i < 8000000 := by omega
    have HK1 := hide hk1
    have HK2 := hide hk2
    have HK3 := hide hk3
    have HK4 := hide hk4
    generalize hpn : plN k i (4 + i / 8) = pn at *
    have HPN := hide hpn
    have d3 : W4.drew.cell? ⟨w.heap.size + 1, 0, none⟩ = some (.slice (some ⟨w.heap.size, 0, none⟩) n n) := c3
    have d2 : W4.drew.cell? ⟨w.heap.size, 4 + i / 8, none⟩ = some (.int .u8 pn) := c2
    have e2 : W4.drew.frozen? ⟨w.heap.size, 4 + i / 8, none⟩ = false := f2
    have HD3 := hide d3
    have HD2 := hide d2
    have HE2 := hide e2
    have HSH : Hid (IntKind.u8.wrap ((z : Int) * 2 ^ min (7 - i % 8) 8) = ((z * 2 ^ (7 - i % 8) : Nat) : Int)) := hide (shl8 z i hbz)
    have HOR : Hid (bits .or .u8 (pn : Int) ((z * 2 ^ (7 - i % 8) : Nat) : Int) = ((pn ||| z * 2 ^ (7 - i % 8) : Nat) : Int)) := hide (u8_or_nat _ _ hpl (shl8_lt z i hbz))
    clear hk1 hk2 hk3 hk4 hst hpn d3 d2 e2 c2 c3 f2
    gi_wp2
    refine wpIn_static2 (fun _ => trivial) (by kernel_rfl) (fun i' => ([.slice (some ⟨w.heap.size, 0, none⟩) n n, .int .i64 i, .int .i64 ((i / 8 : Nat) : Int), .int .i64 ((4 + i / 8 : Nat) : Int), .pointer (some ⟨w.heap.size, 4 + i / 8, none⟩), .int .u8 pn, .int .i64 z, .int .u8 z, .int .i64 i, .int .i64 ((i % 8 : Nat) : Int), .int .i64 ((7 - i % 8 : Nat) : Int), .int .u8 ((z * 2 ^ (7 - i % 8) : Nat) : Int), .int .u8 ((pn ||| z * 2 ^ (7 - i % 8) : Nat) : Int), .pointer (some ⟨w.heap.size, 4 + i / 8, none⟩), undef] : List Value).getD i' undef) (GP W4.drew (W4.drew.setCell ⟨w.heap.size, 4 + i / 8, none⟩ (.int .u8 ((pn ||| z * 2 ^ (7 - i % 8) : Nat) : Int)))) (by decide +kernel) (by decide +kernel) (by decide +kernel) (by kernel_rfl) ?_ (by unfold GP; rfl) ?_ ?_
    · intro i' o ho hd
      have hi' : i' < 15 := (Array.getElem?_eq_some_iff.1 ho).1
      have hi2 : i' = 0 ∨ i' = 1 ∨ i' = 2 ∨ i' = 3 ∨ i' = 4 ∨ i' = 5 ∨ i' = 6 ∨ i' = 7 ∨ i' = 8 ∨ i' = 9 ∨ i' = 10 ∨ i' = 11 ∨ i' = 12 ∨ i' = 13 ∨ i' = 14 := by omega
      rcases hi2 with rfl | rfl | rfl | rfl | rfl | rfl | rfl | rfl | rfl | rfl | rfl | rfl | rfl | rfl | rfl <;> first | rfl | (cases ho; cases hd)
    · intro i' o ho LL a W3 hLi hG hold hh hcl hdone
      have hi' : i' < 15 := (Array.getElem?_eq_some_iff.1 ho).1
      have hi2 : i' = 0 ∨ i' = 1 ∨ i' = 2 ∨ i' = 3 ∨ i' = 4 ∨ i' = 5 ∨ i' = 6 ∨ i' = 7 ∨ i' = 8 ∨ i' = 9 ∨ i' = 10 ∨ i' = 11 ∨ i' = 12 ∨ i' = 13 ∨ i' = 14 := by omega
      rcases hi2 with rfl | rfl | rfl | rfl | rfl | rfl | rfl | rfl | rfl | rfl | rfl | rfl | rfl | rfl | rfl
      · cases ho
        have n14 : LL 14 = false := nyet (j := 14) hcl hLi rfl (by decide)
        have hW : W3 = W4.drew := by unfold GP at hG; rw [n14] at hG; simpa using hG
        subst hW
        have e0 : a.eval (.tmp 3) = .pointer (some ⟨w.heap.size + 1, 0, none⟩) := hold 3 (by kernel_rfl)
        have x0 := HD3.out
        refine static2_told W4.drew ?_ (by unfold GP; simp [n14])
        generalize a.eval = ev at e0 ⊢
        simp [Oper.semAt_some, execOp, go_sem, e0, x0]
      · cases ho
        have n14 : LL 14 = false := nyet (j := 14) hcl hLi rfl (by decide)
        have hW : W3 = W4.drew := by unfold GP at hG; rw [n14] at hG; simpa using hG
        subst hW
        have e0 : a.eval (.tmp 4) = .int .i64 i := hold 4 (by kernel_rfl)
        refine static2_told W4.drew ?_ (by unfold GP; simp [n14])
        generalize a.eval = ev at e0 ⊢
        simp [Oper.semAt_some, execOp, go_sem, e0]
      · cases ho
        have n14 : LL 14 = false := nyet (j := 14) hcl hLi rfl (by decide)
        have hW : W3 = W4.drew := by unfold GP at hG; rw [n14] at hG; simpa using hG
        subst hW
        have e0 : a.eval (.tmp 18) = .int .i64 i := hh 1 rfl
        refine static2_told W4.drew ?_ (by unfold GP; simp [n14])
        have ec : a.eval (.const (.int .i64 8)) = .int .i64 8 := rfl
        generalize a.eval = ev at e0 ec ⊢
        simp [Oper.semAt_some, execOp, go_sem, e0, ec]
        exact IntWalk.i64_in _ (by omega)
      · cases ho
        have n14 : LL 14 = false := nyet (j := 14) hcl hLi rfl (by decide)
        have hW : W3 = W4.drew := by unfold GP at hG; rw [n14] at hG; simpa using hG
        subst hW
        have e0 : a.eval (.tmp 19) = .int .i64 ((i / 8 : Nat) : Int) := hh 2 rfl
        refine static2_told W4.drew ?_ (by unfold GP; simp [n14])
        have ec : a.eval (.const (.int .i64 4)) = .int .i64 4 := rfl
        generalize a.eval = ev at e0 ec ⊢
        simp [Oper.semAt_some, execOp, go_sem, e0, ec]
        exact IntWalk.i64_in _ (by omega)
      · cases ho
        have n14 : LL 14 = false := nyet (j := 14) hcl hLi rfl (by decide)
        have hW : W3 = W4.drew := by unfold GP at hG; rw [n14] at hG; simpa using hG
        subst hW
        have e0 : a.eval (.tmp 17) = .slice (some ⟨w.heap.size, 0, none⟩) n n := hh 0 rfl
        have e1 : a.eval (.tmp 20) = .int .i64 ((4 + i / 8 : Nat) : Int) := hh 3 rfl
        refine static2_told W4.drew ?_ (by unfold GP; simp [n14])
        generalize a.eval = ev at e0 e1 ⊢
        simp [Oper.semAt_some, execOp, go_sem, e0, e1]
        rw [if_pos (by omega), show ((4 : Int) + (i : Int) / 8).toNat = 4 + i / 8 by omega]
      · cases ho
        have n14 : LL 14 = false := nyet (j := 14) hcl hLi rfl (by decide)
        have hW : W3 = W4.drew := by unfold GP at hG; rw [n14] at hG; simpa using hG
        subst hW
        have e0 : a.eval (.tmp 21) = .pointer (some ⟨w.heap.size, 4 + i / 8, none⟩) := hh 4 rfl
        have x0 := HD2.out
        refine static2_told W4.drew ?_ (by unfold GP; simp [n14])
        generalize a.eval = ev at e0 ⊢
        simp [Oper.semAt_some, execOp, go_sem, e0, x0]
      · cases ho
        have n14 : LL 14 = false := nyet (j := 14) hcl hLi rfl (by decide)
        have hW : W3 = W4.drew := by unfold GP at hG; rw [n14] at hG; simpa using hG
        subst hW
        have e0 : a.eval (.tmp 5) = .int .i64 z := hold 5 (by kernel_rfl)
        refine static2_told W4.drew ?_ (by unfold GP; simp [n14])
        generalize a.eval = ev at e0 ⊢
        simp [Oper.semAt_some, execOp, go_sem, e0]
      · cases ho
        have n14 : LL 14 = false := nyet (j := 14) hcl hLi rfl (by decide)
        have hW : W3 = W4.drew := by unfold GP at hG; rw [n14] at hG; simpa using hG
        subst hW
        have e0 : a.eval (.tmp 23) = .int .i64 z := hh 6 rfl
        refine static2_told W4.drew ?_ (by unfold GP; simp [n14])
        generalize a.eval = ev at e0 ⊢
        simp [Oper.semAt_some, execOp, go_sem, e0]
        rw [IntKind.wrap_u8]; omega
      · cases ho
        have n14 : LL 14 = false := nyet (j := 14) hcl hLi rfl (by decide)
        have hW : W3 = W4.drew := by unfold GP at hG; rw [n14] at hG; simpa using hG
        subst hW
        have e0 : a.eval (.tmp 4) = .int .i64 i := hold 4 (by kernel_rfl)
        refine static2_told W4.drew ?_ (by unfold GP; simp [n14])
        generalize a.eval = ev at e0 ⊢
        simp [Oper.semAt_some, execOp, go_sem, e0]
      · cases ho
        have n14 : LL 14 = false := nyet (j := 14) hcl hLi rfl (by decide)
        have hW : W3 = W4.drew := by unfold GP at hG; rw [n14] at hG; simpa using hG
        subst hW
        have e0 : a.eval (.tmp 25) = .int .i64 i := hh 8 rfl
        refine static2_told W4.drew ?_ (by unfold GP; simp [n14])
        have ec : a.eval (.const (.int .i64 8)) = .int .i64 8 := rfl
        generalize a.eval = ev at e0 ec ⊢
        simp [Oper.semAt_some, execOp, go_sem, e0, ec]
        exact Int.tmod_eq_emod_of_nonneg (by omega)
      · cases ho
        have n14 : LL 14 = false := nyet (j := 14) hcl hLi rfl (by decide)
        have hW : W3 = W4.drew := by unfold GP at hG; rw [n14] at hG; simpa using hG
        subst hW
        have e0 : a.eval (.tmp 26) = .int .i64 ((i % 8 : Nat) : Int) := hh 9 rfl
        refine static2_told W4.drew ?_ (by unfold GP; simp [n14])
        have ec : a.eval (.const (.int .i64 7)) = .int .i64 7 := rfl
        generalize a.eval = ev at e0 ec ⊢
        simp [Oper.semAt_some, execOp, go_sem, e0, ec]
        rw [IntWalk.i64_in _ (by omega)]; omega
      · cases ho
        have n14 : LL 14 = false := nyet (j := 14) hcl hLi rfl (by decide)
        have hW : W3 = W4.drew := by unfold GP at hG; rw [n14] at hG; simpa using hG
        subst hW
        have e0 : a.eval (.tmp 24) = .int .u8 z := hh 7 rfl
        have e1 : a.eval (.tmp 27) = .int .i64 ((7 - i % 8 : Nat) : Int) := hh 10 rfl
        refine static2_told W4.drew ?_ (by unfold GP; simp [n14])
        generalize a.eval = ev at e0 e1 ⊢
        simp [Oper.semAt_some, execOp, go_sem, e0, e1]
        have hs := HSH.out
        rw [show min (7 - i % 8) 8 = 7 - i % 8 by omega] at hs
        simpa using hs
      · cases ho
        have n14 : LL 14 = false := nyet (j := 14) hcl hLi rfl (by decide)
        have hW : W3 = W4.drew := by unfold GP at hG; rw [n14] at hG; simpa using hG
        subst hW
        have e0 : a.eval (.tmp 22) = .int .u8 pn := hh 5 rfl
        have e1 : a.eval (.tmp 28) = .int .u8 ((z * 2 ^ (7 - i % 8) : Nat) : Int) := hh 11 rfl
        refine static2_told W4.drew ?_ (by unfold GP; simp [n14])
        generalize a.eval = ev at e0 e1 ⊢
        simp [Oper.semAt_some, execOp, go_sem, e0, e1]
        simpa using HOR.out
      · cases ho
        have n14 : LL 14 = false := nyet (j := 14) hcl hLi rfl (by decide)
        have hW : W3 = W4.drew := by unfold GP at hG; rw [n14] at hG; simpa using hG
        subst hW
        have e0 : a.eval (.tmp 17) = .slice (some ⟨w.heap.size, 0, none⟩) n n := hh 0 rfl
        have e1 : a.eval (.tmp 20) = .int .i64 ((4 + i / 8 : Nat) : Int) := hh 3 rfl
        refine static2_told W4.drew ?_ (by unfold GP; simp [n14])
        generalize a.eval = ev at e0 e1 ⊢
        simp [Oper.semAt_some, execOp, go_sem, e0, e1]
        rw [if_pos (by omega), show ((4 : Int) + (i : Int) / 8).toNat = 4 + i / 8 by omega]
      · cases ho
        have hW : W3 = W4.drew := by unfold GP at hG; rw [hLi] at hG; simpa using hG
        subst hW
        have e0 : a.eval (.tmp 30) = .pointer (some ⟨w.heap.size, 4 + i / 8, none⟩) := hh 13 rfl
        have e1 : a.eval (.tmp 29) = .int .u8 ((pn ||| z * 2 ^ (7 - i % 8) : Nat) : Int) := hh 12 rfl
        have x0 := HD2.out
        have x1 := HE2.out
        refine static2_stored (W4.drew.setCell ⟨w.heap.size, 4 + i / 8, none⟩ (.int .u8 ((pn ||| z * 2 ^ (7 - i % 8) : Nat) : Int))) ?_ (by unfold GP; simp)
        generalize a.eval = ev at e0 e1 ⊢
        simp [Oper.semAt_some, execOp, go_sem, e0, e1, x0, x1]
    · intro a W3 hd hs hold hh hG
      obtain rfl : W3 = (W4.drew.setCell ⟨w.heap.size, 4 + i / 8, none⟩ (.int .u8 ((pn ||| z * 2 ^ (7 - i % 8) : Nat) : Int))) := hG
      obtain ⟨f, hf, ha⟩ := act_puts [17, 18, 19, 20, 21, 22, 23, 24, 25, 26, 27, 28, 29, 30] (fun t ht => by
        by_cases h : t ∈ [17, 18, 19, 20, 21, 22, 23, 24, 25, 26, 27, 28, 29, 30]
        · exact h
        · exfalso
          simp [unwritten] at ht
          simp only [List.mem_cons, not_or] at h
          obtain ⟨h0, h1, h2, h3, h4, h5, h6, h7, h8, h9, h10, h11, h12, h13, _⟩ := h
          exact absurd (ht (fun e => h0 e.symm) (fun e => h1 e.symm) (fun e => h2 e.symm) (fun e => h3 e.symm) (fun e => h4 e.symm) (fun e => h5 e.symm) (fun e => h6 e.symm) (fun e => h7 e.symm) (fun e => h8 e.symm) (fun e => h9 e.symm) (fun e => h10 e.symm) (fun e => h11 e.symm) (fun e => h12 e.symm)) (fun e => h13 e.symm)) (fun t ht => by
        have hsz : t < 32 := by
          simp only [List.mem_cons, List.mem_nil_iff, or_false] at ht
          omega
        exact hsz) hd hs hold
      subst ha
      have hset := set_blk (w := W4.drew) (show W4.drew.heap[w.heap.size]? = _ from HK2.out) (4 + i / 8) (.int .u8 ((pn ||| z * 2 ^ (7 - i % 8) : Nat) : Int))
      have hfr : (W4.drew.setCell ⟨w.heap.size, 4 + i / 8, none⟩ (.int .u8 ((pn ||| z * 2 ^ (7 - i % 8) : Nat) : Int))).grownBy (W4.drew.setCell ⟨w.heap.size, 4 + i / 8, none⟩ (.int .u8 ((pn ||| z * 2 ^ (7 - i % 8) : Nat) : Int))) none := ⟨rfl, rfl, rfl, Nat.le_refl _, fun _ _ _ => rfl⟩
      have hl1 : (pre ++ [(i, btN k i)]).length = i + 1 := by rw [List.length_append, HLE.out]; rfl
      have hpl2 := plL_set (k := k) (n := n) (j := i) hbn
      rw [HPN.out, ← show z = (if btN k i = true then 1 else 0) from HZZ.out] at hpl2
      refine ⟨((KeepsOthers.drew W4).trans (KeepsOthers.setCell W4.drew _ _)).from _, by show W4.heap.size ≤ _; rw [World.size_setCell]; exact Nat.le_refl _, (HK1.out.drew).setCell (p := ⟨w.heap.size, 4 + i / 8, none⟩) (Nat.le_refl _) _, ?_, ?_, ?_⟩
      · rw [hl1, ← hpl2, hset]
        simp [u8s, List.map_set]
      · exact (set_other (by omega)).trans HK3.out
      · exact (set_other (by omega)).trans HK4.out
  case done =>
    rintro D xs V hD rfl ⟨h1, h2, h3, h4⟩ hdef
    have hl : (els k).length = bcN k := by simp [els]
    rw [hl] at h2
    have c3 := h3.cell
    have hst := Stays.putObj (B := W3.heap.size) (.deferred none) hD hdef rfl
    have HF : Hid (Below w.heap.size w (V.putObj D (.deferred none)) ∧ (V.putObj D (.deferred none)).heap[w.heap.size]? = some (.cells (u8s (plL k n (bcN k))).toArray 5 (0, 0))) := hide ⟨hst.below hle3 (Nat.le_refl _) h1, hst.same _ _ h2 (.inr rfl)⟩
    clear h1 h2 h3 h4 hr
    gi_wp2
    refine ⟨by simp, .inl ⟨_, _, rfl, run_takeDeferred hdef, ?_⟩⟩
    exact ⟨_, results_tmp rfl _ _ _, _, rfl, Nat.le_refl _, HF.out.2, HF.out.1⟩
end Go.Proofs.Ythefgfcjjbjjkaa
