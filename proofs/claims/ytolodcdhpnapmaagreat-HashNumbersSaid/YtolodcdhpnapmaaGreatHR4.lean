/-
  Where a hash's key is; a free place is taken; one is left.
-/
import Derived.Test.YtolodcdhpnapmaaGreatHR3
import Derived.Test.YtolodcdhpnapmaaGreatHM2
import Derived.Laws.IdiomStrings
import Derived.Laws.BytesArg
import Derived.TacticsIn
namespace Go.Proofs.YtolodcdhpnapmaaGreat
open Go.RowKit Go.Maps
set_option linter.unusedVariables false

theorem conv_key {W : World} {B n c : Nat} {A : Option Addr} {l : List Int} (hb : ∀ x ∈ l, IsByte x) (h : Rd W B 1 A n (u8s l)) (hA : A = none → n = 0) : (convert 34 9 (.slice A n c)).run Tryz.prog W = .ok (encStr (kb l)) W := by
  have hl : (kb l).length = n := by
    rw [kb_len]
    have := h.1
    simpa [u8s] using this
  cases A with
  | none =>
    obtain rfl := hA rfl
    rw [run_convert_bytes_nil W 34 5 Tryz.underlying34 Tryz.underlying5 0 c 9 Tryz.underlying9]
    rw [List.eq_nil_of_length_eq_zero hl]
    rfl
  | some ad =>
    subst hl
    refine run_convert_bytes_back W 34 9 5 ad c (kb l) Tryz.underlying34 Tryz.underlying5 Tryz.underlying9 (fun j hj => ?_)
    obtain ⟨ad2, e, _, hc⟩ := h.2 (by omega)
    cases e
    have hj2 : j < l.length := by rw [kb_len] at hj; exact hj
    have hx := hb l[j] (List.getElem_mem hj2)
    unfold IsByte at hx
    refine hc j _ ?_
    have e1 : ((kb l)[j].toNat : Int) = l[j] := by
      simp only [kb, List.getElem_map]
      rw [UInt8.toNat_ofNat']
      omega
    rw [e1]
    simp [u8s, hj2]
theorem strK : Keyed Tryz.prog 9 := string_keyed Tryz.underlying9
theorem zint : plainElem (H := Unit) Tryz.prog 3 (.int .i64 0) = some (.lit (.int .i64 0), []) := plainElem_int Tryz.underlying3 (by decide)
section
variable {w : World} {B b cb mb ks sz : Nat} {L : List HS}
theorem Hsh.look (h : Hsh w B b cb mb ks sz L) {k : List UInt8} (hk : k.length ≤ maxLen) {i : Nat} (hf : findK L k = some i) : (Instr.lookup 45 (.map (some mb)) (encStr k) true).run Tryz.prog w = .ok (.tuple #[.int .i64 (i : Int), .bool true]) w :=
  h.map.look strK Tryz.underlying45 (Tryz.zeroValue3 w) zint (keyOf_str_mk Tryz.underlying9 hk) (by simp [placeF, hf])
theorem Hsh.look_none (h : Hsh w B b cb mb ks sz L) {k : List UInt8} (hk : k.length ≤ maxLen) (hf : findK L k = none) : (Instr.lookup 45 (.map (some mb)) (encStr k) true).run Tryz.prog w = .ok (.tuple #[.int .i64 0, .bool false]) w :=
  h.map.look_none strK Tryz.underlying45 (Tryz.zeroValue3 w) zint (keyOf_str_mk Tryz.underlying9 hk) (by simp [placeF, hf])
end
theorem kb_max {B n : Nat} {w : World} {A : Option Addr} {l : List Int} (hr : Rd w B 1 A n (u8s l)) (hn : n ≤ 1000000) : (kb l).length ≤ maxLen := by
  rw [kb_len]
  have := hr.1
  simp [u8s] at this
  unfold maxLen
  omega
set_option maxRecDepth 100000 in
theorem placeOf_yes (B b cb mb ks sz : Nat) (L : List HS) (A : Option Addr) (n c C i : Nat) (l : List Int) (w : World) (h : Hsh w B b cb mb ks sz L) (hb : ∀ x ∈ l, IsByte x) (hr : Rd w C 1 A n (u8s l)) (hA : A = none → n = 0) (hn : n ≤ 1000000) (hf : findK L (kb l) = some i) :
    Calls Tryz.prog 56 #[.pointer (some ⟨b, 0, none⟩), .slice A n c] w fun e w' => e = .returned (.int .i64 i) ∧ Below w.heap.size w w' := by
  have hl := kb_max hr hn
  have c2 := h.c2
  have hcv := conv_key (W := w.drew) (c := c) hb (hr.mono (Nat.le_refl _)) hA
  have hlk := (h.below (Below.refl _ _).drew).look hl hf
  generalize encStr (kb l) = kv at hcv hlk
  clear h hr hf hb hA
  go_enter Tryz.func56, Tryz.ntmps56
  go_wp2
  go_region
  go_wp2_with (go_at_call 12; refine (demand_yes _ _).mono ?_; rintro e w' ⟨rfl, rfl⟩)
  go_ret
  exact ⟨rfl, (Below.refl _ w).drew⟩
set_option maxRecDepth 100000 in
theorem placeOf_no (B b cb mb ks sz : Nat) (L : List HS) (A : Option Addr) (n c C : Nat) (l : List Int) (w : World) (h : Hsh w B b cb mb ks sz L) (hb : ∀ x ∈ l, IsByte x) (hr : Rd w C 1 A n (u8s l)) (hA : A = none → n = 0) (hn : n ≤ 1000000) (hf : findK L (kb l) = none) :
    Calls Tryz.prog 56 #[.pointer (some ⟨b, 0, none⟩), .slice A n c] w fun e w' => e = .panicked (panicOf 6) ∧ Below w.heap.size w w' := by
  have hl := kb_max hr hn
  have c2 := h.c2
  have hcv := conv_key (W := w.drew) (c := c) hb (hr.mono (Nat.le_refl _)) hA
  have hlk := (h.below (Below.refl _ _).drew).look_none hl hf
  generalize encStr (kb l) = kv at hcv hlk
  clear h hr hf hb hA
  go_enter Tryz.func56, Tryz.ntmps56
  go_wp2
  go_region
  go_wp2_with (go_at_call 12; refine (demand_no _ _).mono ?_; rintro e w' ⟨rfl, rfl⟩)
  exact ⟨rfl, rfl, (Below.refl _ w).drew⟩
/-- The free places ahead of k. -/
def isFree (L : List HS) (i : Nat) : Bool := match L[i]? with
  | some r => r.key.isNone
  | none => false
def frees (L : List HS) (k : Nat) : List Nat := (List.range k).filter (isFree L)
theorem frees_succ (L : List HS) (k : Nat) : frees L (k + 1) = if isFree L k = true then frees L k ++ [k] else frees L k := by
  unfold frees
  rw [List.range_succ, List.filter_append]
  by_cases h : isFree L k = true
  · rw [if_pos h]; simp [h]
  · rw [if_neg h]; simp [h]
theorem frees_nil {L : List HS} {k : Nat} (h : frees L k = []) : ∀ i, i < k → isFree L i = false := fun i hi => by
  have := List.filter_eq_nil_iff.1 h i (List.mem_range.2 hi)
  simpa using this
theorem freeK_first {L : List HS} {k : Nat} {r : HS} (h : frees L k = []) (hr : L[k]? = some r) (hn : r.key = none) : freeK L = some k := by
  cases hf : freeK L with
  | none =>
    have := freeK_none hf k r hr
    rw [hn] at this; cases this
  | some j =>
    obtain ⟨s, h1, h2, h3⟩ := freeK_some hf
    have hj : ¬ j < k := fun hjk => by
      have := frees_nil h j hjk
      unfold isFree at this
      rw [h1] at this
      simp [h2] at this
    have hk : ¬ k < j := fun hkj => by
      have := h3 k r hkj hr
      rw [hn] at this; cases this
    rw [show j = k by omega]
theorem freeK_not {L : List HS} (h : frees L L.length = []) : freeK L = none := by
  cases hf : freeK L with
  | none => rfl
  | some j =>
    obtain ⟨s, h1, h2, h3⟩ := freeK_some hf
    have := frees_nil h j (List.getElem?_eq_some_iff.1 h1).1
    unfold isFree at this
    rw [h1] at this
    simp [h2] at this
/-- All blocks below K lie as they lay. -/
def KeepA (K : Nat) (W W' : World) : Prop := W.heap.size ≤ W'.heap.size ∧ ∀ k, k < K → W'.heap[k]? = W.heap[k]?
set_option maxRecDepth 100000 in
theorem free_any (p : Addr) (w : World) : Calls Tryz.prog 129 #[.pointer (some p)] w fun e w' => e = .returned (.func (.func 153) #[] #[.pointer (some ⟨w.heap.size, 0, none⟩)]) ∧ w' = w.alloc (.cells #[.pointer (some p)] 133) := by
  go_enter Tryz.func129, Tryz.ntmps129
  go_wp2
  go_ret
  exact ⟨rfl, rfl⟩
set_option maxRecDepth 100000 in
set_option maxHeartbeats 1000000 in
theorem free_iter (n Bx b cb sz : Nat) (L : List HS) (w0 : World) (hbox : Boxed w0 Bx 133 (.pointer (some ⟨b, 3, none⟩))) (hc4 : w0.cell? ⟨b, 4, none⟩ = some (.slice (some ⟨cb, 0, none⟩) L.length L.length)) (hcel : w0.heap[cb]? = some (.cells (cellsH sz L).toArray 84 (0, 0))) (hL : L.length ≤ 1024) :
    IterX Fence.wide n Tryz.prog 153 #[.pointer (some ⟨Bx, 0, none⟩)] (fun i : Nat => #[.int .i64 i]) (fun _ => KeepA w0.heap.size) (fun pre x => ∃ r, L[x]? = some r ∧ r.key = none ∧ pre = frees L x) (fun xs => xs = frees L L.length) w0 := by
  intro lp J Jx W hW hJ hJx hY h0
  have hbl := World.block_lt_of_cell? w0 _ hc4
  have hcbl := at_lt hcel
  have hbxl := hbox.lt
  have hbx0 := hbox
  have HW : Hid (∀ X : World, (∀ k, k < w0.heap.size → X.heap[k]? = w0.heap[k]?) → X.cell? ⟨Bx, 0, none⟩ = some (.pointer (some ⟨b, 3, none⟩)) ∧ X.cell? ⟨b, 4, none⟩ = some (.slice (some ⟨cb, 0, none⟩) L.length L.length) ∧ ∀ i r, L[i]? = some r → X.cell? ⟨cb, i * 2 + 1, none⟩ = some (.bool r.key.isSome)) := hide (fun X hX => by
    refine ⟨?_, ?_, fun i r hi => ?_⟩
    · rw [World.cell?_of_block (hX Bx hbxl)]; exact hbx0.cell
    · rw [World.cell?_of_block (hX b hbl)]; exact hc4
    · rw [World.cell?_of_block (hX cb hcbl), blk_cell hcel]
      simpa using (cellsH_at sz L i r hi).2)
  have HWK : Hid (∀ k, k < w0.heap.size → W.heap[k]? = w0.heap[k]?) := hide (fun k hk => hW.block k hk)
  clear hbox hc4 hcel hbx0
  refine callsIn_of_wp Tryz.func153 rfl trivial ?_ rfl
  simp only [Tryz.ntmps153, List.size_toArray, List.length_cons, List.length_nil, Nat.reduceAdd, Nat.reduceSub, Array.replicate_succ, Array.replicate_zero, List.push_toArray, List.append_toArray, List.nil_append, List.cons_append]
  obtain ⟨k0, k1, _⟩ := HW.out W HWK.out
  gi_wp2
  clear k0 k1
  gi_loopw [9] (fun q wr => ∃ k : Nat, k ≤ L.length ∧ q = .int .i64 k ∧ J (frees L k) wr ∧ (∀ k, k < w0.heap.size → wr.heap[k]? = w0.heap[k]?) ∧ W.heap.size ≤ wr.heap.size) (fun q _ => L.length - (intOf q).toNat)
  case atStart => exact ⟨0, Nat.zero_le _, rfl, h0, HWK.out, Nat.le_refl _⟩
  case round =>
    obtain ⟨k, hk, rfl, hJk, hX, hws⟩ := hrel
    have HX := hide hX
    obtain ⟨k0, k1, k2⟩ := HW.out wr hX
    clear hX
    by_cases hlt : k < L.length
    · have hr : L[k]? = some L[k] := List.getElem?_eq_getElem hlt
      have k3 := k2 k _ hr
      have q0 : (0 : Int) ≤ (k : Int) := by omega
      have q1 : (k : Int) < (L.length : Int) := by omega
      clear k2
      by_cases hfr : L[k].key = none
      · rw [hfr] at k3
        simp only [Option.isSome_none] at k3
        obtain ⟨fn, tmps, assign, body, hy, hR⟩ := hY (frees L k) k wr hJk ⟨_, hr, hfr, rfl⟩ hws
        have HT : Hid (frees L k ++ [k] = frees L (k + 1)) := hide (by rw [frees_succ, if_pos (by simp [isFree, hr, hfr])])
        clear hr hfr
        gi_wp2
        refine ⟨fun h => by simp [Fence.wide] at h, hR.mono ?_⟩
        rintro e W' (⟨rfl, hJ', hs', hk'⟩ | ⟨rfl, hJx'⟩)
        · gi_wp2
          go_roundw
          case rel => exact ⟨k + 1, by omega, by go_num, by rw [← HT.out]; exact hJ', fun g hg => (hk'.2 g hg).trans (HX.out g hg), Nat.le_trans hws hs'⟩
          case measure => simp only [intOf, Int.toNat_natCast]; omega
        · gi_wp2
          refine bodyPost_ret (results_none rfl _ _ _) rfl ?_
          exact ⟨_, rfl, .inr ⟨_, hJx'⟩⟩
      · obtain ⟨kk, hkk⟩ := Option.ne_none_iff_exists'.1 hfr
        rw [hkk] at k3
        simp only [Option.isSome_some] at k3
        have HT : Hid (frees L k = frees L (k + 1)) := hide (by rw [frees_succ, if_neg (by simp [isFree, hr, hkk])])
        clear hr hkk hfr
        gi_wp2
        rename_i K hK r9 h9 w9 hh9
        refine ⟨(fun f hf => by cases hf), hK _ _ ?_⟩
        clear hh9 hK
        gi_wp2
        go_roundw
        case rel => exact ⟨k + 1, by omega, by go_num, by rw [← HT.out]; exact hJk, HX.out, hws⟩
        case measure => simp only [intOf, Int.toNat_natCast]; omega
    · obtain rfl : k = L.length := by omega
      clear k2
      gi_wp2
      go_end0
      exact ⟨_, rfl, .inl ⟨_, rfl, hJk⟩⟩
end Go.Proofs.YtolodcdhpnapmaaGreat
