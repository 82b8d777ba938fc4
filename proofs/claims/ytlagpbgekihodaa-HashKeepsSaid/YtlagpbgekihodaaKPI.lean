/-
  HashKeeps: the keys told, their order, the places that are taken by them.
-/
import Derived.Test.YtlagpbgekihodaaKPH
namespace Go.Proofs.Ytlagpbgekihodaa
open Go.RowKit Go.Maps Go.Sort
set_option linter.unusedVariables false

/-- Every row holds bytes. -/
def BL (L : List HS) : Prop := ∀ r ∈ L, ∀ x ∈ r.bs, IsByte x
theorem BL.zero (s sz n : Nat) : BL (zHSs s sz n) := fun r hr x hx => by
  obtain ⟨i, hi⟩ := List.mem_iff_getElem?.1 hr
  rw [(zHSs_at hi).2] at hx
  have := List.eq_of_mem_replicate (show x ∈ List.replicate sz 0 from hx)
  subst this
  exact ⟨by decide, by decide⟩
theorem BL.dropK {L : List HS} (h : BL L) (i : Nat) : BL (dropK L i) := by
  unfold Ytlagpbgekihodaa.dropK
  split
  · rename_i r hr
    intro s hs
    rcases List.mem_or_eq_of_mem_set hs with hs | rfl
    · exact h s hs
    · exact h r (List.mem_of_getElem? hr)
  · exact h
theorem BL.putK {L : List HS} (h : BL L) (k : List UInt8) : BL (putK L k) := by
  unfold Ytlagpbgekihodaa.putK
  split
  · exact h
  · split
    · split
      · rename_i r hr
        intro s hs
        rcases List.mem_or_eq_of_mem_set hs with hs | rfl
        · exact h s hs
        · exact h r (List.mem_of_getElem? hr)
      · exact h
    · exact h
theorem BL.putB {L : List HS} (h : BL L) (i : Nat) {d : List Int} (hd : ∀ x ∈ d, IsByte x) : BL (putB L i 0 d) := by
  unfold Ytlagpbgekihodaa.putB
  split
  · rename_i r hr
    intro s hs
    rcases List.mem_or_eq_of_mem_set hs with hs | rfl
    · exact h s hs
    · intro x hx
      have hx' : x ∈ splice r.bs 0 d := hx
      unfold splice at hx'
      simp only [List.mem_append, List.take_zero, List.not_mem_nil, false_or] at hx'
      rcases hx' with hx | hx
      · exact hd x hx
      · exact h r (List.mem_of_getElem? hr) x (List.mem_of_mem_drop hx)
  · exact h
section
variable {rs : List KR} {L : List HS} {j p : Nat} {r r' : KR} {g : Lit → Option Value}
theorem keys_at (h : rs.map KR.k = keysM L) (hr : rs[j]? = some r) : ∃ p row, findK L r.k = some p ∧ L[p]? = some row := by
  have hm : r.k ∈ keysM L := by rw [← h]; exact List.mem_map_of_mem (List.mem_of_getElem? hr)
  obtain ⟨p, hp⟩ := keysM_mem.1 hm
  obtain ⟨row, h1, _⟩ := findK_some hp
  exact ⟨p, row, hp, h1⟩
theorem keys_nodup (ho : Once L) : (keysM L).Nodup := by
  unfold keysM
  exact (List.mergeSort_perm _ leB).nodup_iff.2 (once_nodup L ho)
theorem keys_rise (ho : Once L) (h : rs.map KR.k = keysM L) (hr' : rs[j]? = some r') (hr : rs[j + 1]? = some r) : r'.k < r.k := by
  have tr : ∀ a b c : List UInt8, leB a b = true → leB b c = true → leB a c = true := fun a b c h1 h2 => by simp only [leB, decide_eq_true_eq] at *; exact List.le_trans h1 h2
  have to : ∀ a b : List UInt8, (leB a b || leB b a) = true := fun a b => by simp only [leB, Bool.or_eq_true, decide_eq_true_eq]; exact List.le_total a b
  have hp : (keysM L).Pairwise (fun a b => leB a b = true) := List.pairwise_mergeSort tr to _
  have a1 : (keysM L)[j]? = some r'.k := by rw [← h, List.getElem?_map, hr']; rfl
  have a2 : (keysM L)[j + 1]? = some r.k := by rw [← h, List.getElem?_map, hr]; rfl
  obtain ⟨b1, c1⟩ := List.getElem?_eq_some_iff.1 a1
  obtain ⟨b2, c2⟩ := List.getElem?_eq_some_iff.1 a2
  have q1 := List.pairwise_iff_getElem.1 hp j (j + 1) b1 b2 (by omega)
  have q2 := List.pairwise_iff_getElem.1 (List.nodup_iff_pairwise_ne.1 (keys_nodup ho)) j (j + 1) b1 b2 (by omega)
  rw [c1, c2] at q1 q2
  simp only [leB, decide_eq_true_eq] at q1
  exact List.not_le.1 (fun h => q2 (List.le_antisymm q1 h))
theorem less_bytes : ∀ (x y : List UInt8), Op.bytesLess x y = decide (x < y)
  | [], [] => by simp [Op.bytesLess]
  | _ :: _, [] => by simp [Op.bytesLess]
  | [], _ :: _ => by simp [Op.bytesLess]
  | a :: x, b :: y => by
    rw [Op.bytesLess, less_bytes x y]
    simp only [List.cons_lt_cons_iff]
    by_cases h1 : a < b <;> by_cases h2 : a = b <;> by_cases h3 : x < y <;> simp [h1, h2, h3]
theorem str_list (x : List UInt8) : (ByteArray.mk x.toArray).toList = x := by
  rw [Lib.toList_data]
theorem geq_rising {x y : List UInt8} (h : x < y) (w : World) (t : TypeId) : (binOp .geq t (encStr x) (encStr y)).run Try.prog w = .ok (.bool false) w := by
  show (binOp .geq t (.string ⟨x.toArray⟩) (.string ⟨y.toArray⟩)).run Try.prog w = _
  rw [Go.binOp_string_geq, str_list, str_list, less_bytes, decide_eq_true h]
  rfl
theorem neq_self (x : List UInt8) (w : World) (t : TypeId) : (binOp .neq t (encStr x) (encStr x)).run Try.prog w = .ok (.bool false) w := by
  show (binOp .neq t (.string ⟨x.toArray⟩) (.string ⟨x.toArray⟩)).run Try.prog w = _
  rw [Go.binOp_string_neq, beq_self_eq_true]
  rfl
/-- Places marked in g are places of the first j keys. -/
def TookBy (L : List HS) (rs : List KR) (j : Nat) (g : Lit → Option Value) : Prop := ∀ p : Nat, g (.int .i64 p) ≠ none → ∃ t r, t < j ∧ rs[t]? = some r ∧ findK L r.k = some p
theorem TookBy.no (hm : TookBy L rs j g) (ho : Once L) (h : rs.map KR.k = keysM L) (hr : rs[j]? = some r) (hp : findK L r.k = some p) : g (.int .i64 p) = none := by
  refine Classical.byContradiction fun hc => ?_
  obtain ⟨t, s, ht, hs, hf⟩ := hm p hc
  obtain ⟨row, h1, h2, _⟩ := findK_some hp
  obtain ⟨row', h3, h4, _⟩ := findK_some hf
  rw [h1] at h3
  cases h3
  rw [h2] at h4
  have e : r.k = s.k := by injection h4
  have a1 : (keysM L)[t]? = some s.k := by rw [← h, List.getElem?_map, hs]; rfl
  have a2 : (keysM L)[j]? = some r.k := by rw [← h, List.getElem?_map, hr]; rfl
  obtain ⟨b1, c1⟩ := List.getElem?_eq_some_iff.1 a1
  obtain ⟨b2, c2⟩ := List.getElem?_eq_some_iff.1 a2
  have q2 := List.pairwise_iff_getElem.1 (List.nodup_iff_pairwise_ne.1 (keys_nodup ho)) t j b1 b2 ht
  rw [c1, c2] at q2
  exact q2 e.symm
theorem TookBy.next (hm : TookBy L rs j g) (hr : rs[j]? = some r) (hp : findK L r.k = some p) : TookBy L rs (j + 1) (setK g (.int .i64 p) (some (.bool true))) := fun q hq => by
  by_cases e : q = p
  · subst e
    exact ⟨j, r, by omega, hr, hp⟩
  · rw [setK_other (fun h => e (by injection h with _ h; omega))] at hq
    obtain ⟨t, s, h1, h2, h3⟩ := hm q hq
    exact ⟨t, s, by omega, h2, h3⟩
end
theorem intK : Keyed Try.prog 3 := int_keyed Try.underlying3
theorem place_key {p : Nat} (h : p ≤ 1000000) : keyOf Try.prog 3 (.int .i64 (p : Int)) = some (.int .i64 (p : Int)) := keyOf_int_mk Try.underlying3 (by
  simp [Lit.wf, IntKind.min, IntKind.max, IntKind.bits, IntKind.signed]
  omega)
theorem zbool : plainElem (H := Unit) Try.prog 4 (.bool false) = some (.lit (.bool false), []) := plainElem_bool Try.underlying4 _
theorem KeysTold.cell {w : World} {B n c j : Nat} {ad : Addr} {rs : List KR} {r : KR} (h : KeysTold w B (.slice (some ad) n c) rs) (hr : rs[j]? = some r) : w.cell? (ad.add j) = some (.slice (some ⟨r.g, 0, none⟩) r.k.length r.cap) := by
  obtain ⟨A, c', e, hrd⟩ := owns_slice h.row
  injection e with e1 e2 e3
  subst e1
  obtain ⟨ad', e, _, hc⟩ := hrd.2 (by have := (List.getElem?_eq_some_iff.1 hr).1; omega)
  injection e with e
  subst e
  exact hc j _ (by rw [List.getElem?_map, hr]; rfl)
theorem KeysTold.conv {w : World} {B j : Nat} {v : Value} {rs : List KR} {r : KR} (h : KeysTold w B v rs) (hr : rs[j]? = some r) : (convert 22 9 (.slice (some ⟨r.g, 0, none⟩) r.k.length r.cap)).run Try.prog w = .ok (encStr r.k) w := by
  have := conv_key (c := r.cap) (ints_byte r.k) (h.each r (List.mem_of_getElem? hr)).1.rd (fun e => by cases e)
  rwa [kb_ints] at this
theorem KeysTold.krow {w : World} {B j : Nat} {v : Value} {rs : List KR} {r : KR} (h : KeysTold w B v rs) (hr : rs[j]? = some r) : KRow w w.heap.size (some ⟨r.g, 0, none⟩) r.k.length (ints r.k) := ⟨(h.each r (List.mem_of_getElem? hr)).1.rd, (fun e => by cases e), ints_byte r.k⟩
end Go.Proofs.Ytlagpbgekihodaa
