/-
  A set's places, rising.
-/
import Derived.Test.YtjnmfgkjeofneaaSh
namespace Go.Proofs.Ytjnmfgkjeofneaa
open Go.RowKit Go.Maps Go.Sort Go.Shelf
set_option linter.unusedVariables false

/-- The places below N that are on the list, rising, each once. -/
def risen (N : Nat) (jl : List Int) : List Int := ((List.range N).filter (fun i : Nat => decide ((i : Int) ∈ jl))).map (fun i : Nat => (i : Int))
theorem mem_risen {N : Nat} {jl : List Int} (hj : ∀ x ∈ jl, 0 ≤ x ∧ x < N) (x : Int) : x ∈ risen N jl ↔ x ∈ jl := by
  unfold risen
  rw [List.mem_map]
  constructor
  · rintro ⟨i, hi, rfl⟩
    rw [List.mem_filter] at hi
    simpa using hi.2
  · intro hx
    obtain ⟨h0, h1⟩ := hj x hx
    obtain ⟨i, rfl⟩ := Int.eq_ofNat_of_zero_le h0
    exact ⟨i, by rw [List.mem_filter]; exact ⟨List.mem_range.2 (by omega), by simpa using hx⟩, rfl⟩
theorem risen_sorted (N : Nat) (jl : List Int) : (risen N jl).Pairwise (fun a b => a < b) := by
  unfold risen
  rw [List.pairwise_map]
  have := (List.pairwise_lt_range (n := N)).filter (fun i : Nat => decide ((i : Int) ∈ jl))
  exact this.imp (fun h => by omega)
theorem Try.sortsA (m : Nat) : AnyZI.SortsIn Try.prog Try.sortedA_ren Fence.wide m :=
  ⟨fun blk off cap ss W hH hblk hsz => callsIn_wide.2 (AnyM.slices_Sort_int Try.sortA blk off cap ss W hH hblk hsz),
   fun p cap W => callsIn_wide.2 (AnyM.slices_Sort_int_none Try.sortA p cap W)⟩
theorem risen_is {ss T : List Int} (hp : ss.Perm T) (hT : T.Pairwise (fun a b => a < b)) : ss.mergeSort (fun x y => decide (x ≤ y)) = T := by
  rw [mergeSort_of_perm_i hp]
  exact List.mergeSort_of_pairwise (hT.imp (fun h => by simp; omega))
set_option maxHeartbeats 1000000 in
theorem rising_any (W : World) (b N : Nat) (jl : List Int) (h : SetIs W b jl) (hl : jl.length ≤ 4096) (hj : ∀ x ∈ jl, 0 ≤ x ∧ x < N) :
    Calls Try.prog 36 #[.map (some b)] W fun e W' => ∃ v, e = .returned v ∧ W'.ownsRow W.heap.size 3 1 v (risen N jl).length ((risen N jl).map (Value.int .i64)) ∧ Below W.heap.size W W' := by
  refine (callsIn_wide (n := 6)).1 ?_
  have hown := h.1
  have hbl := hown.lt
  have hsz := hown.size_le
  have hperm : (risen N jl).Perm (intKeys (setOf (H := Unit) (.agg []) (jl.map (Lit.int .i64)))) := by
    refine CollectedI.perm (left := fun _ => false) ⟨(risen_sorted N jl).imp (fun h => by omega), fun x => ?_⟩ hown intKeyed Try.underlying3 (fun _ => rfl)
    rw [mem_risen hj, has_setOf _ _ _ (set_keys jl), List.any_eq_true]
    constructor
    · exact fun hx => ⟨⟨.int .i64 x, List.mem_map.2 ⟨x, hx, rfl⟩, WideAt.sameKey_self trivial⟩, rfl⟩
    · rintro ⟨⟨y, hy, he2⟩, _⟩
      rw [List.mem_map] at hy
      obtain ⟨z, hz, rfl⟩ := hy
      by_cases e : z = x
      · exact e ▸ hz
      · rw [sameKey_ne (fun e' => e (by injection e'))] at he2
        cases he2
  have hseq : SeqGives Fence.wide 2 Try.prog 77 #[.pointer (some ⟨W.heap.size, 0, none⟩)] encZ (fun ss => ss.Perm (intKeys (setOf (H := Unit) (.agg []) (jl.map (Lit.int .i64))))) (Maps.size (setOf (H := Unit) (.agg []) (jl.map (Lit.int .i64)))) (W.alloc (.cells #[.map (some b)] 48)) :=
    AnyZI.keys_gives (ρ := Try.keysA_ren) { Try.keysA with } Fence.wide _ trivial rfl (by omega) W.heap.size b jl.length _ _ (by simp) (by simp) (by
      obtain ⟨es, clock, hb, Ft, hs, hD⟩ := hown
      exact ⟨es, clock, (Below.heap_alloc _ _ b hbl).trans hb, Ft, hs, hD⟩)
  have cK : ∀ mb W, CallsIn Fence.wide 5 Try.prog 59 #[.map mb] W fun e w' => e = .returned (.func (.func 77) #[] #[.pointer (some ⟨W.heap.size, 0, none⟩)]) ∧ w' = W.alloc (.cells #[.map mb] 48) := fun mb W => AnyZI.keys_in Try.keysA Fence.wide 5 trivial rfl mb W
  have cS := AnyZI.sorted_in Try.sortedA Fence.wide 5 trivial trivial trivial trivial rfl (by omega) (Try.sortsA _) (enters_of Try.func76 (by kernel_rfl) rfl) 77 #[.pointer (some ⟨W.heap.size, 0, none⟩)] trivial (enters_of Try.func77 (by kernel_rfl) rfl) _ _ (by unfold maxLen; omega) (by omega) _ hseq
  change CallsIn _ _ Try.prog 58 _ _ _ at cS
  have CS := hide cS
  have HP := hide hperm
  clear hseq hperm hown cS h hj
  have hfK : Fence.wide.fn 59 := trivial
  have hfS : Fence.wide.fn 58 := trivial
  refine callsIn_of_wp Try.func36 rfl trivial ?_ rfl
  simp only [Try.ntmps36, List.size_toArray, List.length_cons, List.length_nil, Nat.reduceAdd, Nat.reduceSub, Array.replicate_succ, Array.replicate_zero, List.push_toArray, List.append_toArray, List.nil_append, List.cons_append]
  gi_wp2_with (first
    | (gi_at_call 59; refine (cK _ _).mono ?_; rintro e w' ⟨rfl, rfl⟩)
    | (gi_at_call 58; refine CS.out.mono ?_; rintro e w' ⟨v, ss, rfl, hS, hrow, hnil, hb⟩))
  go_ret
  have e1 := risen_is (hS.trans HP.out.symm) (risen_sorted N jl)
  have e2 := (hS.trans HP.out.symm).length_eq
  rw [e1, e2] at hrow
  exact ⟨v, rfl, ownsRow_base_a hrow (by simp), ((Below.refl _ W).alloc (Nat.le_refl _) _).trans (hb.mono (by simp))⟩
end Go.Proofs.Ytjnmfgkjeofneaa
