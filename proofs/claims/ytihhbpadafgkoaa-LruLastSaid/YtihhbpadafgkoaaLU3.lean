/-
  What an lru holds: links in an order, places with or without a key. No program is named here.
-/
import Derived.Test.YtihhbpadafgkoaaLU0
namespace Go.Proofs.Ytihhbpadafgkoaa
open Go.RowKit Go.Maps
set_option linter.unusedVariables false
set_option linter.unusedSimpArgs false

/-- The links' keys are just those that the places have. -/
structure Fits (ks : Nat) (L : List LK) (P : List HS) : Prop where
  keys : (L.map LK.k).Nodup
  at_ : ∀ r ∈ L, ∃ s, P[r.p]? = some s ∧ s.key = some r.k
  all : ∀ (i : Nat) (s : HS) (k : List UInt8), P[i]? = some s → s.key = some k → ∃ r ∈ L, r.k = k ∧ r.p = i
  cnt : takenK P = L.length
  keyl : ∀ (i : Nat) (s : HS) (k : List UInt8), P[i]? = some s → s.key = some k → k.length = ks
def findL (L : List LK) (k : List UInt8) : Option Nat := L.findIdx? fun r => r.k == k
def linkF (L : List LK) : Lit → Option Value
  | .string k => (findL L k).bind fun i => L[i]?.map fun r => Value.pointer (some ⟨r.g, 0, none⟩)
  | _ => none
theorem findL_some {L : List LK} {k : List UInt8} {i : Nat} (h : findL L k = some i) : ∃ r, L[i]? = some r ∧ r.k = k := by
  obtain ⟨hi, h1, h2⟩ := List.findIdx?_eq_some_iff_getElem.1 h
  exact ⟨L[i], List.getElem?_eq_getElem hi, by simpa using h1⟩
theorem findL_none {L : List LK} {k : List UInt8} (h : findL L k = none) : ∀ r ∈ L, r.k ≠ k := fun r hr e => by
  have := List.findIdx?_eq_none_iff.1 h r hr
  simp [e] at this
theorem findL_is {L : List LK} {k : List UInt8} {i : Nat} {r : LK} (hn : (L.map LK.k).Nodup) (hr : L[i]? = some r) (hk : r.k = k) : findL L k = some i := by
  cases h : findL L k with
  | none => exact absurd hk (findL_none h r (List.mem_of_getElem? hr))
  | some j =>
    obtain ⟨s, h1, h2⟩ := findL_some h
    have e1 : (L.map LK.k)[i]? = some k := by rw [List.getElem?_map, hr]; simp [hk]
    have e2 : (L.map LK.k)[j]? = some k := by rw [List.getElem?_map, h1]; simp [h2]
    rw [nodup_at hn e1 e2]
theorem findL_no {L : List LK} {k : List UInt8} (h : ∀ r ∈ L, r.k ≠ k) : findL L k = none := by
  cases hf : findL L k with
  | none => rfl
  | some i =>
    obtain ⟨r, h1, h2⟩ := findL_some hf
    exact absurd h2 (h r (List.mem_of_getElem? h1))
theorem linkF_some {L : List LK} {k : List UInt8} {i : Nat} {r : LK} (hf : findL L k = some i) (hr : L[i]? = some r) : linkF L (.string k) = some (.pointer (some ⟨r.g, 0, none⟩)) := by
  simp [linkF, hf, hr]
theorem linkF_none {L : List LK} {k : List UInt8} (hf : findL L k = none) : linkF L (.string k) = none := by simp [linkF, hf]
section
variable {ks : Nat} {L : List LK} {P : List HS}
theorem Fits.once (h : Fits ks L P) : Once P := fun i j r s k hr hs hk hk2 => by
  obtain ⟨a, ha, ha1, ha2⟩ := h.all i r k hr hk
  obtain ⟨b, hb, hb1, hb2⟩ := h.all j s k hs hk2
  obtain ⟨m, hm⟩ := List.mem_iff_getElem?.1 ha
  obtain ⟨n, hn⟩ := List.mem_iff_getElem?.1 hb
  have e1 : (L.map LK.k)[m]? = some k := by rw [List.getElem?_map, hm]; simp [ha1]
  have e2 : (L.map LK.k)[n]? = some k := by rw [List.getElem?_map, hn]; simp [hb1]
  have := nodup_at h.keys e1 e2
  subst this
  rw [hm] at hn
  cases hn
  omega
theorem Fits.find (h : Fits ks L P) (k : List UInt8) : findK P k = (findL L k).bind fun i => L[i]?.map LK.p := by
  cases hf : findL L k with
  | none =>
    refine findK_no fun i s hs hk => ?_
    obtain ⟨r, hr, h1, _⟩ := h.all i s k hs hk
    exact findL_none hf r hr h1
  | some i =>
    obtain ⟨r, h1, h2⟩ := findL_some hf
    obtain ⟨s, h3, h4⟩ := h.at_ r (List.mem_of_getElem? h1)
    rw [h2] at h4
    simp [h1]
    exact findK_is h3 h4 (fun j t hj ht => h.once j r.p t s k hj h3 ht h4)
theorem Fits.find_some (h : Fits ks L P) {k : List UInt8} {i : Nat} {r : LK} (hf : findL L k = some i) (hr : L[i]? = some r) : findK P k = some r.p := by rw [h.find, hf]; simp [hr]
theorem Fits.find_none (h : Fits ks L P) {k : List UInt8} : findK P k = none ↔ findL L k = none := by
  rw [h.find]
  cases hf : findL L k with
  | none => simp
  | some i =>
    obtain ⟨r, h1, h2⟩ := findL_some hf
    simp [h1]
theorem Fits.full (h : Fits ks L P) : L.length = P.length ↔ freeK P = none := by rw [← h.cnt]; exact takenK_full
theorem Fits.perm {L' : List LK} (h : Fits ks L P) (hp : L'.Perm L) : Fits ks L' P :=
  ⟨(hp.map LK.k).nodup_iff.2 h.keys, fun r hr => h.at_ r (hp.mem_iff.1 hr), fun i s k hs hk => by
    obtain ⟨r, hr, h1⟩ := h.all i s k hs hk
    exact ⟨r, hp.mem_iff.2 hr, h1⟩, by rw [hp.length_eq]; exact h.cnt, h.keyl⟩
theorem erase_perm {i : Nat} {r : LK} (hr : L[i]? = some r) : (L.eraseIdx i ++ [r]).Perm L := by
  obtain ⟨hi, rfl⟩ := List.getElem?_eq_some_iff.1 hr
  have h1 : L.eraseIdx i = L.take i ++ L.drop (i + 1) := List.eraseIdx_eq_take_drop_succ _ _
  rw [h1, List.append_assoc]
  have h2 : L = L.take i ++ (L[i] :: L.drop (i + 1)) := by rw [List.getElem_cons_drop, List.take_append_drop]
  conv => rhs; rw [h2]
  exact List.Perm.append_left _ (List.perm_append_comm (l₁ := L.drop (i + 1)) (l₂ := [L[i]]))
theorem Fits.renew (h : Fits ks L P) {i : Nat} {r : LK} (hr : L[i]? = some r) : Fits ks (L.eraseIdx i ++ [r]) P := h.perm (erase_perm hr)
theorem mem_erase_ne {i : Nat} {r s : LK} (hn : (L.map LK.k).Nodup) (hr : L[i]? = some r) (hs : s ∈ L.eraseIdx i) : s.k ≠ r.k := fun e => by
  have hp := (erase_perm hr).map LK.k
  rw [List.map_append] at hp
  have h2 := hp.nodup_iff.2 hn
  rw [List.nodup_append] at h2
  exact h2.2.2 s.k (List.mem_map_of_mem hs) r.k (by simp) e
theorem Fits.dropped (h : Fits ks L P) {i : Nat} {r : LK} (hr : L[i]? = some r) : Fits ks (L.eraseIdx i) (dropK P r.p) := by
  obtain ⟨s, h1, h2⟩ := h.at_ r (List.mem_of_getElem? hr)
  have hsub : ∀ t, t ∈ L.eraseIdx i → t ∈ L := fun t ht => List.mem_of_mem_eraseIdx ht
  have hne : ∀ t ∈ L.eraseIdx i, t.p ≠ r.p := fun t ht e => by
    obtain ⟨u, h3, h4⟩ := h.at_ t (hsub t ht)
    rw [e, h1] at h3
    cases h3
    rw [h2] at h4
    exact mem_erase_ne h.keys hr ht (by injection h4 with h4; exact h4.symm)
  rw [dropK_some h1]
  refine ⟨?_, fun t ht => ?_, fun j u k hu hk => ?_, ?_, fun j u k hu hk => ?_⟩
  · rw [map_erase_k]
    exact h.keys.sublist (List.eraseIdx_sublist _ _)
  · obtain ⟨u, h3, h4⟩ := h.at_ t (hsub t ht)
    exact ⟨u, by rw [List.getElem?_set_ne (fun e => hne t ht e.symm)]; exact h3, h4⟩
  · rcases set_at hu with ⟨_, rfl, _⟩ | ⟨hj, hu⟩
    · cases hk
    · obtain ⟨t, ht, h3, h4⟩ := h.all j u k hu hk
      refine ⟨t, ?_, h3, h4⟩
      have := (erase_perm hr).mem_iff.2 ht
      rcases List.mem_append.1 this with hh | hh
      · exact hh
      · simp at hh
        subst hh
        exact absurd h4.symm hj
  · have := takenK_set P r.p s { s with key := none } h1
    rw [h2] at this
    simp at this
    have h3 := h.cnt
    have hi := (List.getElem?_eq_some_iff.1 hr).1
    rw [List.length_eraseIdx_of_lt hi]
    omega
  · rcases set_at hu with ⟨_, rfl, _⟩ | ⟨_, hu⟩
    · cases hk
    · exact h.keyl j u k hu hk
theorem Fits.added (h : Fits ks L P) {g p : Nat} {k : List UInt8} {s : HS} (hf : findL L k = none) (hp : freeK P = some p) (hs : P[p]? = some s) (hk : k.length = ks) : Fits ks (L ++ [⟨g, k, p⟩]) (P.set p { s with key := some k }) := by
  have hlt := (List.getElem?_eq_some_iff.1 hs).1
  obtain ⟨s', h1, h2, _⟩ := freeK_some hp
  rw [hs] at h1
  cases h1
  refine ⟨?_, fun t ht => ?_, fun j u k' hu hk' => ?_, ?_, fun j u k' hu hk' => ?_⟩
  · rw [List.map_append, List.nodup_append]
    exact ⟨h.keys, by simp, fun a ha b hb e => by
      simp at hb
      obtain ⟨r, hr, rfl⟩ := List.mem_map.1 ha
      exact findL_none hf r hr (e.trans hb)⟩
  · rcases List.mem_append.1 ht with ht | ht
    · obtain ⟨u, h3, h4⟩ := h.at_ t ht
      refine ⟨u, ?_, h4⟩
      rw [List.getElem?_set_ne (fun e => ?_)]
      · exact h3
      · rw [← e, hs] at h3
        cases h3
        rw [h2] at h4
        cases h4
    · simp at ht
      subst ht
      exact ⟨{ s with key := some k }, by simp [hlt], rfl⟩
  · rcases set_at hu with ⟨rfl, rfl, _⟩ | ⟨_, hu⟩
    · simp at hk'
      subst hk'
      exact ⟨⟨g, _, _⟩, List.mem_append_right _ (List.mem_singleton.2 rfl), rfl, rfl⟩
    · obtain ⟨t, ht, h3⟩ := h.all j u k' hu hk'
      exact ⟨t, List.mem_append_left _ ht, h3⟩
  · have := takenK_set P p s { s with key := some k } hs
    rw [h2] at this
    simp at this
    rw [List.length_append, this, h.cnt]
    rfl
  · rcases set_at hu with ⟨_, rfl, _⟩ | ⟨_, hu⟩
    · simp at hk'
      rw [← hk']; exact hk
    · exact h.keyl j u k' hu hk'
theorem Fits.bytes (h : Fits ks L P) {p : Nat} {s : HS} {bs : List Int} (hs : P[p]? = some s) : Fits ks L (P.set p { s with bs := bs }) := by
  have hlt := (List.getElem?_eq_some_iff.1 hs).1
  refine ⟨h.keys, fun t ht => ?_, fun j u k hu hk => ?_, ?_, fun j u k hu hk => ?_⟩
  · obtain ⟨u, h3, h4⟩ := h.at_ t ht
    by_cases e : p = t.p
    · rw [← e, hs] at h3
      cases h3
      exact ⟨{ s with bs := bs }, by rw [← e]; simp [hlt], h4⟩
    · exact ⟨u, by rw [List.getElem?_set_ne e]; exact h3, h4⟩
  · rcases set_at hu with ⟨rfl, rfl, _⟩ | ⟨_, hu⟩
    · exact h.all _ s k hs hk
    · exact h.all j u k hu hk
  · have := takenK_set P p s { s with bs := bs } hs
    simp at this
    rw [this]
    exact h.cnt
  · rcases set_at hu with ⟨rfl, rfl, _⟩ | ⟨_, hu⟩
    · exact h.keyl _ s k hs hk
    · exact h.keyl j u k hu hk
/-- The map's view of a link that is taken out. -/
theorem linkF_out (hn : (L.map LK.k).Nodup) {i : Nat} {r : LK} (hr : L[i]? = some r) (k : List UInt8) : linkF (L.eraseIdx i) (.string k) = if k = r.k then none else linkF L (.string k) := by
  have hn2 : ((L.eraseIdx i).map LK.k).Nodup := by rw [map_erase_k]; exact hn.sublist (List.eraseIdx_sublist _ _)
  by_cases hk : k = r.k
  · rw [if_pos hk]
    exact linkF_none (findL_no fun s hs e => mem_erase_ne hn hr hs (e.trans hk))
  · rw [if_neg hk]
    cases hf : findL L k with
    | none => rw [linkF_none hf]; exact linkF_none (findL_no fun s hs => findL_none hf s (List.mem_of_mem_eraseIdx hs))
    | some j =>
      obtain ⟨s, h1, h2⟩ := findL_some hf
      rw [linkF_some hf h1]
      have hm : s ∈ L.eraseIdx i := by
        have := (erase_perm hr).mem_iff.2 (List.mem_of_getElem? h1)
        rcases List.mem_append.1 this with hh | hh
        · exact hh
        · simp at hh; subst hh; exact absurd h2.symm hk
      obtain ⟨m, hm⟩ := List.mem_iff_getElem?.1 hm
      exact linkF_some (findL_is hn2 hm h2) hm
theorem linkF_more (hn : (L.map LK.k).Nodup) {r : LK} (hf : findL L r.k = none) (k : List UInt8) : linkF (L ++ [r]) (.string k) = if k = r.k then some (.pointer (some ⟨r.g, 0, none⟩)) else linkF L (.string k) := by
  have hn2 : ((L ++ [r]).map LK.k).Nodup := by
    rw [List.map_append, List.nodup_append]
    exact ⟨hn, by simp, fun a ha b hb e => by
      simp at hb
      obtain ⟨s, hs, rfl⟩ := List.mem_map.1 ha
      exact findL_none hf s hs (e.trans hb)⟩
  by_cases hk : k = r.k
  · rw [if_pos hk]
    have hr : (L ++ [r])[L.length]? = some r := by simp
    exact linkF_some (findL_is hn2 hr hk.symm) hr
  · rw [if_neg hk]
    cases hf2 : findL L k with
    | none => 
      rw [linkF_none hf2]
      refine linkF_none (findL_no fun s hs => ?_)
      rcases List.mem_append.1 hs with hs | hs
      · exact findL_none hf2 s hs
      · simp at hs; subst hs; exact fun e => hk e.symm
    | some j =>
      obtain ⟨s, h1, h2⟩ := findL_some hf2
      rw [linkF_some hf2 h1]
      have hj := (List.getElem?_eq_some_iff.1 h1).1
      have hr : (L ++ [r])[j]? = some s := by rw [List.getElem?_append_left hj]; exact h1
      exact linkF_some (findL_is hn2 hr h2) hr
theorem linkF_perm {L' : List LK} (hn : (L.map LK.k).Nodup) (hp : L'.Perm L) (k : List UInt8) : linkF L' (.string k) = linkF L (.string k) := by
  have hn2 : (L'.map LK.k).Nodup := (hp.map LK.k).nodup_iff.2 hn
  cases hf : findL L k with
  | none => rw [linkF_none hf]; exact linkF_none (findL_no fun s hs => findL_none hf s (hp.mem_iff.1 hs))
  | some j =>
    obtain ⟨s, h1, h2⟩ := findL_some hf
    rw [linkF_some hf h1]
    obtain ⟨m, hm⟩ := List.mem_iff_getElem?.1 (hp.mem_iff.2 (List.mem_of_getElem? h1))
    exact linkF_some (findL_is hn2 hm h2) hm
end
end Go.Proofs.Ytihhbpadafgkoaa
