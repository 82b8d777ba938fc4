/-
  An lru against a row of keys and values, the youngest last: each deed.
-/
import Derived.Test.YtihhbpadafgkoaaLUQ
namespace Go.Proofs.Ytihhbpadafgkoaa
open Go.RowKit Go.Maps
set_option linter.unusedVariables false
set_option linter.unusedSimpArgs false

abbrev MP := ARow × ARow
theorem map_er {α β : Type} (f : α → β) (l : List α) (i : Nat) : (l.eraseIdx i).map f = (l.map f).eraseIdx i := by
  simp [List.eraseIdx_eq_take_drop_succ, List.map_append, List.map_take, List.map_drop]
theorem kb_inj2 {a b : List Int} (ha : ∀ x ∈ a, IsByte x) (hb : ∀ x ∈ b, IsByte x) (h : kb a = kb b) : a = b := by rw [← ints_kb ha, ← ints_kb hb, h]
def remM (M : List MP) (key : List Int) : List MP := M.filter fun m => decide (m.1.bs ≠ key)
def valM1 (v : ARow) (M : List MP) (key : List Int) : ARow := M.foldl (fun v m => if m.1.bs = key then m.2 else v) v
theorem rem_out : ∀ (M : List MP) (key : List Int) (j : Nat) (m : MP), (M.map fun m => m.1.bs).Nodup → M[j]? = some m → m.1.bs = key → remM M key = M.eraseIdx j
  | [], key, j, m, _, h, _ => by simp at h
  | x :: M, key, 0, m, hn, h, hk => by
    simp at h
    subst h
    rw [List.map_cons, List.nodup_cons] at hn
    unfold remM
    rw [List.filter_cons_of_neg (by simpa using hk), List.eraseIdx_zero, List.tail_cons]
    refine List.filter_eq_self.2 fun y hy => ?_
    simp only [decide_eq_true_eq]
    intro e
    exact hn.1 (by rw [hk, ← e]; exact List.mem_map_of_mem hy)
  | x :: M, key, j + 1, m, hn, h, hk => by
    rw [List.map_cons, List.nodup_cons] at hn
    have h2 : M[j]? = some m := by simpa using h
    have := rem_out M key j m hn.2 h2 hk
    unfold remM at this ⊢
    rw [List.filter_cons_of_pos (by
      simp only [decide_eq_true_eq]
      intro e
      exact hn.1 (by rw [e, ← hk]; exact List.mem_map_of_mem (List.mem_of_getElem? h2))), this]
    rfl
theorem rem_same {M : List MP} {key : List Int} (h : ∀ m ∈ M, m.1.bs ≠ key) : remM M key = M := List.filter_eq_self.2 fun y hy => by simpa using h y hy
theorem val_same : ∀ (M : List MP) (v : ARow) (key : List Int), (∀ m ∈ M, m.1.bs ≠ key) → valM1 v M key = v
  | [], v, key, _ => rfl
  | x :: M, v, key, h => by
    unfold valM1
    rw [List.foldl_cons, if_neg (h x (by simp))]
    exact val_same M v key (fun m hm => h m (by simp [hm]))
theorem val_at : ∀ (M : List MP) (v : ARow) (key : List Int) (j : Nat) (m : MP), (M.map fun m => m.1.bs).Nodup → M[j]? = some m → m.1.bs = key → valM1 v M key = m.2
  | [], v, key, j, m, _, h, _ => by simp at h
  | x :: M, v, key, 0, m, hn, h, hk => by
    simp at h
    subst h
    rw [List.map_cons, List.nodup_cons] at hn
    unfold valM1
    rw [List.foldl_cons, if_pos hk]
    exact val_same M _ key (fun y hy e => hn.1 (by rw [hk, ← e]; exact List.mem_map_of_mem hy))
  | x :: M, v, key, j + 1, m, hn, h, hk => by
    rw [List.map_cons, List.nodup_cons] at hn
    have h2 : M[j]? = some m := by simpa using h
    unfold valM1
    rw [List.foldl_cons]
    exact val_at M _ key j m hn.2 h2 hk
theorem rem_take (M : List MP) (key : List Int) {j : Nat} {m : MP} (h : M[j]? = some m) : remM (M.take (j + 1)) key = if m.1.bs = key then remM (M.take j) key else remM (M.take j) key ++ [m] := by
  unfold remM
  rw [List.take_add_one, h, Option.toList_some, List.filter_append]
  split
  · rename_i hk; simp [hk]
  · rename_i hk; simp [hk]
theorem val_take (v : ARow) (M : List MP) (key : List Int) {j : Nat} {m : MP} (h : M[j]? = some m) : valM1 v (M.take (j + 1)) key = if m.1.bs = key then m.2 else valM1 v (M.take j) key := by
  unfold valM1
  rw [List.take_add_one, h, Option.toList_some, List.foldl_append]
  rfl
/-- A link, its place, and the row's own key and value. -/
def Good (P : List HS) (t : LK × MP) : Prop := t.1.k = kb t.2.1.bs ∧ (∀ x ∈ t.2.1.bs, IsByte x) ∧ ∃ s, P[t.1.p]? = some s ∧ s.bs = t.2.2.bs
theorem Good.drop {P : List HS} {t : LK × MP} (h : Good P t) (i : Nat) : Good (dropK P i) t := by
  obtain ⟨h1, h2, s, h3, h4⟩ := h
  refine ⟨h1, h2, ?_⟩
  unfold dropK
  cases hi : P[i]? with
  | none => exact ⟨s, h3, h4⟩
  | some r =>
    by_cases e : i = t.1.p
    · rw [e] at hi
      rw [h3] at hi
      injection hi with hi
      subst hi
      rw [e]
      exact ⟨{ s with key := none }, by simp [List.getElem?_set, (List.getElem?_eq_some_iff.1 h3).1], h4⟩
    · exact ⟨s, by rw [List.getElem?_set_ne e]; exact h3, h4⟩
theorem Good.set {P : List HS} {t : LK × MP} {i : Nat} {r : HS} (h : Good P t) (e : i ≠ t.1.p) : Good (P.set i r) t := by
  obtain ⟨h1, h2, s, h3, h4⟩ := h
  exact ⟨h1, h2, s, by rw [List.getElem?_set_ne e]; exact h3, h4⟩
theorem Fits.place {ks : Nat} {L : List LK} {P : List HS} (h : Fits ks L P) {r r' : LK} (hr : r ∈ L) (hr' : r' ∈ L) (e : r.p = r'.p) : r.k = r'.k := by
  obtain ⟨s, h1, h2⟩ := h.at_ r hr
  obtain ⟨s', h3, h4⟩ := h.at_ r' hr'
  rw [e, h3] at h1
  injection h1 with h1
  subst h1
  rw [h2] at h4
  injection h4
structure LSI (B b mb cb e ks sz N : Nat) (M : List MP) (S : Nat → Prop) (W : World) (T : List (LK × MP)) (P : List HS) : Prop where
  lru : Lru W B b mb cb e ks sz (T.map (·.1)) P
  len : P.length = N
  row : M = T.map (·.2)
  good : ∀ t ∈ T, Good P t
  off : ∀ g, S g → ¬ OfU b mb cb e sz (T.map (·.1)) P g
/-- The lru holds just the row's keys, in its order. -/
def LS (B b mb cb e ks sz N : Nat) (M : List MP) (S : Nat → Prop) (W : World) : Prop := ∃ T P, LSI B b mb cb e ks sz N M S W T P
section
variable {W W' : World} {B b mb cb e ks sz N : Nat} {M : List MP} {S : Nat → Prop} {T : List (LK × MP)} {P : List HS}
theorem LSI.keysOf (h : LSI B b mb cb e ks sz N M S W T P) : (T.map (·.1)).map LK.k = M.map fun m => kb m.1.bs := by
  rw [h.row, List.map_map, List.map_map]
  exact List.map_congr_left fun t ht => (h.good t ht).1
theorem LSI.nodupM (h : LSI B b mb cb e ks sz N M S W T P) : (M.map fun m => m.1.bs).Nodup := by
  have h1 := h.lru.fit.keys
  rw [h.keysOf] at h1
  rw [List.nodup_iff_pairwise_ne, List.pairwise_map] at h1 ⊢
  exact h1.imp (fun hne ee => hne (by rw [ee]))
theorem LSI.byteM (h : LSI B b mb cb e ks sz N M S W T P) : ∀ m ∈ M, ∀ x ∈ m.1.bs, IsByte x := fun m hm => by
  rw [h.row] at hm
  obtain ⟨t, ht, rfl⟩ := List.mem_map.1 hm
  exact (h.good t ht).2.1
theorem LSI.lenM (h : LSI B b mb cb e ks sz N M S W T P) : M.length = T.length := by rw [h.row, List.length_map]
theorem LSI.lenN (h : LSI B b mb cb e ks sz N M S W T P) : M.length ≤ N := by
  have := full_lt h.lru.fit
  rw [List.length_map] at this
  rw [h.lenM, ← h.len]
  exact this
theorem LSI.found (h : LSI B b mb cb e ks sz N M S W T P) {key : List Int} (hb : ∀ x ∈ key, IsByte x) {j : Nat} (hf : findL (T.map (·.1)) (kb key) = some j) : ∃ t, T[j]? = some t ∧ t.1.k = kb key ∧ t.2.1.bs = key ∧ M[j]? = some t.2 ∧ remM M key = (T.eraseIdx j).map (·.2) ∧ ∀ v, valM1 v M key = t.2.2 := by
  obtain ⟨r, h1, h2⟩ := findL_some hf
  rw [List.getElem?_map] at h1
  cases ht : T[j]? with
  | none => rw [ht] at h1; cases h1
  | some t =>
    rw [ht] at h1
    simp at h1
    subst h1
    have hg := h.good t (List.mem_of_getElem? ht)
    have e1 : t.2.1.bs = key := kb_inj2 hg.2.1 hb (by rw [← hg.1, h2])
    have hm : M[j]? = some t.2 := by rw [h.row, List.getElem?_map, ht]; rfl
    exact ⟨t, rfl, h2, e1, hm, by rw [rem_out M key j t.2 h.nodupM hm e1, h.row, map_er], fun v => val_at M v key j t.2 h.nodupM hm e1⟩
theorem LSI.lost (h : LSI B b mb cb e ks sz N M S W T P) {key : List Int} (hf : findL (T.map (·.1)) (kb key) = none) : remM M key = M := rem_same fun m hm ek => by
  rw [h.row] at hm
  obtain ⟨t, ht, rfl⟩ := List.mem_map.1 hm
  exact findL_none hf t.1 (List.mem_map_of_mem ht) (by rw [(h.good t ht).1, ek])
theorem LSI.same (h : LSI B b mb cb e ks sz N M S W T P) (hb : Below W.heap.size W W') : LSI B b mb cb e ks sz N M S W' T P := ⟨h.lru.below hb, h.len, h.row, h.good, h.off⟩
theorem LS.below (h : LS B b mb cb e ks sz N M S W) (hb : Below W.heap.size W W') : LS B b mb cb e ks sz N M S W' := by
  obtain ⟨T, P, h⟩ := h
  exact ⟨T, P, h.same hb⟩
theorem LS.on {S' : Nat → Prop} (h : LS B b mb cb e ks sz N M S W) (hS : ∀ g, S' g → S g ∨ W.heap.size ≤ g) : LS B b mb cb e ks sz N M S' W := by
  obtain ⟨T, P, h⟩ := h
  refine ⟨T, P, h.lru, h.len, h.row, h.good, fun g hg ho => ?_⟩
  rcases hS g hg with h1 | h1
  · exact h.off g h1 ho
  · have := h.lru.lt g ho
    omega
def trimN (N : Nat) (M : List MP) : List MP := if M.length > N then M.drop 1 else M
theorem trim_le {N : Nat} {M : List MP} (h : M.length ≤ N) : trimN N M = M := by unfold trimN; rw [if_neg (by omega)]
/-- What a deed tells: an error and no change, or none and the row turned. -/
def Turned (B b mb cb e ks sz N : Nat) (M M' : List MP) (S : Nat → Prop) (w : World) (er : Int) (w' : World) : Prop := Below B w w' ∧ Kept S w w' ∧ ((er ≠ 0 ∧ LS B b mb cb e ks sz N M S w') ∨ (er = 0 ∧ LS B b mb cb e ks sz N M' S w'))
theorem LSI.go (h : LSI B b mb cb e ks sz N M S W T P) (hS : ∀ g, S g → g < W.heap.size) (hB : B ≤ W.heap.size) {L' : List LK} {P' : List HS} {T' : List (LK × MP)} {M' : List MP} (hg : LGo B b mb cb e ks sz (T.map (·.1)) P L' P' W W') (hL : L' = T'.map (·.1)) (hP : P'.length = N) (hM : M' = T'.map (·.2)) (hgd : ∀ t ∈ T', Good P' t) :
    Below B W W' ∧ Kept S W W' ∧ LS B b mb cb e ks sz N M' S W' := by
  subst hL
  refine ⟨below_len h.lru hg hB, hg.2.1.mono (fun g hs => h.off g hs), T', P', hg.1, hP, hM, hgd, fun g hs ho => ?_⟩
  rcases hg.2.2 g ho with h1 | h1
  · exact h.off g hs h1
  · have := hS g hs
    omega
theorem LSI.stay (h : LSI B b mb cb e ks sz N M S W T P) (hB : B ≤ W.heap.size) (hb : Below W.heap.size W W') : Below B W W' ∧ Kept S W W' ∧ LS B b mb cb e ks sz N M S W' :=
  ⟨hb.mono hB, (Kept.of_below hb).mono (fun _ _ => trivial), T, P, h.same hb⟩
def LookL (B b mb cb e ks sz N : Nat) (M M' : List MP) (S : Nat → Prop) (w : World) (en : Ending) (w' : World) : Prop := ∃ p er : Int, en = .returned (.tuple #[.int .i64 p, .int .i64 er]) ∧ Turned B b mb cb e ks sz N M M' S w er w'
theorem look_ls (K V : ARow) (C : Nat) (w : World) (h : LS B b mb cb e ks sz N M S w) (hS : ∀ g, S g → g < w.heap.size) (hB : B ≤ w.heap.size) (hr : KRow w C K.A K.n K.bs) :
    Calls Try.prog 13 #[.pointer (some ⟨b, 0, none⟩), .slice K.A K.n K.c] w (LookL B b mb cb e ks sz N M (trimN N (remM M K.bs ++ [(K, valM1 V M K.bs)])) S w) := by
  obtain ⟨T, P, h⟩ := h
  refine (lookup_any B b mb cb e ks sz _ P K.A K.n K.c C K.bs w h.lru hr).mono ?_
  rintro en w' ⟨rfl, hg⟩
  refine ⟨_, _, rfl, ?_⟩
  rcases lookE_cases (n := K.n) (k := kb K.bs) h.lru.fit with ⟨hn, h2⟩ | ⟨hn, hf, h2⟩ | ⟨hn, j, r, hf, hi, h2⟩
  · rw [h2]
    have e2 : renL ks K.n (T.map (·.1)) (kb K.bs) = T.map (·.1) := by unfold renL; rw [if_neg hn]
    rw [e2] at hg
    obtain ⟨a1, a2, a3⟩ := h.go hS hB hg rfl h.len h.row h.good
    exact ⟨a1, a2, .inl ⟨by decide, a3⟩⟩
  · rw [h2]
    have e2 : renL ks K.n (T.map (·.1)) (kb K.bs) = T.map (·.1) := by unfold renL; rw [if_pos hn, hf]
    rw [e2] at hg
    obtain ⟨a1, a2, a3⟩ := h.go hS hB hg rfl h.len h.row h.good
    exact ⟨a1, a2, .inl ⟨by decide, a3⟩⟩
  · rw [h2]
    obtain ⟨t, ht, t1, t2, t3, t4, t5⟩ := h.found hr.byte hf
    have e2 : renL ks K.n (T.map (·.1)) (kb K.bs) = (T.eraseIdx j ++ [(t.1, (K, t.2.2))]).map (·.1) := by
      unfold renL
      rw [if_pos hn, hf, List.map_append, map_er]
      simp [ht]
    have hM2 : remM M K.bs ++ [(K, valM1 V M K.bs)] = (T.eraseIdx j ++ [(t.1, (K, t.2.2))]).map (·.2) := by
      rw [t4, t5, List.map_append]
      rfl
    have hlen : (remM M K.bs ++ [(K, valM1 V M K.bs)]).length ≤ N := by
      rw [hM2, List.length_map, List.length_append, List.length_eraseIdx_of_lt (List.getElem?_eq_some_iff.1 ht).1]
      have := h.lenN
      have := h.lenM
      have := (List.getElem?_eq_some_iff.1 ht).1
      simp
      omega
    obtain ⟨a1, a2, a3⟩ := h.go hS hB hg e2 h.len ((trim_le hlen).trans hM2) (fun u hu => by
      rcases List.mem_append.1 hu with hu | hu
      · exact h.good u (List.mem_of_mem_eraseIdx hu)
      · rw [List.mem_singleton] at hu
        subst hu
        obtain ⟨_, _, s, g3, g4⟩ := h.good t (List.mem_of_getElem? ht)
        exact ⟨t1, hr.byte, s, g3, g4⟩)
    exact ⟨a1, a2, .inr ⟨rfl, a3⟩⟩
def DeedL (B b mb cb e ks sz N : Nat) (M M' : List MP) (S : Nat → Prop) (w : World) (en : Ending) (w' : World) : Prop := ∃ er : Int, en = .returned (.int .i64 er) ∧ Turned B b mb cb e ks sz N M M' S w er w'
theorem del_ls (K : ARow) (C : Nat) (w : World) (h : LS B b mb cb e ks sz N M S w) (hS : ∀ g, S g → g < w.heap.size) (hB : B ≤ w.heap.size) (hr : KRow w C K.A K.n K.bs) :
    Calls Try.prog 15 #[.pointer (some ⟨b, 0, none⟩), .slice K.A K.n K.c] w (DeedL B b mb cb e ks sz N M (trimN N (remM M K.bs)) S w) := by
  obtain ⟨T, P, h⟩ := h
  refine (del_any B b mb cb e ks sz _ P K.A K.n K.c C K.bs w h.lru hr).mono ?_
  rintro en w' ⟨rfl, hg⟩
  refine ⟨_, rfl, ?_⟩
  rw [delE_is (L := T.map (·.1))]
  rcases lookE_cases (n := K.n) (k := kb K.bs) h.lru.fit with ⟨hn, h2⟩ | ⟨hn, hf, h2⟩ | ⟨hn, j, r, hf, hi, h2⟩
  · rw [h2]
    have e2 : delLL ks K.n (T.map (·.1)) (kb K.bs) = T.map (·.1) := by unfold delLL; rw [if_neg hn]
    have e3 : delL ks K.n P (kb K.bs) = P := by unfold delL; rw [if_neg hn]
    rw [e2, e3] at hg
    obtain ⟨a1, a2, a3⟩ := h.go hS hB hg rfl h.len h.row h.good
    exact ⟨a1, a2, .inl ⟨by decide, a3⟩⟩
  · rw [h2]
    have hk := (h.lru.fit.find_none (k := kb K.bs)).2 hf
    have e2 : delLL ks K.n (T.map (·.1)) (kb K.bs) = T.map (·.1) := by unfold delLL; rw [if_pos hn, hf]
    have e3 : delL ks K.n P (kb K.bs) = P := by unfold delL; rw [if_pos hn, hk]
    rw [e2, e3] at hg
    obtain ⟨a1, a2, a3⟩ := h.go hS hB hg rfl h.len h.row h.good
    exact ⟨a1, a2, .inl ⟨by decide, a3⟩⟩
  · rw [h2]
    obtain ⟨t, ht, t1, t2, t3, t4, t5⟩ := h.found hr.byte hf
    have hk := h.lru.fit.find_some hf hi
    have e2 : delLL ks K.n (T.map (·.1)) (kb K.bs) = (T.eraseIdx j).map (·.1) := by unfold delLL; rw [if_pos hn, hf, map_er]
    have e3 : delL ks K.n P (kb K.bs) = dropK P r.p := by unfold delL; rw [if_pos hn, hk]
    rw [e3] at hg
    have hlen : (remM M K.bs).length ≤ N := Nat.le_trans (List.length_filter_le _ _) h.lenN
    obtain ⟨a1, a2, a3⟩ := h.go hS hB hg e2 (by rw [dropK_len]; exact h.len) ((trim_le hlen).trans t4) (fun u hu => (h.good u (List.mem_of_mem_eraseIdx hu)).drop _)
    exact ⟨a1, a2, .inr ⟨rfl, a3⟩⟩
theorem room_fits {ks : Nat} {L : List LK} {P : List HS} (h : Fits ks L P) (hP : 1 ≤ P.length) : Fits ks (roomL L P) (roomP L P) := by
  unfold roomL roomP
  by_cases hf : L.length = P.length
  · rw [if_pos hf, if_pos hf]
    have h0 : L[0]? = some L[0] := List.getElem?_eq_getElem (by omega)
    rw [h0]
    exact h.dropped h0
  · rw [if_neg hf, if_neg hf]
    exact h
theorem splice_whole (l d : List Int) (h : l.length = d.length) : splice l 0 d = d := by simp [splice, h]
theorem upd_ls (K V : ARow) (C D : Nat) (fl : Int) (w : World) (h : LS B b mb cb e ks sz N M S w) (hS : ∀ g, S g → g < w.heap.size) (hB : B ≤ w.heap.size) (hr : KRow w C K.A K.n K.bs) (hd : Rd w D 1 V.A V.n (u8s V.bs)) (hD : D ≤ B) (hVb : 0 < V.n → ∀ ad, V.A = some ad → ad.block < B) :
    Calls Try.prog 26 #[.pointer (some ⟨b, 0, none⟩), .slice K.A K.n K.c, .slice V.A V.n V.c, .int .u64 fl] w (DeedL B b mb cb e ks sz N M (trimN N (remM M K.bs ++ [(K, V)])) S w) := by
  obtain ⟨T, P, h⟩ := h
  by_cases he : lruE ks sz K.n V.n P (kb K.bs) fl = 0
  · obtain ⟨hn, hq, hfl, hcase⟩ : K.n = ks ∧ V.n = sz ∧ fl ≤ 2 ∧ ((∃ j, findL (T.map (·.1)) (kb K.bs) = some j ∧ fl ≠ 1) ∨ (findL (T.map (·.1)) (kb K.bs) = none ∧ fl ≠ 2)) := by
      unfold lruE at he
      by_cases hn : K.n = ks
      · rw [if_pos hn] at he
        by_cases hq : V.n = sz ∧ fl ≤ 2
        · rw [if_pos hq] at he
          refine ⟨hn, hq.1, hq.2, ?_⟩
          cases hf : findL (T.map (·.1)) (kb K.bs) with
          | none =>
            rw [(h.lru.fit.find_none (k := kb K.bs)).2 hf] at he
            refine .inr ⟨rfl, fun e => ?_⟩
            simp [e] at he
          | some j =>
            obtain ⟨r, g1, g2⟩ := findL_some hf
            rw [h.lru.fit.find_some hf g1] at he
            refine .inl ⟨j, rfl, fun e => ?_⟩
            simp [e] at he
        · rw [if_neg hq] at he; exact absurd he (by decide)
      · rw [if_neg hn] at he; exact absurd he (by decide)
    have hV : ∀ ad, V.A = some ad → ¬ OfU b mb cb e sz (T.map (·.1)) P ad.block := fun ad e2 ho => by
      have := hVb (by have := h.lru.big.1; omega) ad e2
      have := h.lru.low _ ho
      omega
    have hdl : V.bs.length = sz := by have := Rd.ints hd; omega
    rcases hcase with ⟨j, hf, h1⟩ | ⟨hf, h2⟩
    · obtain ⟨t, ht, t1, t2, t3, t4, t5⟩ := h.found hr.byte hf
      have hi : (T.map (·.1))[j]? = some t.1 := by rw [List.getElem?_map, ht]; rfl
      subst hn hq
      refine (upd_there B b mb cb e K.n V.n j _ P t.1 K.A V.A K.c C V.c D fl K.bs V.bs w h.lru hr hd (by omega) hV hf hi hfl h1).mono ?_
      rintro en w' ⟨rfl, hg⟩
      obtain ⟨g1, g2, s, g3, g4⟩ := h.good t (List.mem_of_getElem? ht)
      have hM2 : remM M K.bs ++ [(K, V)] = (T.eraseIdx j ++ [(t.1, (K, V))]).map (·.2) := by
        rw [t4, List.map_append]
        rfl
      have hlen : (remM M K.bs ++ [(K, V)]).length ≤ N := by
        rw [hM2, List.length_map, List.length_append, List.length_eraseIdx_of_lt (List.getElem?_eq_some_iff.1 ht).1]
        have := h.lenN
        have := h.lenM
        have := (List.getElem?_eq_some_iff.1 ht).1
        simp
        omega
      rw [putB_some g3, splice_whole _ _ (by rw [hdl]; exact h.lru.len g3)] at hg
      obtain ⟨a1, a2, a3⟩ := h.go hS hB hg (T' := T.eraseIdx j ++ [(t.1, (K, V))]) (by rw [List.map_append, map_er]; rfl) (by rw [List.length_set]; exact h.len) ((trim_le hlen).trans hM2) (fun u hu => by
        rcases List.mem_append.1 hu with hu | hu
        · refine (h.good u (List.mem_of_mem_eraseIdx hu)).set (fun ep => ?_)
          have hmem : u.1 ∈ (T.map (·.1)).eraseIdx j := by rw [← map_er]; exact List.mem_map_of_mem hu
          exact mem_erase_ne h.lru.fit.keys hi hmem (h.lru.fit.place (List.mem_of_mem_eraseIdx hmem) (List.mem_of_getElem? hi) ep.symm)
        · rw [List.mem_singleton] at hu
          subst hu
          exact ⟨t1, hr.byte, _, by simp [List.getElem?_set, (List.getElem?_eq_some_iff.1 g3).1]; rfl, rfl⟩)
      exact ⟨0, rfl, a1, a2, .inr ⟨rfl, a3⟩⟩
    · subst hn hq
      refine (upd_new B b mb cb e K.n V.n _ P K.A V.A K.c C V.c D fl K.bs V.bs w h.lru hr hd (by omega) hV hf hfl h2).mono ?_
      rintro en w' ⟨rfl, x, p, s, hp, hs, hg⟩
      have hP1 := h.lru.many.1
      have hfit := room_fits h.lru.fit hP1
      obtain ⟨s2, hs2, hs3, _⟩ := freeK_some hp
      rw [hs] at hs2
      injection hs2 with hs2
      subst hs2
      have hrl : (roomP (T.map (·.1)) P).length = P.length := by unfold roomP; split <;> simp [dropK_len]
      have hsbs : s.bs.length = V.n := by
        unfold roomP at hs
        split at hs
        · have hpl : p < P.length := by rw [← dropK_len P _]; exact (List.getElem?_eq_some_iff.1 hs).1
          unfold dropK at hs
          split at hs
          · rename_i r0 hr0
            by_cases e0 : (Option.map LK.p (T.map (·.1))[0]?).getD 0 = p
            · rw [e0] at hs hr0
              rw [List.getElem?_set_self (by omega)] at hs
              injection hs with hs
              rw [← hs]
              have h9 := h.lru.len hr0
              exact h9
            · rw [List.getElem?_set_ne e0] at hs
              exact h.lru.len hs
          · exact h.lru.len hs
        · exact h.lru.len hs
      have hset : ((roomP (T.map (·.1)) P).set p { s with key := some (kb K.bs) })[p]? = some { s with key := some (kb K.bs) } := by simp [List.getElem?_set, (List.getElem?_eq_some_iff.1 hs).1]
      rw [putB_some hset, splice_whole _ _ (by rw [hdl]; exact hsbs)] at hg
      have hTl : (T.map (·.1)).length = T.length := List.length_map _
      obtain ⟨T0, hT0, hM0, hg0⟩ : ∃ T0 : List (LK × MP), roomL (T.map (·.1)) P = T0.map (·.1) ∧ trimN N (M ++ [(K, V)]) = T0.map (·.2) ++ [(K, V)] ∧ ∀ t ∈ T0, Good (roomP (T.map (·.1)) P) t := by
        by_cases hfull : (T.map (·.1)).length = P.length
        · refine ⟨T.eraseIdx 0, by unfold roomL; rw [if_pos hfull, map_er], ?_, fun u hu => ?_⟩
          · unfold trimN
            have hlm := h.lenM
            have hln := h.len
            rw [if_pos (by simp; omega), map_er, ← h.row]
            cases hMc : M with
            | nil => rw [hMc] at hlm; simp at hlm; omega
            | cons m0 M0 => rfl
          · unfold roomP
            rw [if_pos hfull]
            exact (h.good u (List.mem_of_mem_eraseIdx hu)).drop _
        · refine ⟨T, by unfold roomL; rw [if_neg hfull], ?_, fun u hu => ?_⟩
          · rw [trim_le (by have := full_lt h.lru.fit; have := h.lenM; have := h.len; simp; omega), h.row]
          · unfold roomP
            rw [if_neg hfull]
            exact h.good u hu
      obtain ⟨a1, a2, a3⟩ := h.go hS hB hg (T' := T0 ++ [(⟨x, kb K.bs, p⟩, (K, V))]) (M' := trimN N (remM M K.bs ++ [(K, V)])) (by rw [hT0, List.map_append]; rfl) (by rw [List.length_set, List.length_set, hrl]; exact h.len) (by rw [h.lost hf, hM0, List.map_append]; rfl) (fun u hu => by
        rcases List.mem_append.1 hu with hu | hu
        · have hne : p ≠ u.1.p := fun ep => by
            obtain ⟨s4, h5, h6⟩ := hfit.at_ u.1 (by rw [hT0]; exact List.mem_map_of_mem hu)
            rw [← ep, hs] at h5
            injection h5 with h5
            subst h5
            rw [hs3] at h6
            cases h6
          exact ((hg0 u hu).set hne).set hne
        · rw [List.mem_singleton] at hu
          subst hu
          exact ⟨rfl, hr.byte, _, by rw [List.getElem?_set_self (by rw [List.length_set]; exact (List.getElem?_eq_some_iff.1 hs).1)], rfl⟩)
      exact ⟨0, rfl, a1, a2, .inr ⟨rfl, a3⟩⟩
  · refine (upd_no B b mb cb e ks sz _ P K.A V.A K.n K.c C V.n V.c fl K.bs w h.lru hr he).mono ?_
    rintro en w' ⟨h7, hb⟩
    obtain ⟨a1, a2, a3⟩ := h.stay hB hb
    exact ⟨_, h7, a1, a2, .inl ⟨he, a3⟩⟩
end
end Go.Proofs.Ytihhbpadafgkoaa
