/-
  Are the deeds too many?
-/
import Derived.Test.YtflpifelamkagaaGreatY5
import Derived.Test.YtflpifelamkagaaGreatYOPS
import Derived.Test.YtflpifelamkagaaGreatYSPC
import Derived.Test.YtflpifelamkagaaGreatAB
namespace Go.Proofs.YtflpifelamkagaaGreat
open Go.RowKit
set_option linter.unusedVariables false

/-- Of the first j deeds none has many bytes. -/
def Small (ds : List ADo) (j nn : Nat) : Prop := ∀ (i : Nat) (d : ADo), i < j → ds[i]? = some d → d.b.n / 40 ≤ nn
theorem Small.next {ds : List ADo} {j nn : Nat} {d : ADo} (h : Small ds j nn) (hd : ds[j]? = some d) : Small ds (j + 1) (nn + d.b.n / 40) := fun i e hi he => by
  by_cases hij : i = j
  · subst hij
    rw [hd] at he
    injection he with he
    subst he
    omega
  · have := h i e (by omega) he
    omega
set_option maxRecDepth 100000 in
set_option maxHeartbeats 1000000 in
theorem great_any (A : Option Addr) (m c B : Nat) (ds : List ADo) (w : World) (h : ADos w B A m ds) (hm : m ≤ 140737488351232) :
    Calls Tryz.prog 5 #[.slice A m c] w fun e w' => ∃ g : Bool, e = .returned (.bool g) ∧ w = w' ∧ (g = false → m ≤ 400 ∧ ∀ d ∈ ds, d.b.n ≤ 20000) := by
  have HH := hide h
  clear h
  go_enter Tryz.func5, Tryz.ntmps5
  go_wp2
  go_loopw [3, 4] (fun a b wr => ∃ j nn : Nat, j ≤ m ∧ m ≤ nn ∧ nn ≤ 281474976710656 ∧ a = .int .i64 nn ∧ b = .int .i64 j ∧ wr = w ∧ Small ds j nn) (fun _ b _ => m - (intOf b).toNat)
  case atStart => exact ⟨0, m, Nat.zero_le _, Nat.le_refl _, by omega, rfl, rfl, rfl, fun i d hi => by omega⟩
  case round =>
    obtain ⟨j, nn, hj, hmn, hnn, rfl, rfl, rfl, hs⟩ := hrel
    have HS := hide hs
    clear hs
    by_cases hgo : j < m ∧ nn ≤ 400
    · obtain ⟨hjm, hn4⟩ := hgo
      obtain ⟨ad, d, rfl, hd, _, hc⟩ := HH.out.cell hjm
      have c5 := hc 1 _ rfl
      rw [add_parts ad _ 1 (by decide)] at c5
      have hle := (HH.out.inner d (List.mem_of_getElem? hd)).b.le
      have hcp := (HH.out.inner d (List.mem_of_getElem? hd)).b.cap
      have HD := hide hd
      clear hd hc
      go_wp2
      go_roundw
      case rel => exact ⟨j + 1, nn + d.b.n / 40, by omega, by omega, by omega, by go_num, by go_num, trivial, HS.out.next HD.out⟩
      case measure => simp [intOf]; omega
    · by_cases hbig : 400 < nn
      · by_cases hjm : j < m
        · clear hgo
          go_wp2
          go_ret
          exact ⟨true, rfl, rfl, nofun⟩
        · have hjm2 : j = m := by omega
          subst hjm2
          clear hgo
          go_wp2
          go_ret
          exact ⟨decide ((400 : Int) < nn), rfl, rfl, fun h => by simp at h; omega⟩
      · have hjm2 : j = m := by omega
        subst hjm2
        clear hgo
        have hl := HH.out.len
        go_wp2
        go_ret
        exact ⟨decide ((400 : Int) < nn), rfl, rfl, fun _ => ⟨by omega, fun d hd => by
          obtain ⟨i, hi⟩ := List.mem_iff_getElem?.1 hd
          have h1 := (List.getElem?_eq_some_iff.1 hi).1
          have := HS.out i d (by omega) hi
          omega⟩⟩
/-- What was told lies apart. -/
theorem told_apart {w : World} {B : Nat} {tv : Value} {TL : List TRow} (h : Told w B tv TL) (hl : TL.length ≤ 400) (hB : B ≤ w.heap.size) : Calls Tryz.prog 21 #[tv] w fun e w' => e = .returned (.bool true) ∧ Below B w w' := by
  have hat : ∀ i, i < TL.length → ∃ t, TL[i]? = some t ∧ rowV (fun i => (TL.getD i ⟨none, 0, 0⟩).A) (fun i => (TL.getD i ⟨none, 0, 0⟩).n) (fun i => (TL.getD i ⟨none, 0, 0⟩).c) i = t.sl ∧ (TL.getD i ⟨none, 0, 0⟩).n = t.n := fun i hi => by
    refine ⟨TL[i], List.getElem?_eq_getElem hi, ?_, ?_⟩
    · unfold rowV TRow.sl
      simp [List.getD_eq_getElem?_getD, List.getElem?_eq_getElem hi]
    · simp [List.getD_eq_getElem?_getD, List.getElem?_eq_getElem hi]
  have hrows : rowsV (fun i => (TL.getD i ⟨none, 0, 0⟩).A) (fun i => (TL.getD i ⟨none, 0, 0⟩).n) (fun i => (TL.getD i ⟨none, 0, 0⟩).c) TL.length = TL.map TRow.sl := by
    unfold rowsV
    apply List.ext_getElem
    · simp
    · intro i h1 h2
      have hi : i < TL.length := by simpa using h2
      obtain ⟨t, e1, e2, _⟩ := hat i hi
      have e3 : TL[i] = t := by rw [List.getElem?_eq_getElem hi] at e1; injection e1
      rw [List.getElem_map, List.getElem_range, e2, List.getElem_map, e3]
  refine (apartBytes_any tv TL.length _ _ _ w (by rw [hrows]; exact h.lst) (fun i hi => ?_) (fun i k hi hk hne g hg => ?_) (fun i => ?_) hl).mono ?_
  · obtain ⟨t, h1, h2, h3⟩ := hat i hi
    rw [h2, h3]
    exact h.row i t h1
  · obtain ⟨t, h1, h2, _⟩ := hat i hi
    obtain ⟨s, h3, h4, _⟩ := hat k hk
    rw [h2] at hg
    rw [h4]
    exact h.sep i k t s h1 h3 hne g hg
  · by_cases hi : i < TL.length
    · obtain ⟨t, h1, _, h3⟩ := hat i hi
      rw [h3]
      exact h.small t (List.mem_of_getElem? h1)
    · rw [List.getD_eq_getElem?_getD, List.getElem?_eq_none (by omega)]
      exact Nat.zero_le _
  · rintro e w' ⟨rfl, hk⟩
    refine ⟨rfl, hk.to_below (fun g hg i hi e => ?_) hB⟩
    obtain ⟨t, h1, h2, h3⟩ := hat i hi
    rw [h2] at e
    have := h.low g (.inr ⟨t, List.mem_of_getElem? h1, e⟩)
    omega
section
variable {w0 w w2 w3 w' : World} {B b x sz n c c2 c' : Nat} {st : Bool} {A A2 A' : Option Addr} {L L' M M' : List QR} {tv tv' : Value} {TL : List TRow} {t : TRow} {l : List Int}
/-- A row that is to be told next. -/
def NewRow (B b x : Nat) (A : Option Addr) (L : List QR) (A2 : Option Addr) (M : List QR) (tv : Value) (TL : List TRow) (t : TRow) : Prop := ∀ g, t.sl.ownBlock = some g → B ≤ g ∧ ¬ OfQ b A L g ∧ ¬ OfQ x A2 M g ∧ ¬ OfT tv TL g
theorem S14.doc' (h : S14 w0 w B b x st sz n A c L A2 c2 M tv TL) (hq : RQue w' B x st sz n A' c' M') (hk : Kept (fun g => g ≠ x) w w') (hs : ∀ g, OfQ x A' M' g → OfQ x A2 M g ∨ w.heap.size ≤ g) : S14 w0 w' B b x st sz n A c L A' c' M' tv TL :=
  ⟨h.que.kept hk (fun g hg e => h.d1 g hg (.inl e)), hq, h.told.kept hk (fun g hg e => h.d3 g (.inl e) hg),
    fun g hg hr => (hs g hr).elim (fun h1 => h.d1 g hg h1) (fun h1 => by have := h.que.lt g hg; omega), h.d2, fun g hr hg => (hs g hr).elim (fun h1 => h.d3 g h1 hg) (fun h1 => by have := h.told.lt g hg; omega), h.base,
    h.low hk (fun g hg e => by have := h.ref.low g (.inl e); omega)⟩
/-- Behind both Pops. -/
theorem S14.popped (h : S14 w0 w B b x st sz n A c L A2 c2 M tv TL) (hq : Que w2 B b st sz n A c (popL st L)) (hk : Kept (fun g => g ≠ b ∧ (Value.slice A 0 0).ownBlock ≠ some g) w w2)
    (ho : w2.ownsRow 0 5 1 t.sl t.n (u8s l)) (ht : ∀ g, t.sl.ownBlock = some g → OfQ b A L g ∧ ¬ OfQ b A (popL st L) g) (hr : RTold B x st sz n A2 M M' w2 w3) :
    ∃ A3 c3, S14 w0 w3 B b x st sz n A c (popL st L) A3 c3 M' tv TL ∧ w3.ownsRow 0 5 1 t.sl t.n (u8s l) ∧ NewRow B b x A (popL st L) A3 M' tv TL t := by
  obtain ⟨A3, c3, r1, r2, r3⟩ := hr
  have hsub : ∀ g, OfQ b A (popL st L) g → OfQ b A L g := by
    rintro g (hg | hg | ⟨r, hr, hg⟩)
    · exact .inl hg
    · exact .inr (.inl hg)
    · exact .inr (.inr ⟨r, List.mem_of_mem_eraseIdx hr, hg⟩)
  have h2 := h.prog hk hq (fun g hg => .inl (hsub g hg))
  refine ⟨A3, c3, h2.doc' r1 r2 r3, owns_kept ho r2 (fun g hg e => ?_), fun g hg => ⟨h.que.low g (ht g hg).1, (ht g hg).2, fun e => ?_, h.d2 g (ht g hg).1⟩⟩
  · exact h.d1 g (ht g hg).1 (.inl e)
  · rcases r3 g e with h3 | h3
    · exact h.d1 g (ht g hg).1 h3
    · have h4 := h.que.lt g (ht g hg).1
      have h5 := hk.size
      omega
theorem S14.fresh (h : S14 w0 w B b x st sz n A c L A2 c2 M tv TL) (ht : ∀ g, t.sl.ownBlock = some g → w.heap.size ≤ g) : NewRow B b x A L A2 M tv TL t := fun g hg => by
  have h1 := ht g hg
  refine ⟨Nat.le_trans h.B_le h1, fun e => ?_, fun e => ?_, fun e => ?_⟩
  · have := h.que.lt g e; omega
  · have := h.ref.lt g e; omega
  · have := h.told.lt g e; omega
/-- The row stands in the list of what was told. -/
theorem S14.append {o : Obj} (h : S14 w0 w B b x st sz n A c L A2 c2 M tv TL) (ho : w.ownsRow 0 5 1 t.sl t.n (u8s l)) (hn : t.n ≤ 1000000) (hnew : NewRow B b x A L A2 M tv TL t) (hl : Longer (w.alloc o) w' 36 1 tv tv' (TL.length + 1) (TL.map TRow.sl ++ [t.sl])) : S14 w0 w' B b x st sz n A c L A2 c2 M tv' (TL ++ [t]) := by
  obtain ⟨l1, l2, l3⟩ := hl
  refine h.tell ho hn hnew ((Kept.of_below (F := fun g => tv.ownBlock ≠ some g) (below1 w o)).grown l2 (fun k hk _ hF => hF hk)) l1 (fun g hg => ?_)
  rcases l3 with l3 | l3
  · exact .inl (l3.symm.trans hg)
  · rw [hg] at l3
    injection l3 with l3
    rw [World.size_alloc] at l3
    exact .inr (by omega)
/-- Lent bytes read as what they are a copy of. -/
theorem row_rd {g q : Nat} {ms : List Value} (h : Row w g (q + 12) 5 1 (q + 12) (u8s l ++ ms)) (hl : l.length = q) : Rd w w.heap.size 1 (some ⟨g, 0, none⟩) q (u8s l) := by
  have h1 := Rd.of_own (owns_prefix (n := q) h (by omega))
  have e : (u8s l ++ ms).take (q * 1) = u8s l := by
    rw [Nat.mul_one, List.take_append_of_le_length (by simp [u8s, hl]), List.take_of_length_le (by simp [u8s, hl])]
  rw [e] at h1
  exact h1
/-- Behind both Pushes: block g, which is none of theirs, holds what was lent. -/
def PushFin (w0 : World) (B b x : Nat) (st : Bool) (sz n : Nat) (tv : Value) (TL : List TRow) (g : Nat) (w : World) : Prop :=
  ∃ A c L A2 c2 M, S14 w0 w B b x st sz n A c L A2 c2 M tv TL ∧ M.map QR.bs = L.map QR.bs ∧ ¬ OfQ b A L g ∧ ¬ OfQ x A2 M g ∧ ¬ OfT tv TL g ∧ B ≤ g
theorem S14.push {g q cS : Nat} {S : Option Addr} {fl : Int} {ms : List Value} (h : S14 w0 w B b x st sz n A c L A2 c2 M tv TL) (same : M.map QR.bs = L.map QR.bs) (hgQ : ¬ OfQ b A L g) (hgR : ¬ OfQ x A2 M g) (hgT : ¬ OfT tv TL g) (hgB : B ≤ g)
    (hrow : Row w g (q + 12) 5 1 (q + 12) (u8s l ++ ms)) (hS : Rd w w0.heap.size 1 S q (u8s l)) :
    Calls Tryz.prog 16 #[.pointer (some ⟨b, 0, none⟩), .slice (some ⟨g, 0, none⟩) q (q + 12), .int .u64 fl] w fun e w2 => e = .returned (.int .i64 (pushE sz n L.length q fl)) ∧ Below w0.heap.size w0 w2 ∧
      Calls Tryz.prog 17 #[.pointer (some ⟨x, 0, none⟩), .slice S q cS, .int .u64 fl] w2 fun e w3 => e = .returned (.int .i64 (pushE sz n L.length q fl)) ∧ Below w0.heap.size w0 w3 ∧ Row w3 g (q + 12) 5 1 (q + 12) (u8s l ++ ms) ∧ PushFin w0 B b x st sz n tv TL g w3 := by
  have hll : l.length = q := by have := hS.1; simpa [u8s] using this
  have hgl : g < w.heap.size := (World.ownsRow.lt hrow g rfl).2
  have hlen : M.length = L.length := (pop_same (st := st) same).2.2.2
  refine (push_all (some ⟨g, 0, none⟩) q (q + 12) w.heap.size l fl h.que (row_rd hrow hll) (Nat.le_refl _) (fun ad e => by cases e; exact hgQ)).mono ?_
  rintro e w2 ⟨rfl, hcase⟩
  have hS2 : ∀ {W : World}, Below w0.heap.size w W → Rd W w0.heap.size 1 S q (u8s l) := fun hb => hS.below hb
  have hbase := h.base
  have hBl := h.B_le
  rcases hcase with ⟨hne, hb⟩ | ⟨h0, A', c', r, hbs, hq, hk, hs⟩
  · have h2 := h.later hb
    refine ⟨rfl, h2.below, (rpush_all S q cS w0.heap.size l fl h2.ref (hS2 (hb.mono (by omega))) (by have := hb.size; omega) (fun ad h0 e e2 => ?_)).mono ?_⟩
    · obtain ⟨ad2, e3, hlt, _⟩ := hS.2 h0
      rw [e] at e3; cases e3
      have := h.ref.low x (.inl rfl)
      omega
    · rintro e w3 ⟨rfl, hcase⟩
      rw [hlen] at hcase ⊢
      rcases hcase with ⟨_, hb3⟩ | ⟨h0, _⟩
      · have h3 := h2.later hb3
        exact ⟨rfl, h3.below, owns_kept_below (owns_kept_below hrow hb) hb3, A, c, L, A2, c2, M, h3, same, hgQ, hgR, hgT, hgB⟩
      · exact absurd h0 hne
  · have h2 := h.prog hk hq hs
    have hkB : Below w0.heap.size w w2 := hk.to_below (fun k hk2 => ⟨fun e => by have := h.que.low k (.inl e); omega, fun e => by have := h.que.low k (.inr (.inl e)); omega⟩) (by omega)
    have hgQ2 : ¬ OfQ b A' (L.drop (pushK n L.length) ++ [r]) g := fun e => (hs g e).elim hgQ (fun h1 => by omega)
    have hrow2 : Row w2 g (q + 12) 5 1 (q + 12) (u8s l ++ ms) := owns_kept hrow hk (fun k hk2 => by
      have e : g = k := Option.some.inj hk2
      subst e
      exact ⟨fun e => hgQ (.inl e), fun e => hgQ (.inr (.inl e))⟩)
    refine ⟨rfl, h2.below, (rpush_all S q cS w0.heap.size l fl h2.ref (hS2 hkB) (by have := hk.size; omega) (fun ad h0 e e2 => ?_)).mono ?_⟩
    · obtain ⟨ad2, e3, hlt, _⟩ := hS.2 h0
      rw [e] at e3; cases e3
      have := h.ref.low x (.inl rfl)
      omega
    · rintro e w3 ⟨rfl, hcase⟩
      rw [hlen] at hcase ⊢
      rcases hcase with ⟨hne, _⟩ | ⟨_, r2, hbs2, A3, c3, r1, rk, rs⟩
      · exact absurd h0 hne
      · have h3 := h2.doc' r1 rk rs
        have hgl2 : g < w2.heap.size := Nat.lt_of_lt_of_le hgl hk.size
        refine ⟨rfl, h3.below, owns_kept hrow2 rk (fun k hk2 e => hgR (.inl ?_)), A', c', _, A3, c3, _, h3, push_same same (hbs2.trans hbs.symm), hgQ2, fun e => (rs g e).elim hgR (fun h1 => by omega), hgT, hgB⟩
        have e3 : g = k := Option.some.inj hk2
        rw [e3, e]
end
end Go.Proofs.YtflpifelamkagaaGreat
