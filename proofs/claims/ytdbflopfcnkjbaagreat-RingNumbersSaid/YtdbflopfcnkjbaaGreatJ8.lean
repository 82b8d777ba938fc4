/-
  Are the deeds too many? What stands between RingOrder's rounds: the ring, and the law's own rows.
-/
import Derived.Test.YtdbflopfcnkjbaaGreatJ7
import Derived.Test.YtdbflopfcnkjbaaGreatJOPS
import Derived.Test.YtdbflopfcnkjbaaGreatV0
namespace Go.Proofs.YtdbflopfcnkjbaaGreat
open Go.RowKit
set_option linter.unusedVariables false

/-- What is picked of x hangs on no world. -/
def pickN (x : Int) (m : Nat) : Nat := if x.tmod m < 0 then (x.tmod m + m).toNat else (x.tmod m).toNat
theorem pickN_lt (x : Int) (m : Nat) (hm : 0 < m) : pickN x m < m := by
  have h0 := Int.tmod_lt_of_pos x (show (0 : Int) < m by omega)
  have h3 := Int.lt_tmod_of_pos x (show (0 : Int) < m by omega)
  unfold pickN
  split <;> omega
/-- Of the first j deeds none has many bytes. -/
def Small (ds : List ADo) (j nn : Nat) : Prop := ∀ (i : Nat) (d : ADo), i < j → ds[i]? = some d → d.b.n / 100 ≤ nn
theorem Small.next {ds : List ADo} {j nn : Nat} {d : ADo} (h : Small ds j nn) (hd : ds[j]? = some d) : Small ds (j + 1) (nn + d.b.n / 100) := fun i e hi he => by
  by_cases hij : i = j
  · subst hij
    rw [hd] at he
    injection he with he
    subst he
    omega
  · have := h i e (by omega) he
    omega
set_option maxRecDepth 100000 in
set_option maxHeartbeats 1000000 in
theorem great_any (A : Option Addr) (m c B : Nat) (ds : List ADo) (w : World) (h : ADos w B A m ds) (hm : m ≤ 140737488351232) :
    Calls Tryz.prog 10 #[.slice A m c] w fun e w' => ∃ g : Bool, e = .returned (.bool g) ∧ w = w' ∧ (g = false → m ≤ 300 ∧ ∀ d ∈ ds, d.b.n ≤ 30100) := by
  have HH := hide h
  clear h
  go_enter Tryz.func10, Tryz.ntmps10
  go_wp2
  go_loopw [3, 4] (fun a b wr => ∃ j nn : Nat, j ≤ m ∧ m ≤ nn ∧ nn ≤ 281474976710656 ∧ a = .int .i64 nn ∧ b = .int .i64 j ∧ wr = w ∧ Small ds j nn) (fun _ b _ => m - (intOf b).toNat)
  case atStart => exact ⟨0, m, Nat.zero_le _, Nat.le_refl _, by omega, rfl, rfl, rfl, fun i d hi => by omega⟩
  case round =>
    obtain ⟨j, nn, hj, hmn, hnn, rfl, rfl, rfl, hs⟩ := hrel
    have HS := hide hs
    clear hs
    by_cases hgo : j < m ∧ nn ≤ 300
    · obtain ⟨hjm, hn4⟩ := hgo
      obtain ⟨ad, d, rfl, hd, _, hc⟩ := HH.out.cell hjm
      have c5 := hc 1 _ rfl
      rw [add_parts ad _ 1 (by decide)] at c5
      have hle := (HH.out.inner d (List.mem_of_getElem? hd)).b.le
      have hcp := (HH.out.inner d (List.mem_of_getElem? hd)).b.cap
      have HD := hide hd
      clear hd hc
      go_wp2
      go_roundw
      case rel => exact ⟨j + 1, nn + d.b.n / 100, by omega, by omega, by omega, by go_num, by go_num, trivial, HS.out.next HD.out⟩
      case measure => simp [intOf]; omega
    · by_cases hbig : 300 < nn
      · by_cases hjm : j < m
        · clear hgo
          go_wp2
          go_ret
          exact ⟨true, rfl, rfl, nofun⟩
        · have hjm2 : j = m := by omega
          subst hjm2
          clear hgo
          go_wp2
          go_ret
          exact ⟨decide ((300 : Int) < nn), rfl, rfl, fun h => by simp at h; omega⟩
      · have hjm2 : j = m := by omega
        subst hjm2
        clear hgo
        have hl := HH.out.len
        go_wp2
        go_ret
        exact ⟨decide ((300 : Int) < nn), rfl, rfl, fun _ => ⟨by omega, fun d hd => by
          obtain ⟨i, hi⟩ := List.mem_iff_getElem?.1 hd
          have h1 := (List.getElem?_eq_some_iff.1 hi).1
          have := HS.out i d (by omega) hi
          omega⟩⟩
/-- A ring, and rows that came in, whose bytes those of the ring's records are. -/
structure AO (w : World) (B b bx sz : Nat) (L : List RK) (v : Value) (gs : List ARow) : Prop where
  rng : Rng w B b bx sz L
  cut : CutRow w 27 v gs.length (gs.map ARow.sl)
  d2 : ∀ g, v.ownBlock = some g → ¬ OfG b bx L g
  low2 : ∀ g, v.ownBlock = some g → B ≤ g
  inn : ∀ r ∈ gs, InB w B r
section
variable {w w' : World} {B b bx sz : Nat} {L L' : List RK} {v v' : Value} {gs : List ARow}
theorem AO.later (h : AO w B b bx sz L v gs) (hb : Below w.heap.size w w') : AO w' B b bx sz L v gs :=
  ⟨h.rng.below hb, h.cut.kept (F := fun _ => True) (Kept.of_below hb) (fun _ _ => trivial), h.d2, h.low2, fun r hr => (h.inn r hr).below (hb.mono h.rng.B_le)⟩
/-- The ring has turned. -/
theorem AO.turn {F : Nat → Prop} (h : AO w B b bx sz L v gs) (hr : Rng w' B b bx sz L') (hk : Kept F w w') (hF : ∀ g, F g ∨ OfG b bx L g) (hs : ∀ g, OfG b bx L' g → OfG b bx L g ∨ w.heap.size ≤ g) (hb : Below B w w') : AO w' B b bx sz L' v gs :=
  ⟨hr, h.cut.kept hk (fun g hg => (hF g).resolve_right (h.d2 g hg)), fun g hg h2 => (hs g h2).elim (h.d2 g hg) (fun h3 => by have := h.cut.lt g hg; omega), h.low2, fun r hr => (h.inn r hr).below hb⟩
theorem off_or (b bx : Nat) (L : List RK) (g : Nat) : Off b L g ∨ OfG b bx L g := by
  by_cases h : Off b L g
  · exact .inl h
  · refine .inr ?_
    by_cases hb : g = b
    · exact .inl hb
    · refine .inr (.inr ?_)
      by_cases hr : ∃ r ∈ L, r.g = g
      · obtain ⟨r, h1, h2⟩ := hr
        exact ⟨r, h1, .inl h2⟩
      · exact absurd ⟨hb, fun r h1 h2 => hr ⟨r, h1, h2⟩⟩ h
theorem b_or (b bx : Nat) (L : List RK) (g : Nat) : g ≠ b ∨ OfG b bx L g := by
  by_cases hb : g = b
  · exact .inr (.inl hb)
  · exact .inl hb
/-- A row was put beside. -/
theorem AO.beside {o : Obj} {W : World} {r : ARow} (h : AO w B b bx sz L v gs) (hr : InB w B r) (hg : CutGrown (w.alloc o) W 27 v v' (gs.length + 1) (gs.map ARow.sl ++ [r.sl])) : AO W B b bx sz L v' (gs ++ [r]) ∧ Below B w W := by
  obtain ⟨g1, g2, g3⟩ := hg
  have hb5 := below1 w o
  have hk : Kept (fun g => v.ownBlock ≠ some g) w W := keptTrans (Kept.of_below hb5) g2
  have hB : Below B w W := hk.to_below (fun g hg e => by have := h.low2 g e; omega) h.rng.B_le
  refine ⟨⟨h.rng.kept hk (fun g hg e => h.d2 g e hg), ?_, fun g hg h2 => ?_, fun g hg => ?_, fun s hs => ?_⟩, hB⟩
  · rw [List.length_append, List.map_append]
    exact g1
  · rcases g3 with g3 | g3
    · exact h.d2 g (g3.symm.trans hg) h2
    · rw [hg] at g3
      injection g3 with g3
      have := h.rng.lt g h2
      rw [World.size_alloc] at g3
      omega
  · rcases g3 with g3 | g3
    · exact h.low2 g (g3.symm.trans hg)
    · rw [hg] at g3
      injection g3 with g3
      have := h.rng.B_le
      rw [World.size_alloc] at g3
      omega
  · rcases List.mem_append.1 hs with hs | hs
    · exact (h.inn s hs).below hB
    · simp at hs; subst hs
      exact hr.below hB
theorem sum_same {L : List RK} {gs : List ARow} (h : L.map RK.bs = gs.map ARow.bs) : L.length = gs.length := by
  have := congrArg List.length h
  simpa using this
theorem first_same {L : List RK} {s : ARow} {gs : List ARow} (h : L.map RK.bs = (s :: gs).map ARow.bs) : ∃ r L', L = r :: L' ∧ r.bs = s.bs ∧ L'.map RK.bs = gs.map ARow.bs := by
  cases L with
  | nil => cases h
  | cons r L => simp at h; exact ⟨r, L, rfl, h.1, by simpa using h.2⟩
theorem AO.first {s : ARow} (h : AO w B b bx sz L v (s :: gs)) : ∃ ad c, v = .slice (some ad) (gs.length + 1) c ∧ w.cell? ad = some (.slice s.A s.n s.c) := by
  obtain ⟨A, c, rfl, hrd⟩ := h.cut.slice
  obtain ⟨ad, rfl, _, hc⟩ := hrd.2 (by simp)
  have := hc 0 s.sl rfl
  exact ⟨ad, c, rfl, by simpa [Addr.add, ARow.sl] using this⟩
end
theorem slInfo : (Tryz.prog.info? 27).map (fun i => (i.zero, i.size, i.bytes)) = some (some (.slice none 0 0), 1, 24) := by kernel_rfl
theorem slSize : (Tryz.prog.info? 27).map (·.size) = some 1 := by kernel_rfl
theorem CutRow.tail2 {w : World} {e : TypeId} {ad : Addr} {c n : Nat} {u : Value} {xs : List Value} (h : CutRow w e (.slice (some ad) (n + 1) c) (n + 1) (u :: xs)) :
    CutRow w e (.slice (if c = 1 then some ad else some ⟨ad.block, ad.off + 1, none⟩) n (c - 1)) n xs ∧ (Value.slice (if c = 1 then some ad else some ⟨ad.block, ad.off + 1, none⟩) n (c - 1)).ownBlock = (Value.slice (some ad) (n + 1) c).ownBlock := by
  have hl : xs.length = n := by have := h.1; simpa using this
  rcases h.2 with ⟨h0, _⟩ | ⟨g, off, cap, cur, hv, h1, h2, h3, h4, h5⟩
  · cases h0
  · cases hv
    refine ⟨⟨hl, .inr ?_⟩, ?_⟩
    · by_cases hc : c = 1
      · subst hc
        obtain rfl : n = 0 := by omega
        have : xs = [] := List.eq_nil_of_length_eq_zero hl
        subst this
        exact ⟨g, off, 0, cur, by simp, h1, by omega, by omega, by omega, by simp⟩
      · refine ⟨g, off + 1, c - 1, cur, by simp [hc], h1, by omega, by omega, by omega, ?_⟩
        have h6 : ((cur.toList.drop off).take (n + 1)).tail = xs := by rw [h5]; rfl
        rw [← h6, ← List.drop_one, List.drop_take, List.drop_drop]
        rfl
    · by_cases hc : c = 1 <;> simp [hc, Value.ownBlock]
theorem AO.tail {w : World} {B b bx sz : Nat} {L : List RK} {ad : Addr} {c : Nat} {s : ARow} {gs : List ARow} (h : AO w B b bx sz L (.slice (some ad) (gs.length + 1) c) (s :: gs)) :
    AO w B b bx sz L (.slice (if c = 1 then some ad else some ⟨ad.block, ad.off + 1, none⟩) gs.length (c - 1)) gs := by
  have hc := h.cut
  rw [List.length_cons, List.map_cons] at hc
  obtain ⟨h2, h3⟩ := CutRow.tail2 hc
  exact ⟨h.rng, h2, fun g hg => h.d2 g (h3.symm.trans hg), fun g hg => h.low2 g (h3.symm.trans hg), fun r hr => h.inn r (List.mem_cons_of_mem _ hr)⟩
end Go.Proofs.YtdbflopfcnkjbaaGreat
