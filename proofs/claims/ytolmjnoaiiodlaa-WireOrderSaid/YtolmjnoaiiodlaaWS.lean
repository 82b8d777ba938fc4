/-
  What a tree must be, whether it may be put: sound, anyTree, mayPut, Right.
-/
import Derived.Test.YtolmjnoaiiodlaaDW
namespace Go.Proofs.Ytolmjnoaiiodlaa
open Go.RowKit Go.Maps Forest
set_option linter.unusedVariables false

def soundM (k n : Int) (bn kn : Nat) : Bool := if k = 1 then bn == 0 && kn == 0 else if k = 2 then n == 0 && kn == 0 else if k = 3 then n == 0 && bn == 0 else false
theorem natb (n : Nat) : ((n : Int) == 0) = (n == 0) := by
  cases n with
  | zero => rfl
  | succ n => simp; omega
set_option maxRecDepth 100000 in
theorem sound_any (W : World) (k n : Int) (bA : Option Addr) (bn bc : Nat) (kA : Option Addr) (kn kc : Nat) : Calls Try.prog 27 #[.agg #[.int .u8 k, .int .i64 n, .slice bA bn bc, .slice kA kn kc]] W fun e w' => e = .returned (.bool (soundM k n bn kn)) ∧ Below W.heap.size W w' := by
  obtain ⟨sm, hsm⟩ : ∃ s, s = soundM k n bn kn := ⟨_, rfl⟩
  rw [← hsm]
  unfold soundM at hsm
  by_cases h1 : k = 1
  · subst h1
    rw [if_pos rfl] at hsm
    have HSM := hide hsm
    clear hsm
    by_cases hb : bn = 0
    · subst hb
      by_cases hk : kn = 0
      · subst hk
        go_enter Try.func27, Try.ntmps27
        go_wp2
        go_ret
        exact ⟨by rw [HSM.out]; rfl, below1 _ _⟩
      · have hkb : ((kn : Int) == 0) = false := by simp; omega
        go_enter Try.func27, Try.ntmps27
        go_wp2
        go_ret
        exact ⟨by rw [HSM.out]; simp [hk], below1 _ _⟩
    · have hbb : ((bn : Int) == 0) = false := by simp; omega
      go_enter Try.func27, Try.ntmps27
      go_wp2
      go_ret
      exact ⟨by rw [HSM.out]; simp [hb], below1 _ _⟩
  · rw [if_neg h1] at hsm
    have h1b : (k == 1) = false := by simpa using h1
    by_cases h2 : k = 2
    · subst h2
      rw [if_pos rfl] at hsm
      have HSM := hide hsm
      clear hsm h1 h1b
      by_cases hn : n = 0
      · subst hn
        by_cases hk : kn = 0
        · subst hk
          go_enter Try.func27, Try.ntmps27
          go_wp2
          go_ret
          exact ⟨by rw [HSM.out]; rfl, below1 _ _⟩
        · have hkb : ((kn : Int) == 0) = false := by simp; omega
          go_enter Try.func27, Try.ntmps27
          go_wp2
          go_ret
          exact ⟨by rw [HSM.out]; simp [hk], below1 _ _⟩
      · have hnb : (n == 0) = false := by simpa using hn
        go_enter Try.func27, Try.ntmps27
        go_wp2
        go_ret
        exact ⟨by rw [HSM.out]; simp [hn], below1 _ _⟩
    · rw [if_neg h2] at hsm
      have h2b : (k == 2) = false := by simpa using h2
      by_cases h3 : k = 3
      · subst h3
        rw [if_pos rfl] at hsm
        have HSM := hide hsm
        clear hsm h1 h1b h2 h2b
        by_cases hn : n = 0
        · subst hn
          by_cases hb : bn = 0
          · subst hb
            go_enter Try.func27, Try.ntmps27
            go_wp2
            go_ret
            exact ⟨by rw [HSM.out]; rfl, below1 _ _⟩
          · have hbb : ((bn : Int) == 0) = false := by simp; omega
            go_enter Try.func27, Try.ntmps27
            go_wp2
            go_ret
            exact ⟨by rw [HSM.out]; simp [hb], below1 _ _⟩
        · have hnb : (n == 0) = false := by simpa using hn
          go_enter Try.func27, Try.ntmps27
          go_wp2
          go_ret
          exact ⟨by rw [HSM.out]; simp [hn], below1 _ _⟩
      · rw [if_neg h3] at hsm
        have h3b : (k == 3) = false := by simpa using h3
        have HSM := hide hsm
        clear hsm h1 h2 h3
        go_enter Try.func27, Try.ntmps27
        go_wp2
        go_ret
        exact ⟨by rw [HSM.out]; rfl, below1 _ _⟩
theorem anyTree_any (W : World) (k n : Int) (bA : Option Addr) (bn bc : Nat) (kA : Option Addr) (kn kc : Nat) : Calls Try.prog 28 #[.agg #[.int .u8 k, .int .i64 n, .slice bA bn bc, .slice kA kn kc]] W fun e w' => e = .returned (.bool true) ∧ Below W.heap.size W w' := by
  go_enter Try.func28, Try.ntmps28
  go_wp2
  go_ret
  exact ⟨rfl, below1 _ _⟩
theorem FAt.mono {W : World} {B B' : Nat} (hB : B ≤ B') : ∀ {F : Forest} {a : Addr}, FAt W B F a → FAt W B' F a := by
  intro F
  induction F with
  | nil => intro a _; trivial
  | cons k n bs kids rest ih1 ih2 =>
    intro a h
    obtain ⟨⟨hb, c, t, hbl⟩, ⟨bA, bc, kA, kc, c0, c1, c2, c3, hr, hn, hkk, hcap⟩, hrest⟩ := h
    exact ⟨⟨Nat.lt_of_lt_of_le hb hB, c, t, hbl⟩, ⟨bA, bc, kA, kc, c0, c1, c2, c3, hr.mono hB, hn, hkk.imp id fun ⟨ka, e, h⟩ => ⟨ka, e, ih1 h⟩, hcap⟩, ih2 hrest⟩
theorem RowAt.mono {W : World} {B B' : Nat} {A : Option Addr} {F : Forest} (h : RowAt W B A F) (hB : B ≤ B') : RowAt W B' A F := h.imp id fun ⟨a, e, h⟩ => ⟨a, e, h.mono hB⟩
/-- A tree: its parts, and where they stand. -/
structure TV where
  k : Int
  n : Int
  bs : List Int
  kids : Forest
  bA : Option Addr
  bc : Nat
  kA : Option Addr
  kc : Nat
def TV.val (t : TV) : Value := .agg #[.int .u8 t.k, .int .i64 t.n, .slice t.bA t.bs.length t.bc, .slice t.kA t.kids.len t.kc]
def TV.row (t : TV) : Forest := .cons t.k t.n t.bs t.kids .nil
structure TV.Is (W : World) (B : Nat) (t : TV) : Prop where
  rd : Rd W B 1 t.bA t.bs.length (u8s t.bs)
  nil : t.bA = none → t.bs.length = 0
  kids : RowAt W B t.kA t.kids
  cap : t.kids.len ≤ t.kc
  small : t.bs.length ≤ 1000000
  deep : t.kids.Dm ≤ 900000
theorem TV.Is.below {W W' : World} {B : Nat} {t : TV} (h : t.Is W B) (hb : Below B W W') : t.Is W' B := ⟨h.rd.below hb, h.nil, h.kids.below hb, h.cap, h.small, h.deep⟩
theorem TV.Is.mono {W : World} {B B' : Nat} {t : TV} (h : t.Is W B) (hB : B ≤ B') : t.Is W B' := ⟨h.rd.mono hB, h.nil, h.kids.mono hB, h.cap, h.small, h.deep⟩
theorem TV.row_dm {W : World} {B : Nat} {t : TV} (h : t.Is W B) : t.row.Dm ≤ 1000000 := by
  have := h.deep
  unfold TV.row
  simp only [Dm]
  split <;> omega
/-- A row of one tree, made by the call. -/
theorem one_row {W : World} {B : Nat} {t : TV} (h : t.Is W B) (hB : B ≤ W.heap.size) : RowAt (W.alloc (.cells #[.int .u8 t.k, .int .i64 t.n, .slice t.bA t.bs.length t.bc, .slice t.kA t.kids.len t.kc] 26)) (W.heap.size + 1) (some ⟨W.heap.size, 0, none⟩) t.row := by
  have h1 := (h.below ((below1 W (.cells #[.int .u8 t.k, .int .i64 t.n, .slice t.bA t.bs.length t.bc, .slice t.kA t.kids.len t.kc] 26)).mono hB)).mono (B' := W.heap.size + 1) (by omega)
  have hb := World.alloc_heap_new W (.cells #[.int .u8 t.k, .int .i64 t.n, .slice t.bA t.bs.length t.bc, .slice t.kA t.kids.len t.kc] 26)
  refine .inr ⟨_, rfl, ⟨Nat.lt_succ_self _, _, _, hb⟩, ⟨t.bA, t.bc, t.kA, t.kc, (blk_cell hb 0).trans rfl, ?_, ?_, ?_, h1.rd, h1.nil, h1.kids, h1.cap⟩, trivial⟩
  · rw [add_own]; exact (blk_cell hb 1).trans rfl
  · rw [add_own]; exact (blk_cell hb 2).trans rfl
  · rw [add_own]; exact (blk_cell hb 3).trans rfl
def putE (t : TV) : Int := if okF soundM t.row = true then (if 16 < t.row.Dm then 3 else 0) else 2
set_option maxRecDepth 100000 in
set_option maxHeartbeats 1000000 in
theorem mayPut_any (t : TV) (B : Nat) (w : World) (h : t.Is w B) (hB : B ≤ w.heap.size) : Calls Try.prog 23 #[t.val] w fun e w' => e = .returned (.int .i64 (putE t)) ∧ Below w.heap.size w w' := by
  unfold TV.val
  obtain ⟨w1, hw1⟩ : ∃ w1, w1 = w.alloc (.cells #[.int .u8 t.k, .int .i64 t.n, .slice t.bA t.bs.length t.bc, .slice t.kA t.kids.len t.kc] 26) := ⟨_, rfl⟩
  have hb1 : Below w.heap.size w w1 := by rw [hw1]; exact below1 _ _
  have h1 := h.below (hb1.mono hB)
  have hd := depth_any soundM 27 (fun args W => by kernel_rfl) (fun W k n bA bn bc kA kn kc => sound_any W k n bA bn bc kA kn kc) (some ⟨w1.heap.size, 0, none⟩) 1 (w1.heap.size + 1) t.row (w1.alloc (.cells #[.int .u8 t.k, .int .i64 t.n, .slice t.bA t.bs.length t.bc, .slice t.kA t.kids.len t.kc] 26)) (one_row h1 (Nat.le_trans hB hb1.size)) (by simp) (TV.row_dm h1) (Nat.le_refl 1)
  have hs1 : w1.heap.size = w.heap.size + 1 := by rw [hw1]; simp
  rw [hs1] at hd
  have HD := hide hd
  have HB1 := hide hb1
  have HW1 := hide hw1
  have hx1 : w1.heap[w.heap.size]? = some (.cells #[.int .u8 t.k, .int .i64 t.n, .slice t.bA t.bs.length t.bc, .slice t.kA t.kids.len t.kc] 26 (0, 0)) := by rw [hw1]; exact World.alloc_heap_new _ _
  have hdm := TV.row_dm h1
  have HPE := hide (rfl : putE t = putE t)
  clear hd hb1 hw1 h h1 hs1 HPE
  go_enter Try.func23, Try.ntmps23
  go_wp2_with fail
  rw [show w.alloc (.cells #[.int .u8 t.k, .int .i64 t.n, .slice t.bA t.bs.length t.bc, .slice t.kA t.kids.len t.kc] 26) = w1 from HW1.out.symm]
  refine HD.out.mono ?_
  rintro e w2 ⟨rfl, hb⟩
  have HB2 := hide (HB1.out.trans ((below1c hb).mono HB1.out.size))
  clear hb hx1
  cases hok : okF soundM t.row with
  | false =>
    have hp : putE t = 2 := by unfold putE; rw [hok]; rfl
    have hv : deepV soundM t.row = 0 := by unfold deepV; rw [hok]; rfl
    rw [hv]
    have HP := hide hp
    clear hp hv hok
    go_wp2_with fail
    go_ret
    exact ⟨by rw [HP.out]; rfl, HB2.out⟩
  | true =>
    have hv : deepV soundM t.row = ((1 + t.row.Dm : Nat) : Int) := by unfold deepV; rw [hok]; rfl
    rw [hv]
    have hp : putE t = if 16 < t.row.Dm then 3 else 0 := by unfold putE; rw [hok]; rfl
    have HP := hide hp
    clear hp hv hok
    generalize t.row.Dm = dm at hdm HP
    by_cases hm : 16 < dm
    · have h1 : decide ((((1 + dm : Nat) : Int) - 1) > 16) = true := by simp; omega
      have e1 : ((1 + dm : Nat) : Int) - 1 = dm := by omega
      go_wp2_with fail
      go_ret
      exact ⟨by rw [HP.out, if_pos hm]; rfl, HB2.out⟩
    · have e1 : ((1 + dm : Nat) : Int) - 1 = dm := by omega
      go_wp2_with fail
      go_ret
      exact ⟨by rw [HP.out, if_neg hm]; rfl, HB2.out⟩
end Go.Proofs.Ytolmjnoaiiodlaa
