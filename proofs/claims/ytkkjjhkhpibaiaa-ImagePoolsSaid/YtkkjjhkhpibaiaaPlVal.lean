/-
  What Valid of package seqpool says of a pool, and its contract.
-/
import Derived.Test.YtkkjjhkhpibaiaaBox
namespace Go.Proofs.Ytkkjjhkhpibaiaa.Sp
open Go.RowKit
set_option linter.unusedVariables false

/-- One sequence lies within n codes. -/
def ok1 (n : Nat) (s l : Int) : Bool := decide (0 ≤ s ∧ 0 ≤ l ∧ l ≤ (n : Int) ∧ s ≤ (n : Int) - l)
/-- The first i do. -/
def okTo (n : Nat) (starts lens : List Int) (i : Nat) : Prop := ∀ j, j < i → ok1 n (starts.getD j 0) (lens.getD j 0) = true
instance (n : Nat) (starts lens : List Int) (i : Nat) : Decidable (okTo n starts lens i) := Nat.decidableBallLT i fun j _ => ok1 n (starts.getD j 0) (lens.getD j 0) = true
def validL (n : Nat) (starts lens : List Int) : Bool := decide (starts.length = lens.length ∧ okTo n starts lens starts.length)
theorem okTo.next {n : Nat} {starts lens : List Int} {i : Nat} (h : okTo n starts lens i) (h1 : ok1 n (starts.getD i 0) (lens.getD i 0) = true) : okTo n starts lens (i + 1) := fun j hj => by
  rcases Nat.lt_or_ge j i with h2 | h2
  · exact h j h2
  · obtain rfl : j = i := by omega
    exact h1
theorem valid_no {n : Nat} {starts lens : List Int} {i : Nat} (hi : i < starts.length) (h1 : ok1 n (starts.getD i 0) (lens.getD i 0) = false) : validL n starts lens = false := by
  rw [validL, decide_eq_false_iff_not]
  rintro ⟨_, h2⟩
  rw [h2 i hi] at h1
  cases h1
theorem valid_len {n : Nat} {starts lens : List Int} (h : starts.length ≠ lens.length) : validL n starts lens = false := by
  rw [validL, decide_eq_false_iff_not]
  exact fun h2 => h h2.1
theorem valid_yes {n : Nat} {starts lens : List Int} (h : starts.length = lens.length) (h2 : okTo n starts lens starts.length) : validL n starts lens = true := by
  rw [validL, decide_eq_true_eq]
  exact ⟨h, h2⟩
theorem makes_bool {a b : Bool} {w w' : World} (h : a = b) (hb : Below w.heap.size w w') : Makes (.bool a) w (.returned (.bool b)) w' := by rw [h]; exact ⟨rfl, hb⟩

/-- The pool in three slices. -/
structure PoolIs (w : World) (A : Option Addr) (n ca : Nat) (B : Option Addr) (m cb : Nat) (C : Option Addr) (k cc : Nat) (codes starts lens : List Int) : Prop where
  codes : Sl w A n ca 1 (ints codes)
  starts : Sl w B m cb 1 (ints starts)
  lens : Sl w C k cc 1 (ints lens)
  n_le : n ≤ 1000
  m_le : m ≤ 1000
  k_le : k ≤ 1000
theorem PoolIs.keep {w w' : World} {A B C : Option Addr} {n ca m cb k cc : Nat} {codes starts lens : List Int} (h : PoolIs w A n ca B m cb C k cc codes starts lens) (hb : Below w.heap.size w w') : PoolIs w' A n ca B m cb C k cc codes starts lens :=
  ⟨h.codes.keep hb, h.starts.keep hb, h.lens.keep hb, h.n_le, h.m_le, h.k_le⟩

set_option maxRecDepth 100000 in
set_option maxHeartbeats 2000000 in
theorem valid_any {A B C : Option Addr} {n ca m cb k cc : Nat} {codes starts lens : List Int} {r : Bool} (w : World) (hp : PoolIs w A n ca B m cb C k cc codes starts lens) (hr : validL n starts lens = r) :
    Calls Try.prog 47 #[.agg #[.slice A n ca, .slice B m cb, .slice C k cc]] w (Makes (.bool r) w) := by
  have HR := Lib.hid hr
  have HB := Lib.hid hp.starts.count
  have HC := Lib.hid hp.lens.count
  have hn := hp.n_le
  have hm := hp.m_le
  have hk := hp.k_le
  have hcb := hp.starts.cap
  have hmb := hp.starts.max
  have hcc := hp.lens.cap
  have hmc := hp.lens.max
  have k0 := Bk.fresh (Below.refl w.heap.size w) #[.slice A n ca, .slice B m cb, .slice C k cc] 51
  clear hr
  by_cases hmk : m = k
  · subst hmk
    go_enter Try.func47, Try.ntmps47
    go_wp2_with fail
    go_loopw [16] (fun i wr => ∃ j : Nat, j ≤ m ∧ i = .int .i64 (j : Int) ∧ Hid (Bk w wr w.heap.size #[.slice A n ca, .slice B m cb, .slice C m cc]) ∧ Hid (okTo n starts lens j)) (fun i _ => m - (intOf i).toNat)
    case atStart => exact ⟨0, Nat.zero_le _, rfl, Lib.hid k0, Lib.hid (fun j hj => absurd hj (Nat.not_lt_zero _))⟩
    case round =>
      obtain ⟨j, hj, rfl, KB, HO⟩ := hrel
      by_cases hlt : j < m
      · obtain ⟨x0, x1, x2⟩ := KB.out.three
        obtain ⟨b, off, rfl, _, hc1⟩ := (hp.starts.keep KB.out.below).int_at hlt
        obtain ⟨b2, off2, rfl, _, hc2⟩ := (hp.lens.keep KB.out.below).int_at hlt
        obtain ⟨s, hs⟩ : ∃ s, starts.getD j 0 = s := ⟨_, rfl⟩
        obtain ⟨l, hl⟩ : ∃ l, lens.getD j 0 = l := ⟨_, rfl⟩
        have HS := Lib.hid hs
        have HL := Lib.hid hl
        rw [hs] at hc1
        rw [hl] at hc2
        clear hs hl
        have HN : ok1 n s l = false → Hid (r = false) := fun h => Lib.hid (by rw [← HR.out]; exact valid_no (by rw [← HB.out]; exact hlt) (by rw [HS.out, HL.out]; exact h))
        have hcase : s < 0 ∨ (0 ≤ s ∧ l < 0) ∨ (0 ≤ s ∧ 0 ≤ l ∧ (n : Int) < l) ∨ (0 ≤ s ∧ 0 ≤ l ∧ l ≤ n ∧ (n : Int) - l < s) ∨ (0 ≤ s ∧ 0 ≤ l ∧ l ≤ n ∧ s ≤ (n : Int) - l) := by omega
        rcases hcase with h1 | ⟨h1, h2⟩ | ⟨h1, h2, h3⟩ | ⟨h1, h2, h3, h4⟩ | ⟨h1, h2, h3, h4⟩
        · have HF := HN (by rw [ok1, decide_eq_false_iff_not]; omega)
          clear HN
          go_wp2_with fail
          go_ret
          exact makes_bool HF.out KB.out.below
        · have HF := HN (by rw [ok1, decide_eq_false_iff_not]; omega)
          clear HN
          go_wp2_with fail
          go_ret
          exact makes_bool HF.out KB.out.below
        · have HF := HN (by rw [ok1, decide_eq_false_iff_not]; omega)
          clear HN
          go_wp2_with fail
          go_ret
          exact makes_bool HF.out KB.out.below
        · have HF := HN (by rw [ok1, decide_eq_false_iff_not]; omega)
          clear HN
          go_wp2_with fail
          go_ret
          exact makes_bool HF.out KB.out.below
        · have HO2 : Hid (okTo n starts lens (j + 1)) := Lib.hid (HO.out.next (by rw [HS.out, HL.out, ok1, decide_eq_true_eq]; omega))
          clear HN
          go_wp2_with fail
          go_roundw
          case rel => exact ⟨j + 1, by omega, by push_cast; rfl, KB, HO2⟩
          case measure => simp [intOf] <;> omega
      · have i9 : ¬ ((j : Int) < (m : Int)) := by omega
        have hjm : j = m := by omega
        have HT : Hid (r = true) := Lib.hid (by rw [← HR.out]; exact valid_yes (by rw [← HB.out, HC.out]) (by rw [← HB.out, ← hjm]; exact HO.out))
        go_wp2_with fail
        go_ret
        exact makes_bool HT.out KB.out.below
  · have hz : ((m : Int) != (k : Int)) = true := by rw [bne_iff_ne]; omega
    have HF : Hid (r = false) := Lib.hid (by rw [← HR.out]; exact valid_len (by rw [← HB.out, ← HC.out]; exact hmk))
    go_enter Try.func47, Try.ntmps47
    go_wp2_with fail
    go_ret
    exact makes_bool HF.out k0.below

end Go.Proofs.Ytkkjjhkhpibaiaa.Sp
