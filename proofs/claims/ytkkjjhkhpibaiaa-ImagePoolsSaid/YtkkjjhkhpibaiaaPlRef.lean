/-
  The contract of the reference's Valid (layer 14): its region draws its order and holds 30 guarded operations.
-/
import Derived.Test.YtkkjjhkhpibaiaaPlVal
import Derived.BigQuiet
import Derived.Deep.QuietTactic
namespace Go.Proofs.Ytkkjjhkhpibaiaa.Sp
open Go.RowKit
set_option linter.unusedVariables false

set_option maxRecDepth 100000 in
set_option maxHeartbeats 4000000 in
theorem rvalid_any {A B C : Option Addr} {n ca m cb k cc : Nat} {codes starts lens : List Int} {r : Bool} (w : World) (hp : PoolIs w A n ca B m cb C k cc codes starts lens) (hr : validL n starts lens = r) :
    Calls Try.prog 48 #[.agg #[.slice A n ca, .slice B m cb, .slice C k cc]] w (Makes (.bool r) w) := by
  have HR := Lib.hid hr
  have HB := Lib.hid hp.starts.count
  have HC := Lib.hid hp.lens.count
  have hn := hp.n_le
  have hm := hp.m_le
  have hk := hp.k_le
  have hcb := hp.starts.cap
  have hmb := hp.starts.max
  have hcc := hp.lens.cap
  have hmc := hp.lens.max
  have k0 := Bk.fresh (Below.refl w.heap.size w) #[.slice A n ca, .slice B m cb, .slice C k cc] 51
  clear hr
  by_cases hmk : m = k
  · subst hmk
    go_enter Try.func48, Try.ntmps48
    go_wp2_with fail
    go_loopw [3] (fun i wr => ∃ j : Nat, j ≤ m ∧ i = .int .i64 (j : Int) ∧ Hid (Bk w wr w.heap.size #[.slice A n ca, .slice B m cb, .slice C m cc]) ∧ Hid (okTo n starts lens j)) (fun i _ => m - (intOf i).toNat)
    case atStart => exact ⟨0, Nat.zero_le _, rfl, Lib.hid k0, Lib.hid (fun j hj => absurd hj (Nat.not_lt_zero _))⟩
    case round =>
      obtain ⟨j, hj, rfl, KB, HO⟩ := hrel
      obtain ⟨x0, x1, x2⟩ := KB.out.three
      by_cases hlt : j < m
      · obtain ⟨b, off, rfl, _, hc1⟩ := (hp.starts.keep KB.out.below).int_at hlt
        obtain ⟨b2, off2, rfl, _, hc2⟩ := (hp.lens.keep KB.out.below).int_at hlt
        obtain ⟨s, hs⟩ : ∃ s, starts.getD j 0 = s := ⟨_, rfl⟩
        obtain ⟨l, hl⟩ : ∃ l, lens.getD j 0 = l := ⟨_, rfl⟩
        have HS := Lib.hid hs
        have HL := Lib.hid hl
        rw [hs] at hc1
        rw [hl] at hc2
        clear hs hl
        have kb := KB.out
        have kd : ∀ q, Below w.heap.size w (wr.drewN q) := drewN_below kb.below
        have HN : ok1 n s l = false → Hid (r = false) := fun h => Lib.hid (by rw [← HR.out]; exact valid_no (by rw [← HB.out]; exact hlt) (by rw [HS.out, HL.out]; exact h))
        have hlti : (j : Int) < (m : Int) := by omega
        have hcase : s < 0 ∨ (0 ≤ s ∧ l < 0) ∨ (0 ≤ s ∧ 0 ≤ l ∧ (n : Int) < l) ∨ (0 ≤ s ∧ 0 ≤ l ∧ l ≤ n ∧ (n : Int) - l < s) ∨ (0 ≤ s ∧ 0 ≤ l ∧ l ≤ n ∧ s ≤ (n : Int) - l) := by omega
        rcases hcase with h1 | ⟨h1, h2⟩ | ⟨h1, h2, h3⟩ | ⟨h1, h2, h3, h4⟩ | ⟨h1, h2, h3, h4⟩
        · have HF := HN (by rw [ok1, decide_eq_false_iff_not]; omega)
          clear HN
          have b1 : decide (s < 0) = true := decide_eq_true h1
          go_wp2_with fail
          go_quiet (fail)
          go_wp2_with fail
          go_ret
          exact makes_bool HF.out (kd _)
        · have HF := HN (by rw [ok1, decide_eq_false_iff_not]; omega)
          clear HN
          have b1 : decide (s < 0) = false := decide_eq_false (by omega)
          have b2 : decide (l < 0) = true := decide_eq_true h2
          clear h1 h2
          go_wp2_with fail
          go_quiet (fail)
          go_wp2_with fail
          go_ret
          exact makes_bool HF.out (kd _)
        · have HF := HN (by rw [ok1, decide_eq_false_iff_not]; omega)
          clear HN
          have b1 : decide (s < 0) = false := decide_eq_false (by omega)
          have b2 : decide (l < 0) = false := decide_eq_false (by omega)
          have b3 : decide ((n : Int) < l) = true := decide_eq_true h3
          clear h1 h2 h3
          go_wp2_with fail
          go_quiet (fail)
          go_wp2_with fail
          go_ret
          exact makes_bool HF.out (kd _)
        · have HF := HN (by rw [ok1, decide_eq_false_iff_not]; omega)
          clear HN
          have b1 : decide (s < 0) = false := decide_eq_false (by omega)
          have b2 : decide (l < 0) = false := decide_eq_false (by omega)
          have b3 : decide ((n : Int) < l) = false := decide_eq_false (by omega)
          have b4 : decide ((n : Int) - l < s) = true := decide_eq_true h4
          go_wp2_with fail
          go_quiet (fail)
          go_wp2_with fail
          go_ret
          exact makes_bool HF.out (kd _)
        · have HO2 : Hid (okTo n starts lens (j + 1)) := Lib.hid (HO.out.next (by rw [HS.out, HL.out, ok1, decide_eq_true_eq]; omega))
          clear HN
          have b1 : decide (s < 0) = false := decide_eq_false (by omega)
          have b2 : decide (l < 0) = false := decide_eq_false (by omega)
          have b3 : decide ((n : Int) < l) = false := decide_eq_false (by omega)
          have b4 : decide ((n : Int) - l < s) = false := decide_eq_false (by omega)
          go_wp2_with fail
          go_quiet (fail)
          go_wp2_with fail
          go_roundw
          case rel => exact ⟨j + 1, by omega, by push_cast; rfl, Lib.hid (kb.drawn ⟨_, rfl⟩), HO2⟩
          case measure => simp [intOf] <;> omega
      · have i9 : ¬ ((j : Int) < (m : Int)) := by omega
        have hjm : j = m := by omega
        have HT : Hid (r = true) := Lib.hid (by rw [← HR.out]; exact valid_yes (by rw [← HB.out, HC.out]) (by rw [← HB.out, ← hjm]; exact HO.out))
        go_wp2_with fail
        go_ret
        exact makes_bool HT.out KB.out.below
  · have hz : ((m : Int) != (k : Int)) = true := by rw [bne_iff_ne]; omega
    have HF : Hid (r = false) := Lib.hid (by rw [← HR.out]; exact valid_len (by rw [← HB.out, ← HC.out]; exact hmk))
    go_enter Try.func48, Try.ntmps48
    go_wp2_with fail
    go_ret
    exact makes_bool HF.out k0.below
end Go.Proofs.Ytkkjjhkhpibaiaa.Sp
