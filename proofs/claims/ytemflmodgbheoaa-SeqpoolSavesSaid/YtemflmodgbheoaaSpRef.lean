/-
  The contracts of the reference's Small, Same and Valid (layer 14).
-/
import Derived.Test.YtemflmodgbheoaaSpGet
import Derived.Test.YtemflmodgbheoaaR01Compare
namespace Go.Proofs.Ytemflmodgbheoaa.Sp
open Go.RowKit
set_option linter.unusedVariables false

set_option maxHeartbeats 1000000 in
theorem small_any {A B C : Option Addr} {n ca m cb k cc : Nat} {r : Bool} (w : World) (hr : decide (n ≤ 200 ∧ m ≤ 40 ∧ k ≤ 40) = r) :
    Calls Try.prog 16 #[.agg #[.slice A n ca, .slice B m cb, .slice C k cc]] w (Makes (.bool r) w) := by
  have k0 := Bk.fresh (Below.refl w.heap.size w) #[.slice A n ca, .slice B m cb, .slice C k cc] 27
  have hcase : 200 < n ∨ (n ≤ 200 ∧ 40 < m) ∨ (n ≤ 200 ∧ m ≤ 40 ∧ 40 < k) ∨ (n ≤ 200 ∧ m ≤ 40 ∧ k ≤ 40) := by omega
  rcases hcase with h1 | ⟨h1, h2⟩ | ⟨h1, h2, h3⟩ | ⟨h1, h2, h3⟩
  · have HF : Hid (r = false) := Lib.hid (by rw [← hr, decide_eq_false_iff_not]; omega)
    have q1 : ¬ (n : Int) ≤ 200 := by omega
    clear hr
    go_enter Try.func16, Try.ntmps16
    go_wp2_with fail
    go_ret
    exact makes_bool (HF.out.trans (by simp <;> omega)) k0.below
  · have HF : Hid (r = false) := Lib.hid (by rw [← hr, decide_eq_false_iff_not]; omega)
    have q1 : (n : Int) ≤ 200 := by omega
    have q2 : ¬ (m : Int) ≤ 40 := by omega
    clear hr
    go_enter Try.func16, Try.ntmps16
    go_wp2_with fail
    go_ret
    exact makes_bool (HF.out.trans (by simp <;> omega)) k0.below
  · have HF : Hid (r = false) := Lib.hid (by rw [← hr, decide_eq_false_iff_not]; omega)
    have q1 : (n : Int) ≤ 200 := by omega
    have q2 : (m : Int) ≤ 40 := by omega
    have q3 : ¬ (k : Int) ≤ 40 := by omega
    clear hr
    go_enter Try.func16, Try.ntmps16
    go_wp2_with fail
    go_ret
    exact makes_bool (HF.out.trans (by simp <;> omega)) k0.below
  · have HF : Hid (r = true) := Lib.hid (by rw [← hr, decide_eq_true_eq]; omega)
    have q1 : (n : Int) ≤ 200 := by omega
    have q2 : (m : Int) ≤ 40 := by omega
    have q3 : (k : Int) ≤ 40 := by omega
    clear hr
    go_enter Try.func16, Try.ntmps16
    go_wp2_with fail
    go_ret
    exact makes_bool (HF.out.trans (by simp <;> omega)) k0.below

end Go.Proofs.Ytemflmodgbheoaa.Sp
