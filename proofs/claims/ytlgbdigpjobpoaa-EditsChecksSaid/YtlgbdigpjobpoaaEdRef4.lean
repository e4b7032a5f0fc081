/-
  The contracts of the reference's Same of layer 53.
-/
import Derived.Test.YtlgbdigpjobpoaaEdRef3
namespace Go.Proofs.Ytlgbdigpjobpoaa.Ed
open Go.RowKit
set_option linter.unusedVariables false

set_option maxHeartbeats 1000000 in
theorem ref_same_x {a d a' d' : Int} {A B : Option Addr} {n m c f : Nat} {xs ys : List Int} {r : Bool} (hr : decide (a = a' ∧ d = d' ∧ xs = ys) = r) (w : World) (hx : Sl w A n c 1 (ints xs)) (hy : Sl w B m f 1 (ints ys)) :
    Calls Try.prog 22 #[.agg #[.int .i64 a, .int .i64 d, .slice A n c], .agg #[.int .i64 a', .int .i64 d', .slice B m f]] w (Makes (.bool r) w) := by
  by_cases h1 : a = a'
  · by_cases h2 : d = d'
    · have HR : Hid (decide (xs = ys) = r) := Lib.hid (by rw [← hr]; simp [h1, h2])
      have q1 : (a == a') = true := by rw [h1]; exact beq_self_eq_true _
      have q2 : (d == d') = true := by rw [h2]; exact beq_self_eq_true _
      clear h1 h2 hr
      go_enter Try.func22, Try.ntmps22
      go_wp2_with fail
      have bx : Below w.heap.size w ((w.alloc (.cells #[.int .i64 a, .int .i64 d, .slice A n c] 24)).alloc (.cells #[.int .i64 a', .int .i64 d', .slice B m f] 24)) := ((Below.refl _ _).alloc (Nat.le_refl _) _).alloc (by simp) _
      refine (ref_equal_x HR.out (hx.keep bx) (hy.keep bx)).mono ?_
      rintro e w1 ⟨rfl, hd⟩
      go_wp2_with fail
      go_ret
      exact ⟨rfl, bx.trans (hd.below _)⟩
    · have HR : Hid (r = false) := Lib.hid (by rw [← hr]; simp [h2])
      have q1 : (a == a') = true := by rw [h1]; exact beq_self_eq_true _
      have q2 : (d == d') = false := by rw [beq_eq_false_iff_ne]; exact h2
      clear h1 h2 hr
      go_enter Try.func22, Try.ntmps22
      go_wp2_with fail
      go_ret
      exact ⟨ret_bool' HR.out, ((Below.refl _ _).alloc (Nat.le_refl _) _).alloc (by simp) _⟩
  · have HR : Hid (r = false) := Lib.hid (by rw [← hr]; simp [h1])
    have q1 : (a == a') = false := by rw [beq_eq_false_iff_ne]; exact h1
    clear h1 hr
    go_enter Try.func22, Try.ntmps22
    go_wp2_with fail
    go_ret
    exact ⟨ret_bool' HR.out, ((Below.refl _ _).alloc (Nat.le_refl _) _).alloc (by simp) _⟩

end Go.Proofs.Ytlgbdigpjobpoaa.Ed
