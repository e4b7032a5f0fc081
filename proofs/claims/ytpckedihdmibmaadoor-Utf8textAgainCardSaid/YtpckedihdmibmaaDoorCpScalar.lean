/-
  The contracts of Scalar of package codepoint and of its reference, and of what they call, for every int.
-/
import Derived.Test.YtpckedihdmibmaaDoorCpValid
namespace Go.Proofs.YtpckedihdmibmaaDoor
open Go.RowKit
set_option linter.unusedVariables false

def isSurr (c : Int) : Bool := decide (55296 ≤ c ∧ c ≤ 57343)
def isScalar (c : Int) : Bool := isValid c && !isSurr c
theorem isSurr_of {c : Int} (h1 : 55296 ≤ c) (h2 : c ≤ 57343) : isSurr c = true := by simp [isSurr, h1, h2]
theorem isSurr_less {c : Int} (h1 : c < 55296) : isSurr c = false := by simp [isSurr]; omega
theorem isSurr_big {c : Int} (h1 : 57343 < c) : isSurr c = false := by simp [isSurr]; omega
theorem isScalar_iff {c : Int} : isScalar c = true ↔ 0 ≤ c ∧ c ≤ 1114111 ∧ ¬ (55296 ≤ c ∧ c ≤ 57343) := by
  simp [isScalar, isValid, isSurr]
  omega
theorem isScalar_not {c : Int} : isScalar c = false ↔ ¬ (0 ≤ c ∧ c ≤ 1114111 ∧ ¬ (55296 ≤ c ∧ c ≤ 57343)) := by
  rw [← isScalar_iff, Bool.not_eq_true]

theorem surr_any (c : Int) (w : World) : Calls Tryd.prog 40 #[.int .i64 c] w (Gives (.bool (isSurr c)) w) := by
  rcases Int.lt_or_le c 55296 with h | h
  · have H := Lib.hid (isSurr_less h)
    go_enter Tryd.func40, Tryd.ntmps40
    go_wp2
    go_ret
    exact gives_bool (H.out.trans (by first | rfl | (simp <;> omega)))
  · rcases Int.lt_or_le 57343 c with h2 | h2
    · have H := Lib.hid (isSurr_big h2)
      go_enter Tryd.func40, Tryd.ntmps40
      go_wp2
      go_ret
      exact gives_bool (H.out.trans (by first | rfl | (simp <;> omega)))
    · have H := Lib.hid (isSurr_of h h2)
      go_enter Tryd.func40, Tryd.ntmps40
      go_wp2
      go_ret
      exact gives_bool (H.out.trans (by first | rfl | (simp <;> omega)))

theorem scalar_any (c : Int) (w : World) : Calls Tryd.prog 27 #[.int .i64 c] w (Gives (.bool (isScalar c)) w) := by
  rcases hv : isValid c with _ | _
  · have H : Hid (isScalar c = false) := Lib.hid (by simp [isScalar, hv])
    go_enter Tryd.func27, Tryd.ntmps27
    go_wp2_with (first | (go_at_call 39; refine (valid_any _ _).mono ?_; rintro e w' ⟨rfl, rfl⟩) | (go_at_call 40; refine (surr_any _ _).mono ?_; rintro e w' ⟨rfl, rfl⟩))
    go_ret
    exact gives_bool (H.out.trans (by first | rfl | (simp <;> omega)))
  · have H : Hid (isScalar c = !isSurr c) := Lib.hid (by simp [isScalar, hv])
    go_enter Tryd.func27, Tryd.ntmps27
    go_wp2_with (first | (go_at_call 39; refine (valid_any _ _).mono ?_; rintro e w' ⟨rfl, rfl⟩) | (go_at_call 40; refine (surr_any _ _).mono ?_; rintro e w' ⟨rfl, rfl⟩))
    go_ret
    exact gives_bool (H.out.trans (by first | rfl | (simp <;> omega)))

theorem ref_valid_any (c : Int) (w : World) : Calls Tryd.prog 30 #[.int .i64 c] w (Gives (.bool (isValid c)) w) := by
  rcases Int.lt_or_le c 0 with h | h
  · have H := Lib.hid (isValid_neg h)
    go_enter Tryd.func30, Tryd.ntmps30
    go_wp2
    go_ret
    exact gives_bool (H.out.trans (by first | rfl | (simp <;> omega)))
  · rcases Int.lt_or_le 1114111 c with h2 | h2
    · have H := Lib.hid (isValid_big h2)
      go_enter Tryd.func30, Tryd.ntmps30
      go_wp2
      go_ret
      exact gives_bool (H.out.trans (by first | rfl | (simp <;> omega)))
    · have H := Lib.hid (isValid_of h h2)
      go_enter Tryd.func30, Tryd.ntmps30
      go_wp2
      go_ret
      exact gives_bool (H.out.trans (by first | rfl | (simp <;> omega)))

theorem ref_surr_any (c : Int) (w : World) : Calls Tryd.prog 31 #[.int .i64 c] w (Gives (.bool (isSurr c)) w) := by
  rcases Int.lt_or_le c 55296 with h | h
  · have H := Lib.hid (isSurr_less h)
    go_enter Tryd.func31, Tryd.ntmps31
    go_wp2
    go_ret
    exact gives_bool (H.out.trans (by first | rfl | (simp <;> omega)))
  · rcases Int.lt_or_le 57343 c with h2 | h2
    · have H := Lib.hid (isSurr_big h2)
      go_enter Tryd.func31, Tryd.ntmps31
      go_wp2
      go_ret
      exact gives_bool (H.out.trans (by first | rfl | (simp <;> omega)))
    · have H := Lib.hid (isSurr_of h h2)
      go_enter Tryd.func31, Tryd.ntmps31
      go_wp2
      go_ret
      exact gives_bool (H.out.trans (by first | rfl | (simp <;> omega)))

theorem ref_scalar_any (c : Int) (w : World) : Calls Tryd.prog 14 #[.int .i64 c] w (Gives (.bool (isScalar c)) w) := by
  rcases hv : isValid c with _ | _
  · have H : Hid (isScalar c = false) := Lib.hid (by simp [isScalar, hv])
    go_enter Tryd.func14, Tryd.ntmps14
    go_wp2_with (first | (go_at_call 30; refine (ref_valid_any _ _).mono ?_; rintro e w' ⟨rfl, rfl⟩) | (go_at_call 31; refine (ref_surr_any _ _).mono ?_; rintro e w' ⟨rfl, rfl⟩))
    go_ret
    exact gives_bool (H.out.trans (by first | rfl | (simp <;> omega)))
  · have H : Hid (isScalar c = !isSurr c) := Lib.hid (by simp [isScalar, hv])
    go_enter Tryd.func14, Tryd.ntmps14
    go_wp2_with (first | (go_at_call 30; refine (ref_valid_any _ _).mono ?_; rintro e w' ⟨rfl, rfl⟩) | (go_at_call 31; refine (ref_surr_any _ _).mono ?_; rintro e w' ⟨rfl, rfl⟩))
    go_ret
    exact gives_bool (H.out.trans (by first | rfl | (simp <;> omega)))

theorem scalar_x {c : Int} {r : Bool} (h : isScalar c = r) (w : World) : Calls Tryd.prog 27 #[.int .i64 c] w (Gives (.bool r) w) := by
  rw [← h]
  exact scalar_any c w
theorem ref_scalar_x {c : Int} {r : Bool} (h : isScalar c = r) (w : World) : Calls Tryd.prog 14 #[.int .i64 c] w (Gives (.bool r) w) := by
  rw [← h]
  exact ref_scalar_any c w
end Go.Proofs.YtpckedihdmibmaaDoor
