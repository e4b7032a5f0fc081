/-
  The contract of codepoint.Valid, for every int.
-/
import Derived.Test.YtkfchcmbpgcncaaDoorMem
namespace Go.Proofs.YtkfchcmbpgcncaaDoor
open Go.RowKit
set_option linter.unusedVariables false

/-- The plain meaning. -/
def isValid (c : Int) : Bool := decide (0 ≤ c ∧ c ≤ 1114111)
theorem isValid_of {c : Int} (h1 : 0 ≤ c) (h2 : c ≤ 1114111) : isValid c = true := by simp [isValid, h1, h2]
theorem isValid_neg {c : Int} (h1 : c < 0) : isValid c = false := by simp [isValid]; omega
theorem isValid_big {c : Int} (h1 : 1114111 < c) : isValid c = false := by simp [isValid]; omega
theorem isValid_bounds {c : Int} (h : isValid c = true) : 0 ≤ c ∧ c ≤ 1114111 := by simpa [isValid] using h

theorem valid_any (c : Int) (w : World) : Calls Tryd.prog 37 #[.int .i64 c] w (Gives (.bool (isValid c)) w) := by
  rcases Int.lt_or_le c 0 with h | h
  · have H := Lib.hid (isValid_neg h)
    go_enter Tryd.func37, Tryd.ntmps37
    go_wp2
    go_ret
    exact gives_bool (H.out.trans (by first | rfl | (simp <;> omega)))
  · rcases Int.lt_or_le 1114111 c with h2 | h2
    · have H := Lib.hid (isValid_big h2)
      go_enter Tryd.func37, Tryd.ntmps37
      go_wp2
      go_ret
      exact gives_bool (H.out.trans (by first | rfl | (simp <;> omega)))
    · have H := Lib.hid (isValid_of h h2)
      go_enter Tryd.func37, Tryd.ntmps37
      go_wp2
      go_ret
      exact gives_bool (H.out.trans (by first | rfl | (simp <;> omega)))

theorem valid_x {c : Int} {r : Bool} (h : isValid c = r) (w : World) : Calls Tryd.prog 37 #[.int .i64 c] w (Gives (.bool r) w) := by
  rw [← h]
  exact valid_any c w
end Go.Proofs.YtkfchcmbpgcncaaDoor
