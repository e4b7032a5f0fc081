/-
  The contract of the reference's Valid, for every int.
-/
import Derived.Test.YtkfchcmbpgcncaaDoorCpValid
namespace Go.Proofs.YtkfchcmbpgcncaaDoor
open Go.RowKit
set_option linter.unusedVariables false

theorem ref_valid_any (c : Int) (w : World) : Calls Tryd.prog 26 #[.int .i64 c] w (Gives (.bool (isValid c)) w) := by
  rcases Int.lt_or_le c 0 with h | h
  · have H := Lib.hid (isValid_neg h)
    go_enter Tryd.func26, Tryd.ntmps26
    go_wp2
    go_ret
    exact gives_bool (H.out.trans (by first | rfl | (simp <;> omega)))
  · rcases Int.lt_or_le 1114111 c with h2 | h2
    · have H := Lib.hid (isValid_big h2)
      go_enter Tryd.func26, Tryd.ntmps26
      go_wp2
      go_ret
      exact gives_bool (H.out.trans (by first | rfl | (simp <;> omega)))
    · have H := Lib.hid (isValid_of h h2)
      go_enter Tryd.func26, Tryd.ntmps26
      go_wp2
      go_ret
      exact gives_bool (H.out.trans (by first | rfl | (simp <;> omega)))

theorem ref_valid_x {c : Int} {r : Bool} (h : isValid c = r) (w : World) : Calls Tryd.prog 26 #[.int .i64 c] w (Gives (.bool r) w) := by
  rw [← h]
  exact ref_valid_any c w
end Go.Proofs.YtkfchcmbpgcncaaDoor
