/-
  The contracts of package escape's small functions: digits, printable characters, the state of an escape.
-/
import Derived.Test.YtkfchcmbpgcncaaDoorEsMathB
import Derived.Test.YtkfchcmbpgcncaaDoorCpParse
namespace Go.Proofs.YtkfchcmbpgcncaaDoor.Es
open Go.RowKit
set_option linter.unusedVariables false

def isPrint (c : Int) : Bool := decide (32 ≤ c ∧ c ≤ 126)
theorem isPrint_of {c : Int} (h1 : 32 ≤ c) (h2 : c ≤ 126) : isPrint c = true := by simp [isPrint, h1, h2]
theorem isPrint_less {c : Int} (h1 : c < 32) : isPrint c = false := by simp [isPrint]; omega
theorem isPrint_more {c : Int} (h1 : 126 < c) : isPrint c = false := by simp [isPrint]; omega
theorem printable_any (c : Int) (w : World) : Calls Tryd.prog 36 #[.int .i64 c] w (Gives (.bool (isPrint c)) w) := by
  rcases Int.lt_or_le c 32 with h | h
  · have H := Lib.hid (isPrint_less h)
    go_enter Tryd.func36, Tryd.ntmps36
    go_wp2
    go_ret
    exact gives_bool (H.out.trans (by first | rfl | (simp <;> omega)))
  · rcases Int.lt_or_le 126 c with h2 | h2
    · have H := Lib.hid (isPrint_more h2)
      go_enter Tryd.func36, Tryd.ntmps36
      go_wp2
      go_ret
      exact gives_bool (H.out.trans (by first | rfl | (simp <;> omega)))
    · have H := Lib.hid (isPrint_of h h2)
      go_enter Tryd.func36, Tryd.ntmps36
      go_wp2
      go_ret
      exact gives_bool (H.out.trans (by first | rfl | (simp <;> omega)))
theorem printable_x {c : Int} {r : Bool} (h : isPrint c = r) (w : World) : Calls Tryd.prog 36 #[.int .i64 c] w (Gives (.bool r) w) := by
  rw [← h]
  exact printable_any c w

theorem dig2_a {b : Int} (h : b < 48) : dig2 b = -1 := by unfold dig2; repeat' split
                                                          all_goals omega
theorem dig2_b {b : Int} (h : 48 ≤ b) (h2 : b ≤ 57) : dig2 b = b - 48 := by unfold dig2; rw [if_pos ⟨h, h2⟩]
theorem dig2_c {b : Int} (h : 57 < b) (h2 : b < 65) : dig2 b = -1 := by unfold dig2; repeat' split
                                                                        all_goals omega
theorem dig2_d {b : Int} (h : 65 ≤ b) (h2 : b ≤ 70) : dig2 b = b - 65 + 10 := by unfold dig2; rw [if_neg (by omega), if_pos ⟨h, h2⟩]; omega
theorem dig2_e {b : Int} (h : 70 < b) (h2 : b < 97) : dig2 b = -1 := by unfold dig2; repeat' split
                                                                        all_goals omega
theorem dig2_f {b : Int} (h : 97 ≤ b) (h2 : b ≤ 102) : dig2 b = b - 97 + 10 := by unfold dig2; rw [if_neg (by omega), if_neg (by omega), if_pos ⟨h, h2⟩]; omega
theorem dig2_g {b : Int} (h : 102 < b) : dig2 b = -1 := by unfold dig2; repeat' split
                                                           all_goals omega
theorem digit_any (b : Int) (h0 : 0 ≤ b) (h1 : b ≤ 255) (w : World) : Calls Tryd.prog 53 #[.int .u8 b] w (Gives (.int .i64 (dig2 b)) w) := by
  have hs : b < 48 ∨ (48 ≤ b ∧ b ≤ 57) ∨ (57 < b ∧ b < 65) ∨ (65 ≤ b ∧ b ≤ 70) ∨ (70 < b ∧ b < 97) ∨ (97 ≤ b ∧ b ≤ 102) ∨ 102 < b := by omega
  rcases hs with h | ⟨h, h2⟩ | ⟨h, h2⟩ | ⟨h, h2⟩ | ⟨h, h2⟩ | ⟨h, h2⟩ | h
  · have H := Lib.hid (dig2_a h)
    go_enter Tryd.func53, Tryd.ntmps53
    go_wp2
    go_ret
    exact gives_int H.out
  · have H := Lib.hid (dig2_b h h2)
    go_enter Tryd.func53, Tryd.ntmps53
    go_wp2
    go_ret
    exact gives_int H.out
  · have H := Lib.hid (dig2_c h h2)
    go_enter Tryd.func53, Tryd.ntmps53
    go_wp2
    go_ret
    exact gives_int H.out
  · have H := Lib.hid (dig2_d h h2)
    go_enter Tryd.func53, Tryd.ntmps53
    go_wp2
    go_ret
    exact gives_int H.out
  · have H := Lib.hid (dig2_e h h2)
    go_enter Tryd.func53, Tryd.ntmps53
    go_wp2
    go_ret
    exact gives_int H.out
  · have H := Lib.hid (dig2_f h h2)
    go_enter Tryd.func53, Tryd.ntmps53
    go_wp2
    go_ret
    exact gives_int H.out
  · have H := Lib.hid (dig2_g h)
    go_enter Tryd.func53, Tryd.ntmps53
    go_wp2
    go_ret
    exact gives_int H.out
theorem state_any (b : Bool) (w : World) : Calls Tryd.prog 44 #[.bool b] w (Gives (.int .i64 (if b then 1 else 2)) w) := by
  cases b
  all_goals
    go_enter Tryd.func44, Tryd.ntmps44
    go_wp2
    go_ret
    exact gives_int (by simp)
theorem syntax_any (k : Int) (w : World) : Calls Tryd.prog 34 #[.int .i64 k] w (Makes (.agg #[.int .i64 3, .int .i64 k]) w) := by
  go_enter Tryd.func34, Tryd.ntmps34
  go_wp2
  exact bodyPost_ret (v := .agg #[.int .i64 3, .int .i64 k]) (by simp [results, Tryd.results34, go_sem]) rfl ⟨rfl, (Below.refl _ _).alloc (Nat.le_refl _) _⟩
end Go.Proofs.YtkfchcmbpgcncaaDoor.Es
