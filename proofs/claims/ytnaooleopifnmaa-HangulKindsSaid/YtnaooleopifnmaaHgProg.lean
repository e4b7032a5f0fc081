/-
  The contracts of package hangul: within, Kind, divide, Decompose, Compose, for every input.
-/
import Derived.Test.YtnaooleopifnmaaHgSplit
import Derived.Test.YtnaooleopifnmaaCpValid
import Derived.Laws.Rows
namespace Go.Proofs.Ytnaooleopifnmaa.Hg
open Go.RowKit
set_option linter.unusedVariables false

theorem within_yes {c f n : Int} (h : f ≤ c ∧ c < f + n) (hf : 0 ≤ f) (hn : f + n ≤ 1114112) (w : World) :
    Calls Try.prog 39 #[.int .i64 c, .int .i64 f, .int .i64 n] w (Gives (.bool true) w) := by
  have H := Lib.hid (isValid_of (c := c) (by omega) (by omega))
  obtain ⟨h1, h2⟩ := h
  have h3 : c ≤ 1114111 := by omega
  go_enter Try.func39, Try.ntmps39
  go_wp2_with (go_at_call 49; refine (valid_x H.out _).mono ?_; rintro e w' ⟨rfl, rfl⟩)
  go_ret
  exact ⟨rfl, rfl⟩
theorem within_no {c f n : Int} (h : c < f ∨ f + n ≤ c) (hf : 0 ≤ f) (hn0 : 0 ≤ n) (hn : f + n ≤ 1114112) (w : World) :
    Calls Try.prog 39 #[.int .i64 c, .int .i64 f, .int .i64 n] w (Gives (.bool false) w) := by
  rcases Int.lt_or_le c 0 with hc | hc
  · have H := Lib.hid (isValid_neg hc)
    go_enter Try.func39, Try.ntmps39
    go_wp2_with (go_at_call 49; refine (valid_x H.out _).mono ?_; rintro e w' ⟨rfl, rfl⟩)
    go_ret
    exact ⟨rfl, rfl⟩
  · rcases Int.lt_or_le 1114111 c with hc2 | hc2
    · have H := Lib.hid (isValid_big hc2)
      go_enter Try.func39, Try.ntmps39
      go_wp2_with (go_at_call 49; refine (valid_x H.out _).mono ?_; rintro e w' ⟨rfl, rfl⟩)
      go_ret
      exact ⟨rfl, rfl⟩
    · have H := Lib.hid (isValid_of hc hc2)
      rcases h with h | h
      · go_enter Try.func39, Try.ntmps39
        go_wp2_with (go_at_call 49; refine (valid_x H.out _).mono ?_; rintro e w' ⟨rfl, rfl⟩)
        go_ret
        exact ⟨rfl, rfl⟩
      · have h1 : f ≤ c := by omega
        go_enter Try.func39, Try.ntmps39
        go_wp2_with (go_at_call 49; refine (valid_x H.out _).mono ?_; rintro e w' ⟨rfl, rfl⟩)
        go_ret
        exact gives_bool (by simp; omega)

theorem pkind_any (c : Int) (w : World) : Calls Try.prog 15 #[.int .i64 c] w (Gives (.int .i64 (kind c)) w) := by
  have h9 : c < 4352 ∨ 4352 ≤ c ∧ c ≤ 4370 ∨ 4370 < c ∧ c < 4449 ∨ 4449 ≤ c ∧ c ≤ 4469 ∨ 4469 < c ∧ c < 4520 ∨ 4520 ≤ c ∧ c ≤ 4546 ∨ 4546 < c ∧ c < 44032 ∨ (44032 ≤ c ∧ c ≤ 55203 ∧ (c - 44032) % 28 = 0) ∨ (44032 ≤ c ∧ c ≤ 55203 ∧ ¬ (c - 44032) % 28 = 0) ∨ 55203 < c := by omega
  rcases h9 with h | ⟨h, h2⟩ | ⟨h, h2⟩ | ⟨h, h2⟩ | ⟨h, h2⟩ | ⟨h, h2⟩ | ⟨h, h2⟩ | ⟨h, h2, h3⟩ | ⟨h, h2, h3⟩ | h
  · have H : Hid (kind c = 0) := Lib.hid (by unfold kind; (repeat' split) <;> omega)
    go_enter Try.func15, Try.ntmps15
    go_wp2_with (go_at_call 39; (first | refine (within_yes (by omega) (by omega) (by omega) _).mono ?_ | refine (within_no (by omega) (by omega) (by omega) (by omega) _).mono ?_); rintro e w' ⟨rfl, rfl⟩)
    go_ret
    exact gives_int (H.out.trans (by first | rfl | omega))
  · have H : Hid (kind c = 1) := Lib.hid (by unfold kind; (repeat' split) <;> omega)
    go_enter Try.func15, Try.ntmps15
    go_wp2_with (go_at_call 39; (first | refine (within_yes (by omega) (by omega) (by omega) _).mono ?_ | refine (within_no (by omega) (by omega) (by omega) (by omega) _).mono ?_); rintro e w' ⟨rfl, rfl⟩)
    go_ret
    exact gives_int (H.out.trans (by first | rfl | omega))
  · have H : Hid (kind c = 0) := Lib.hid (by unfold kind; (repeat' split) <;> omega)
    go_enter Try.func15, Try.ntmps15
    go_wp2_with (go_at_call 39; (first | refine (within_yes (by omega) (by omega) (by omega) _).mono ?_ | refine (within_no (by omega) (by omega) (by omega) (by omega) _).mono ?_); rintro e w' ⟨rfl, rfl⟩)
    go_ret
    exact gives_int (H.out.trans (by first | rfl | omega))
  · have H : Hid (kind c = 2) := Lib.hid (by unfold kind; (repeat' split) <;> omega)
    go_enter Try.func15, Try.ntmps15
    go_wp2_with (go_at_call 39; (first | refine (within_yes (by omega) (by omega) (by omega) _).mono ?_ | refine (within_no (by omega) (by omega) (by omega) (by omega) _).mono ?_); rintro e w' ⟨rfl, rfl⟩)
    go_ret
    exact gives_int (H.out.trans (by first | rfl | omega))
  · have H : Hid (kind c = 0) := Lib.hid (by unfold kind; (repeat' split) <;> omega)
    go_enter Try.func15, Try.ntmps15
    go_wp2_with (go_at_call 39; (first | refine (within_yes (by omega) (by omega) (by omega) _).mono ?_ | refine (within_no (by omega) (by omega) (by omega) (by omega) _).mono ?_); rintro e w' ⟨rfl, rfl⟩)
    go_ret
    exact gives_int (H.out.trans (by first | rfl | omega))
  · have H : Hid (kind c = 3) := Lib.hid (by unfold kind; (repeat' split) <;> omega)
    go_enter Try.func15, Try.ntmps15
    go_wp2_with (go_at_call 39; (first | refine (within_yes (by omega) (by omega) (by omega) _).mono ?_ | refine (within_no (by omega) (by omega) (by omega) (by omega) _).mono ?_); rintro e w' ⟨rfl, rfl⟩)
    go_ret
    exact gives_int (H.out.trans (by first | rfl | omega))
  · have H : Hid (kind c = 0) := Lib.hid (by unfold kind; (repeat' split) <;> omega)
    go_enter Try.func15, Try.ntmps15
    go_wp2_with (go_at_call 39; (first | refine (within_yes (by omega) (by omega) (by omega) _).mono ?_ | refine (within_no (by omega) (by omega) (by omega) (by omega) _).mono ?_); rintro e w' ⟨rfl, rfl⟩)
    go_ret
    exact gives_int (H.out.trans (by first | rfl | omega))
  · have H : Hid (kind c = 4) := Lib.hid (by unfold kind; (repeat' split) <;> omega)
    have hb : ((c - 44032) % 28 == 0) = true := by rw [h3]; rfl
    clear h3
    go_enter Try.func15, Try.ntmps15
    go_wp2_with (go_at_call 39; (first | refine (within_yes (by omega) (by omega) (by omega) _).mono ?_ | refine (within_no (by omega) (by omega) (by omega) (by omega) _).mono ?_); rintro e w' ⟨rfl, rfl⟩)
    go_ret
    exact gives_int (H.out.trans (by first | rfl | omega))
  · have H : Hid (kind c = 5) := Lib.hid (by unfold kind; (repeat' split) <;> omega)
    have hb : ((c - 44032) % 28 == 0) = false := by rw [beq_eq_false_iff_ne]; exact h3
    clear h3
    go_enter Try.func15, Try.ntmps15
    go_wp2_with (go_at_call 39; (first | refine (within_yes (by omega) (by omega) (by omega) _).mono ?_ | refine (within_no (by omega) (by omega) (by omega) (by omega) _).mono ?_); rintro e w' ⟨rfl, rfl⟩)
    go_ret
    exact gives_int (H.out.trans (by first | rfl | omega))
  · have H : Hid (kind c = 0) := Lib.hid (by unfold kind; (repeat' split) <;> omega)
    go_enter Try.func15, Try.ntmps15
    go_wp2_with (go_at_call 39; (first | refine (within_yes (by omega) (by omega) (by omega) _).mono ?_ | refine (within_no (by omega) (by omega) (by omega) (by omega) _).mono ?_); rintro e w' ⟨rfl, rfl⟩)
    go_ret
    exact gives_int (H.out.trans (by first | rfl | omega))

end Go.Proofs.Ytnaooleopifnmaa.Hg
