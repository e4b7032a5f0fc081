/-
  The contracts of the number kinds of package codepoint and of its reference: Valid, Surrogate, Scalar, Noncharacter, Plane, for every int.
-/
import Derived.Test.YtdpcjgjegeiemaaDoorProg
import Derived.WalkKit
import Derived.Lib.Hide
namespace Go.Proofs.YtdpcjgjegeiemaaDoor
open Go.RowKit

/-- The plain meaning. -/
def isValid (c : Int) : Bool := decide (0 ≤ c ∧ c ≤ 1114111)
def isSurr (c : Int) : Bool := decide (55296 ≤ c ∧ c ≤ 57343)
def isScalar (c : Int) : Bool := isValid c && !isSurr c
def isNonch (c : Int) : Bool := isValid c && (decide (64976 ≤ c ∧ c ≤ 65007) || decide (65534 ≤ c % 65536))
def planeOf (c : Int) : Int := if isValid c then c / 65536 else -1

/-- What a call of a function that only computes gives: this value, the world as it was. -/
def Gives (v : Value) (w : World) (e : Ending) (w' : World) : Prop := e = .returned v ∧ w = w'

theorem isValid_of {c : Int} (h1 : 0 ≤ c) (h2 : c ≤ 1114111) : isValid c = true := by simp [isValid, h1, h2]
theorem isValid_neg {c : Int} (h1 : c < 0) : isValid c = false := by simp [isValid]; omega
theorem isValid_big {c : Int} (h1 : 1114111 < c) : isValid c = false := by simp [isValid]; omega
theorem isSurr_of {c : Int} (h1 : 55296 ≤ c) (h2 : c ≤ 57343) : isSurr c = true := by simp [isSurr, h1, h2]
theorem isSurr_less {c : Int} (h1 : c < 55296) : isSurr c = false := by simp [isSurr]; omega
theorem isSurr_big {c : Int} (h1 : 57343 < c) : isSurr c = false := by simp [isSurr]; omega
theorem gives_bool {a b : Bool} {w : World} (h : a = b) : Gives (.bool a) w (.returned (.bool b)) w := by rw [h]; exact ⟨rfl, rfl⟩
theorem gives_int {a b : Int} {w : World} (h : a = b) : Gives (.int .i64 a) w (.returned (.int .i64 b)) w := by rw [h]; exact ⟨rfl, rfl⟩

theorem isValid_bounds {c : Int} (h : isValid c = true) : 0 ≤ c ∧ c ≤ 1114111 := by simpa [isValid] using h
theorem nonch_less {c : Int} (hv : isValid c = true) (h : c < 64976) : isNonch c = decide (65534 ≤ c % 65536) := by
  have e : decide (64976 ≤ c ∧ c ≤ 65007) = false := by simp; omega
  simp only [isNonch, hv, e, Bool.true_and, Bool.false_or]
theorem nonch_big {c : Int} (hv : isValid c = true) (h : 65007 < c) : isNonch c = decide (65534 ≤ c % 65536) := by
  have e : decide (64976 ≤ c ∧ c ≤ 65007) = false := by simp; omega
  simp only [isNonch, hv, e, Bool.true_and, Bool.false_or]
theorem nonch_in {c : Int} (hv : isValid c = true) (h : 64976 ≤ c) (h2 : c ≤ 65007) : isNonch c = true := by
  have e : decide (64976 ≤ c ∧ c ≤ 65007) = true := by simp; omega
  simp only [isNonch, hv, e, Bool.true_and, Bool.true_or]

theorem valid_any (c : Int) (w : World) : Calls Tryd.prog 10 #[.int .i64 c] w (Gives (.bool (isValid c)) w) := by
  rcases Int.lt_or_le c 0 with h | h
  · have H := Lib.hid (isValid_neg h)
    go_enter Tryd.func10, Tryd.ntmps10
    go_wp2
    go_ret
    exact gives_bool (H.out.trans (by first | rfl | (simp <;> omega)))
  · rcases Int.lt_or_le 1114111 c with h2 | h2
    · have H := Lib.hid (isValid_big h2)
      go_enter Tryd.func10, Tryd.ntmps10
      go_wp2
      go_ret
      exact gives_bool (H.out.trans (by first | rfl | (simp <;> omega)))
    · have H := Lib.hid (isValid_of h h2)
      go_enter Tryd.func10, Tryd.ntmps10
      go_wp2
      go_ret
      exact gives_bool (H.out.trans (by first | rfl | (simp <;> omega)))

theorem surr_any (c : Int) (w : World) : Calls Tryd.prog 14 #[.int .i64 c] w (Gives (.bool (isSurr c)) w) := by
  rcases Int.lt_or_le c 55296 with h | h
  · have H := Lib.hid (isSurr_less h)
    go_enter Tryd.func14, Tryd.ntmps14
    go_wp2
    go_ret
    exact gives_bool (H.out.trans (by first | rfl | (simp <;> omega)))
  · rcases Int.lt_or_le 57343 c with h2 | h2
    · have H := Lib.hid (isSurr_big h2)
      go_enter Tryd.func14, Tryd.ntmps14
      go_wp2
      go_ret
      exact gives_bool (H.out.trans (by first | rfl | (simp <;> omega)))
    · have H := Lib.hid (isSurr_of h h2)
      go_enter Tryd.func14, Tryd.ntmps14
      go_wp2
      go_ret
      exact gives_bool (H.out.trans (by first | rfl | (simp <;> omega)))

theorem scalar_any (c : Int) (w : World) : Calls Tryd.prog 12 #[.int .i64 c] w (Gives (.bool (isScalar c)) w) := by
  rcases hv : isValid c with _ | _
  · have H : Hid (isScalar c = false) := Lib.hid (by simp [isScalar, hv])
    go_enter Tryd.func12, Tryd.ntmps12
    go_wp2_with (first | (go_at_call 10; refine (valid_any _ _).mono ?_; rintro e w' ⟨rfl, rfl⟩) | (go_at_call 14; refine (surr_any _ _).mono ?_; rintro e w' ⟨rfl, rfl⟩))
    go_ret
    exact gives_bool (H.out.trans (by first | rfl | (simp <;> omega)))
  · have H : Hid (isScalar c = !isSurr c) := Lib.hid (by simp [isScalar, hv])
    go_enter Tryd.func12, Tryd.ntmps12
    go_wp2_with (first | (go_at_call 10; refine (valid_any _ _).mono ?_; rintro e w' ⟨rfl, rfl⟩) | (go_at_call 14; refine (surr_any _ _).mono ?_; rintro e w' ⟨rfl, rfl⟩))
    go_ret
    exact gives_bool (H.out.trans (by first | rfl | (simp <;> omega)))

theorem nonch_any (c : Int) (w : World) : Calls Tryd.prog 16 #[.int .i64 c] w (Gives (.bool (isNonch c)) w) := by
  rcases hv : isValid c with _ | _
  · have H : Hid (isNonch c = false) := Lib.hid (by simp [isNonch, hv])
    go_enter Tryd.func16, Tryd.ntmps16
    go_wp2_with ((go_at_call 10; refine (valid_any _ _).mono ?_; rintro e w' ⟨rfl, rfl⟩))
    go_ret
    exact gives_bool (H.out.trans (by first | rfl | (simp <;> omega)))
  · obtain ⟨h0, h1⟩ := isValid_bounds hv
    rcases Int.lt_or_le c 64976 with h | h
    · have H : Hid (isNonch c = decide (65534 ≤ c % 65536)) := Lib.hid (nonch_less hv h)
      go_enter Tryd.func16, Tryd.ntmps16
      go_wp2_with ((go_at_call 10; refine (valid_any _ _).mono ?_; rintro e w' ⟨rfl, rfl⟩))
      go_ret
      exact gives_bool (H.out.trans (by first | rfl | (simp <;> omega)))
    · rcases Int.lt_or_le 65007 c with h2 | h2
      · have H : Hid (isNonch c = decide (65534 ≤ c % 65536)) := Lib.hid (nonch_big hv h2)
        go_enter Tryd.func16, Tryd.ntmps16
        go_wp2_with ((go_at_call 10; refine (valid_any _ _).mono ?_; rintro e w' ⟨rfl, rfl⟩))
        go_ret
        exact gives_bool (H.out.trans (by first | rfl | (simp <;> omega)))
      · have H : Hid (isNonch c = true) := Lib.hid (nonch_in hv h h2)
        go_enter Tryd.func16, Tryd.ntmps16
        go_wp2_with ((go_at_call 10; refine (valid_any _ _).mono ?_; rintro e w' ⟨rfl, rfl⟩))
        go_ret
        exact gives_bool (H.out.trans (by first | rfl | (simp <;> omega)))

theorem plane_any (c : Int) (w : World) : Calls Tryd.prog 18 #[.int .i64 c] w (Gives (.int .i64 (planeOf c)) w) := by
  rcases hv : isValid c with _ | _
  · have H : Hid (planeOf c = -1) := Lib.hid (by simp [planeOf, hv])
    go_enter Tryd.func18, Tryd.ntmps18
    go_wp2_with ((go_at_call 10; refine (valid_any _ _).mono ?_; rintro e w' ⟨rfl, rfl⟩))
    go_ret
    exact gives_int (H.out.trans (by first | rfl | omega))
  · obtain ⟨h0, h1⟩ := isValid_bounds hv
    have H : Hid (planeOf c = c / 65536) := Lib.hid (by simp [planeOf, hv])
    go_enter Tryd.func18, Tryd.ntmps18
    go_wp2_with ((go_at_call 10; refine (valid_any _ _).mono ?_; rintro e w' ⟨rfl, rfl⟩))
    go_ret
    exact gives_int (H.out.trans (by first | rfl | omega))

theorem ref_valid_any (c : Int) (w : World) : Calls Tryd.prog 11 #[.int .i64 c] w (Gives (.bool (isValid c)) w) := by
  rcases Int.lt_or_le c 0 with h | h
  · have H := Lib.hid (isValid_neg h)
    go_enter Tryd.func11, Tryd.ntmps11
    go_wp2
    go_ret
    exact gives_bool (H.out.trans (by first | rfl | (simp <;> omega)))
  · rcases Int.lt_or_le 1114111 c with h2 | h2
    · have H := Lib.hid (isValid_big h2)
      go_enter Tryd.func11, Tryd.ntmps11
      go_wp2
      go_ret
      exact gives_bool (H.out.trans (by first | rfl | (simp <;> omega)))
    · have H := Lib.hid (isValid_of h h2)
      go_enter Tryd.func11, Tryd.ntmps11
      go_wp2
      go_ret
      exact gives_bool (H.out.trans (by first | rfl | (simp <;> omega)))

theorem ref_surr_any (c : Int) (w : World) : Calls Tryd.prog 15 #[.int .i64 c] w (Gives (.bool (isSurr c)) w) := by
  rcases Int.lt_or_le c 55296 with h | h
  · have H := Lib.hid (isSurr_less h)
    go_enter Tryd.func15, Tryd.ntmps15
    go_wp2
    go_ret
    exact gives_bool (H.out.trans (by first | rfl | (simp <;> omega)))
  · rcases Int.lt_or_le 57343 c with h2 | h2
    · have H := Lib.hid (isSurr_big h2)
      go_enter Tryd.func15, Tryd.ntmps15
      go_wp2
      go_ret
      exact gives_bool (H.out.trans (by first | rfl | (simp <;> omega)))
    · have H := Lib.hid (isSurr_of h h2)
      go_enter Tryd.func15, Tryd.ntmps15
      go_wp2
      go_ret
      exact gives_bool (H.out.trans (by first | rfl | (simp <;> omega)))

theorem ref_scalar_any (c : Int) (w : World) : Calls Tryd.prog 13 #[.int .i64 c] w (Gives (.bool (isScalar c)) w) := by
  rcases hv : isValid c with _ | _
  · have H : Hid (isScalar c = false) := Lib.hid (by simp [isScalar, hv])
    go_enter Tryd.func13, Tryd.ntmps13
    go_wp2_with (first | (go_at_call 11; refine (ref_valid_any _ _).mono ?_; rintro e w' ⟨rfl, rfl⟩) | (go_at_call 15; refine (ref_surr_any _ _).mono ?_; rintro e w' ⟨rfl, rfl⟩))
    go_ret
    exact gives_bool (H.out.trans (by first | rfl | (simp <;> omega)))
  · have H : Hid (isScalar c = !isSurr c) := Lib.hid (by simp [isScalar, hv])
    go_enter Tryd.func13, Tryd.ntmps13
    go_wp2_with (first | (go_at_call 11; refine (ref_valid_any _ _).mono ?_; rintro e w' ⟨rfl, rfl⟩) | (go_at_call 15; refine (ref_surr_any _ _).mono ?_; rintro e w' ⟨rfl, rfl⟩))
    go_ret
    exact gives_bool (H.out.trans (by first | rfl | (simp <;> omega)))

theorem ref_nonch_any (c : Int) (w : World) : Calls Tryd.prog 17 #[.int .i64 c] w (Gives (.bool (isNonch c)) w) := by
  rcases hv : isValid c with _ | _
  · have H : Hid (isNonch c = false) := Lib.hid (by simp [isNonch, hv])
    go_enter Tryd.func17, Tryd.ntmps17
    go_wp2_with ((go_at_call 11; refine (ref_valid_any _ _).mono ?_; rintro e w' ⟨rfl, rfl⟩))
    go_ret
    exact gives_bool (H.out.trans (by first | rfl | (simp <;> omega)))
  · obtain ⟨h0, h1⟩ := isValid_bounds hv
    rcases Int.lt_or_le c 64976 with h | h
    · have H : Hid (isNonch c = decide (65534 ≤ c % 65536)) := Lib.hid (nonch_less hv h)
      go_enter Tryd.func17, Tryd.ntmps17
      go_wp2_with ((go_at_call 11; refine (ref_valid_any _ _).mono ?_; rintro e w' ⟨rfl, rfl⟩))
      go_ret
      exact gives_bool (H.out.trans (by first | rfl | (simp <;> omega)))
    · rcases Int.lt_or_le 65007 c with h2 | h2
      · have H : Hid (isNonch c = decide (65534 ≤ c % 65536)) := Lib.hid (nonch_big hv h2)
        go_enter Tryd.func17, Tryd.ntmps17
        go_wp2_with ((go_at_call 11; refine (ref_valid_any _ _).mono ?_; rintro e w' ⟨rfl, rfl⟩))
        go_ret
        exact gives_bool (H.out.trans (by first | rfl | (simp <;> omega)))
      · have H : Hid (isNonch c = true) := Lib.hid (nonch_in hv h h2)
        go_enter Tryd.func17, Tryd.ntmps17
        go_wp2_with ((go_at_call 11; refine (ref_valid_any _ _).mono ?_; rintro e w' ⟨rfl, rfl⟩))
        go_ret
        exact gives_bool (H.out.trans (by first | rfl | (simp <;> omega)))

theorem ref_plane_any (c : Int) (w : World) : Calls Tryd.prog 19 #[.int .i64 c] w (Gives (.int .i64 (planeOf c)) w) := by
  rcases hv : isValid c with _ | _
  · have H : Hid (planeOf c = -1) := Lib.hid (by simp [planeOf, hv])
    go_enter Tryd.func19, Tryd.ntmps19
    go_wp2_with ((go_at_call 11; refine (ref_valid_any _ _).mono ?_; rintro e w' ⟨rfl, rfl⟩))
    go_ret
    exact gives_int (H.out.trans (by first | rfl | omega))
  · obtain ⟨h0, h1⟩ := isValid_bounds hv
    have H : Hid (planeOf c = c / 65536) := Lib.hid (by simp [planeOf, hv])
    go_enter Tryd.func19, Tryd.ntmps19
    go_wp2_with ((go_at_call 11; refine (ref_valid_any _ _).mono ?_; rintro e w' ⟨rfl, rfl⟩))
    go_ret
    exact gives_int (H.out.trans (by first | rfl | omega))

end Go.Proofs.YtdpcjgjegeiemaaDoor
