/-
  The walks of CodepointKinds and CodepointScalars.
-/
import Derived.Test.YtdpcjgjegeiemaaDoorCpAwake
namespace Go.Proofs.YtdpcjgjegeiemaaDoor
open Go.RowKit
set_option linter.unusedVariables false

set_option maxHeartbeats 1000000 in
theorem kinds_walk (c : Int) (hw : (Lit.int .i64 c).wf = true) (w : World) (ht : Tab w) : Calls Tryd.prog 3 #[.int .i64 c] w (Makes (.bool true) w) := by
  have b1 : (isValid c == isValid c) = true := beq_self_eq_true _
  have b2 : (isScalar c == isScalar c) = true := beq_self_eq_true _
  have b3 : (isSurr c == isSurr c) = true := beq_self_eq_true _
  have b4 : (isNonch c == isNonch c) = true := beq_self_eq_true _
  have b5 : (planeOf c == planeOf c) = true := beq_self_eq_true _
  go_enter Tryd.func3, Tryd.ntmps3
  go_wp2_with (first
    | (go_at_call 10; refine (valid_any _ _).mono ?_; rintro e w' ⟨rfl, rfl⟩)
    | (go_at_call 11; refine (ref_valid_any _ _).mono ?_; rintro e w' ⟨rfl, rfl⟩)
    | (go_at_call 12; refine (scalar_any _ _).mono ?_; rintro e w' ⟨rfl, rfl⟩)
    | (go_at_call 13; refine (ref_scalar_any _ _).mono ?_; rintro e w' ⟨rfl, rfl⟩)
    | (go_at_call 14; refine (surr_any _ _).mono ?_; rintro e w' ⟨rfl, rfl⟩)
    | (go_at_call 15; refine (ref_surr_any _ _).mono ?_; rintro e w' ⟨rfl, rfl⟩)
    | (go_at_call 16; refine (nonch_any _ _).mono ?_; rintro e w' ⟨rfl, rfl⟩)
    | (go_at_call 17; refine (ref_nonch_any _ _).mono ?_; rintro e w' ⟨rfl, rfl⟩)
    | (go_at_call 18; refine (plane_any _ _).mono ?_; rintro e w' ⟨rfl, rfl⟩)
    | (go_at_call 19; refine (ref_plane_any _ _).mono ?_; rintro e w' ⟨rfl, rfl⟩)
    | (go_at_call 20; refine (awake_any _ ht).mono ?_; rintro e w' ⟨rfl, hb⟩))
  go_ret
  exact ⟨rfl, hb⟩

theorem planeOf_bounds {c : Int} (h : isValid c = true) : 0 ≤ planeOf c ∧ planeOf c ≤ 16 ∧ 65536 * planeOf c ≤ c ∧ c < 65536 * (planeOf c + 1) := by
  obtain ⟨h0, h1⟩ := isValid_bounds h
  rw [planeOf, if_pos h]
  omega
theorem scalar_neither {c : Int} (h : isValid c = false) : isScalar c = false ∧ isSurr c = false ∧ isNonch c = false ∧ planeOf c = -1 := by
  refine ⟨by rw [isScalar, h, Bool.false_and], ?_, by rw [isNonch, h, Bool.false_and], by rw [planeOf, h]; rfl⟩
  simp only [isValid, isSurr, decide_eq_false_iff_not] at h ⊢
  omega

set_option maxHeartbeats 1000000 in
theorem scalars_walk (c : Int) (hw : (Lit.int .i64 c).wf = true) (w : World) (ht : Tab w) : Calls Tryd.prog 8 #[.int .i64 c] w (Makes (.bool true) w) := by
  rcases hv : isValid c with _ | _
  · obtain ⟨h1, h2, h3, h4⟩ := scalar_neither hv
    have h5 : (planeOf c == -1) = true := by rw [h4]; rfl
    go_enter Tryd.func8, Tryd.ntmps8
    go_wp2_with (first
      | (go_at_call 10; refine (valid_any _ _).mono ?_; rintro e w' ⟨rfl, rfl⟩)
      | (go_at_call 12; refine (scalar_any _ _).mono ?_; rintro e w' ⟨rfl, rfl⟩)
      | (go_at_call 14; refine (surr_any _ _).mono ?_; rintro e w' ⟨rfl, rfl⟩)
      | (go_at_call 16; refine (nonch_any _ _).mono ?_; rintro e w' ⟨rfl, rfl⟩)
      | (go_at_call 18; refine (plane_any _ _).mono ?_; rintro e w' ⟨rfl, rfl⟩)
      | (go_at_call 20; refine (awake_any _ ht).mono ?_; rintro e w' ⟨rfl, hb⟩))
    go_ret
    exact ⟨rfl, hb⟩
  · obtain ⟨p1, p2, p3, p4⟩ := planeOf_bounds hv
    rcases hs : isSurr c with _ | _
    all_goals
      have hsc : isScalar c = !isSurr c := by rw [isScalar, hv, Bool.true_and]
      rw [hs] at hsc
      simp only [Bool.not_false, Bool.not_true] at hsc
      go_enter Tryd.func8, Tryd.ntmps8
      go_wp2_with (first
        | (go_at_call 10; refine (valid_any _ _).mono ?_; rintro e w' ⟨rfl, rfl⟩)
        | (go_at_call 12; refine (scalar_any _ _).mono ?_; rintro e w' ⟨rfl, rfl⟩)
        | (go_at_call 14; refine (surr_any _ _).mono ?_; rintro e w' ⟨rfl, rfl⟩)
        | (go_at_call 18; refine (plane_any _ _).mono ?_; rintro e w' ⟨rfl, rfl⟩)
        | (go_at_call 20; refine (awake_any _ ht).mono ?_; rintro e w' ⟨rfl, hb⟩))
      go_ret
      exact ⟨rfl, hb⟩
end Go.Proofs.YtdpcjgjegeiemaaDoor
