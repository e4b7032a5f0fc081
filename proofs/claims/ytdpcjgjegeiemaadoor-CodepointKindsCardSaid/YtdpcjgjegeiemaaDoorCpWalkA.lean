/-
  The walks of CodepointKinds and CodepointScalars.
-/
import Derived.Test.YtdpcjgjegeiemaaDoorCpAwake
namespace Go.Proofs.YtdpcjgjegeiemaaDoor
open Go.RowKit
set_option linter.unusedVariables false

set_option maxHeartbeats 1000000 in
theorem kinds_walk (c : Int) (hw : (Lit.int .i64 c).wf = true) (w : World) (ht : Tab w) : Calls Tryd.prog 3 #[.int .i64 c] w (Makes (.bool true) w) := by
  have b1 : (isValid c == isValid c) = true := beq_self_eq_true _
  have b2 : (isScalar c == isScalar c) = true := beq_self_eq_true _
  have b3 : (isSurr c == isSurr c) = true := beq_self_eq_true _
  have b4 : (isNonch c == isNonch c) = true := beq_self_eq_true _
  have b5 : (planeOf c == planeOf c) = true := beq_self_eq_true _
  go_enter Tryd.func3, Tryd.ntmps3
  go_wp2_with (first
    | (go_at_call 10; refine (valid_any _ _).mono ?_; rintro e w' ⟨rfl, rfl⟩)
    | (go_at_call 11; refine (ref_valid_any _ _).mono ?_; rintro e w' ⟨rfl, rfl⟩)
    | (go_at_call 12; refine (scalar_any _ _).mono ?_; rintro e w' ⟨rfl, rfl⟩)
    | (go_at_call 13; refine (ref_scalar_any _ _).mono ?_; rintro e w' ⟨rfl, rfl⟩)
    | (go_at_call 14; refine (surr_any _ _).mono ?_; rintro e w' ⟨rfl, rfl⟩)
    | (go_at_call 15; refine (ref_surr_any _ _).mono ?_; rintro e w' ⟨rfl, rfl⟩)
    | (go_at_call 16; refine (nonch_any _ _).mono ?_; rintro e w' ⟨rfl, rfl⟩)
    | (go_at_call 17; refine (ref_nonch_any _ _).mono ?_; rintro e w' ⟨rfl, rfl⟩)
    | (go_at_call 18; refine (plane_any _ _).mono ?_; rintro e w' ⟨rfl, rfl⟩)
    | (go_at_call 19; refine (ref_plane_any _ _).mono ?_; rintro e w' ⟨rfl, rfl⟩)
    | (go_at_call 20; refine (awake_any _ ht).mono ?_; rintro e w' ⟨rfl, hb⟩))
  go_ret
  exact ⟨rfl, hb⟩
end Go.Proofs.YtdpcjgjegeiemaaDoor
