/-
  The contracts of codepoint.digitValue (which reads the package's table) and of the reference's digit, for every byte.
-/
import Derived.Test.YtkfchcmbpgcncaaDoorCpTab
import Derived.WalkLawsBesides
import Derived.Laws.Rows
import Derived.Lib.LaidTab
namespace Go.Proofs.YtkfchcmbpgcncaaDoor
open Go.RowKit
set_option linter.unusedVariables false

/-- None of the first k digits is b. -/
def Missed (b : Int) (k : Nat) : Prop := ∀ j : Nat, j < k → tabN j ≠ b
theorem Missed.zero (b : Int) : Missed b 0 := fun j hj => absurd hj (by omega)
theorem Missed.step {b : Int} {k : Nat} (h : Missed b k) (e : tabN k ≠ b) : Missed b (k + 1) := fun j hj => by
  rcases Nat.lt_or_ge j k with hl | hl
  · exact h j hl
  · obtain rfl : j = k := by omega
    exact e
theorem idx_str : ∀ (k : Nat) (_ : k < 16) (w : World), (Instr.index 9 (.string ⟨#[48, 49, 50, 51, 52, 53, 54, 55, 56, 57, 65, 66, 67, 68, 69, 70]⟩) (.int .i64 (k : Int))).run Tryd.prog w = .ok (.int .u8 (tabN k)) w := by
  intro k hk w
  rw [run_index_string w _ _ _ _ Tryd.underlying9, dif_pos ⟨by omega, by show (k : Int) < ((16 : Nat) : Int); omega⟩]
  have e : ((k : Int)).toNat = k := by omega
  simp only [e]
  have hall : ∀ j : Fin 16, ((((⟨#[48, 49, 50, 51, 52, 53, 54, 55, 56, 57, 65, 66, 67, 68, 69, 70]⟩ : ByteArray)[j.val]'(j.isLt)).toNat : Nat) : Int) = tabN j.val := by decide
  have := hall ⟨k, hk⟩
  rw [← this]

theorem digit_value_any (b : Int) (hb : 0 ≤ b) (w : World) (ht : Tab w) : Calls Tryd.prog 42 #[.int .u8 b] w (Gives (.int .i64 (dig b)) w) := by
  obtain ⟨t, fr, hg⟩ := ht
  have hsz : (Tryd.prog.info? 64).map (·.size) = some tabCells.size := by rw [tabCells_size]; kernel_rfl
  go_enter Tryd.func42, Tryd.ntmps42
  go_wp2_with (first | (refine wpList_load_row rfl 64 _ rfl 0 rfl t tabCells fr _ hg Tryd.underlying64 rfl hsz ?_))
  go_loop [6] (fun i => ∃ k : Nat, k ≤ 16 ∧ i = .int .i64 k ∧ Missed b k) (fun i => 16 - (intOf i).toNat)
  case atStart => exact ⟨0, by omega, rfl, Missed.zero b⟩
  case round =>
    obtain ⟨k, hk, rfl, hm⟩ := hrel
    by_cases hlt : k < 16
    · have hx := idx_tab k hlt
      by_cases he : tabN k = b
      · have hq : (tabN k == b) = true := by simp [he]
        have HE := Lib.hid (dig_hit hlt he)
        clear he
        go_wp2
        go_ret
        exact gives_int HE.out
      · have hq : (tabN k == b) = false := by simp [he]
        have HM := Lib.hid (hm.step he)
        clear he hm
        go_wp2
        go_round
        case rel => exact ⟨k + 1, by omega, by go_num, HM.out⟩
        case measure => simp [intOf]; omega
    · obtain rfl : k = 16 := by omega
      have HE := Lib.hid (dig_miss hm)
      go_wp2
      go_ret
      exact gives_int HE.out

theorem ref_digit_any (b : Int) (hb : 0 ≤ b) (w : World) : Calls Tryd.prog 43 #[.int .u8 b] w (Gives (.int .i64 (dig b)) w) := by
  go_enter Tryd.func43, Tryd.ntmps43
  go_wp2
  go_loop [3] (fun i => ∃ k : Nat, k ≤ 16 ∧ i = .int .i64 k ∧ Missed b k) (fun i => 16 - (intOf i).toNat)
  case atStart => exact ⟨0, by omega, rfl, Missed.zero b⟩
  case round =>
    obtain ⟨k, hk, rfl, hm⟩ := hrel
    by_cases hlt : k < 16
    · have hx := idx_str k hlt
      by_cases he : tabN k = b
      · have hq : (tabN k == b) = true := by simp [he]
        have HE := Lib.hid (dig_hit hlt he)
        clear he
        go_wp2
        go_ret
        exact gives_int HE.out
      · have hq : (tabN k == b) = false := by simp [he]
        have HM := Lib.hid (hm.step he)
        clear he hm
        go_wp2
        go_round
        case rel => exact ⟨k + 1, by omega, by go_num, HM.out⟩
        case measure => simp [intOf]; omega
    · obtain rfl : k = 16 := by omega
      have HE := Lib.hid (dig_miss hm)
      go_wp2
      go_ret
      exact gives_int HE.out
end Go.Proofs.YtkfchcmbpgcncaaDoor
