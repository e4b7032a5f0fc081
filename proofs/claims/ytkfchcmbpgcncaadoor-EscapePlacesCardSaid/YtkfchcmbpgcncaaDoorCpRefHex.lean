/-
  The contract of the reference's Hex, for every int.
-/
import Derived.Test.YtkfchcmbpgcncaaDoorCpRVal
import Derived.Test.YtkfchcmbpgcncaaDoorCpTab
namespace Go.Proofs.YtkfchcmbpgcncaaDoor
open Go.RowKit
set_option linter.unusedVariables false

def bytesOf (l : List UInt8) : ByteArray := ⟨l.toArray⟩
theorem bytesOf_size (l : List UInt8) : (bytesOf l).size = l.length := by simp [bytesOf, ByteArray.size]
theorem bytesOf_list (l : List UInt8) : (bytesOf l).data.toList = l := by simp [bytesOf]
theorem bytesOf_cons (b : UInt8) (l : List UInt8) : (⟨#[b]⟩ : ByteArray) ++ bytesOf l = bytesOf (b :: l) := by
  apply ByteArray.ext
  simp [bytesOf]
/-- j digits of c have been taken. -/
def Taken (c : Nat) (j : Nat) : Prop := j ≤ 6 ∧ (j = 5 → sh 4 c ≠ 0) ∧ (j = 6 → sh 5 c ≠ 0)
theorem Taken.zero (c : Nat) : Taken c 0 := ⟨by omega, by omega, by omega⟩
theorem sh_step {c j x : Nat} (h : x = sh j c) : x / 16 = sh (j + 1) c := by rw [h]; rfl
theorem sh_less {c j : Nat} (h : sh j c = 0) : sh (j + 1) c = 0 := by simp [sh, h]
theorem Taken.step {c j : Nat} (h : Taken c j) (hc : c < 16777216) (hj : j < 4 ∨ sh j c ≠ 0) : Taken c (j + 1) := by
  obtain ⟨h1, h2, h3⟩ := h
  have h6 : sh 6 c = 0 := by simp only [sh]; omega
  have hj6 : j ≠ 6 := by
    rintro rfl
    rcases hj with hj | hj
    · omega
    · exact hj h6
  refine ⟨by omega, fun e => ?_, fun e => ?_⟩
  · obtain rfl : j = 4 := by omega
    rcases hj with hj | hj
    · omega
    · exact hj
  · obtain rfl : j = 5 := by omega
    rcases hj with hj | hj
    · omega
    · exact hj
theorem Taken.stop {c j : Nat} (h : Taken c j) (hj : 4 ≤ j) (h0 : sh j c = 0) : nd c = j := by
  obtain ⟨h1, h2, h3⟩ := h
  have h456 : j = 4 ∨ j = 5 ∨ j = 6 := by omega
  rcases h456 with e | e | e <;> subst e
  · simp only [sh] at h0
    unfold nd
    rw [if_pos (by omega)]
  · have h2' := h2 rfl
    simp only [sh] at h0 h2'
    unfold nd
    rw [if_neg (by omega), if_pos (by omega)]
  · have h3' := h3 rfl
    simp only [sh] at h0 h3'
    unfold nd
    rw [if_neg (by omega), if_neg (by omega)]
theorem hexL_taken {c : Int} {j : Nat} (hv : isValid c = true) (h : nd c.toNat = j) : hexL c = digs j c.toNat := by
  rw [hexL, if_pos (show isCode c = true from hv), h]
theorem hexL_not {c : Int} (hv : isValid c = false) : hexL c = [] := by
  rw [hexL, if_neg (show ¬ isCode c = true by rw [show isCode c = isValid c from rfl, hv]; simp)]

theorem slice_0 (w : World) : (Instr.slice 9 (.string ⟨#[48, 49, 50, 51, 52, 53, 54, 55, 56, 57, 65, 66, 67, 68, 69, 70]⟩) (some (.int .i64 0)) (some (.int .i64 1)) none).run Tryd.prog w = .ok (.string ⟨#[hd 0]⟩) w := by kernel_rfl
theorem slice_1 (w : World) : (Instr.slice 9 (.string ⟨#[48, 49, 50, 51, 52, 53, 54, 55, 56, 57, 65, 66, 67, 68, 69, 70]⟩) (some (.int .i64 1)) (some (.int .i64 2)) none).run Tryd.prog w = .ok (.string ⟨#[hd 1]⟩) w := by kernel_rfl
theorem slice_2 (w : World) : (Instr.slice 9 (.string ⟨#[48, 49, 50, 51, 52, 53, 54, 55, 56, 57, 65, 66, 67, 68, 69, 70]⟩) (some (.int .i64 2)) (some (.int .i64 3)) none).run Tryd.prog w = .ok (.string ⟨#[hd 2]⟩) w := by kernel_rfl
theorem slice_3 (w : World) : (Instr.slice 9 (.string ⟨#[48, 49, 50, 51, 52, 53, 54, 55, 56, 57, 65, 66, 67, 68, 69, 70]⟩) (some (.int .i64 3)) (some (.int .i64 4)) none).run Tryd.prog w = .ok (.string ⟨#[hd 3]⟩) w := by kernel_rfl
theorem slice_4 (w : World) : (Instr.slice 9 (.string ⟨#[48, 49, 50, 51, 52, 53, 54, 55, 56, 57, 65, 66, 67, 68, 69, 70]⟩) (some (.int .i64 4)) (some (.int .i64 5)) none).run Tryd.prog w = .ok (.string ⟨#[hd 4]⟩) w := by kernel_rfl
theorem slice_5 (w : World) : (Instr.slice 9 (.string ⟨#[48, 49, 50, 51, 52, 53, 54, 55, 56, 57, 65, 66, 67, 68, 69, 70]⟩) (some (.int .i64 5)) (some (.int .i64 6)) none).run Tryd.prog w = .ok (.string ⟨#[hd 5]⟩) w := by kernel_rfl
theorem slice_6 (w : World) : (Instr.slice 9 (.string ⟨#[48, 49, 50, 51, 52, 53, 54, 55, 56, 57, 65, 66, 67, 68, 69, 70]⟩) (some (.int .i64 6)) (some (.int .i64 7)) none).run Tryd.prog w = .ok (.string ⟨#[hd 6]⟩) w := by kernel_rfl
theorem slice_7 (w : World) : (Instr.slice 9 (.string ⟨#[48, 49, 50, 51, 52, 53, 54, 55, 56, 57, 65, 66, 67, 68, 69, 70]⟩) (some (.int .i64 7)) (some (.int .i64 8)) none).run Tryd.prog w = .ok (.string ⟨#[hd 7]⟩) w := by kernel_rfl
theorem slice_8 (w : World) : (Instr.slice 9 (.string ⟨#[48, 49, 50, 51, 52, 53, 54, 55, 56, 57, 65, 66, 67, 68, 69, 70]⟩) (some (.int .i64 8)) (some (.int .i64 9)) none).run Tryd.prog w = .ok (.string ⟨#[hd 8]⟩) w := by kernel_rfl
theorem slice_9 (w : World) : (Instr.slice 9 (.string ⟨#[48, 49, 50, 51, 52, 53, 54, 55, 56, 57, 65, 66, 67, 68, 69, 70]⟩) (some (.int .i64 9)) (some (.int .i64 10)) none).run Tryd.prog w = .ok (.string ⟨#[hd 9]⟩) w := by kernel_rfl
theorem slice_10 (w : World) : (Instr.slice 9 (.string ⟨#[48, 49, 50, 51, 52, 53, 54, 55, 56, 57, 65, 66, 67, 68, 69, 70]⟩) (some (.int .i64 10)) (some (.int .i64 11)) none).run Tryd.prog w = .ok (.string ⟨#[hd 10]⟩) w := by kernel_rfl
theorem slice_11 (w : World) : (Instr.slice 9 (.string ⟨#[48, 49, 50, 51, 52, 53, 54, 55, 56, 57, 65, 66, 67, 68, 69, 70]⟩) (some (.int .i64 11)) (some (.int .i64 12)) none).run Tryd.prog w = .ok (.string ⟨#[hd 11]⟩) w := by kernel_rfl
theorem slice_12 (w : World) : (Instr.slice 9 (.string ⟨#[48, 49, 50, 51, 52, 53, 54, 55, 56, 57, 65, 66, 67, 68, 69, 70]⟩) (some (.int .i64 12)) (some (.int .i64 13)) none).run Tryd.prog w = .ok (.string ⟨#[hd 12]⟩) w := by kernel_rfl
theorem slice_13 (w : World) : (Instr.slice 9 (.string ⟨#[48, 49, 50, 51, 52, 53, 54, 55, 56, 57, 65, 66, 67, 68, 69, 70]⟩) (some (.int .i64 13)) (some (.int .i64 14)) none).run Tryd.prog w = .ok (.string ⟨#[hd 13]⟩) w := by kernel_rfl
theorem slice_14 (w : World) : (Instr.slice 9 (.string ⟨#[48, 49, 50, 51, 52, 53, 54, 55, 56, 57, 65, 66, 67, 68, 69, 70]⟩) (some (.int .i64 14)) (some (.int .i64 15)) none).run Tryd.prog w = .ok (.string ⟨#[hd 14]⟩) w := by kernel_rfl
theorem slice_15 (w : World) : (Instr.slice 9 (.string ⟨#[48, 49, 50, 51, 52, 53, 54, 55, 56, 57, 65, 66, 67, 68, 69, 70]⟩) (some (.int .i64 15)) (some (.int .i64 16)) none).run Tryd.prog w = .ok (.string ⟨#[hd 15]⟩) w := by kernel_rfl
theorem slice_digit (x : Int) (hx : 0 ≤ x) (w : World) : (Instr.slice 9 (.string ⟨#[48, 49, 50, 51, 52, 53, 54, 55, 56, 57, 65, 66, 67, 68, 69, 70]⟩) (some (.int .i64 (x % 16))) (some (.int .i64 (x % 16 + 1))) none).run Tryd.prog w = .ok (.string ⟨#[hd (x % 16).toNat]⟩) w := by
  have h16 : x % 16 = 0 ∨ x % 16 = 1 ∨ x % 16 = 2 ∨ x % 16 = 3 ∨ x % 16 = 4 ∨ x % 16 = 5 ∨ x % 16 = 6 ∨ x % 16 = 7 ∨ x % 16 = 8 ∨ x % 16 = 9 ∨ x % 16 = 10 ∨ x % 16 = 11 ∨ x % 16 = 12 ∨ x % 16 = 13 ∨ x % 16 = 14 ∨ x % 16 = 15 := by omega
  rcases h16 with e | e | e | e | e | e | e | e | e | e | e | e | e | e | e | e <;> rw [e]
  · exact slice_0 w
  · exact slice_1 w
  · exact slice_2 w
  · exact slice_3 w
  · exact slice_4 w
  · exact slice_5 w
  · exact slice_6 w
  · exact slice_7 w
  · exact slice_8 w
  · exact slice_9 w
  · exact slice_10 w
  · exact slice_11 w
  · exact slice_12 w
  · exact slice_13 w
  · exact slice_14 w
  · exact slice_15 w

/-- The size of a string's value. -/
def strSize (v : Value) : Nat := match v with
  | .string b => b.size
  | _ => 0
theorem sh_le (j c : Nat) : sh j c ≤ c := by
  induction j with
  | zero => exact Nat.le_refl _
  | succ j ih => exact Nat.le_trans (Nat.div_le_self _ _) ih
theorem gives_string {a b : ByteArray} {w : World} (h : a = b) : Gives (.string a) w (.returned (.string b)) w := by rw [h]; exact ⟨rfl, rfl⟩

set_option maxHeartbeats 400000 in
theorem ref_hex_any (c : Int) (w : World) : Calls Tryd.prog 21 #[.int .i64 c] w (Gives (.string (bytesOf (hexL c))) w) := by
  rcases hv : isValid c with _ | _
  · have H := Lib.hid (hexL_not hv)
    go_enter Tryd.func21, Tryd.ntmps21
    go_wp2_with (go_at_call 26; refine (ref_valid_any _ _).mono ?_; rintro e w' ⟨rfl, rfl⟩)
    go_ret
    exact gives_string (by rw [H.out]; rfl)
  · obtain ⟨h0, h1⟩ := isValid_bounds hv
    obtain ⟨m, rfl⟩ := Int.eq_ofNat_of_zero_le h0
    have HV := Lib.hid hv
    go_enter Tryd.func21, Tryd.ntmps21
    go_wp2_with (go_at_call 26; refine (ref_valid_any _ _).mono ?_; rintro e w' ⟨rfl, rfl⟩)
    clear hv
    go_loop [0, 3] (fun c s => ∃ (j x : Nat), c = .int .i64 x ∧ s = .string (bytesOf (digs j m)) ∧ Hid (x = sh j m) ∧ Taken m j) (fun c s => (intOf c).toNat + (4 - strSize s))
    case atStart => exact ⟨0, m, rfl, rfl, Lib.hid rfl, Taken.zero m⟩
    case round =>
      obtain ⟨j, x, rfl, rfl, HX, ht⟩ := hrel
      have l1 : (bytesOf (digs j m)).size ≤ j := by rw [bytesOf_size, digs_length]; omega
      have l2 : j ≤ (bytesOf (digs j m)).size := by rw [bytesOf_size, digs_length]; omega
      have hj6 := ht.1
      have hxm : x ≤ m := by rw [HX.out]; exact sh_le j m
      obtain ⟨s, hs⟩ : ∃ s, s = bytesOf (digs j m) := ⟨_, rfl⟩
      rw [← hs] at l1 l2
      rw [← hs]
      have HSS := Lib.hid hs
      clear hs
      by_cases hgo : j < 4 ∨ 0 < x
      · have HT := Lib.hid (ht.step (by omega) (by rcases hgo with h | h; exact .inl h; exact .inr (by rw [← HX.out]; omega)))
        have hsl := slice_digit (x : Int) (by omega)
        clear ht
        have fin : Value.string ((⟨#[hd (x % 16)]⟩ : ByteArray) ++ s) = .string (bytesOf (digs (j + 1) m)) := by
          rw [HSS.out, bytesOf_cons, HX.out]
          rfl
        have HF := Lib.hid fin
        have HZ : Hid (strSize (.string ((⟨#[hd (x % 16)]⟩ : ByteArray) ++ s)) = j + 1) := Lib.hid (by rw [fin]; simp only [strSize]; rw [bytesOf_size, digs_length])
        clear fin
        rcases Nat.lt_or_ge j 4 with h4 | h4
        all_goals
          go_wp2
          go_round
          case rel => exact ⟨j + 1, x / 16, by go_num, HF.out, Lib.hid (sh_step HX.out), HT.out⟩
          case measure => rw [HZ.out]; simp only [intOf, strSize]; omega
      · have h4 : ¬ j < 4 := fun h => hgo (.inl h)
        have hx0 : x ≤ 0 := by omega
        have HE := Lib.hid (hexL_taken HV.out (j := j) (ht.stop (by omega) (by rw [← HX.out]; omega)))
        clear ht
        go_wp2
        go_ret
        exact gives_string (by rw [HSS.out, HE.out]; rfl)

theorem ref_hex_as {c : Int} {r : ByteArray} (h : r = bytesOf (hexL c)) (w : World) : Calls Tryd.prog 21 #[.int .i64 c] w (Gives (.string r) w) := by
  rw [h]
  exact ref_hex_any c w
end Go.Proofs.YtkfchcmbpgcncaaDoor
