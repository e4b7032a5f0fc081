/-
  The contracts of Sum of package image and of its reference.
-/
import Derived.Test.YtkkjjhkhpibaiaaImMath
import Derived.Laws.BitsAllLaws
import Derived.WalkLawsBesides
import Derived.IntWalk
namespace Go.Proofs.Ytkkjjhkhpibaiaa.Im
open Go.RowKit
set_option linter.unusedVariables false

theorem gives_u32 {a b : Int} {w : World} (h : a = b) : Gives (.int .u32 a) w (.returned (.int .u32 b)) w := by rw [h]; exact ⟨rfl, rfl⟩
theorem sum_step {s : ByteArray} {k : Nat} (h : k < s.size) : sumL ((strInts s).take (k + 1)) = xs (sumL ((strInts s).take k)) (s[k]'h).toNat := by
  rw [strInts_take h, sumL, sumFrom_snoc, Int.toNat_natCast, sumL]
theorem sum_all {s : ByteArray} {k : Nat} (h : s.size ≤ k) : sumL ((strInts s).take k) = sumL (strInts s) := by
  rw [List.take_of_length_le (by rw [strInts_len]; exact h)]
theorem sum_zero (s : ByteArray) : sumL ((strInts s).take 0) = 2166136261 := by rw [List.take_zero, sumL, sumFrom_nil]
theorem mul_step {h b x y : Nat} (hx : h ^^^ b = x) (hy : xs h b = y) : IntKind.u32.wrap ((x : Int) * 16777619) = (y : Int) := by
  rw [← hy, xs_eq, hx, IntKind.wrap_u32']
  omega

set_option maxHeartbeats 1000000 in
theorem sum_any (s : ByteArray) (w : World) (hs : s.size ≤ 9223372036854775807) : Calls Try.prog 13 #[.string s] w (Gives (.int .u32 (sumL (strInts s) : Int)) w) := by
  go_enter Try.func13, Try.ntmps13
  go_wp2_with fail
  go_loopw [3, 4, 7] (fun a c i wr => ∃ k h : Nat, k ≤ s.size ∧ a = .int .u32 (h : Int) ∧ i = .int .i64 (k : Int) ∧ wr = w ∧ Hid (sumL ((strInts s).take k) = h)) (fun _ _ i _ => s.size - (intOf i).toNat)
  case atStart => exact ⟨0, 2166136261, Nat.zero_le _, rfl, rfl, rfl, Lib.hid (sum_zero s)⟩
  case round =>
    obtain ⟨k, h, hk, rfl, rfl, rfl, HH⟩ := hrel
    by_cases hlt : k < s.size
    · have hh : h < 4294967296 := by rw [← HH.out]; exact sumL_lt _
      have hb := (s[k]'hlt).toNat_lt
      obtain ⟨x, hx⟩ : ∃ x : Nat, h ^^^ (s[k]'hlt).toNat = x := ⟨_, rfl⟩
      obtain ⟨y, hy⟩ : ∃ y : Nat, xs h (s[k]'hlt).toNat = y := ⟨_, rfl⟩
      have e1 : bits .xor .u32 (h : Int) ((s[k]'hlt).toNat : Int) = (x : Int) := by rw [← hx]; exact u32_xor_nat _ _ hh (by omega)
      have e2 := mul_step hx hy
      have HS : Hid (sumL ((strInts s).take (k + 1)) = y) := Lib.hid (by rw [sum_step hlt, HH.out, hy])
      clear hx hy
      go_wp2_with fail
      go_roundw
      case rel => exact ⟨k + 1, y, by omega, rfl, by push_cast; rfl, trivial, HS⟩
      case measure => simp [intOf] <;> omega
    · have HF : Hid (h = sumL (strInts s)) := Lib.hid (by rw [← HH.out, sum_all (by omega)])
      have i9 : ¬ ((k : Int) < (s.size : Int)) := by omega
      go_wp2_with fail
      go_ret
      exact gives_u32 (by rw [HF.out])
set_option maxHeartbeats 1000000 in
theorem rsum_any (s : ByteArray) (w : World) (hs : s.size ≤ 9223372036854775807) : Calls Try.prog 14 #[.string s] w (Gives (.int .u32 (sumL (strInts s) : Int)) w) := by
  go_enter Try.func14, Try.ntmps14
  go_wp2_with fail
  go_loopw [3, 4] (fun a i wr => ∃ k h : Nat, k ≤ s.size ∧ a = .int .u32 (h : Int) ∧ i = .int .i64 (k : Int) ∧ wr = w ∧ Hid (sumL ((strInts s).take k) = h)) (fun _ i _ => s.size - (intOf i).toNat)
  case atStart => exact ⟨0, 2166136261, Nat.zero_le _, rfl, rfl, rfl, Lib.hid (sum_zero s)⟩
  case round =>
    obtain ⟨k, h, hk, rfl, rfl, rfl, HH⟩ := hrel
    by_cases hlt : k < s.size
    · have hh : h < 4294967296 := by rw [← HH.out]; exact sumL_lt _
      have hb := (s[k]'hlt).toNat_lt
      obtain ⟨x, hx⟩ : ∃ x : Nat, h ^^^ (s[k]'hlt).toNat = x := ⟨_, rfl⟩
      obtain ⟨y, hy⟩ : ∃ y : Nat, xs h (s[k]'hlt).toNat = y := ⟨_, rfl⟩
      have e1 : bits .xor .u32 (h : Int) ((s[k]'hlt).toNat : Int) = (x : Int) := by rw [← hx]; exact u32_xor_nat _ _ hh (by omega)
      have e2 := mul_step hx hy
      have HS : Hid (sumL ((strInts s).take (k + 1)) = y) := Lib.hid (by rw [sum_step hlt, HH.out, hy])
      clear hx hy
      go_wp2_with fail
      go_roundw
      case rel => exact ⟨k + 1, y, by omega, rfl, by push_cast; rfl, trivial, HS⟩
      case measure => simp [intOf] <;> omega
    · have HF : Hid (h = sumL (strInts s)) := Lib.hid (by rw [← HH.out, sum_all (by omega)])
      have i9 : ¬ ((k : Int) < (s.size : Int)) := by omega
      go_wp2_with fail
      go_ret
      exact gives_u32 (by rw [HF.out])
end Go.Proofs.Ytkkjjhkhpibaiaa.Im
