/-
  The contracts of fold, appendNumbers, appendLists and Ints of package image.
-/
import Derived.Test.YtkkjjhkhpibaiaaImSum
namespace Go.Proofs.Ytkkjjhkhpibaiaa.Im
open Go.RowKit
set_option linter.unusedVariables false

/-- A number of 64 bits. -/
def I64 (n : Int) : Prop := -9223372036854775808 ≤ n ∧ n ≤ 9223372036854775807
theorem fold_of {n : Int} (h : I64 n) : ∃ u : Nat, fold n = u ∧ u < 18446744073709551616 := ⟨_, rfl, fold_lt h.1 h.2⟩

theorem xor_ones {a : Nat} (h : a < 18446744073709551616) : a ^^^ 18446744073709551615 = 18446744073709551615 - a := by
  have e := congrArg BitVec.toNat (BitVec.xor_allOnes (x := BitVec.ofNat 64 a))
  rw [BitVec.toNat_xor, BitVec.toNat_not, BitVec.toNat_allOnes, BitVec.toNat_ofNat, Nat.mod_eq_of_lt h] at e
  exact e
theorem wrap_u64x (n : Int) : IntKind.u64.wrap n = n % 18446744073709551616 := by simp [IntKind.wrap, IntKind.bits, IntKind.signed]
theorem fold_neg {n : Int} (h1 : -9223372036854775808 ≤ n) (h0 : n < 0) : bits .xor .u64 (IntKind.u64.wrap (IntKind.u64.wrap n * 2)) (IntKind.u64.wrap (n / 9223372036854775808)) = (fold n : Int) := by
  have e2 : IntKind.u64.wrap (n / 9223372036854775808) = ((18446744073709551615 : Nat) : Int) := by rw [wrap_u64x]; omega
  have e1 : IntKind.u64.wrap (IntKind.u64.wrap n * 2) = ((18446744073709551615 - fold n : Nat) : Int) := by
    rw [wrap_u64x, wrap_u64x, fold, if_pos h0]
    omega
  have hf : fold n < 18446744073709551616 := fold_lt h1 (by omega)
  rw [e1, e2, u64_xor_nat _ _ (by omega) (by omega), xor_ones (by omega)]
  omega
theorem fold_pos {n : Int} (h0 : 0 ≤ n) (h2 : n ≤ 9223372036854775807) : bits .xor .u64 (n * 2) (n / 9223372036854775808) = (fold n : Int) := by
  have e2 : n / 9223372036854775808 = ((0 : Nat) : Int) := by omega
  have e1 : n * 2 = ((n.toNat * 2 : Nat) : Int) := by omega
  rw [e1, e2, u64_xor_nat _ _ (by omega) (by omega), Nat.xor_zero, fold, if_neg (by omega)]
theorem gives_u64 {a b : Int} {w : World} (h : a = b) : Gives (.int .u64 a) w (.returned (.int .u64 b)) w := by rw [h]; exact ⟨rfl, rfl⟩

set_option maxHeartbeats 1000000 in
theorem fold_any (n : Int) (w : World) (h : I64 n) : Calls Try.prog 63 #[.int .i64 n] w (Gives (.int .u64 (fold n : Int)) w) := by
  obtain ⟨h1, h2⟩ := h
  rcases Int.lt_or_le n 0 with h0 | h0
  · have HF := Lib.hid (fold_neg h1 h0)
    go_enter Try.func63, Try.ntmps63
    go_wp2_with fail
    go_ret
    exact gives_u64 HF.out.symm
  · have HF := Lib.hid (fold_pos h0 h2)
    go_enter Try.func63, Try.ntmps63
    go_wp2_with fail
    go_ret
    exact gives_u64 HF.out.symm

set_option maxHeartbeats 1000000 in
theorem folded_any (n : Int) (w : World) (h : I64 n) : Calls Try.prog 51 #[.int .i64 n] w (Gives (.int .u64 (fold n : Int)) w) := by
  obtain ⟨h1, h2⟩ := h
  rcases Int.lt_or_le n 0 with h0 | h0
  · go_enter Try.func51, Try.ntmps51
    go_wp2_with fail
    go_ret
    exact gives_u64 (by rw [fold, if_pos h0]; omega)
  · go_enter Try.func51, Try.ntmps51
    go_wp2_with fail
    go_ret
    exact gives_u64 (by rw [fold, if_neg (by omega)]; omega)

theorem or_128 : ∀ x : Nat, x < 256 → x ||| 128 = x % 128 + 128 := by decide +kernel
theorem numB_big {f u : Nat} (h : 128 ≤ u) (hu : u < 128 ^ (f + 1)) : ∃ g, f = g + 1 ∧ numB f u = ((u % 128 + 128 : Nat) : Int) :: numB g (u / 128) ∧ u / 128 < 128 ^ (g + 1) := by
  cases f with
  | zero => omega
  | succ g =>
    refine ⟨g, rfl, by rw [numB, if_neg (by omega)], ?_⟩
    rw [Nat.div_lt_iff_lt_mul (by omega), ← Nat.pow_succ]
    exact hu
theorem numB_small {f u : Nat} (h : u < 128) : numB f u = [(u : Int)] := by
  cases f with
  | zero => rfl
  | succ g => rw [numB, if_pos h]
end Go.Proofs.Ytkkjjhkhpibaiaa.Im
