/-
  The walks of ImageSums and ImageInts.
-/
import Derived.Test.YtkkjjhkhpibaiaaImAwake
namespace Go.Proofs.Ytkkjjhkhpibaiaa.Im
open Go.RowKit
set_option linter.unusedVariables false

set_option maxRecDepth 100000 in
set_option maxHeartbeats 2000000 in
theorem sums_walk (s : ByteArray) (W : World) (hw : s.size ≤ 9223372036854775807) : Calls Try.prog 3 #[.string s] W (Makes (.bool true) W) := by
  rcases Nat.lt_or_ge 5000 s.size with h | h
  · have i1 : (5000 : Int) < (s.size : Int) := by omega
    go_enter Try.func3, Try.ntmps3
    go_wp2_with (first
      | (go_at_call 15; refine (alive_any _).mono ?_; rintro e w2 ⟨rfl, b2⟩))
    go_ret
    exact ⟨rfl, b2⟩
  · have i1 : ¬ (5000 : Int) < (s.size : Int) := by omega
    obtain ⟨n, hn⟩ : ∃ n, sumL (strInts s) = n := ⟨_, rfl⟩
    have HN := Lib.hid hn
    clear hn
    go_enter Try.func3, Try.ntmps3
    go_wp2_with (first
      | (go_at_call 13; refine (sum_any s _ hw).mono ?_; rintro e w1 ⟨rfl, rfl⟩; rw [HN.out])
      | (go_at_call 14; refine (rsum_any s _ hw).mono ?_; rintro e w1 ⟨rfl, rfl⟩; rw [HN.out])
      | (go_at_call 15; refine (alive_any _).mono ?_; rintro e w2 ⟨rfl, b2⟩))
    go_ret
    exact ⟨rfl, b2⟩

set_option maxRecDepth 100000 in
set_option maxHeartbeats 2000000 in
theorem ints_walk (A : Option Addr) (n c : Nat) (zs : List Int) (W : World) (hx : Sl W A n c 1 (ints zs)) (hz : ∀ z ∈ zs, I64 z) : Calls Try.prog 4 #[.slice A n c] W (Makes (.bool true) W) := by
  have HZ := Lib.hid hz
  have hcx := hx.cap
  have hmx := hx.max
  clear hz
  rcases Nat.lt_or_ge 60 n with h | h
  · have i1 : (60 : Int) < (n : Int) := by omega
    go_enter Try.func4, Try.ntmps4
    go_wp2_with (first
      | (go_at_call 15; refine (alive_any _).mono ?_; rintro e w2 ⟨rfl, b2⟩))
    go_ret
    exact ⟨rfl, b2⟩
  · have i1 : ¬ (60 : Int) < (n : Int) := by omega
    obtain ⟨r, hr⟩ : ∃ r, strOfNums (intsB zs) = r := ⟨_, rfl⟩
    have HR := Lib.hid hr
    clear hr
    go_enter Try.func4, Try.ntmps4
    go_wp2_with (first
      | (go_at_call 16; refine (ints_any _ hx HZ.out (by omega) HR.out).mono ?_; rintro e w1 ⟨rfl, b1⟩)
      | (go_at_call 17; refine (rints_any _ (hx.keep b1) HZ.out (by omega) HR.out).mono ?_; rintro e w2 ⟨rfl, b2⟩; have t2 := b1.trans (b2.mono b1.size))
      | (go_at_call 15; refine (alive_any _).mono ?_; rintro e w3 ⟨rfl, b3⟩))
    go_ret
    exact ⟨rfl, t2.trans (b3.mono t2.size)⟩

end Go.Proofs.Ytkkjjhkhpibaiaa.Im
