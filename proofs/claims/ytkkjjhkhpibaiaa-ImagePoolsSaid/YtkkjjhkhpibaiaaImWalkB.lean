/-
  The walk of ImageSeals.
-/
import Derived.Test.YtkkjjhkhpibaiaaImAwake
namespace Go.Proofs.Ytkkjjhkhpibaiaa.Im
open Go.RowKit
set_option linter.unusedVariables false

theorem open_sealed (b : ByteArray) : openS (sealS b) = (b, 0) := by
  have h4 := b4_size (sumL (strInts b))
  have hsz : (sealS b).size = b.size + 4 := by rw [sealS, ByteArray.size_append, h4]; omega
  have e1 : (sealS b).extract 4 (sealS b).size = b := by
    rw [hsz, sealS]
    apply ByteArray.ext
    apply Array.ext'
    have h5 : (strOfNums (b4 (sumL (strInts b)))).data.toList.length = 4 := by simpa using h4
    simp only [ByteArray.data_extract, ByteArray.data_append, Array.toList_extract, Array.toList_append, List.extract]
    rw [List.drop_left' h5, List.take_of_length_le (by simp)]
  have e2 : (sealS b).extract 0 4 = strOfNums (b4 (sumL (strInts b))) := by
    rw [sealS]
    apply ByteArray.ext
    apply Array.ext'
    have h5 : (strOfNums (b4 (sumL (strInts b)))).data.toList.length = 4 := by simpa using h4
    simp only [ByteArray.data_extract, ByteArray.data_append, Array.toList_extract, Array.toList_append, List.extract, List.drop_zero]
    rw [List.take_left' (by simpa using h5)]
  rw [openS, if_neg (by omega), e1, e2, if_pos rfl]
theorem sealS_size (b : ByteArray) : (sealS b).size = b.size + 4 := by rw [sealS, ByteArray.size_append, b4_size]; omega

set_option maxRecDepth 100000 in
set_option maxHeartbeats 2000000 in
theorem seals_walk (b s : ByteArray) (W : World) (hb : b.size ≤ 9223372036854775807) (hs : s.size ≤ 9223372036854775807) : Calls Try.prog 7 #[.string b, .string s] W (Makes (.bool true) W) := by
  rcases Nat.lt_or_ge 2000 b.size with h | h
  · have i1 : (2000 : Int) < (b.size : Int) := by omega
    go_enter Try.func7, Try.ntmps7
    go_wp2_with (first
      | (go_at_call 15; refine (alive_any _).mono ?_; rintro e w2 ⟨rfl, b2⟩))
    go_ret
    exact ⟨rfl, b2⟩
  · have i1 : ¬ (2000 : Int) < (b.size : Int) := by omega
    rcases Nat.lt_or_ge 2000 s.size with h2 | h2
    · have i2 : (2000 : Int) < (s.size : Int) := by omega
      go_enter Try.func7, Try.ntmps7
      go_wp2_with (first
        | (go_at_call 15; refine (alive_any _).mono ?_; rintro e w2 ⟨rfl, b2⟩))
      go_ret
      exact ⟨rfl, b2⟩
    · have i2 : ¬ (2000 : Int) < (s.size : Int) := by omega
      obtain ⟨r1, hr1⟩ : ∃ r1, sealS b = r1 := ⟨_, rfl⟩
      have hz : r1.size = b.size + 4 := by rw [← hr1, sealS_size]
      have HO : Hid (openS r1 = (b, 0)) := Lib.hid (by rw [← hr1]; exact open_sealed b)
      have HZZ : Hid (r1.size ≤ 1000000) := Lib.hid (by omega)
      have HZ := Lib.hid hz
      obtain ⟨r2, hr2⟩ : ∃ r2, openS s = r2 := ⟨_, rfl⟩
      have HR2 := Lib.hid hr2
      have HR1 := Lib.hid hr1
      obtain ⟨y, g⟩ := r2
      clear hr1 hr2 hz
      go_enter Try.func7, Try.ntmps7
      go_wp2_with (first
        | (go_at_call 20; refine (seal_any b _ (by omega)).mono ?_; rintro e w1 ⟨rfl, b1⟩; rw [HR1.out])
        | (go_at_call 21; (with_reducible refine (open_any s _ (by omega) HR2.out).mono ?_); rintro e w3 ⟨rfl, b3⟩; have t3 := t2.trans (b3.mono t2.size))
        | (go_at_call 21; (with_reducible refine (open_any r1 _ HZZ.out HO.out).mono ?_); rintro e w2 ⟨rfl, b2⟩; have t2 := b1.trans (b2.mono b1.size))
        | (go_at_call 22; refine (ropen_any s _ (by omega) HR2.out).mono ?_; rintro e w4 ⟨rfl, b4⟩; have t4 := t3.trans (b4.mono t3.size))
        | (go_at_call 23; refine (rseal_any b _ (by omega)).mono ?_; rintro e w5 ⟨rfl, b5⟩; rw [HR1.out]; have t5 := t4.trans (b5.mono t4.size))
        | (go_at_call 15; refine (alive_any _).mono ?_; rintro e w6 ⟨rfl, b6⟩))
      go_ret
      exact ⟨rfl, t5.trans (b6.mono t5.size)⟩
end Go.Proofs.Ytkkjjhkhpibaiaa.Im
