/-
  The contracts of package escape's readDigits and readEscape, for every string.
-/
import Derived.Test.YtkfchcmbpgcncaaDoorEsProgA
import Derived.Test.YtkfchcmbpgcncaaDoorShelf

namespace Go.Proofs.YtkfchcmbpgcncaaDoor.Es
open Go.RowKit
set_option linter.unusedVariables false

/-- k digits have been read, and give z. -/
def AtDig (s : ByteArray) (k : Nat) (z : Int) : Prop := 0 ≤ z ∧ z < 16 ^ k ∧ rdig 6 s.data.toList 0 0 = rdig (6 - k) (s.data.toList.drop k) z k
theorem AtDig.zero (s : ByteArray) : AtDig s 0 0 := ⟨by omega, by simp, rfl⟩
theorem AtDig.bound {s : ByteArray} {k : Nat} {c : Int} (h : AtDig s k c) (hk : k ≤ 6) : 0 ≤ c ∧ c < 16777216 := by
  refine ⟨h.1, ?_⟩
  have h1 := h.2.1
  have h456 : k = 0 ∨ k = 1 ∨ k = 2 ∨ k = 3 ∨ k = 4 ∨ k = 5 ∨ k = 6 := by omega
  rcases h456 with e | e | e | e | e | e | e <;> subst e <;> omega
theorem AtDig.bad {s : ByteArray} {k : Nat} {c : Int} (h : AtDig s k c) (hk : k < s.size) (h6 : k < 6) (hd : dig2 (s[k]).toNat < 0) : rdig 6 s.data.toList 0 0 = (c, k) := by
  rw [h.2.2, AtScan.drop_ hk, show 6 - k = (5 - k) + 1 by omega]
  simp only [rdig]
  rw [if_pos hd]
theorem AtDig.step {s : ByteArray} {k : Nat} {c : Int} (h : AtDig s k c) (hk : k < s.size) (h6 : k < 6) (hd : 0 ≤ dig2 (s[k]).toNat) : AtDig s (k + 1) (c * 16 + dig2 (s[k]).toNat) := by
  obtain ⟨h0, h1, h2⟩ := h
  have hr := dig2_range (s[k]).toNat
  refine ⟨by omega, ?_, ?_⟩
  · rw [Int.pow_succ]
    omega
  · rw [h2, AtScan.drop_ hk, show 6 - k = (5 - k) + 1 by omega, show 6 - (k + 1) = 5 - k by omega]
    simp only [rdig]
    rw [if_neg (by omega)]
theorem AtDig.done {s : ByteArray} {k : Nat} {c : Int} (h : AtDig s k c) (hk : s.size ≤ k ∨ 6 ≤ k) (h6 : k ≤ 6) : rdig 6 s.data.toList 0 0 = (c, k) := by
  rw [h.2.2]
  rcases hk with hk | hk
  · rw [List.drop_eq_nil_of_le (by rw [length_of]; omega)]
    cases 6 - k <;> simp [rdig]
  · obtain rfl : k = 6 := by omega
    simp [rdig]
theorem ior16 {a b : Int} (ha : 0 ≤ a) (ha2 : a < 16777216) (hb : 0 ≤ b) (hb2 : b ≤ 15) : bits BinOp.or IntKind.i64 (a * 16) b = a * 16 + b := by
  have h1 : (BitVec.ofInt 64 (a * 16)).toNat = a.toNat * 16 := by rw [BitVec.toNat_ofInt]; omega
  have h2 : (BitVec.ofInt 64 b).toNat = b.toNat := by rw [BitVec.toNat_ofInt]; omega
  have h3 : (a.toNat * 16 ||| b.toNat) = a.toNat * 16 + b.toNat := by
    have := Nat.shiftLeft_add_eq_or_of_lt (i := 4) (b := b.toNat) (by omega) a.toNat
    rw [Nat.shiftLeft_eq] at this
    exact this.symm
  show IntKind.i64.wrap (((BitVec.ofInt 64 (a * 16)) ||| (BitVec.ofInt 64 b)).toNat : Int) = _
  rw [BitVec.toNat_or, h1, h2, h3]
  rw [IntWalk.i64_in _ (by omega)]
  omega
theorem gives_two {a : Int × Nat} {x : Int} {y : Nat} {w : World} (h : a = (x, y)) : Gives (.tuple #[.int .i64 a.1, .int .i64 (a.2 : Int)]) w (.returned (.tuple #[.int .i64 x, .int .i64 (y : Int)])) w := by rw [h]; exact ⟨rfl, rfl⟩
set_option maxHeartbeats 400000 in
theorem digits_any (s : ByteArray) (hs : s.size ≤ maxLen) (w : World) :
    Calls Tryd.prog 46 #[.string s] w (Gives (.tuple #[.int .i64 (rdig 6 s.data.toList 0 0).1, .int .i64 ((rdig 6 s.data.toList 0 0).2 : Int)]) w) := by
  unfold maxLen at hs
  go_enter Tryd.func46, Tryd.ntmps46
  go_wp2
  go_loop [4, 5] (fun c i => ∃ (k : Nat) (z : Int), k ≤ s.size ∧ k ≤ 6 ∧ i = .int .i64 k ∧ c = .int .i64 z ∧ AtDig s k z) (fun _ i => s.size - (intOf i).toNat)
  case atStart => exact ⟨0, 0, by omega, by omega, rfl, rfl, AtDig.zero s⟩
  case round =>
    obtain ⟨k, z, hk, hk6, rfl, rfl, hsc⟩ := hrel
    obtain ⟨hz0, hz1⟩ := hsc.bound hk6
    by_cases hlt : k < s.size ∧ k < 6
    · obtain ⟨hlt, h6⟩ := hlt
      have hb := (s[k]).toNat_lt
      obtain ⟨r1, r2⟩ := dig2_range (s[k]).toNat
      rcases Int.lt_or_le (dig2 (s[k]).toNat) 0 with hq | hq
      · have HB := Lib.hid (hsc.bad hlt h6 hq)
        clear hsc
        go_wp2_with (go_at_call 53; refine (digit_any _ (by omega) (by omega) _).mono ?_; rintro e w' ⟨rfl, rfl⟩)
        go_ret2
        exact gives_two HB.out
      · have HS := Lib.hid (hsc.step hlt h6 hq)
        clear hsc
        go_wp2_with (go_at_call 53; refine (digit_any _ (by omega) (by omega) _).mono ?_; rintro e w' ⟨rfl, rfl⟩)
        go_round
        case rel => exact ⟨k + 1, _, by omega, by omega, by go_num, by rw [ior16 (by omega) (by omega) (by omega) (by omega)], HS.out⟩
        case measure => simp [intOf]; omega
    · have HD := Lib.hid (hsc.done (by omega) hk6)
      clear hsc
      rcases Nat.lt_or_ge k s.size with h1 | h1
      all_goals
        go_wp2
        go_ret2
        exact gives_two HD.out
/-- What readEscape returns. -/
def escV (o : Int × Nat × Int) : Value := .tuple #[.int .i64 o.1, .int .i64 (o.2.1 : Int), .int .i64 o.2.2]
theorem gives_esc {a : Int × Nat × Int} {x z : Int} {y : Int} {w : World} (h : a = (x, y.toNat, z)) (hy : 0 ≤ y) : Gives (escV a) w (.returned (.tuple #[.int .i64 x, .int .i64 y, .int .i64 z])) w := by
  rw [h]
  refine ⟨?_, rfl⟩
  simp only [escV]
  rw [show ((y.toNat : Nat) : Int) = y by omega]
theorem getD_at {s : ByteArray} {i : Nat} (h : i < s.size) : s.data.toList.getD i 0 = s[i] := (byte_at s i h).symm
theorem u8_is {b : UInt8} {n : Nat} (h : (b.toNat : Int) = n) (hn : n < 256) : b = UInt8.ofNat n := by
  apply UInt8.toNat.inj
  rw [UInt8.toNat_ofNat']
  omega
theorem escR_two {s : ByteArray} (h : 2 ≤ s.size) (hb : ((s[1]).toNat : Int) = 34 ∨ ((s[1]).toNat : Int) = 92) : escR s.data.toList = (((s[1]).toNat : Int), 2, 0) := by
  unfold escR
  rw [if_pos ⟨by rw [length_of]; exact h, by rw [getD_at (by omega)]; rcases hb with hb | hb; exact .inl (u8_is hb (by decide)); exact .inr (u8_is hb (by decide))⟩, getD_at (by omega)]
theorem not_two {s : ByteArray} (h : s.size < 2 ∨ ∃ h : 1 < s.size, ((s[1]).toNat : Int) ≠ 34 ∧ ((s[1]).toNat : Int) ≠ 92) : ¬ (2 ≤ s.data.toList.length ∧ (s.data.toList.getD 1 0 = 34 ∨ s.data.toList.getD 1 0 = 92)) := by
  rintro ⟨h1, h2⟩
  rw [length_of] at h1
  rcases h with h | ⟨h, h3, h4⟩
  · omega
  · rw [getD_at h] at h2
    rcases h2 with h2 | h2
    · exact h3 (by rw [h2]; rfl)
    · exact h4 (by rw [h2]; rfl)
theorem escR_short {s : ByteArray} (h : ¬ (2 ≤ s.data.toList.length ∧ (s.data.toList.getD 1 0 = 34 ∨ s.data.toList.getD 1 0 = 92))) (h3 : s.size < 3) : escR s.data.toList = (0, 0, if s.data.toList.isPrefixOf [92, 117, 123] then 1 else 2) := by
  unfold escR
  rw [if_neg h, if_pos (by rw [length_of]; exact h3)]
theorem escR_other {s : ByteArray} (h : ¬ (2 ≤ s.data.toList.length ∧ (s.data.toList.getD 1 0 = 34 ∨ s.data.toList.getD 1 0 = 92))) (h3 : 3 ≤ s.size) (hp : [92, 117, 123].isPrefixOf s.data.toList = false) : escR s.data.toList = (0, 0, 2) := by
  unfold escR
  rw [if_neg h, if_neg (by rw [length_of]; omega), if_pos hp]
theorem escR_code {s : ByteArray} (h : ¬ (2 ≤ s.data.toList.length ∧ (s.data.toList.getD 1 0 = 34 ∨ s.data.toList.getD 1 0 = 92))) (h3 : 3 ≤ s.size) (hp : [92, 117, 123].isPrefixOf s.data.toList = true) {c : Int} {d : Nat} (hr : rdig 6 (s.data.toList.drop 3) 0 0 = (c, d)) : escR s.data.toList = escE s.data.toList c d := by
  unfold escR
  rw [if_neg h, if_neg (by rw [length_of]; omega), if_neg (by rw [hp]; decide), hr]
end Go.Proofs.YtkfchcmbpgcncaaDoor.Es
