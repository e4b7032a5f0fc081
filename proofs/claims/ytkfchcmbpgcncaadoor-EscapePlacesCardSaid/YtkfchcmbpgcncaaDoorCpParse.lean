/-
  The contracts of codepoint.Parse, and of the reference's Hex and Parse, for every string and every int.
-/
import Derived.Test.YtkfchcmbpgcncaaDoorCpDigit
import Derived.Test.YtkfchcmbpgcncaaDoorCpWriteHex
namespace Go.Proofs.YtkfchcmbpgcncaaDoor
open Go.RowKit
set_option linter.unusedVariables false

theorem byte_at (s : ByteArray) (i : Nat) (hi : i < s.size) : s[i] = s.data.toList.getD i 0 := by
  have h' : i < s.data.toList.length := by simpa using hi
  rw [List.getD, List.getElem?_eq_getElem h']
  simp
  rfl
theorem length_of (s : ByteArray) : s.data.toList.length = s.size := by simp
/-- The first k bytes have been read, and give c. -/
def AtScan (s : ByteArray) (k : Nat) (c : Int) : Prop := 0 ≤ c ∧ c < 16 ^ k ∧ scan s.data.toList 0 = scan (s.data.toList.drop k) c
theorem AtScan.zero (s : ByteArray) : AtScan s 0 0 := ⟨by omega, by simp, rfl⟩
theorem AtScan.drop_ {s : ByteArray} {k : Nat} (hk : k < s.size) : s.data.toList.drop k = s[k] :: s.data.toList.drop (k + 1) := by
  rw [List.drop_eq_getElem_cons (by rw [length_of]; exact hk)]
  rfl
theorem AtScan.bad {s : ByteArray} {k : Nat} {c : Int} (h : AtScan s k c) (hk : k < s.size) (hd : dig (s[k]).toNat < 0) : scan s.data.toList 0 = none := by
  rw [h.2.2, drop_ hk, scan, if_pos hd]
theorem AtScan.step {s : ByteArray} {k : Nat} {c : Int} (h : AtScan s k c) (hk : k < s.size) (hd : 0 ≤ dig (s[k]).toNat) : AtScan s (k + 1) (c * 16 + dig (s[k]).toNat) := by
  obtain ⟨h0, h1, h2⟩ := h
  have hr := dig_range (s[k]).toNat
  refine ⟨by omega, ?_, ?_⟩
  · rw [Int.pow_succ]
    omega
  · rw [h2, drop_ hk, scan, if_neg (by omega)]
theorem AtScan.done {s : ByteArray} {k : Nat} {c : Int} (h : AtScan s k c) (hk : ¬ k < s.size) : scan s.data.toList 0 = some c := by
  rw [h.2.2, List.drop_eq_nil_of_le (by rw [length_of]; omega), scan]
theorem AtScan.bound {s : ByteArray} {k : Nat} {c : Int} (h : AtScan s k c) (hk : k ≤ 6) : 0 ≤ c ∧ c < 16777216 := by
  refine ⟨h.1, ?_⟩
  have h1 := h.2.1
  have h456 : k = 0 ∨ k = 1 ∨ k = 2 ∨ k = 3 ∨ k = 4 ∨ k = 5 ∨ k = 6 := by omega
  rcases h456 with e | e | e | e | e | e | e <;> subst e <;> omega

theorem parse_less {s : ByteArray} (h : s.size < 4) : parseR s.data.toList = (0, 3) := by unfold parseR; rw [if_pos (by rw [length_of]; omega)]
theorem parse_more {s : ByteArray} (h : 6 < s.size) : parseR s.data.toList = (0, 3) := by unfold parseR; rw [if_pos (by rw [length_of]; omega)]
theorem head_of {s : ByteArray} (h : 0 < s.size) : s.data.toList.head? = some s[0] := by
  have h' : 0 < s.data.toList.length := by rw [length_of]; exact h
  rw [List.head?_eq_getElem?, List.getElem?_eq_getElem h']
  rfl
theorem u8_eq {a b : UInt8} (h : a.toNat = b.toNat) : a = b := UInt8.toNat.inj h
theorem parse_zero {s : ByteArray} (h : 4 < s.size) (h0 : ((s[0]).toNat : Int) = 48) : parseR s.data.toList = (0, 3) := by
  unfold parseR
  split
  · rfl
  · have e : s[0] = 48 := u8_eq (by have e48 : (48 : UInt8).toNat = 48 := rfl
                                    omega)
    rw [if_pos ⟨by rw [length_of]; exact h, by rw [head_of (by omega), e]⟩]
/-- No leading zero beyond four digits. -/
def NoZero (s : ByteArray) : Prop := ¬ (4 < s.data.toList.length ∧ s.data.toList.head? = some 48)
theorem NoZero.four {s : ByteArray} (h : ¬ 4 < s.size) : NoZero s := fun e => h (by rw [← length_of]; exact e.1)
theorem NoZero.head {s : ByteArray} (h : 0 < s.size) (h0 : ¬ ((s[0]).toNat : Int) = 48) : NoZero s := fun e => by
  have e2 := e.2
  rw [head_of h, Option.some.injEq] at e2
  rw [e2] at h0
  exact h0 rfl
theorem parse_none {s : ByteArray} (h4 : 4 ≤ s.size) (h6 : s.size ≤ 6) (hz : NoZero s) (h : scan s.data.toList 0 = none) : parseR s.data.toList = (0, 3) := by
  unfold parseR
  rw [if_neg (by rw [length_of]; omega), if_neg hz, h]
  rfl
theorem parse_some {s : ByteArray} {c : Int} (h4 : 4 ≤ s.size) (h6 : s.size ≤ 6) (hz : NoZero s) (h : scan s.data.toList 0 = some c) : parseR s.data.toList = if isValid c = true then (c, 0) else (0, 3) := by
  unfold parseR
  rw [if_neg (by rw [length_of]; omega), if_neg hz, h]
  rfl

/-- A pair of an int and an error number. -/
def pairV (p : Int × Int) : Value := .tuple #[.int .i64 p.1, .int .i64 p.2]
theorem gives_pair {a : Int × Int} {x y : Int} {w : World} (h : a = (x, y)) : Gives (pairV a) w (.returned (.tuple #[.int .i64 x, .int .i64 y])) w := by rw [h]; exact ⟨rfl, rfl⟩

set_option maxHeartbeats 400000 in
theorem parse_any (s : ByteArray) (hs : s.size ≤ maxLen) (w : World) (ht : Tab w) : Calls Tryd.prog 30 #[.string s] w (Gives (pairV (parseR s.data.toList)) w) := by
  unfold maxLen at hs
  rcases Nat.lt_or_ge s.size 4 with h4 | h4
  · have H := Lib.hid (parse_less h4)
    go_enter Tryd.func30, Tryd.ntmps30
    go_wp2
    go_ret2
    exact gives_pair H.out
  rcases Nat.lt_or_ge 6 s.size with h6 | h6
  · have H := Lib.hid (parse_more h6)
    go_enter Tryd.func30, Tryd.ntmps30
    go_wp2
    go_ret2
    exact gives_pair H.out
  have hpos : 0 < s.size := by omega
  have d4 : decide ((s.size : Int) < 4) = false := by simp; omega
  have d6 : decide (6 < (s.size : Int)) = false := by simp; omega
  have core : NoZero s → (4 < s.size → (((s[0]).toNat : Int) == 48) = false) → Calls Tryd.prog 30 #[.string s] w (Gives (pairV (parseR s.data.toList)) w) := by
    intro hz hb
    have HZ := Lib.hid hz
    clear hz
    rcases Nat.lt_or_ge 4 s.size with h5 | h5
    all_goals
      first | have hb' := hb h5 | skip
      clear hb
      go_enter Tryd.func30, Tryd.ntmps30
      go_wp2
      go_loop [4, 25] (fun c i => ∃ (k : Nat) (z : Int), k ≤ s.size ∧ i = .int .i64 k ∧ c = .int .i64 z ∧ AtScan s k z) (fun _ i => s.size - (intOf i).toNat)
      case atStart => exact ⟨0, 0, by omega, rfl, rfl, AtScan.zero s⟩
      case round =>
        obtain ⟨k, z, hk, rfl, rfl, hsc⟩ := hrel
        obtain ⟨hz0, hz1⟩ := hsc.bound (by omega)
        by_cases hlt : k < s.size
        · obtain ⟨r1, r2⟩ := dig_range (s[k]).toNat
          rcases Int.lt_or_le (dig (s[k]).toNat) 0 with hq | hq
          · have HB := Lib.hid (parse_none h4 h6 HZ.out (hsc.bad hlt hq))
            clear hsc
            go_wp2_with (go_at_call 42; refine (digit_value_any _ (by omega) _ ht).mono ?_; rintro e w' ⟨rfl, rfl⟩)
            go_ret2
            exact gives_pair HB.out
          · have HS := Lib.hid (hsc.step hlt hq)
            clear hsc
            go_wp2_with (go_at_call 42; refine (digit_value_any _ (by omega) _ ht).mono ?_; rintro e w' ⟨rfl, rfl⟩)
            go_round
            case rel => exact ⟨k + 1, _, by omega, by go_num, rfl, HS.out⟩
            case measure => simp [intOf]; omega
        · have HS := Lib.hid (parse_some h4 h6 HZ.out (hsc.done hlt))
          clear hsc
          rcases hv : isValid z with _ | _
          all_goals
            go_wp2_with (go_at_call 37; refine (valid_any _ _).mono ?_; rintro e w' ⟨rfl, rfl⟩)
            go_ret2
            exact gives_pair (by rw [HS.out, hv]; rfl)
  by_cases h5 : 4 < s.size
  · by_cases hz : ((s[0]).toNat : Int) = 48
    · have H := Lib.hid (parse_zero h5 hz)
      have hb : (((s[0]).toNat : Int) == 48) = true := by simp [hz]
      clear hz core
      go_enter Tryd.func30, Tryd.ntmps30
      go_wp2
      go_ret2
      exact gives_pair H.out
    · exact core (NoZero.head hpos hz) (fun _ => by simp [hz])
  · exact core (NoZero.four h5) (fun h => absurd h h5)
theorem parseF_none {s : ByteArray} (h4 : 4 ≤ s.size) (h6 : s.size ≤ 6) (h : scan s.data.toList 0 = none) : parseR s.data.toList = (0, 3) := by
  rw [parse_same]
  unfold parseF
  rw [if_neg (by rw [length_of]; omega), h]
  rfl
theorem parseF_some {s : ByteArray} {c : Int} (h4 : 4 ≤ s.size) (h6 : s.size ≤ 6) (h : scan s.data.toList 0 = some c) : parseR s.data.toList = if hexL c = s.data.toList then (c, 0) else (0, 3) := by
  rw [parse_same]
  unfold parseF
  rw [if_neg (by rw [length_of]; omega), h]
  rfl
theorem AtScan.step' {s : ByteArray} {k : Nat} {c : Int} (h : AtScan s k c) (hk : k < s.size) (hd : 0 ≤ dig (s[k]).toNat) : AtScan s (k + 1) (16 * c + dig (s[k]).toNat) := by
  have := h.step hk hd
  rw [Int.mul_comm] at this
  exact this

set_option maxHeartbeats 400000 in
theorem ref_parse_any (s : ByteArray) (hs : s.size ≤ maxLen) (w : World) : Calls Tryd.prog 32 #[.string s] w (Gives (pairV (parseR s.data.toList)) w) := by
  unfold maxLen at hs
  rcases Nat.lt_or_ge s.size 4 with h4 | h4
  · have H := Lib.hid (parse_less h4)
    go_enter Tryd.func32, Tryd.ntmps32
    go_wp2
    go_ret2
    exact gives_pair H.out
  rcases Nat.lt_or_ge 6 s.size with h6 | h6
  · have H := Lib.hid (parse_more h6)
    go_enter Tryd.func32, Tryd.ntmps32
    go_wp2
    go_ret2
    exact gives_pair H.out
  have d4 : decide ((s.size : Int) < 4) = false := by simp; omega
  have d6 : decide (6 < (s.size : Int)) = false := by simp; omega
  go_enter Tryd.func32, Tryd.ntmps32
  go_wp2
  go_loop [4, 5] (fun c i => ∃ (k : Nat) (z : Int), k ≤ s.size ∧ i = .int .i64 k ∧ c = .int .i64 z ∧ AtScan s k z) (fun _ i => s.size - (intOf i).toNat)
  case atStart => exact ⟨0, 0, by omega, rfl, rfl, AtScan.zero s⟩
  case round =>
    obtain ⟨k, z, hk, rfl, rfl, hsc⟩ := hrel
    obtain ⟨hz0, hz1⟩ := hsc.bound (by omega)
    by_cases hlt : k < s.size
    · obtain ⟨r1, r2⟩ := dig_range (s[k]).toNat
      rcases Int.lt_or_le (dig (s[k]).toNat) 0 with hq | hq
      · have HB := Lib.hid (parseF_none h4 h6 (hsc.bad hlt hq))
        clear hsc
        go_wp2_with (go_at_call 43; refine (ref_digit_any _ (by omega) _).mono ?_; rintro e w' ⟨rfl, rfl⟩)
        go_ret2
        exact gives_pair HB.out
      · have HS := Lib.hid (hsc.step' hlt hq)
        clear hsc
        go_wp2_with (go_at_call 43; refine (ref_digit_any _ (by omega) _).mono ?_; rintro e w' ⟨rfl, rfl⟩)
        go_round
        case rel => exact ⟨k + 1, _, by omega, by go_num, rfl, HS.out⟩
        case measure => simp [intOf]; omega
    · have HS := Lib.hid (parseF_some h4 h6 (hsc.done hlt))
      clear hsc
      obtain ⟨r, hr⟩ : ∃ r, r = bytesOf (hexL z) := ⟨_, rfl⟩
      have HR := Lib.hid hr
      clear hr
      rcases hv : (r.toList == s.toList) with _ | _
      · have HV : Hid (¬ hexL z = s.data.toList) := Lib.hid (fun e => by
          rw [ByteArray.toList_eq, ByteArray.toList_eq, HR.out, bytesOf_list, e, beq_self_eq_true] at hv
          cases hv)
        go_wp2_with (go_at_call 21; refine (ref_hex_as HR.out _).mono ?_; rintro e w' ⟨rfl, rfl⟩)
        go_ret2
        exact gives_pair (by rw [HS.out, if_neg HV.out])
      · have HV : Hid (hexL z = s.data.toList) := Lib.hid (by
          rw [ByteArray.toList_eq, ByteArray.toList_eq, HR.out, bytesOf_list] at hv
          exact eq_of_beq hv)
        go_wp2_with (go_at_call 21; refine (ref_hex_as HR.out _).mono ?_; rintro e w' ⟨rfl, rfl⟩)
        go_ret2
        exact gives_pair (by rw [HS.out, if_pos HV.out])
end Go.Proofs.YtkfchcmbpgcncaaDoor
