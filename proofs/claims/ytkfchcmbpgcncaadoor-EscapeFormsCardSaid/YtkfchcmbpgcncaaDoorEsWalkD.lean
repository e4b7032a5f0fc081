/-
  The walk of EscapeAscii.
-/
import Derived.Test.YtkfchcmbpgcncaaDoorEsWalkB
namespace Go.Proofs.YtkfchcmbpgcncaaDoor.Es
open Go.RowKit
set_option linter.unusedVariables false

theorem bytesOf_at {l : List UInt8} {i : Nat} (h : i < (bytesOf l).size) : (bytesOf l)[i] = l.getD i 0 := by
  have := byte_at (bytesOf l) i h
  rw [this, bytesOf_list]
/-- The first k bytes are printable. -/
def AscUpto (q : ByteArray) : Prop := ∀ (i : Nat) (h : i < q.size), 32 ≤ ((q[i]).toNat : Int) ∧ ((q[i]).toNat : Int) ≤ 126
theorem asc_text {zs : List Int} (h : allV zs = true) : AscUpto (bytesOf (textL zs)) := fun i hi => by
  rw [bytesOf_at hi]
  have hl : i < (textL zs).length := by rw [← bytesOf_size]; exact hi
  have := (textL_asc (allV_codes h)).1 ((textL zs).getD i 0) (by rw [List.getD, List.getElem?_eq_getElem hl]; exact List.getElem_mem hl)
  exact ⟨by have := this.1; omega, by have := this.2; omega⟩
set_option maxRecDepth 100000 in
set_option maxHeartbeats 4000000 in
theorem ascii_walk (A : Option Addr) (n c : Nat) (zs : List Int) (w : World) (he : Env w) (hl : Sl w A n c 1 (ints zs)) : Calls Tryd.prog 8 #[.slice A n c] w (Makes (.bool true) w) := by
  have hcap := hl.cap
  have hmax := hl.max
  have hcount := hl.count
  rcases Nat.lt_or_ge 40 n with h | h
  · go_enter Tryd.func8, Tryd.ntmps8
    go_wp2_with (go_at_call 12; refine (alive_any _ he).mono ?_; rintro e w1 ⟨rfl, b1⟩)
    go_ret
    exact ⟨rfl, b1⟩
  · rcases hv : allV zs with _ | _
    · have H1 := Lib.hid (textR_bad hv)
      clear hv hcount
      go_enter Tryd.func8, Tryd.ntmps8
      go_wp2_with fail
      refine (text_x H1.out _ he.tab hl (by omega)).mono ?_
      rintro e w1 ⟨rfl, b1⟩
      go_wp2_with (go_at_call 12; refine (alive_any _ (he.next b1)).mono ?_; rintro e w3 ⟨rfl, b3⟩)
      go_ret
      exact ⟨rfl, Below.then b1 b3⟩
    · have H1 := Lib.hid (textR_all hv)
      obtain ⟨-, z1, z2⟩ := textL_asc (allV_codes hv)
      obtain ⟨z3, z4⟩ := textL_last zs
      have hasc := asc_text hv
      obtain ⟨q, hq⟩ : ∃ q, bytesOf (textL zs) = q := ⟨_, rfl⟩
      rw [hq] at H1 hasc
      have hqs : (textL zs).length = q.size := by rw [← hq, bytesOf_size]
      rw [hqs] at z1 z2 z3
      have y0 : ((q[0]'(by omega)).toNat : Int) = 34 := by
        have := bytesOf_at (l := textL zs) (i := 0) (by rw [hq]; omega)
        simp only [hq] at this
        rw [this, z4]
        rfl
      have y1 : ((q[q.size - 1]'(by omega)).toNat : Int) = 34 := by
        have := bytesOf_at (l := textL zs) (i := q.size - 1) (by rw [hq]; omega)
        simp only [hq] at this
        rw [this, z3]
        rfl
      have HA := Lib.hid hasc
      have g1 : (((q[0]'(by omega)).toNat : Int) != 34) = false := by simp [y0]
      have g2 : (((q[q.size - 1]'(by omega)).toNat : Int) != 34) = false := by simp [y1]
      rw [← hcount] at z1
      clear hv hcount hasc z4
      go_enter Tryd.func8, Tryd.ntmps8
      go_wp2_with fail
      refine (text_x H1.out _ he.tab hl (by omega)).mono ?_
      rintro e w1 ⟨rfl, b1⟩
      go_wp2_with fail
      go_loop [5] (fun i => ∃ k : Nat, k ≤ q.size ∧ i = .int .i64 k) (fun i => q.size - (intOf i).toNat)
      case atStart => exact ⟨0, Nat.zero_le _, rfl⟩
      case round =>
        obtain ⟨k, hk, rfl⟩ := hrel
        by_cases hlt : k < q.size
        · have h32 := (HA.out k hlt).1
          have h126 := (HA.out k hlt).2
          go_wp2_with fail
          go_round
          case rel => exact ⟨k + 1, by omega, by go_num⟩
          case measure => simp [intOf]; omega
        · go_wp2_with (go_at_call 12; refine (alive_any _ (he.next b1)).mono ?_; rintro e w3 ⟨rfl, b3⟩)
          go_ret
          exact ⟨rfl, Below.then b1 b3⟩
end Go.Proofs.YtkfchcmbpgcncaaDoor.Es
