/-
  The walks of CodepointDigits and CodepointParses.
-/
import Derived.Test.YtdpcjgjegeiemaaDoorCpAwake
namespace Go.Proofs.YtdpcjgjegeiemaaDoor
open Go.RowKit
set_option linter.unusedVariables false

theorem hexL_size (c : Int) : (bytesOf (hexL c)).size ≤ 6 := by
  rw [bytesOf_size]
  rcases hv : isCode c with _ | _
  · rw [hexL, hv]; simp
  · rw [hexL_length hv]
    exact (nd_range _).2

set_option maxHeartbeats 1000000 in
theorem digits_walk (c : Int) (hw : (Lit.int .i64 c).wf = true) (w : World) (ht : Tab w) : Calls Tryd.prog 4 #[.int .i64 c] w (Makes (.bool true) w) := by
  rcases hv : isValid c with _ | _
  · have HN := Lib.hid (hexL_not hv)
    go_enter Tryd.func4, Tryd.ntmps4
    go_wp2_with fail
    refine (hex_as (r := ⟨#[]⟩) (by rw [HN.out]; rfl) _ ht).mono ?_
    rintro e w1 ⟨rfl, hb1⟩
    have ht1 : Tab w1 := ht.below ht.lt hb1
    go_wp2_with fail
    refine (parse_as (x := 0) (y := 3) (by decide) (by decide) _ ht1).mono ?_
    rintro e w' ⟨rfl, rfl⟩
    go_wp2_with (go_at_call 10; refine (valid_any _ _).mono ?_; rintro e w' ⟨rfl, rfl⟩)
    refine (awake_any _ ht1).mono ?_
    rintro e w2 ⟨rfl, hb2⟩
    go_wp2_with fail
    go_ret
    exact ⟨rfl, hb1.trans (hb2.mono hb1.size)⟩
  · obtain ⟨r, hr⟩ : ∃ r, r = bytesOf (hexL c) := ⟨_, rfl⟩
    have HP : Hid (parseR r.data.toList = (c, 0)) := Lib.hid (by rw [hr, bytesOf_list]; exact parse_hex hv)
    have hsz : r.size ≤ maxLen := by have := hexL_size c; rw [← hr] at this; unfold maxLen; omega
    have HR := Lib.hid hr
    have hq : (r.toList == r.toList) = true := beq_self_eq_true _
    have hc : (c == c) = true := beq_self_eq_true _
    clear hr
    go_enter Tryd.func4, Tryd.ntmps4
    go_wp2_with fail
    refine (hex_as HR.out _ ht).mono ?_
    rintro e w1 ⟨rfl, hb1⟩
    have ht1 : Tab w1 := ht.below ht.lt hb1
    go_wp2_with fail
    refine (parse_as HP.out hsz _ ht1).mono ?_
    rintro e w' ⟨rfl, rfl⟩
    go_wp2_with (first
      | (go_at_call 10; refine (valid_any _ _).mono ?_; rintro e w' ⟨rfl, rfl⟩)
      | (go_at_call 23; refine (ref_hex_as HR.out _).mono ?_; rintro e w' ⟨rfl, rfl⟩)
      | (go_at_call 20; refine (awake_any _ ht1).mono ?_; rintro e w2 ⟨rfl, hb2⟩))
    go_ret
    exact ⟨rfl, hb1.trans (hb2.mono hb1.size)⟩

theorem ref_parse_as {s : ByteArray} {x y : Int} (h : parseR s.data.toList = (x, y)) (hs : s.size ≤ maxLen) (w : World) : Calls Tryd.prog 24 #[.string s] w (Gives (.tuple #[.int .i64 x, .int .i64 y]) w) := by
  have := ref_parse_any s hs w
  rw [h] at this
  exact this

set_option maxHeartbeats 1000000 in
theorem parses_walk (s : ByteArray) (hs : s.size ≤ maxLen) (w : World) (ht : Tab w) : Calls Tryd.prog 5 #[.string s] w (Makes (.bool true) w) := by
  rcases Nat.lt_or_ge 200 s.size with hl | hl
  · go_enter Tryd.func5, Tryd.ntmps5
    go_wp2_with (go_at_call 20; refine (awake_any _ ht).mono ?_; rintro e w2 ⟨rfl, hb2⟩)
    go_ret
    exact ⟨rfl, hb2⟩
  · obtain ⟨x, hx⟩ : ∃ x, x = (parseR s.data.toList).1 := ⟨_, rfl⟩
    obtain ⟨y, hy⟩ : ∃ y, y = (parseR s.data.toList).2 := ⟨_, rfl⟩
    have HP : Hid (parseR s.data.toList = (x, y)) := Lib.hid (by rw [hx, hy])
    have hxx : (x == x) = true := beq_self_eq_true _
    have hyy : (y == y) = true := beq_self_eq_true _
    have hq : (s.toList == s.toList) = true := beq_self_eq_true _
    by_cases h0 : y = 0
    · subst h0
      have HR : Hid (s = bytesOf (hexL x)) := Lib.hid (by
        have := parse_ok hy.symm
        rw [← hx] at this
        apply ByteArray.ext
        rw [bytesOf, this])
      clear hx hy
      go_enter Tryd.func5, Tryd.ntmps5
      go_wp2_with (first
        | (go_at_call 22; refine (parse_as HP.out hs _ ht).mono ?_; rintro e w' ⟨rfl, rfl⟩)
        | (go_at_call 24; refine (ref_parse_as HP.out hs _).mono ?_; rintro e w' ⟨rfl, rfl⟩))
      refine (hex_as HR.out _ ht).mono ?_
      rintro e w1 ⟨rfl, hb1⟩
      have ht1 : Tab w1 := ht.below ht.lt hb1
      go_wp2_with fail
      refine (awake_any _ ht1).mono ?_
      rintro e w2 ⟨rfl, hb2⟩
      go_wp2_with fail
      go_ret
      exact ⟨rfl, hb1.trans (hb2.mono hb1.size)⟩
    · have hy0 : (y == 0) = false := by simp [h0]
      have hy1 : (y != 0) = true := by simp [h0]
      clear hx hy h0
      go_enter Tryd.func5, Tryd.ntmps5
      go_wp2_with (first
        | (go_at_call 22; refine (parse_as HP.out hs _ ht).mono ?_; rintro e w' ⟨rfl, rfl⟩)
        | (go_at_call 24; refine (ref_parse_as HP.out hs _).mono ?_; rintro e w' ⟨rfl, rfl⟩)
        | (go_at_call 20; refine (awake_any _ ht).mono ?_; rintro e w2 ⟨rfl, hb2⟩))
      go_ret
      exact ⟨rfl, hb2⟩
end Go.Proofs.YtdpcjgjegeiemaaDoor
