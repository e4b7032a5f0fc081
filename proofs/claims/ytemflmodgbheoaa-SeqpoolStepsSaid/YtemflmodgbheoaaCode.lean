/-
  The contracts of codepoint.order, Compare and Equal, for every two slices of ints.
-/
import Derived.Test.YtemflmodgbheoaaR01Compare
import Derived.Deep.Draws
import Derived.WalkLawsBesides
import Derived.Deep.DeepFit
namespace Go.Proofs.Ytemflmodgbheoaa.Code
open Go.RowKit
set_option linter.unusedVariables false

theorem order_any (a b : Int) (w : World) : Calls Try.prog 35 #[.int .i64 a, .int .i64 b] w (Gives (.int .i64 (ord2 a b)) w) := by
  rcases Int.lt_or_le a b with h | h
  · have H := Lib.hid (ord2_less h)
    go_enter Try.func35, Try.ntmps35
    go_wp2
    go_ret
    exact gives_int H.out
  · rcases Int.lt_or_le b a with h2 | h2
    · have H := Lib.hid (ord2_more h2)
      go_enter Try.func35, Try.ntmps35
      go_wp2
      go_ret
      exact gives_int H.out
    · have e : a = b := by omega
      subst e
      have H := Lib.hid (ord2_same a)
      go_enter Try.func35, Try.ntmps35
      go_wp2
      go_ret
      exact gives_int H.out

set_option maxHeartbeats 400000 in
theorem compare_any (A B : Option Addr) (n1 n2 c d : Nat) (xs ys : List Int) (w : World) (ha : Sl w A n1 c 1 (ints xs)) (hb : Sl w B n2 d 1 (ints ys)) :
    Calls Try.prog 32 #[.slice A n1 c, .slice B n2 d] w (Tells (.int .i64 (cmpL xs ys)) w) := by
  have hx : n1 ≤ 9223372036854775807 := Nat.le_trans ha.cap ha.max
  have hy : n2 ≤ 9223372036854775807 := Nat.le_trans hb.cap hb.max
  have H1 := Lib.hid ha.count
  have H2 := Lib.hid hb.count
  rcases Nat.lt_or_ge n2 n1 with hle | hle
  all_goals
    go_enter Try.func32, Try.ntmps32
    go_wp2
    go_loopw [11] (fun i wr => ∃ k : Nat, k ≤ n1 ∧ k ≤ n2 ∧ i = .int .i64 k ∧ Drawn w wr ∧ Left xs ys k) (fun i _ => n1 - (intOf i).toNat)
    case atStart => exact ⟨0, Nat.zero_le _, Nat.zero_le _, rfl, Drawn.refl w, Left.zero xs ys⟩
    case round =>
      obtain ⟨k, hk1, hk2, rfl, hd, hl⟩ := hrel
      by_cases hlt : k < n1 ∧ k < n2
      · obtain ⟨hlt1, hlt2⟩ := hlt
        have ha' := ha.drawn hd
        have hb' := hb.drawn hd
        obtain ⟨b1, o1, rfl, _, hc1⟩ := ha'.int_at hlt1
        obtain ⟨b2, o2, rfl, _, hc2⟩ := hb'.int_at hlt2
        clear ha' hb'
        have HS := Lib.hid (hl.step (by rw [← H1.out]; exact hlt1) (by rw [← H2.out]; exact hlt2))
        have HD := Lib.hid (hl.differ (by rw [← H1.out]; exact hlt1) (by rw [← H2.out]; exact hlt2))
        obtain ⟨x, hxk⟩ : ∃ x, x = xs.getD k 0 := ⟨_, rfl⟩
        obtain ⟨y, hyk⟩ : ∃ y, y = ys.getD k 0 := ⟨_, rfl⟩
        rw [← hxk] at hc1
        rw [← hyk] at hc2
        have HX := Lib.hid hxk
        have HY := Lib.hid hyk
        clear hxk hyk hl
        by_cases he : x = y
        · have hz : (x != y) = false := by simp [he]
          have HE := Lib.hid he
          clear he
          go_wp2
          go_quiet (fail)
          go_wp2
          go_roundw
          case rel => exact ⟨k + 1, by omega, by omega, by go_num, hd.more _, HS.out (by rw [← HX.out, ← HY.out]; exact HE.out)⟩
          case measure => simp [intOf]; omega
        · have hz : (x != y) = true := by simp [he]
          have HE := Lib.hid he
          clear he
          go_wp2
          go_quiet (fail)
          go_wp2
          go_quiet ((go_at_call 35; exact (order_any _ _ _).mono fun _ _ ⟨he, hw⟩ => ⟨he, _, hw.symm⟩))
          go_wp2
          go_ret
          exact ⟨ret_int' (by rw [HD.out (by rw [← HX.out, ← HY.out]; exact HE.out), ← HX.out, ← HY.out]), (hd.more _).more _⟩
      · have HF := Lib.hid (hl.stop (by rw [← H1.out]; exact hk1) (by rw [← H2.out]; exact hk2) (by rw [← H1.out, ← H2.out]; omega))
        clear hl
        go_wp2_with (go_at_call 35; refine (order_any _ _ _).mono ?_; rintro e w' ⟨rfl, rfl⟩)
        go_ret
        exact ⟨ret_int' (by rw [HF.out, ← H1.out, ← H2.out]), hd⟩

theorem equal_any (A B : Option Addr) (n1 n2 c d : Nat) (xs ys : List Int) (w : World) (ha : Sl w A n1 c 1 (ints xs)) (hb : Sl w B n2 d 1 (ints ys)) :
    Calls Try.prog 30 #[.slice A n1 c, .slice B n2 d] w (Tells (.bool (decide (xs = ys))) w) := by
  have hz : decide (xs = ys) = decide (cmpL xs ys = 0) := by
    rw [Bool.eq_iff_iff, decide_eq_true_iff, decide_eq_true_iff]
    exact (cmp_zero xs ys).symm
  have HZ := Lib.hid hz
  clear hz
  go_enter Try.func30, Try.ntmps30
  go_wp2_with (go_at_call 32; refine (compare_any A B n1 n2 c d xs ys _ ha hb).mono ?_; rintro e w' ⟨rfl, hd⟩)
  go_ret
  exact ⟨by rw [HZ.out]; congr 2 <;> simp [beq_eq_decide], hd⟩
/-- The same, the result as a variable. -/
theorem equal_x {A B : Option Addr} {n1 n2 c d : Nat} {xs ys : List Int} {w : World} {b : Bool} (h : decide (xs = ys) = b) (ha : Sl w A n1 c 1 (ints xs)) (hb : Sl w B n2 d 1 (ints ys)) :
    Calls Try.prog 30 #[.slice A n1 c, .slice B n2 d] w fun e w' => e = .returned (.bool b) ∧ Drawn w w' := by
  rw [← h]
  exact equal_any A B n1 n2 c d xs ys w ha hb
end Go.Proofs.Ytemflmodgbheoaa.Code
