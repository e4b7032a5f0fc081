/-
  The contracts of the reference's Compare and Equal, for every two slices of ints.
-/
import Derived.Test.YtkfchcmbpgcncaaDoorMem
import Derived.Test.YtkfchcmbpgcncaaDoorOrder
import Derived.Deep.QuietTactic
import Derived.BigQuiet
namespace Go.Proofs.YtkfchcmbpgcncaaDoor
open Go.RowKit
set_option linter.unusedVariables false

/-- A step of the comparison, kept out of the walk's sight. -/
def Left (xs ys : List Int) (k : Nat) : Prop := cmpL xs ys = cmpL (xs.drop k) (ys.drop k)
theorem Left.zero (xs ys : List Int) : Left xs ys 0 := rfl
theorem Left.step {xs ys : List Int} {k : Nat} (h : Left xs ys k) (hx : k < xs.length) (hy : k < ys.length) (e : xs.getD k 0 = ys.getD k 0) : Left xs ys (k + 1) :=
  Eq.trans h (cmp_step hx hy e)
theorem Left.differ {xs ys : List Int} {k : Nat} (h : Left xs ys k) (hx : k < xs.length) (hy : k < ys.length) (e : xs.getD k 0 ≠ ys.getD k 0) : cmpL xs ys = ord2 (xs.getD k 0) (ys.getD k 0) :=
  Eq.trans h (cmp_differ hx hy e)
theorem Left.stop {xs ys : List Int} {k : Nat} (h : Left xs ys k) (hx : k ≤ xs.length) (hy : k ≤ ys.length) (e : k = xs.length ∨ k = ys.length) : cmpL xs ys = ord2 xs.length ys.length :=
  Eq.trans h (cmp_end hx hy e)
set_option maxHeartbeats 400000 in
theorem ref_compare_any (A B : Option Addr) (n1 n2 c d : Nat) (xs ys : List Int) (w : World) (ha : Sl w A n1 c 1 (ints xs)) (hb : Sl w B n2 d 1 (ints ys)) :
    Calls Tryd.prog 33 #[.slice A n1 c, .slice B n2 d] w (Tells (.int .i64 (cmpL xs ys)) w) := by
  have hx : n1 ≤ 9223372036854775807 := Nat.le_trans ha.cap ha.max
  have hy : n2 ≤ 9223372036854775807 := Nat.le_trans hb.cap hb.max
  have H1 := Lib.hid ha.count
  have H2 := Lib.hid hb.count
  go_enter Tryd.func33, Tryd.ntmps33
  go_wp2
  go_loopw [5] (fun i wr => ∃ k : Nat, k ≤ n1 ∧ k ≤ n2 ∧ i = .int .i64 k ∧ Drawn w wr ∧ Left xs ys k) (fun i _ => n1 - (intOf i).toNat)
  case atStart => exact ⟨0, Nat.zero_le _, Nat.zero_le _, rfl, Drawn.refl w, Left.zero xs ys⟩
  case round =>
    obtain ⟨k, hk1, hk2, rfl, hd, hl⟩ := hrel
    by_cases hlt : k < n1 ∧ k < n2
    · obtain ⟨hlt1, hlt2⟩ := hlt
      have ha' := ha.drawn hd
      have hb' := hb.drawn hd
      obtain ⟨b1, o1, rfl, _, hc1⟩ := ha'.int_at hlt1
      obtain ⟨b2, o2, rfl, _, hc2⟩ := hb'.int_at hlt2
      clear ha' hb'
      have HS := Lib.hid (hl.step (by rw [← H1.out]; exact hlt1) (by rw [← H2.out]; exact hlt2))
      have HD := Lib.hid (hl.differ (by rw [← H1.out]; exact hlt1) (by rw [← H2.out]; exact hlt2))
      obtain ⟨x, hxk⟩ : ∃ x, x = xs.getD k 0 := ⟨_, rfl⟩
      obtain ⟨y, hyk⟩ : ∃ y, y = ys.getD k 0 := ⟨_, rfl⟩
      rw [← hxk] at hc1
      rw [← hyk] at hc2
      have HX := Lib.hid hxk
      have HY := Lib.hid hyk
      clear hxk hyk hl
      rcases Int.lt_trichotomy x y with he | he | he
      · have HE := Lib.hid (ord2_less he)
        have HN : Hid (¬ x = y) := Lib.hid (by omega)
        go_wp2
        go_quiet (fail)
        go_wp2
        go_ret
        exact ⟨ret_int' (by rw [HD.out (by rw [← HX.out, ← HY.out]; exact HN.out), ← HX.out, ← HY.out]; exact HE.out), hd.more _⟩
      · have h1 : x ≤ y := by omega
        have h2 : y ≤ x := by omega
        have HE := Lib.hid he
        clear he
        go_wp2
        go_quiet (fail)
        go_wp2
        go_quiet (fail)
        go_wp2
        go_roundw
        case rel => exact ⟨k + 1, by omega, by omega, by go_num, by first | exact hd.more _ | exact (hd.more _).more _, HS.out (by rw [← HX.out, ← HY.out]; exact HE.out)⟩
        case measure => simp [intOf]; omega
      · have HE := Lib.hid (ord2_more he)
        have HN : Hid (¬ x = y) := Lib.hid (by omega)
        go_wp2
        go_quiet (fail)
        go_wp2
        go_quiet (fail)
        go_wp2
        go_ret
        exact ⟨ret_int' (by rw [HD.out (by rw [← HX.out, ← HY.out]; exact HN.out), ← HX.out, ← HY.out]; exact HE.out), by first | exact hd.more _ | exact (hd.more _).more _⟩
    · have HF := Lib.hid (hl.stop (by rw [← H1.out]; exact hk1) (by rw [← H2.out]; exact hk2) (by rw [← H1.out, ← H2.out]; omega))
      clear hl
      have h3 : k < n1 ∨ n1 ≤ k := by omega
      rcases Nat.lt_trichotomy n1 n2 with he | he | he
      all_goals
        rcases h3 with h3 | h3
        all_goals (try (exfalso; omega))
        all_goals
          go_wp2
          go_ret
          exact ⟨ret_int' (by rw [HF.out, ← H1.out, ← H2.out]; unfold ord2; split <;> (try split) <;> omega), hd⟩

theorem ref_equal_any (A B : Option Addr) (n1 n2 c d : Nat) (xs ys : List Int) (w : World) (ha : Sl w A n1 c 1 (ints xs)) (hb : Sl w B n2 d 1 (ints ys)) :
    Calls Tryd.prog 19 #[.slice A n1 c, .slice B n2 d] w (Tells (.bool (decide (xs = ys))) w) := by
  have hz : decide (xs = ys) = decide (cmpL xs ys = 0) := by
    rw [Bool.eq_iff_iff, decide_eq_true_iff, decide_eq_true_iff]
    exact (cmp_zero xs ys).symm
  have HZ := Lib.hid hz
  clear hz
  go_enter Tryd.func19, Tryd.ntmps19
  go_wp2_with (go_at_call 33; refine (ref_compare_any A B n1 n2 c d xs ys _ ha hb).mono ?_; rintro e w' ⟨rfl, hd⟩)
  go_ret
  exact ⟨by rw [HZ.out]; congr 2 <;> simp [beq_eq_decide], hd⟩
/-- The same, the result as a variable. -/
theorem ref_equal_x {A B : Option Addr} {n1 n2 c d : Nat} {xs ys : List Int} {w : World} {b : Bool} (h : decide (xs = ys) = b) (ha : Sl w A n1 c 1 (ints xs)) (hb : Sl w B n2 d 1 (ints ys)) :
    Calls Tryd.prog 19 #[.slice A n1 c, .slice B n2 d] w fun e w' => e = .returned (.bool b) ∧ Drawn w w' := by
  rw [← h]
  exact ref_equal_any A B n1 n2 c d xs ys w ha hb
end Go.Proofs.YtkfchcmbpgcncaaDoor
