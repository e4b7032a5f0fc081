/-
  The contract of the reference's Part, for every slice of ints.
-/
import Derived.Test.YtnaooleopifnmaaHgRef
namespace Go.Proofs.Ytnaooleopifnmaa.Hg
open Go.RowKit
set_option linter.unusedVariables false

theorem kindAt_of {zs : List Int} {k : Nat} (h : k < zs.length) : kindAt zs k = kind (zs.getD k 0) := by rw [kindAt, if_pos h]
theorem kindAt_end {zs : List Int} {k : Nat} (h : ¬ k < zs.length) : kindAt zs k = 0 := by rw [kindAt, if_neg h]
/-- The length of the part by the three kinds. -/
def part3 (a b c : Int) : Nat := if a = 1 ∧ b = 2 ∧ c = 3 then 3 else if a = 1 ∧ b = 2 then 2 else if a = 4 ∧ b = 3 then 2 else if 4 ≤ a then 1 else 0
theorem part_three (zs : List Int) : part zs = part3 (kindAt zs 0) (kindAt zs 1) (kindAt zs 2) := rfl

set_option maxHeartbeats 1000000 in
theorem part_one (A : Option Addr) (n c : Nat) (zs : List Int) (w : World) (h : Sl w A n c 1 (ints zs)) (hn : n = 1) : Calls Try.prog 43 #[.slice A n c] w (Gives (.int .i64 (part zs)) w) := by
  have hcnt := h.count
  have hmax := h.max
  have hcap := h.cap
  obtain ⟨b, off, rfl, _, _⟩ := h.int_at (k := 0) (by omega)
  have c0 : w.cell? ⟨b, off, none⟩ = some (.int .i64 (zs.getD 0 0)) := by
    obtain ⟨b', off', e, _, hc⟩ := h.int_at (k := 0) (by omega)
    cases e
    exact hc
  obtain ⟨x, hk0⟩ : ∃ x, kindAt zs 0 = x := ⟨_, rfl⟩
  have H0 : Hid (kind (zs.getD 0 0) = x) := Lib.hid (by rw [← hk0, kindAt_of (by omega)])
  have hk1 : kindAt zs 1 = 0 := kindAt_end (by omega)
  have hk2 : kindAt zs 2 = 0 := kindAt_end (by omega)
  obtain ⟨e0, he0⟩ : ∃ e, zs.getD 0 0 = e := ⟨_, rfl⟩
  rw [he0] at c0 H0
  clear he0
  have hcase : (x = 1) ∨ (x = 4) ∨ (¬ x = 1 ∧ ¬ x = 4 ∧ 4 ≤ x) ∨ (¬ x = 1 ∧ ¬ x = 4 ∧ x < 4) := by omega
  subst hn
  clear hcnt h
  rcases hcase with g0 | g0 | ⟨g0, g1, g2⟩ | ⟨g0, g1, g2⟩
  · have H : Hid (part zs = 0) := Lib.hid (by rw [part_three, hk0, hk1, hk2, part3]; (repeat' split) <;> omega)
    have hqx1 : (x == 1) = true := by rw [beq_iff_eq]; omega
    have hqx4 : (x == 4) = false := by rw [beq_eq_false_iff_ne]; omega
    have hx4 : x < 4 := by omega
    clear g0
    clear hk0 hk1 hk2
    go_enter Try.func43, Try.ntmps43
    go_wp2_with fail
    refine (ref_kind_x H0.out _).mono ?_
    rintro e w' ⟨rfl, rfl⟩
    go_wp2_with fail
    go_ret
    exact gives_int (by rw [H.out]; rfl)
  · have H : Hid (part zs = 1) := Lib.hid (by rw [part_three, hk0, hk1, hk2, part3]; (repeat' split) <;> omega)
    have hqx1 : (x == 1) = false := by rw [beq_eq_false_iff_ne]; omega
    have hqx4 : (x == 4) = true := by rw [beq_iff_eq]; omega
    have hx4 : 4 ≤ x := by omega
    clear g0
    clear hk0 hk1 hk2
    go_enter Try.func43, Try.ntmps43
    go_wp2_with fail
    refine (ref_kind_x H0.out _).mono ?_
    rintro e w' ⟨rfl, rfl⟩
    go_wp2_with fail
    go_ret
    exact gives_int (by rw [H.out]; rfl)
  · have H : Hid (part zs = 1) := Lib.hid (by rw [part_three, hk0, hk1, hk2, part3]; (repeat' split) <;> omega)
    have hqx1 : (x == 1) = false := by rw [beq_eq_false_iff_ne]; omega
    have hqx4 : (x == 4) = false := by rw [beq_eq_false_iff_ne]; omega
    clear g0 g1
    clear hk0 hk1 hk2
    go_enter Try.func43, Try.ntmps43
    go_wp2_with fail
    refine (ref_kind_x H0.out _).mono ?_
    rintro e w' ⟨rfl, rfl⟩
    go_wp2_with fail
    go_ret
    exact gives_int (by rw [H.out]; rfl)
  · have H : Hid (part zs = 0) := Lib.hid (by rw [part_three, hk0, hk1, hk2, part3]; (repeat' split) <;> omega)
    have hqx1 : (x == 1) = false := by rw [beq_eq_false_iff_ne]; omega
    have hqx4 : (x == 4) = false := by rw [beq_eq_false_iff_ne]; omega
    clear g0 g1
    clear hk0 hk1 hk2
    go_enter Try.func43, Try.ntmps43
    go_wp2_with fail
    refine (ref_kind_x H0.out _).mono ?_
    rintro e w' ⟨rfl, rfl⟩
    go_wp2_with fail
    go_ret
    exact gives_int (by rw [H.out]; rfl)

set_option maxHeartbeats 1000000 in
theorem part_two (A : Option Addr) (n c : Nat) (zs : List Int) (w : World) (h : Sl w A n c 1 (ints zs)) (hn : n = 2) : Calls Try.prog 43 #[.slice A n c] w (Gives (.int .i64 (part zs)) w) := by
  have hcnt := h.count
  have hmax := h.max
  have hcap := h.cap
  obtain ⟨b, off, rfl, _, _⟩ := h.int_at (k := 0) (by omega)
  have c0 : w.cell? ⟨b, off, none⟩ = some (.int .i64 (zs.getD 0 0)) := by
    obtain ⟨b', off', e, _, hc⟩ := h.int_at (k := 0) (by omega)
    cases e
    exact hc
  have c1 : w.cell? ⟨b, off + 1, none⟩ = some (.int .i64 (zs.getD 1 0)) := by
    obtain ⟨b', off', e, _, hc⟩ := h.int_at (k := 1) (by omega)
    cases e
    exact hc
  obtain ⟨x, hk0⟩ : ∃ x, kindAt zs 0 = x := ⟨_, rfl⟩
  have H0 : Hid (kind (zs.getD 0 0) = x) := Lib.hid (by rw [← hk0, kindAt_of (by omega)])
  obtain ⟨y, hk1⟩ : ∃ y, kindAt zs 1 = y := ⟨_, rfl⟩
  have H1 : Hid (kind (zs.getD 1 0) = y) := Lib.hid (by rw [← hk1, kindAt_of (by omega)])
  have hk2 : kindAt zs 2 = 0 := kindAt_end (by omega)
  obtain ⟨e0, he0⟩ : ∃ e, zs.getD 0 0 = e := ⟨_, rfl⟩
  rw [he0] at c0 H0
  clear he0
  obtain ⟨e1, he1⟩ : ∃ e, zs.getD 1 0 = e := ⟨_, rfl⟩
  rw [he1] at c1 H1
  clear he1
  have hcase : (x = 1 ∧ y = 2) ∨ (x = 1 ∧ ¬ y = 2) ∨ (x = 4 ∧ y = 3) ∨ (x = 4 ∧ ¬ y = 3) ∨ (¬ x = 1 ∧ ¬ x = 4 ∧ 4 ≤ x) ∨ (¬ x = 1 ∧ ¬ x = 4 ∧ x < 4) := by omega
  subst hn
  clear hcnt h
  rcases hcase with ⟨g0, g1⟩ | ⟨g0, g1⟩ | ⟨g0, g1⟩ | ⟨g0, g1⟩ | ⟨g0, g1, g2⟩ | ⟨g0, g1, g2⟩
  · have H : Hid (part zs = 2) := Lib.hid (by rw [part_three, hk0, hk1, hk2, part3]; (repeat' split) <;> omega)
    have hqx1 : (x == 1) = true := by rw [beq_iff_eq]; omega
    have hqy2 : (y == 2) = true := by rw [beq_iff_eq]; omega
    have hx4 : x < 4 := by omega
    clear g0 g1
    clear hk0 hk1 hk2
    go_enter Try.func43, Try.ntmps43
    go_wp2_with fail
    refine (ref_kind_x H0.out _).mono ?_
    rintro e w' ⟨rfl, rfl⟩
    go_wp2_with fail
    refine (ref_kind_x H1.out _).mono ?_
    rintro e w' ⟨rfl, rfl⟩
    go_wp2_with fail
    go_ret
    exact gives_int (by rw [H.out]; rfl)
  · have H : Hid (part zs = 0) := Lib.hid (by rw [part_three, hk0, hk1, hk2, part3]; (repeat' split) <;> omega)
    have hqx1 : (x == 1) = true := by rw [beq_iff_eq]; omega
    have hqy2 : (y == 2) = false := by rw [beq_eq_false_iff_ne]; omega
    have hqx4 : (x == 4) = false := by rw [beq_eq_false_iff_ne]; omega
    have hx4 : x < 4 := by omega
    clear g0 g1
    clear hk0 hk1 hk2
    go_enter Try.func43, Try.ntmps43
    go_wp2_with fail
    refine (ref_kind_x H0.out _).mono ?_
    rintro e w' ⟨rfl, rfl⟩
    go_wp2_with fail
    refine (ref_kind_x H1.out _).mono ?_
    rintro e w' ⟨rfl, rfl⟩
    go_wp2_with fail
    go_ret
    exact gives_int (by rw [H.out]; rfl)
  · have H : Hid (part zs = 2) := Lib.hid (by rw [part_three, hk0, hk1, hk2, part3]; (repeat' split) <;> omega)
    have hqx1 : (x == 1) = false := by rw [beq_eq_false_iff_ne]; omega
    have hqx4 : (x == 4) = true := by rw [beq_iff_eq]; omega
    have hqy3 : (y == 3) = true := by rw [beq_iff_eq]; omega
    have hx4 : 4 ≤ x := by omega
    clear g0 g1
    clear hk0 hk1 hk2
    go_enter Try.func43, Try.ntmps43
    go_wp2_with fail
    refine (ref_kind_x H0.out _).mono ?_
    rintro e w' ⟨rfl, rfl⟩
    go_wp2_with fail
    refine (ref_kind_x H1.out _).mono ?_
    rintro e w' ⟨rfl, rfl⟩
    go_wp2_with fail
    go_ret
    exact gives_int (by rw [H.out]; rfl)
  · have H : Hid (part zs = 1) := Lib.hid (by rw [part_three, hk0, hk1, hk2, part3]; (repeat' split) <;> omega)
    have hqx1 : (x == 1) = false := by rw [beq_eq_false_iff_ne]; omega
    have hqx4 : (x == 4) = true := by rw [beq_iff_eq]; omega
    have hqy3 : (y == 3) = false := by rw [beq_eq_false_iff_ne]; omega
    have hx4 : 4 ≤ x := by omega
    clear g0 g1
    clear hk0 hk1 hk2
    go_enter Try.func43, Try.ntmps43
    go_wp2_with fail
    refine (ref_kind_x H0.out _).mono ?_
    rintro e w' ⟨rfl, rfl⟩
    go_wp2_with fail
    refine (ref_kind_x H1.out _).mono ?_
    rintro e w' ⟨rfl, rfl⟩
    go_wp2_with fail
    go_ret
    exact gives_int (by rw [H.out]; rfl)
  · have H : Hid (part zs = 1) := Lib.hid (by rw [part_three, hk0, hk1, hk2, part3]; (repeat' split) <;> omega)
    have hqx1 : (x == 1) = false := by rw [beq_eq_false_iff_ne]; omega
    have hqx4 : (x == 4) = false := by rw [beq_eq_false_iff_ne]; omega
    clear g0 g1
    clear hk0 hk1 hk2
    go_enter Try.func43, Try.ntmps43
    go_wp2_with fail
    refine (ref_kind_x H0.out _).mono ?_
    rintro e w' ⟨rfl, rfl⟩
    go_wp2_with fail
    refine (ref_kind_x H1.out _).mono ?_
    rintro e w' ⟨rfl, rfl⟩
    go_wp2_with fail
    go_ret
    exact gives_int (by rw [H.out]; rfl)
  · have H : Hid (part zs = 0) := Lib.hid (by rw [part_three, hk0, hk1, hk2, part3]; (repeat' split) <;> omega)
    have hqx1 : (x == 1) = false := by rw [beq_eq_false_iff_ne]; omega
    have hqx4 : (x == 4) = false := by rw [beq_eq_false_iff_ne]; omega
    clear g0 g1
    clear hk0 hk1 hk2
    go_enter Try.func43, Try.ntmps43
    go_wp2_with fail
    refine (ref_kind_x H0.out _).mono ?_
    rintro e w' ⟨rfl, rfl⟩
    go_wp2_with fail
    refine (ref_kind_x H1.out _).mono ?_
    rintro e w' ⟨rfl, rfl⟩
    go_wp2_with fail
    go_ret
    exact gives_int (by rw [H.out]; rfl)

set_option maxHeartbeats 1000000 in
theorem part_more (A : Option Addr) (n c : Nat) (zs : List Int) (w : World) (h : Sl w A n c 1 (ints zs)) (hn : 3 ≤ n) : Calls Try.prog 43 #[.slice A n c] w (Gives (.int .i64 (part zs)) w) := by
  have hcnt := h.count
  have hmax := h.max
  have hcap := h.cap
  obtain ⟨b, off, rfl, _, _⟩ := h.int_at (k := 0) (by omega)
  have c0 : w.cell? ⟨b, off, none⟩ = some (.int .i64 (zs.getD 0 0)) := by
    obtain ⟨b', off', e, _, hc⟩ := h.int_at (k := 0) (by omega)
    cases e
    exact hc
  have c1 : w.cell? ⟨b, off + 1, none⟩ = some (.int .i64 (zs.getD 1 0)) := by
    obtain ⟨b', off', e, _, hc⟩ := h.int_at (k := 1) (by omega)
    cases e
    exact hc
  have c2 : w.cell? ⟨b, off + 2, none⟩ = some (.int .i64 (zs.getD 2 0)) := by
    obtain ⟨b', off', e, _, hc⟩ := h.int_at (k := 2) (by omega)
    cases e
    exact hc
  obtain ⟨x, hk0⟩ : ∃ x, kindAt zs 0 = x := ⟨_, rfl⟩
  have H0 : Hid (kind (zs.getD 0 0) = x) := Lib.hid (by rw [← hk0, kindAt_of (by omega)])
  obtain ⟨y, hk1⟩ : ∃ y, kindAt zs 1 = y := ⟨_, rfl⟩
  have H1 : Hid (kind (zs.getD 1 0) = y) := Lib.hid (by rw [← hk1, kindAt_of (by omega)])
  obtain ⟨z, hk2⟩ : ∃ z, kindAt zs 2 = z := ⟨_, rfl⟩
  have H2 : Hid (kind (zs.getD 2 0) = z) := Lib.hid (by rw [← hk2, kindAt_of (by omega)])
  obtain ⟨e0, he0⟩ : ∃ e, zs.getD 0 0 = e := ⟨_, rfl⟩
  rw [he0] at c0 H0
  clear he0
  obtain ⟨e1, he1⟩ : ∃ e, zs.getD 1 0 = e := ⟨_, rfl⟩
  rw [he1] at c1 H1
  clear he1
  obtain ⟨e2, he2⟩ : ∃ e, zs.getD 2 0 = e := ⟨_, rfl⟩
  rw [he2] at c2 H2
  clear he2
  have hcase : (x = 1 ∧ y = 2 ∧ z = 3) ∨ (x = 1 ∧ y = 2 ∧ ¬ z = 3) ∨ (x = 1 ∧ ¬ y = 2) ∨ (x = 4 ∧ y = 3) ∨ (x = 4 ∧ ¬ y = 3) ∨ (¬ x = 1 ∧ ¬ x = 4 ∧ 4 ≤ x) ∨ (¬ x = 1 ∧ ¬ x = 4 ∧ x < 4) := by omega
  obtain ⟨n', rfl⟩ : ∃ m, n = m + 3 := ⟨n - 3, by omega⟩
  clear hcnt h
  rcases hcase with ⟨g0, g1, g2⟩ | ⟨g0, g1, g2⟩ | ⟨g0, g1⟩ | ⟨g0, g1⟩ | ⟨g0, g1⟩ | ⟨g0, g1, g2⟩ | ⟨g0, g1, g2⟩
  · have H : Hid (part zs = 3) := Lib.hid (by rw [part_three, hk0, hk1, hk2, part3]; (repeat' split) <;> omega)
    have hqx1 : (x == 1) = true := by rw [beq_iff_eq]; omega
    have hqy2 : (y == 2) = true := by rw [beq_iff_eq]; omega
    have hqz3 : (z == 3) = true := by rw [beq_iff_eq]; omega
    have hx4 : x < 4 := by omega
    clear g0 g1 g2
    clear hk0 hk1 hk2
    go_enter Try.func43, Try.ntmps43
    go_wp2_with fail
    refine (ref_kind_x H0.out _).mono ?_
    rintro e w' ⟨rfl, rfl⟩
    go_wp2_with fail
    refine (ref_kind_x H1.out _).mono ?_
    rintro e w' ⟨rfl, rfl⟩
    go_wp2_with fail
    refine (ref_kind_x H2.out _).mono ?_
    rintro e w' ⟨rfl, rfl⟩
    go_wp2_with fail
    go_ret
    exact gives_int (by rw [H.out]; rfl)
  · have H : Hid (part zs = 2) := Lib.hid (by rw [part_three, hk0, hk1, hk2, part3]; (repeat' split) <;> omega)
    have hqx1 : (x == 1) = true := by rw [beq_iff_eq]; omega
    have hqy2 : (y == 2) = true := by rw [beq_iff_eq]; omega
    have hqz3 : (z == 3) = false := by rw [beq_eq_false_iff_ne]; omega
    have hx4 : x < 4 := by omega
    clear g0 g1 g2
    clear hk0 hk1 hk2
    go_enter Try.func43, Try.ntmps43
    go_wp2_with fail
    refine (ref_kind_x H0.out _).mono ?_
    rintro e w' ⟨rfl, rfl⟩
    go_wp2_with fail
    refine (ref_kind_x H1.out _).mono ?_
    rintro e w' ⟨rfl, rfl⟩
    go_wp2_with fail
    refine (ref_kind_x H2.out _).mono ?_
    rintro e w' ⟨rfl, rfl⟩
    go_wp2_with fail
    go_ret
    exact gives_int (by rw [H.out]; rfl)
  · have H : Hid (part zs = 0) := Lib.hid (by rw [part_three, hk0, hk1, hk2, part3]; (repeat' split) <;> omega)
    have hqx1 : (x == 1) = true := by rw [beq_iff_eq]; omega
    have hqy2 : (y == 2) = false := by rw [beq_eq_false_iff_ne]; omega
    have hqx4 : (x == 4) = false := by rw [beq_eq_false_iff_ne]; omega
    have hx4 : x < 4 := by omega
    clear g0 g1
    clear hk0 hk1 hk2
    go_enter Try.func43, Try.ntmps43
    go_wp2_with fail
    refine (ref_kind_x H0.out _).mono ?_
    rintro e w' ⟨rfl, rfl⟩
    go_wp2_with fail
    refine (ref_kind_x H1.out _).mono ?_
    rintro e w' ⟨rfl, rfl⟩
    go_wp2_with fail
    refine (ref_kind_x H2.out _).mono ?_
    rintro e w' ⟨rfl, rfl⟩
    go_wp2_with fail
    go_ret
    exact gives_int (by rw [H.out]; rfl)
  · have H : Hid (part zs = 2) := Lib.hid (by rw [part_three, hk0, hk1, hk2, part3]; (repeat' split) <;> omega)
    have hqx1 : (x == 1) = false := by rw [beq_eq_false_iff_ne]; omega
    have hqx4 : (x == 4) = true := by rw [beq_iff_eq]; omega
    have hqy3 : (y == 3) = true := by rw [beq_iff_eq]; omega
    have hx4 : 4 ≤ x := by omega
    clear g0 g1
    clear hk0 hk1 hk2
    go_enter Try.func43, Try.ntmps43
    go_wp2_with fail
    refine (ref_kind_x H0.out _).mono ?_
    rintro e w' ⟨rfl, rfl⟩
    go_wp2_with fail
    refine (ref_kind_x H1.out _).mono ?_
    rintro e w' ⟨rfl, rfl⟩
    go_wp2_with fail
    refine (ref_kind_x H2.out _).mono ?_
    rintro e w' ⟨rfl, rfl⟩
    go_wp2_with fail
    go_ret
    exact gives_int (by rw [H.out]; rfl)
  · have H : Hid (part zs = 1) := Lib.hid (by rw [part_three, hk0, hk1, hk2, part3]; (repeat' split) <;> omega)
    have hqx1 : (x == 1) = false := by rw [beq_eq_false_iff_ne]; omega
    have hqx4 : (x == 4) = true := by rw [beq_iff_eq]; omega
    have hqy3 : (y == 3) = false := by rw [beq_eq_false_iff_ne]; omega
    have hx4 : 4 ≤ x := by omega
    clear g0 g1
    clear hk0 hk1 hk2
    go_enter Try.func43, Try.ntmps43
    go_wp2_with fail
    refine (ref_kind_x H0.out _).mono ?_
    rintro e w' ⟨rfl, rfl⟩
    go_wp2_with fail
    refine (ref_kind_x H1.out _).mono ?_
    rintro e w' ⟨rfl, rfl⟩
    go_wp2_with fail
    refine (ref_kind_x H2.out _).mono ?_
    rintro e w' ⟨rfl, rfl⟩
    go_wp2_with fail
    go_ret
    exact gives_int (by rw [H.out]; rfl)
  · have H : Hid (part zs = 1) := Lib.hid (by rw [part_three, hk0, hk1, hk2, part3]; (repeat' split) <;> omega)
    have hqx1 : (x == 1) = false := by rw [beq_eq_false_iff_ne]; omega
    have hqx4 : (x == 4) = false := by rw [beq_eq_false_iff_ne]; omega
    clear g0 g1
    clear hk0 hk1 hk2
    go_enter Try.func43, Try.ntmps43
    go_wp2_with fail
    refine (ref_kind_x H0.out _).mono ?_
    rintro e w' ⟨rfl, rfl⟩
    go_wp2_with fail
    refine (ref_kind_x H1.out _).mono ?_
    rintro e w' ⟨rfl, rfl⟩
    go_wp2_with fail
    refine (ref_kind_x H2.out _).mono ?_
    rintro e w' ⟨rfl, rfl⟩
    go_wp2_with fail
    go_ret
    exact gives_int (by rw [H.out]; rfl)
  · have H : Hid (part zs = 0) := Lib.hid (by rw [part_three, hk0, hk1, hk2, part3]; (repeat' split) <;> omega)
    have hqx1 : (x == 1) = false := by rw [beq_eq_false_iff_ne]; omega
    have hqx4 : (x == 4) = false := by rw [beq_eq_false_iff_ne]; omega
    clear g0 g1
    clear hk0 hk1 hk2
    go_enter Try.func43, Try.ntmps43
    go_wp2_with fail
    refine (ref_kind_x H0.out _).mono ?_
    rintro e w' ⟨rfl, rfl⟩
    go_wp2_with fail
    refine (ref_kind_x H1.out _).mono ?_
    rintro e w' ⟨rfl, rfl⟩
    go_wp2_with fail
    refine (ref_kind_x H2.out _).mono ?_
    rintro e w' ⟨rfl, rfl⟩
    go_wp2_with fail
    go_ret
    exact gives_int (by rw [H.out]; rfl)

theorem ref_part_any (A : Option Addr) (n c : Nat) (zs : List Int) (w : World) (h : Sl w A n c 1 (ints zs)) : Calls Try.prog 43 #[.slice A n c] w (Gives (.int .i64 (part zs)) w) := by
  have hcase : n = 0 ∨ n = 1 ∨ n = 2 ∨ 3 ≤ n := by omega
  rcases hcase with h0 | h1 | h2 | h3
  · have H : Hid (part zs = 0) := Lib.hid (by
      have hc := h.count
      rw [part_three, kindAt_end (by omega), kindAt_end (by omega), kindAt_end (by omega)]
      rfl)
    subst h0
    clear h
    go_enter Try.func43, Try.ntmps43
    go_wp2
    go_ret
    exact gives_int (by rw [H.out]; rfl)
  · exact part_one A n c zs w h h1
  · exact part_two A n c zs w h h2
  · exact part_more A n c zs w h h3
end Go.Proofs.Ytnaooleopifnmaa.Hg
