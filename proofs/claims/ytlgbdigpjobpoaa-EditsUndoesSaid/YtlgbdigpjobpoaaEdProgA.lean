/-
  The contracts of package edits: forward, Check, Apply, Shift.
-/
import Derived.Test.YtlgbdigpjobpoaaEdSplice
import Derived.Test.YtlgbdigpjobpoaaEdBx
import Derived.Test.YtlgbdigpjobpoaaEdRef3
namespace Go.Proofs.Ytlgbdigpjobpoaa.Ed
open Go.RowKit
set_option linter.unusedVariables false

theorem pforward_x {a d : Int} {r : Bool} (h : decide (0 ≤ a ∧ 0 ≤ d) = r) {A : Option Addr} {n c : Nat} (w : World) :
    Calls Try.prog 28 #[.agg #[.int .i64 a, .int .i64 d, .slice A n c]] w (Makes (.bool r) w) := by
  have hcase : a < 0 ∨ (0 ≤ a ∧ d < 0) ∨ (0 ≤ a ∧ 0 ≤ d) := by omega
  rcases hcase with h1 | ⟨h1, h2⟩ | ⟨h1, h2⟩
  · have H : Hid (r = false) := Lib.hid (by rw [← h]; simp; omega)
    clear h
    go_enter Try.func28, Try.ntmps28
    go_wp2
    go_ret
    exact ⟨ret_bool' H.out, (Below.refl _ _).alloc (Nat.le_refl _) _⟩
  · have H : Hid (r = false) := Lib.hid (by rw [← h]; simp; omega)
    clear h
    go_enter Try.func28, Try.ntmps28
    go_wp2
    go_ret
    exact ⟨ret_bool' (by rw [H.out] <;> simp <;> omega), (Below.refl _ _).alloc (Nat.le_refl _) _⟩
  · have H : Hid (r = true) := Lib.hid (by rw [← h]; simp; omega)
    clear h
    go_enter Try.func28, Try.ntmps28
    go_wp2
    go_ret
    exact ⟨ret_bool' (by rw [H.out] <;> simp <;> omega), (Below.refl _ _).alloc (Nat.le_refl _) _⟩

set_option maxHeartbeats 1000000 in
theorem pcheck_y {a d s r : Int} (h : chk a d s = r) {A : Option Addr} {n c : Nat} (ha : (Lit.int .i64 a).wf = true) (hd : (Lit.int .i64 d).wf = true) (hs : (Lit.int .i64 s).wf = true) (hn : n ≤ 100) (w : World) :
    Calls Try.prog 13 #[.agg #[.int .i64 a, .int .i64 d, .slice A n c], .int .i64 s] w (Makes (.int .i64 r) w) := by
  have hs' : -9223372036854775808 ≤ s ∧ s ≤ 9223372036854775807 := by simpa [Lit.wf, IntKind.min, IntKind.max, IntKind.signed, IntKind.bits] using hs
  obtain ⟨s0, s1⟩ := hs'
  clear ha hs hd
  have k0 := Bx.new w (.int .i64 a) (.int .i64 d) (.slice A n c) 24
  have hcase : ¬ (0 ≤ a ∧ 0 ≤ d) ∨ (0 ≤ a ∧ 0 ≤ d ∧ s < a) ∨ (0 ≤ a ∧ 0 ≤ d ∧ a ≤ s ∧ s - a < d) ∨ (0 ≤ a ∧ 0 ≤ d ∧ a ≤ s ∧ d ≤ s - a) := by omega
  rcases hcase with h1 | ⟨h1, h2, h3⟩ | ⟨h1, h2, h3, h4⟩ | ⟨h1, h2, h3, h4⟩
  · have H : Hid (r = 1) := Lib.hid (by rw [← h]; exact chk_one.2 (by omega))
    have HF : Hid (decide (0 ≤ a ∧ 0 ≤ d) = false) := Lib.hid (by rw [decide_eq_false_iff_not]; exact h1)
    clear h h1
    go_enter Try.func13, Try.ntmps13
    go_wp2_with fail
    refine (pforward_x HF.out _).mono ?_
    rintro e w1 ⟨rfl, b1⟩
    have k1 := k0.step b1 (by first | exact .inl rfl | exact .inr rfl)
    obtain ⟨x0, x1, x2⟩ := k1.cells
    clear b1
    go_wp2_with fail
    go_ret
    exact ⟨ret_int' H.out, k1.below⟩
  · have H : Hid (r = 1) := Lib.hid (by rw [← h]; exact chk_one.2 (by omega))
    have HF : Hid (decide (0 ≤ a ∧ 0 ≤ d) = true) := Lib.hid (by rw [decide_eq_true_iff]; omega)
    clear h
    go_enter Try.func13, Try.ntmps13
    go_wp2_with fail
    refine (pforward_x HF.out _).mono ?_
    rintro e w1 ⟨rfl, b1⟩
    have k1 := k0.step b1 (by first | exact .inl rfl | exact .inr rfl)
    obtain ⟨x0, x1, x2⟩ := k1.cells
    clear b1
    go_wp2_with fail
    go_ret
    exact ⟨ret_int' H.out, k1.below⟩
  · have H : Hid (r = 1) := Lib.hid (by rw [← h]; exact chk_one.2 (by omega))
    have HF : Hid (decide (0 ≤ a ∧ 0 ≤ d) = true) := Lib.hid (by rw [decide_eq_true_iff]; omega)
    clear h
    go_enter Try.func13, Try.ntmps13
    go_wp2_with fail
    refine (pforward_x HF.out _).mono ?_
    rintro e w1 ⟨rfl, b1⟩
    have k1 := k0.step b1 (by first | exact .inl rfl | exact .inr rfl)
    obtain ⟨x0, x1, x2⟩ := k1.cells
    clear b1
    go_wp2_with fail
    go_ret
    exact ⟨ret_int' H.out, k1.below⟩
  · have H : Hid (r = 0) := Lib.hid (by rw [← h]; exact chk_zero.2 (by omega))
    have HF : Hid (decide (0 ≤ a ∧ 0 ≤ d) = true) := Lib.hid (by rw [decide_eq_true_iff]; omega)
    clear h
    go_enter Try.func13, Try.ntmps13
    go_wp2_with fail
    refine (pforward_x HF.out _).mono ?_
    rintro e w1 ⟨rfl, b1⟩
    have k1 := k0.step b1 (by first | exact .inl rfl | exact .inr rfl)
    obtain ⟨x0, x1, x2⟩ := k1.cells
    clear b1
    go_wp2_with fail
    go_ret
    exact ⟨ret_int' H.out, k1.below⟩

set_option maxHeartbeats 1000000 in
theorem papply_n0 {a d : Int} {A B : Option Addr} {n m c f : Nat} {xs ys : List Int} (h : chk a d m = 1) (ha : (Lit.int .i64 a).wf = true) (hd : (Lit.int .i64 d).wf = true) (hn : n ≤ 100) (hm : m ≤ 100) (w : World) (hx : Sl w A n c 1 (ints xs)) (hy : Sl w B m f 1 (ints ys)) :
    Calls Try.prog 17 #[.agg #[.int .i64 a, .int .i64 d, .slice A n c], .slice B m f] w (ListErr [] 1 w) := by
  have H := Lib.hid h
  have HA := Lib.hid ha
  have HD := Lib.hid hd
  clear h ha hd
  go_enter Try.func17, Try.ntmps17
  go_wp2_with fail
  refine (pcheck_y H.out HA.out HD.out (nat_wf m (by omega)) hn _).mono ?_
  rintro e w1 ⟨rfl, b1⟩
  go_wp2_with fail
  go_ret2
  exact ⟨none, 0, 0, rfl, Sl.nil _ _, ((Below.refl _ _).alloc (Nat.le_refl _) _).trans (b1.mono (by simp))⟩

set_option maxHeartbeats 1000000 in
theorem papply_yes {a d n m c f : Nat} {A B : Option Addr} {xs ys : List Int} (h : a + d ≤ m) (hn : n ≤ 100) (hm : m ≤ 100) {zs : List Int} (hz : ys.take a ++ xs ++ ys.drop (a + d) = zs) (w : World) (hx : Sl w A n c 1 (ints xs)) (hy : Sl w B m f 1 (ints ys)) :
    Calls Try.prog 17 #[.agg #[.int .i64 (a : Int), .int .i64 (d : Int), .slice A n c], .slice B m f] w (ListErr zs 0 w) := by
  have H := Lib.hid ((chk_zero (a := (a : Int)) (d := (d : Int)) (s := (m : Int))).2 (by omega))
  have HZ := Lib.hid hz
  have k0 := Bx.new w (.int .i64 (a : Int)) (.int .i64 (d : Int)) (.slice A n c) 24
  clear hz
  go_enter Try.func17, Try.ntmps17
  go_wp2_with fail
  refine (pcheck_y H.out (nat_wf a (by omega)) (nat_wf d (by omega)) (nat_wf m (by omega)) hn _).mono ?_
  rintro e w1 ⟨rfl, b1⟩
  have k1 := k0.step b1 (by first | exact .inl rfl | exact .inr rfl)
  obtain ⟨x0, x1, x2⟩ := k1.cells
  clear b1
  go_wp2_with fail
  refine (psplice_any h hn hm HZ.out _ (hx.keep k1.below) (hy.keep k1.below)).mono ?_
  rintro e w2 ⟨D, k, g, rfl, hl, hb, hf⟩
  go_wp2_with fail
  go_ret2
  exact ⟨D, k, g, rfl, hl, k1.below.trans (hb.mono k1.below.size)⟩

set_option maxHeartbeats 1000000 in
theorem pshift_y {a d p r : Int} {A : Option Addr} {n c : Nat} (hr : shf a d n p = r) (hn : n ≤ 100) (ha : (Lit.int .i64 a).wf = true) (hd : (Lit.int .i64 d).wf = true) (hp0 : -9223372036854775808 ≤ p) (hp : p ≤ 4611686018427387904) (w : World) :
    Calls Try.prog 27 #[.agg #[.int .i64 a, .int .i64 d, .slice A n c], .int .i64 p] w (Makes (.int .i64 r) w) := by
  have hd' : -9223372036854775808 ≤ d ∧ d ≤ 9223372036854775807 := by simpa [Lit.wf, IntKind.min, IntKind.max, IntKind.signed, IntKind.bits] using hd
  obtain ⟨d0, d1⟩ := hd'
  clear ha hd
  have k0 := Bx.new w (.int .i64 a) (.int .i64 d) (.slice A n c) 24
  have hcase : ¬ (0 ≤ a ∧ 0 ≤ d) ∨ (0 ≤ a ∧ 0 ≤ d ∧ p ≤ a) ∨ (0 ≤ a ∧ 0 ≤ d ∧ a < p ∧ p - a < d) ∨ (0 ≤ a ∧ 0 ≤ d ∧ a < p ∧ d ≤ p - a) := by omega
  rcases hcase with h1 | ⟨h1, h2, h3⟩ | ⟨h1, h2, h3, h4⟩ | ⟨h1, h2, h3, h4⟩
  · have H : Hid (r = p) := Lib.hid (by rw [← hr, shf, if_pos (by omega)])
    have HF : Hid (decide (0 ≤ a ∧ 0 ≤ d) = false) := Lib.hid (by rw [decide_eq_false_iff_not]; exact h1)
    clear hr h1
    go_enter Try.func27, Try.ntmps27
    go_wp2_with fail
    refine (pforward_x HF.out _).mono ?_
    rintro e w1 ⟨rfl, b1⟩
    have k1 := k0.step b1 (by first | exact .inl rfl | exact .inr rfl)
    obtain ⟨x0, x1, x2⟩ := k1.cells
    clear b1
    go_wp2_with fail
    go_ret
    exact ⟨ret_int' H.out, k1.below⟩
  · have H : Hid (r = p) := Lib.hid (by rw [← hr, shf, if_pos (by omega)])
    have HF : Hid (decide (0 ≤ a ∧ 0 ≤ d) = true) := Lib.hid (by rw [decide_eq_true_iff]; omega)
    clear hr
    go_enter Try.func27, Try.ntmps27
    go_wp2_with fail
    refine (pforward_x HF.out _).mono ?_
    rintro e w1 ⟨rfl, b1⟩
    have k1 := k0.step b1 (by first | exact .inl rfl | exact .inr rfl)
    obtain ⟨x0, x1, x2⟩ := k1.cells
    clear b1
    go_wp2_with fail
    go_ret
    exact ⟨ret_int' H.out, k1.below⟩
  · have H : Hid (r = a) := Lib.hid (by rw [← hr, shf, if_neg (by omega), if_pos (by omega)])
    have HF : Hid (decide (0 ≤ a ∧ 0 ≤ d) = true) := Lib.hid (by rw [decide_eq_true_iff]; omega)
    clear hr
    go_enter Try.func27, Try.ntmps27
    go_wp2_with fail
    refine (pforward_x HF.out _).mono ?_
    rintro e w1 ⟨rfl, b1⟩
    have k1 := k0.step b1 (by first | exact .inl rfl | exact .inr rfl)
    obtain ⟨x0, x1, x2⟩ := k1.cells
    clear b1
    go_wp2_with fail
    go_ret
    exact ⟨ret_int' H.out, k1.below⟩
  · have H : Hid (r = p - d + n) := Lib.hid (by rw [← hr, shf, if_neg (by omega), if_neg (by omega)])
    have HF : Hid (decide (0 ≤ a ∧ 0 ≤ d) = true) := Lib.hid (by rw [decide_eq_true_iff]; omega)
    clear hr
    go_enter Try.func27, Try.ntmps27
    go_wp2_with fail
    refine (pforward_x HF.out _).mono ?_
    rintro e w1 ⟨rfl, b1⟩
    have k1 := k0.step b1 (by first | exact .inl rfl | exact .inr rfl)
    obtain ⟨x0, x1, x2⟩ := k1.cells
    clear b1
    go_wp2_with fail
    go_ret
    exact ⟨ret_int' H.out, k1.below⟩
end Go.Proofs.Ytlgbdigpjobpoaa.Ed
