/-
  The walks of EditsApplies and EditsInverts.
-/
import Derived.Test.YtlgbdigpjobpoaaEdWalkA
namespace Go.Proofs.Ytlgbdigpjobpoaa.Ed
open Go.RowKit
set_option linter.unusedVariables false

theorem Bx.alloc {w W : World} {g : Nat} {x y z : Value} (h : Bx w W g x y z) (o : Obj) : Bx w (W.alloc o) g x y z := h.step ((Below.refl _ _).alloc (Nat.le_refl _) _) (.inl rfl)
theorem Bx.fresh {w W : World} (h : Below w.heap.size w W) (x y z : Value) (t : TypeId) : Bx w (W.alloc (.cells #[x, y, z] t)) W.heap.size x y z :=
  ⟨h.alloc h.size _, by simp, (box3 (heap_alloc_new W _)).1⟩

theorem few_x {A : Option Addr} {n c : Nat} {r : Bool} (h : decide (n ≤ 60) = r) (hn : n ≤ 9223372036854775807) (w : World) : Calls Try.prog 16 #[.slice A n c] w (Gives (.bool r) w) := by
  rcases Nat.lt_or_ge 60 n with h2 | h2
  · have H : Hid (r = false) := Lib.hid (by rw [← h]; simp; omega)
    clear h
    go_enter Try.func16, Try.ntmps16
    go_wp2
    go_ret
    exact ⟨ret_bool' (by rw [H.out]; simp; omega), rfl⟩
  · have H : Hid (r = true) := Lib.hid (by rw [← h]; simp; omega)
    clear h
    go_enter Try.func16, Try.ntmps16
    go_wp2
    go_ret
    exact ⟨ret_bool' (by rw [H.out]; simp; omega), rfl⟩

set_option maxHeartbeats 1000000 in
theorem applies_walk (a d : Int) (A B : Option Addr) (n c m f : Nat) (xs ys : List Int) (ha : (Lit.int .i64 a).wf = true) (hd : (Lit.int .i64 d).wf = true) (w : World) (hx : Sl w A n c 1 (ints xs)) (hy : Sl w B m f 1 (ints ys)) :
    Calls Try.prog 4 #[.agg #[.int .i64 a, .int .i64 d, .slice A n c], .slice B m f] w (Makes (.bool true) w) := by
  have hcx := hx.cap
  have hmx := hx.max
  have hcy := hy.cap
  have hmy := hy.max
  have HA := Lib.hid ha
  have HD := Lib.hid hd
  clear ha hd
  have k0 := Bx.new w (.int .i64 a) (.int .i64 d) (.slice A n c) 24
  rcases Nat.lt_or_ge 40 n with hn | hn
  · go_enter Try.func4, Try.ntmps4
    go_wp2_with fail
    refine (ref_small_x (r := false) (by simp; omega) (by omega) _).mono ?_
    rintro e w1 ⟨rfl, b1⟩
    have k1 := k0.step b1 (by first | exact .inl rfl | exact .inr rfl)
    clear k0 b1
    go_wp2_with fail
    refine (alive_any _).mono ?_
    rintro e w4 ⟨rfl, b4⟩
    have k4 := k1.step b4 (by first | exact .inl rfl | exact .inr rfl)
    go_wp2_with fail
    go_ret
    exact ⟨rfl, k4.below⟩
  · rcases Nat.lt_or_ge 60 m with hm | hm
    · go_enter Try.func4, Try.ntmps4
      go_wp2_with fail
      refine (ref_small_x (r := true) (by simp; omega) (by omega) _).mono ?_
      rintro e w1 ⟨rfl, b1⟩
      have k1 := k0.step b1 (by first | exact .inl rfl | exact .inr rfl)
      clear k0 b1
      obtain ⟨x0, x1, x2⟩ := k1.cells
      go_wp2_with fail
      refine (few_x (r := false) (by simp; omega) (by omega) _).mono ?_
      rintro e w2 ⟨rfl, rfl⟩
      go_wp2_with fail
      refine (alive_any _).mono ?_
      rintro e w4 ⟨rfl, b4⟩
      have k4 := k1.step b4 (by first | exact .inl rfl | exact .inr rfl)
      go_wp2_with fail
      go_ret
      exact ⟨rfl, k4.below⟩
    · rcases chk_cases a d m with hk | hk
      · obtain ⟨h0, h1, h2, h3⟩ := chk_zero.1 hk
        obtain ⟨a, rfl⟩ := Int.eq_ofNat_of_zero_le h0
        obtain ⟨d, rfl⟩ := Int.eq_ofNat_of_zero_le h1
        have hle : a + d ≤ m := by omega
        clear hk h0 h1 h2 h3
        go_enter Try.func4, Try.ntmps4
        go_wp2_with fail
        refine (ref_small_x (r := true) (by simp; omega) (by omega) _).mono ?_
        rintro e w1 ⟨rfl, b1⟩
        have k1 := k0.step b1 (by first | exact .inl rfl | exact .inr rfl)
        clear k0 b1
        obtain ⟨x0, x1, x2⟩ := k1.cells
        go_wp2_with fail
        refine (few_x (r := true) (by simp; omega) (by omega) _).mono ?_
        rintro e w2 ⟨rfl, rfl⟩
        go_wp2_with fail
        refine (papply_yes hle (by omega) (by omega) rfl _ (hx.keep k1.below) (hy.keep k1.below)).mono ?_
        rintro e w2 ⟨C, p, g, rfl, l2, b2⟩
        have k2 := k1.step b2 (by first | exact .inl rfl | exact .inr rfl)
        have hx2 := hx.keep k2.below
        have hy2 := hy.keep k2.below
        clear k1 b2 x0 x1 x2
        obtain ⟨x0, x1, x2⟩ := k2.cells
        go_wp2_with fail
        refine (ref_apply_yes a d n m c f A B xs ys hle _ hx2 hy2 (by omega)).mono ?_
        rintro e w3 ⟨D, p', g', rfl, l3, b3⟩
        have k3 := k2.step b3 (by first | exact .inl rfl | exact .inr rfl)
        have l2' := l2.keep b3
        clear k2 b3 x0 x1 x2 l2 hx2 hy2
        go_wp2_with fail
        refine (ref_equal_x (b := true) (by simp) l2' l3).mono ?_
        rintro e w4 ⟨rfl, d4⟩
        have k4 := k3.step (d4.below _) (by first | exact .inl rfl | exact .inr rfl)
        clear k3 d4
        go_wp2_with fail
        refine (alive_any _).mono ?_
        rintro e w5 ⟨rfl, b5⟩
        have k5 := k4.step b5 (by first | exact .inl rfl | exact .inr rfl)
        go_wp2_with fail
        go_ret
        exact ⟨rfl, k5.below⟩
      · have H := Lib.hid hk
        clear hk
        go_enter Try.func4, Try.ntmps4
        go_wp2_with fail
        refine (ref_small_x (r := true) (by simp; omega) (by omega) _).mono ?_
        rintro e w1 ⟨rfl, b1⟩
        have k1 := k0.step b1 (by first | exact .inl rfl | exact .inr rfl)
        clear k0 b1
        obtain ⟨x0, x1, x2⟩ := k1.cells
        go_wp2_with fail
        refine (few_x (r := true) (by simp; omega) (by omega) _).mono ?_
        rintro e w2 ⟨rfl, rfl⟩
        go_wp2_with fail
        refine (papply_no H.out HA.out HD.out hn (by omega) _ (hx.keep k1.below) (hy.keep k1.below)).mono ?_
        rintro e w2 ⟨C, p, g, rfl, l2, b2⟩
        have k2 := k1.step b2 (by first | exact .inl rfl | exact .inr rfl)
        clear k1 b2 x0 x1 x2
        obtain ⟨x0, x1, x2⟩ := k2.cells
        go_wp2_with fail
        refine (ref_apply_no a d A B n m c f H.out HA.out (by omega) _).mono ?_
        rintro e w3 ⟨D, p', g', rfl, l3, b3⟩
        have k3 := k2.step b3 (by first | exact .inl rfl | exact .inr rfl)
        have l2' := l2.keep b3
        clear k2 b3 x0 x1 x2 l2
        go_wp2_with fail
        refine (ref_equal_x (b := true) (by simp) l2' l3).mono ?_
        rintro e w4 ⟨rfl, d4⟩
        have k4 := k3.step (d4.below _) (by first | exact .inl rfl | exact .inr rfl)
        clear k3 d4
        go_wp2_with fail
        refine (alive_any _).mono ?_
        rintro e w5 ⟨rfl, b5⟩
        have k5 := k4.step b5 (by first | exact .inl rfl | exact .inr rfl)
        go_wp2_with fail
        go_ret
        exact ⟨rfl, k5.below⟩

set_option maxHeartbeats 1000000 in
theorem inverts_walk (a d : Int) (A B : Option Addr) (n c m f : Nat) (xs ys : List Int) (ha : (Lit.int .i64 a).wf = true) (hd : (Lit.int .i64 d).wf = true) (w : World) (hx : Sl w A n c 1 (ints xs)) (hy : Sl w B m f 1 (ints ys)) :
    Calls Try.prog 5 #[.agg #[.int .i64 a, .int .i64 d, .slice A n c], .slice B m f] w (Makes (.bool true) w) := by
  have hcx := hx.cap
  have hmx := hx.max
  have hcy := hy.cap
  have hmy := hy.max
  have HA := Lib.hid ha
  have HD := Lib.hid hd
  clear ha hd
  have k0 := Bx.new w (.int .i64 a) (.int .i64 d) (.slice A n c) 24
  rcases Nat.lt_or_ge 40 n with hn | hn
  · go_enter Try.func5, Try.ntmps5
    go_wp2_with fail
    refine (ref_small_x (r := false) (by simp; omega) (by omega) _).mono ?_
    rintro e w1 ⟨rfl, b1⟩
    have k1 := k0.step b1 (by first | exact .inl rfl | exact .inr rfl)
    clear k0 b1
    go_wp2_with fail
    refine (alive_any _).mono ?_
    rintro e w4 ⟨rfl, b4⟩
    have k4 := k1.step b4 (by first | exact .inl rfl | exact .inr rfl)
    go_wp2_with fail
    go_ret
    exact ⟨rfl, k4.below⟩
  · rcases Nat.lt_or_ge 60 m with hm | hm
    · go_enter Try.func5, Try.ntmps5
      go_wp2_with fail
      refine (ref_small_x (r := true) (by simp; omega) (by omega) _).mono ?_
      rintro e w1 ⟨rfl, b1⟩
      have k1 := k0.step b1 (by first | exact .inl rfl | exact .inr rfl)
      clear k0 b1
      obtain ⟨x0, x1, x2⟩ := k1.cells
      go_wp2_with fail
      refine (few_x (r := false) (by simp; omega) (by omega) _).mono ?_
      rintro e w2 ⟨rfl, rfl⟩
      go_wp2_with fail
      refine (alive_any _).mono ?_
      rintro e w4 ⟨rfl, b4⟩
      have k4 := k1.step b4 (by first | exact .inl rfl | exact .inr rfl)
      go_wp2_with fail
      go_ret
      exact ⟨rfl, k4.below⟩
    · rcases chk_cases a d m with hk | hk
      · obtain ⟨h0, h1, h2, h3⟩ := chk_zero.1 hk
        obtain ⟨a, rfl⟩ := Int.eq_ofNat_of_zero_le h0
        obtain ⟨d, rfl⟩ := Int.eq_ofNat_of_zero_le h1
        have hle : a + d ≤ m := by omega
        clear hk h0 h1 h2 h3
        go_enter Try.func5, Try.ntmps5
        go_wp2_with fail
        refine (ref_small_x (r := true) (by simp; omega) (by omega) _).mono ?_
        rintro e w1 ⟨rfl, b1⟩
        have k1 := k0.step b1 (by first | exact .inl rfl | exact .inr rfl)
        clear k0 b1
        obtain ⟨x0, x1, x2⟩ := k1.cells
        go_wp2_with fail
        refine (few_x (r := true) (by simp; omega) (by omega) _).mono ?_
        rintro e w2 ⟨rfl, rfl⟩
        go_wp2_with fail
        refine (pinvert_yes hle (by omega) (by omega) rfl _ (hx.keep k1.below) (hy.keep k1.below)).mono ?_
        rintro e w2 ⟨C, p, g, rfl, l2, b2⟩
        have k2 := (k1.step b2 (by first | exact .inl rfl | exact .inr rfl)).alloc (.cells #[.int .i64 a, .int .i64 n, .slice C p g] 24)
        have kA := Bx.fresh (k1.step b2 (by first | exact .inl rfl | exact .inr rfl)).below (.int .i64 a) (.int .i64 n) (.slice C p g) 24
        have l2a := l2.keep ((Below.refl _ _).alloc (Nat.le_refl _) (.cells #[.int .i64 a, .int .i64 n, .slice C p g] 24))
        have hx2 := hx.keep k2.below
        have hy2 := hy.keep k2.below
        clear k1 b2 x0 x1 x2 l2
        obtain ⟨x0, x1, x2⟩ := k2.cells
        go_wp2_with fail
        refine (ref_invert_yes a d n m c f A B xs ys hle _ hx2 hy2 (by omega)).mono ?_
        rintro e w3 ⟨D, p', g', rfl, l3, b3⟩
        have kA3 := (kA.step b3 (by first | exact .inl rfl | exact .inr rfl)).alloc (.cells #[.int .i64 a, .int .i64 n, .slice D p' g'] 24)
        have kB := Bx.fresh (kA.step b3 (by first | exact .inl rfl | exact .inr rfl)).below (.int .i64 a) (.int .i64 n) (.slice D p' g') 24
        have l2b := (l2a.keep b3).keep ((Below.refl _ _).alloc (Nat.le_refl _) (.cells #[.int .i64 a, .int .i64 n, .slice D p' g'] 24))
        have l3b := l3.keep ((Below.refl _ _).alloc (Nat.le_refl _) (.cells #[.int .i64 a, .int .i64 n, .slice D p' g'] 24))
        clear k2 b3 x0 x1 x2 l2a l3 kA hx2 hy2
        obtain ⟨x0, x1, x2⟩ := kA3.cells
        obtain ⟨y0, y1, y2⟩ := kB.cells
        go_wp2_with fail
        refine (ref_same_x (r := true) (by simp) _ l2b l3b).mono ?_
        rintro e w4 ⟨rfl, b4⟩
        have k4 := kB.step b4 (by first | exact .inl rfl | exact .inr rfl)
        clear kA3 kB b4 x0 x1 x2 y0 y1 y2
        go_wp2_with fail
        refine (alive_any _).mono ?_
        rintro e w5 ⟨rfl, b5⟩
        have k5 := k4.step b5 (by first | exact .inl rfl | exact .inr rfl)
        go_wp2_with fail
        go_ret
        exact ⟨rfl, k5.below⟩
      · have H := Lib.hid hk
        clear hk
        go_enter Try.func5, Try.ntmps5
        go_wp2_with fail
        refine (ref_small_x (r := true) (by simp; omega) (by omega) _).mono ?_
        rintro e w1 ⟨rfl, b1⟩
        have k1 := k0.step b1 (by first | exact .inl rfl | exact .inr rfl)
        clear k0 b1
        obtain ⟨x0, x1, x2⟩ := k1.cells
        go_wp2_with fail
        refine (few_x (r := true) (by simp; omega) (by omega) _).mono ?_
        rintro e w2 ⟨rfl, rfl⟩
        go_wp2_with fail
        refine (pinvert_no H.out HA.out HD.out hn (by omega) _ (hx.keep k1.below) (hy.keep k1.below)).mono ?_
        rintro e w2 ⟨C, p, g, rfl, l2, b2⟩
        have k2 := (k1.step b2 (by first | exact .inl rfl | exact .inr rfl)).alloc (.cells #[.int .i64 0, .int .i64 0, .slice C p g] 24)
        have kA := Bx.fresh (k1.step b2 (by first | exact .inl rfl | exact .inr rfl)).below (.int .i64 0) (.int .i64 0) (.slice C p g) 24
        have l2a := l2.keep ((Below.refl _ _).alloc (Nat.le_refl _) (.cells #[.int .i64 0, .int .i64 0, .slice C p g] 24))
        have hx2 := hx.keep k2.below
        have hy2 := hy.keep k2.below
        clear k1 b2 x0 x1 x2 l2
        obtain ⟨x0, x1, x2⟩ := k2.cells
        go_wp2_with fail
        refine (ref_invert_no a d A B n m c f H.out HA.out (by omega) _).mono ?_
        rintro e w3 ⟨D, p', g', rfl, l3, b3⟩
        have kA3 := (kA.step b3 (by first | exact .inl rfl | exact .inr rfl)).alloc (.cells #[.int .i64 0, .int .i64 0, .slice D p' g'] 24)
        have kB := Bx.fresh (kA.step b3 (by first | exact .inl rfl | exact .inr rfl)).below (.int .i64 0) (.int .i64 0) (.slice D p' g') 24
        have l2b := (l2a.keep b3).keep ((Below.refl _ _).alloc (Nat.le_refl _) (.cells #[.int .i64 0, .int .i64 0, .slice D p' g'] 24))
        have l3b := l3.keep ((Below.refl _ _).alloc (Nat.le_refl _) (.cells #[.int .i64 0, .int .i64 0, .slice D p' g'] 24))
        clear k2 b3 x0 x1 x2 l2a l3 kA hx2 hy2
        obtain ⟨x0, x1, x2⟩ := kA3.cells
        obtain ⟨y0, y1, y2⟩ := kB.cells
        go_wp2_with fail
        refine (ref_same_x (r := true) (by simp) _ l2b l3b).mono ?_
        rintro e w4 ⟨rfl, b4⟩
        have k4 := kB.step b4 (by first | exact .inl rfl | exact .inr rfl)
        clear kA3 kB b4 x0 x1 x2 y0 y1 y2
        go_wp2_with fail
        refine (alive_any _).mono ?_
        rintro e w5 ⟨rfl, b5⟩
        have k5 := k4.step b5 (by first | exact .inl rfl | exact .inr rfl)
        go_wp2_with fail
        go_ret
        exact ⟨rfl, k5.below⟩
end Go.Proofs.Ytlgbdigpjobpoaa.Ed
