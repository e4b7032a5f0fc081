/-
  The walk of EditsUndoes.
-/
import Derived.Test.YtlgbdigpjobpoaaEdOpen
namespace Go.Proofs.Ytlgbdigpjobpoaa.Ed
open Go.RowKit
set_option linter.unusedVariables false

section
variable {a d n m : Nat} {xs ys : List Int}
theorem und_length (h : a + d ≤ ys.length) (hm : m = ys.length) (hn : n = xs.length) : (ys.take a ++ xs ++ ys.drop (a + d)).length = m - d + n := by
  simp
  omega
theorem und_cut (h : a + d ≤ ys.length) (hm : m = ys.length) (hn : n = xs.length) : ((ys.take a ++ xs ++ ys.drop (a + d)).drop a).take n = xs := by
  have h1 : (ys.take a).length = a := by simp; omega
  rw [List.append_assoc, List.drop_append_of_le_length (by omega), List.drop_eq_nil_of_le (by omega), List.nil_append, hn, List.take_left]
theorem und_back (h : a + d ≤ ys.length) (hm : m = ys.length) (hn : n = xs.length) :
    (ys.take a ++ xs ++ ys.drop (a + d)).take a ++ (ys.drop a).take d ++ (ys.take a ++ xs ++ ys.drop (a + d)).drop (a + n) = ys := by
  have h1 : (ys.take a).length = a := by simp; omega
  have h2 : (ys.take a ++ xs).length = a + n := by simp; omega
  have e1 : (ys.take a ++ xs ++ ys.drop (a + d)).take a = ys.take a := by
    rw [List.append_assoc]
    exact List.take_left' h1
  have e2 : (ys.take a ++ xs ++ ys.drop (a + d)).drop (a + n) = ys.drop (a + d) := List.drop_left' h2
  rw [e1, e2, List.append_assoc, ← List.drop_drop, List.take_append_drop, List.take_append_drop]
end

set_option maxHeartbeats 2000000 in
theorem undoes_walk (a d : Int) (A B : Option Addr) (n c m f : Nat) (xs ys : List Int) (ha : (Lit.int .i64 a).wf = true) (hd : (Lit.int .i64 d).wf = true) (w : World) (hx : Sl w A n c 1 (ints xs)) (hy : Sl w B m f 1 (ints ys)) :
    Calls Try.prog 8 #[.agg #[.int .i64 a, .int .i64 d, .slice A n c], .slice B m f] w (Makes (.bool true) w) := by
  have hcx := hx.cap
  have hmx := hx.max
  have hcy := hy.cap
  have hmy := hy.max
  have HA := Lib.hid ha
  have HD := Lib.hid hd
  clear ha hd
  have k0 := Bx.new w (.int .i64 a) (.int .i64 d) (.slice A n c) 24
  rcases Nat.lt_or_ge 40 n with hn | hn
  · go_enter Try.func8, Try.ntmps8
    go_wp2_with fail
    refine (ref_small_x (r := false) (by simp; omega) (by omega) _).mono ?_
    rintro e w1 ⟨rfl, b1⟩
    have k1 := k0.step b1 (by first | exact .inl rfl | exact .inr rfl)
    clear k0 b1
    go_wp2_with fail
    refine (alive_any _).mono ?_
    rintro e w4 ⟨rfl, b4⟩
    have k4 := k1.step b4 (by first | exact .inl rfl | exact .inr rfl)
    go_wp2_with fail
    go_ret
    exact ⟨rfl, k4.below⟩
  · rcases Nat.lt_or_ge 60 m with hm | hm
    · go_enter Try.func8, Try.ntmps8
      go_wp2_with fail
      refine (ref_small_x (r := true) (by simp; omega) (by omega) _).mono ?_
      rintro e w1 ⟨rfl, b1⟩
      have k1 := k0.step b1 (by first | exact .inl rfl | exact .inr rfl)
      clear k0 b1
      obtain ⟨x0, x1, x2⟩ := k1.cells
      go_wp2_with fail
      refine (few_x (r := false) (by simp; omega) (by omega) _).mono ?_
      rintro e w2 ⟨rfl, rfl⟩
      go_wp2_with fail
      refine (alive_any _).mono ?_
      rintro e w4 ⟨rfl, b4⟩
      have k4 := k1.step b4 (by first | exact .inl rfl | exact .inr rfl)
      go_wp2_with fail
      go_ret
      exact ⟨rfl, k4.below⟩
    · rcases chk_cases a d m with hk | hk
      · obtain ⟨h0, h1, h2, h3⟩ := chk_zero.1 hk
        obtain ⟨a, rfl⟩ := Int.eq_ofNat_of_zero_le h0
        obtain ⟨d, rfl⟩ := Int.eq_ofNat_of_zero_le h1
        have hle : a + d ≤ m := by omega
        have HMC := Lib.hid hy.count
        have HNC := Lib.hid hx.count
        have HLE : Hid (a + d ≤ ys.length) := Lib.hid (by have := HMC.out; omega)
        have HC := Lib.hid hk
        clear hk h0 h1 h2 h3
        go_enter Try.func8, Try.ntmps8
        go_wp2_with fail
        refine (ref_small_x (r := true) (by simp; omega) (by omega) _).mono ?_
        rintro e w1 ⟨rfl, b1⟩
        have k1 := k0.step b1 (by first | exact .inl rfl | exact .inr rfl)
        clear k0 b1
        obtain ⟨x0, x1, x2⟩ := k1.cells
        go_wp2_with fail
        refine (few_x (r := true) (by simp; omega) (by omega) _).mono ?_
        rintro e w2 ⟨rfl, rfl⟩
        go_wp2_with fail
        refine (papply_yes hle (by omega) (by omega) rfl _ (hx.keep k1.below) (hy.keep k1.below)).mono ?_
        rintro e w2 ⟨C, p, g, rfl, l2, b2⟩
        have k2 := k1.step b2 (by first | exact .inl rfl | exact .inr rfl)
        have HP : Hid (p = m - d + n) := Lib.hid (by rw [l2.count, und_length HLE.out HMC.out HNC.out])
        have hp2 : p ≤ 100 := by have := HP.out; omega
        have hp3 : a + n ≤ p := by have := HP.out; omega
        have hpc := l2.cap
        have hpm := l2.max
        have hx2 := hx.keep k2.below
        have hy2 := hy.keep k2.below
        clear k1 b2 x0 x1 x2
        obtain ⟨x0, x1, x2⟩ := k2.cells
        go_wp2_with fail
        refine (pinvert_yes hle (by omega) (by omega) rfl _ hx2 hy2).mono ?_
        rintro e w3 ⟨D, p', g', rfl, l3, b3⟩
        have hp' : p' = d := by have := HMC.out; rw [l3.count]; simp; omega
        subst hp'
        have k3 := (k2.step b3 (by first | exact .inl rfl | exact .inr rfl)).alloc (.cells #[.int .i64 a, .int .i64 n, .slice D p' g'] 24)
        have kA := Bx.fresh (k2.step b3 (by first | exact .inl rfl | exact .inr rfl)).below (.int .i64 a) (.int .i64 n) (.slice D p' g') 24
        have l2a := (l2.keep b3).keep ((Below.refl _ _).alloc (Nat.le_refl _) (.cells #[.int .i64 a, .int .i64 n, .slice D p' g'] 24))
        have l3a := l3.keep ((Below.refl _ _).alloc (Nat.le_refl _) (.cells #[.int .i64 a, .int .i64 n, .slice D p' g'] 24))
        clear k2 b3 x0 x1 x2 l2 l3 hx2 hy2
        obtain ⟨x0, x1, x2⟩ := k3.cells
        go_wp2_with fail
        refine (pcheck_x HC.out HA.out HD.out (nat_wf m (by omega)) hn _).mono ?_
        rintro e w4 ⟨rfl, b4⟩
        have k4 := k3.step b4 (by first | exact .inl rfl | exact .inr rfl)
        have kA4 := kA.step b4 (by first | exact .inl rfl | exact .inr rfl)
        have l2b := l2a.keep b4
        have l3b := l3a.keep b4
        clear k3 kA b4 x0 x1 x2 l2a l3a
        obtain ⟨x0, x1, x2⟩ := kA4.cells
        go_wp2_with fail
        refine (papply_yes hp3 (by omega) hp2 (und_back HLE.out HMC.out HNC.out) _ l3b l2b).mono ?_
        rintro e w5 ⟨G, s, t, rfl, l5, b5⟩
        have k5 := k4.step b5 (by first | exact .inl rfl | exact .inr rfl)
        have kA5 := kA4.step b5 (by first | exact .inl rfl | exact .inr rfl)
        have l2c := l2b.keep b5
        have l3c := l3b.keep b5
        clear k4 kA4 b5 x0 x1 x2 l2b l3b
        obtain ⟨x0, x1, x2⟩ := kA5.cells
        go_wp2_with fail
        refine (pinvert_yes hp3 (by omega) hp2 (und_cut HLE.out HMC.out HNC.out) _ l3c l2c).mono ?_
        rintro e w6 ⟨L, s', t', rfl, l6, b6⟩
        have k6 := (k5.step b6 (by first | exact .inl rfl | exact .inr rfl)).alloc (.cells #[.int .i64 a, .int .i64 p', .slice L s' t'] 24)
        have kB := Bx.fresh (k5.step b6 (by first | exact .inl rfl | exact .inr rfl)).below (.int .i64 a) (.int .i64 p') (.slice L s' t') 24
        have l5a := (l5.keep b6).keep ((Below.refl _ _).alloc (Nat.le_refl _) (.cells #[.int .i64 a, .int .i64 p', .slice L s' t'] 24))
        have l6a := l6.keep ((Below.refl _ _).alloc (Nat.le_refl _) (.cells #[.int .i64 a, .int .i64 p', .slice L s' t'] 24))
        have hx6 := hx.keep k6.below
        have hy6 := hy.keep k6.below
        clear k5 kA5 b6 x0 x1 x2 l2c l3c l5 l6
        obtain ⟨x0, x1, x2⟩ := k6.cells
        obtain ⟨y0, y1, y2⟩ := kB.cells
        go_wp2_with fail
        refine (ref_equal_x (b := true) (by simp) l5a hy6).mono ?_
        rintro e w7 ⟨rfl, d7⟩
        have k7 := k6.step (d7.below _) (by first | exact .inl rfl | exact .inr rfl)
        have kB7 := kB.step (d7.below _) (by first | exact .inl rfl | exact .inr rfl)
        have l6b := l6a.drawn d7
        have hx7 := hx6.drawn d7
        clear k6 kB d7 x0 x1 x2 y0 y1 y2 l6a hx6 l5a hy6
        obtain ⟨x0, x1, x2⟩ := k7.cells
        obtain ⟨y0, y1, y2⟩ := kB7.cells
        go_wp2_with fail
        refine (ref_same_x (r := true) (by simp) _ l6b hx7).mono ?_
        rintro e w8 ⟨rfl, b8⟩
        have k8 := k7.step b8 (by first | exact .inl rfl | exact .inr rfl)
        clear k7 kB7 b8 x0 x1 x2 y0 y1 y2 l6b hx7
        obtain ⟨x0, x1, x2⟩ := k8.cells
        have r1 : IntKind.i64.wrap ((m : Int) - (p' : Int)) = (m : Int) - (p' : Int) := IntWalk.i64_in _ (by omega)
        have r2 : IntKind.i64.wrap ((m : Int) - (p' : Int) + (n : Int)) = (m : Int) - (p' : Int) + (n : Int) := IntWalk.i64_in _ (by omega)
        have r3 : ((p : Int) == (m : Int) - (p' : Int) + (n : Int)) = true := by have := HP.out; rw [beq_iff_eq]; omega
        go_wp2_with fail
        refine (alive_any _).mono ?_
        rintro e w9 ⟨rfl, b9⟩
        have k9 := k8.step b9 (by first | exact .inl rfl | exact .inr rfl)
        go_wp2_with fail
        go_ret
        exact ⟨rfl, k9.below⟩
      · have H := Lib.hid hk
        clear hk
        go_enter Try.func8, Try.ntmps8
        go_wp2_with fail
        refine (ref_small_x (r := true) (by simp; omega) (by omega) _).mono ?_
        rintro e w1 ⟨rfl, b1⟩
        have k1 := k0.step b1 (by first | exact .inl rfl | exact .inr rfl)
        clear k0 b1
        obtain ⟨x0, x1, x2⟩ := k1.cells
        go_wp2_with fail
        refine (few_x (r := true) (by simp; omega) (by omega) _).mono ?_
        rintro e w2 ⟨rfl, rfl⟩
        go_wp2_with fail
        refine (papply_no H.out HA.out HD.out hn (by omega) _ (hx.keep k1.below) (hy.keep k1.below)).mono ?_
        rintro e w2 ⟨C, p, g, rfl, l2, b2⟩
        have k2 := k1.step b2 (by first | exact .inl rfl | exact .inr rfl)
        obtain rfl : p = 0 := l2.count
        have hx2 := hx.keep k2.below
        have hy2 := hy.keep k2.below
        clear k1 b2 x0 x1 x2
        obtain ⟨x0, x1, x2⟩ := k2.cells
        go_wp2_with fail
        refine (pinvert_no H.out HA.out HD.out hn (by omega) _ hx2 hy2).mono ?_
        rintro e w3 ⟨D, p', g', rfl, l3, b3⟩
        have k3 := (k2.step b3 (by first | exact .inl rfl | exact .inr rfl)).alloc (.cells #[.int .i64 0, .int .i64 0, .slice D p' g'] 24)
        clear k2 b3 x0 x1 x2 l3 hx2 hy2
        obtain ⟨x0, x1, x2⟩ := k3.cells
        go_wp2_with fail
        refine (pcheck_x H.out HA.out HD.out (nat_wf m (by omega)) hn _).mono ?_
        rintro e w4 ⟨rfl, b4⟩
        have k4 := k3.step b4 (by first | exact .inl rfl | exact .inr rfl)
        clear k3 b4 x0 x1 x2
        go_wp2_with fail
        refine (alive_any _).mono ?_
        rintro e w5 ⟨rfl, b5⟩
        have k5 := k4.step b5 (by first | exact .inl rfl | exact .inr rfl)
        go_wp2_with fail
        go_ret
        exact ⟨rfl, k5.below⟩
end Go.Proofs.Ytlgbdigpjobpoaa.Ed
