/-
  The walk of EditsTurns.
-/
import Derived.Test.YtlgbdigpjobpoaaEdOpen
import Derived.Test.YtlgbdigpjobpoaaEdMath2
namespace Go.Proofs.Ytlgbdigpjobpoaa.Ed
open Go.RowKit
set_option linter.unusedVariables false

section
variable {p s n m D N : Nat} {xs ys zs : List Int}
theorem tu_all (hp : pre xs ys = p) (hs : suf xs ys = s) (hn : n = xs.length) (hm : m = ys.length) (hD : p + D + s = n) (hN : p + N + s = m) :
    ((n : Int) - (suf xs ys : Nat) - (p : Nat) = (D : Int)) ∧ (xs.take p ++ (ys.drop p).take (m - suf xs ys - p) ++ xs.drop (p + D) = ys) := by
  refine ⟨by rw [hs]; omega, ?_⟩
  have := turn (xs := xs) (ys := ys)
  rw [hp, hs, ← hm, ← hn, show n - s = p + D by omega] at this
  rw [hs]
  exact this
theorem tu_at (hm : m = ys.length) (hN : p + N + s = m) (hz : (ys.drop p).take N = zs) {j : Nat} (hj : j < N) : zs.getD j 0 = ys.getD (p + j) 0 := by
  subst hz
  have h1 : p + j < ys.length := by omega
  simp [List.getD, hj]
theorem tu_first (hp : pre xs ys = p) (hn : n = xs.length) (hm : m = ys.length) (h1 : p < n) (h2 : p < m) : ¬ xs.getD p 0 = ys.getD p 0 := by
  have := first_ne (xs := xs) (ys := ys) (by omega) (by omega)
  rw [hp] at this
  exact this
theorem tu_last (hp : pre xs ys = p) (hs : suf xs ys = s) (hn : n = xs.length) (hm : m = ys.length) (hD : p + D + s = n) (hN : p + N + s = m) (h1 : 0 < D) (h2 : 0 < N) : ¬ xs.getD (p + D - 1) 0 = ys.getD (p + (N - 1)) 0 := by
  have := last_ne (xs := xs) (ys := ys) (by omega) (by omega)
  rw [hs, ← hn, ← hm, show n - 1 - s = p + D - 1 by omega, show m - 1 - s = p + (N - 1) by omega] at this
  exact this
theorem tu_same (hp : pre xs ys = p) (hs : suf xs ys = s) (hn : n = xs.length) (hm : m = ys.length) (hD : p + D + s = n) (hN : p + N + s = m) (h : xs = ys) : D = 0 ∧ N = 0 ∧ p = n := by
  subst h
  rw [pre_self] at hp
  rw [suf_self] at hs
  omega
end

set_option maxRecDepth 100000 in
set_option maxHeartbeats 4000000 in
theorem turns_walk (A B : Option Addr) (n m c f : Nat) (xs ys : List Int) (w : World) (hx : Sl w A n c 1 (ints xs)) (hy : Sl w B m f 1 (ints ys)) : Calls Try.prog 9 #[.slice A n c, .slice B m f] w (Makes (.bool true) w) := by
  have hcx := hx.cap
  have hmx := hx.max
  have hcy := hy.cap
  have hmy := hy.max
  rcases Nat.lt_or_ge 60 n with hn | hn
  · go_enter Try.func9, Try.ntmps9
    go_wp2_with fail
    refine (few_x (r := false) (by simp; omega) (by omega) _).mono ?_
    rintro e w1 ⟨rfl, rfl⟩
    go_wp2_with fail
    refine (alive_any _).mono ?_
    rintro e w9 ⟨rfl, b9⟩
    go_wp2_with fail
    go_ret
    exact ⟨rfl, b9⟩
  · rcases Nat.lt_or_ge 60 m with hm | hm
    · go_enter Try.func9, Try.ntmps9
      go_wp2_with fail
      refine (few_x (r := true) (by simp; omega) (by omega) _).mono ?_
      rintro e w1 ⟨rfl, rfl⟩
      go_wp2_with fail
      refine (few_x (r := false) (by simp; omega) (by omega) _).mono ?_
      rintro e w1 ⟨rfl, rfl⟩
      go_wp2_with fail
      refine (alive_any _).mono ?_
      rintro e w9 ⟨rfl, b9⟩
      go_wp2_with fail
      go_ret
      exact ⟨rfl, b9⟩
    · have hle := suf_le xs ys
      obtain ⟨p, hp⟩ : ∃ p, pre xs ys = p := ⟨_, rfl⟩
      obtain ⟨s, hs⟩ : ∃ s, suf xs ys = s := ⟨_, rfl⟩
      have hcn := hx.count
      have hcm := hy.count
      rw [hp, hs, ← hcn, ← hcm] at hle
      obtain ⟨D, hD⟩ : ∃ D, p + D + s = n := ⟨n - s - p, by omega⟩
      obtain ⟨N, hN⟩ : ∃ N, p + N + s = m := ⟨m - s - p, by omega⟩
      obtain ⟨zs, hz⟩ : ∃ zs, (ys.drop p).take (m - suf xs ys - p) = zs := ⟨_, rfl⟩
      have HP := Lib.hid hp
      have HS := Lib.hid hs
      have HCN := Lib.hid hcn
      have HCM := Lib.hid hcm
      have HD := Lib.hid hD
      have HN := Lib.hid hN
      have hall := tu_all hp hs hcn hcm hD hN
      have HQ := Lib.hid hall.1
      have HT : Hid (xs.take p ++ zs ++ xs.drop (p + D) = ys) := Lib.hid (by rw [← hz]; exact hall.2)
      have hz2 : (ys.drop p).take N = zs := by rw [← hz, hs]; congr 1; omega
      have HZ := Lib.hid hz
      have HZ2 := Lib.hid hz2
      have HLZ : Hid (zs.length = N) := Lib.hid (by rw [← hz2, List.length_take, List.length_drop, ← hcm]; omega)
      have hDn : p + D ≤ n := by omega
      have hN60 : N ≤ 60 := by omega
      clear hall hz hz2 hp hs hcn hcm hle hD hN
      rcases Nat.eq_zero_or_pos D with hD0 | hD0
      · subst hD0
        have q0 : decide ((0 : Int) < 0) = false := by decide
        rcases Decidable.em (xs = ys) with he | he
        · obtain ⟨_, hN0, hpn⟩ := tu_same HP.out HS.out HCN.out HCM.out HD.out HN.out he
          have HEQ := Lib.hid he
          subst hN0
          subst hpn
          have q1 : ((p : Int) == (p : Int)) = true := beq_self_eq_true _
          clear he
          go_enter Try.func9, Try.ntmps9
          go_wp2_with fail
          refine (few_x (r := true) (by simp; omega) (by omega) _).mono ?_
          rintro e w1 ⟨rfl, rfl⟩
          go_wp2_with fail
          refine (few_x (r := true) (by simp; omega) (by omega) _).mono ?_
          rintro e w1 ⟨rfl, rfl⟩
          go_wp2_with fail
          refine (pdiff_x HP.out HQ.out HZ.out (by omega) (by omega) _ hx hy).mono ?_
          rintro e w2 ⟨C, r, g, rfl, l2, b2⟩
          obtain rfl : r = 0 := by rw [l2.count, HLZ.out]
          have lb : Below w2.heap.size w2 (w2.alloc (.cells #[.int .i64 (p : Int), .int .i64 0, .slice C 0 g] 24)) := (Below.refl _ _).alloc (Nat.le_refl _) _
          have k2 := Bx.fresh b2 (.int .i64 (p : Int)) (.int .i64 0) (.slice C 0 g) 24
          have hx2 := hx.keep k2.below
          have hy2 := hy.keep k2.below
          have l2a := l2.keep lb
          clear lb b2
          obtain ⟨x0, x1, x2⟩ := k2.cells
          go_wp2_with fail
          refine (papply_yes (a := p) (d := 0) hDn (by omega) (by omega) HT.out _ l2a hx2).mono ?_
          rintro e w3 ⟨E, r', g', rfl, l3, b3⟩
          have k3 := k2.step b3 (by first | exact .inl rfl | exact .inr rfl)
          have hx3 := hx2.keep b3
          have hy3 := hy2.keep b3
          have l2b := l2a.keep b3
          clear x0 x1 x2 k2 hx2 hy2 l2a b3
          obtain ⟨x0, x1, x2⟩ := k3.cells
          go_wp2_with fail
          refine (ref_equal_x (b := true) (by simp) l3 hy3).mono ?_
          rintro e w4 ⟨rfl, d4⟩
          have k4 := k3.step (d4.below _) (by first | exact .inl rfl | exact .inr rfl)
          have hx4 := hx3.drawn d4
          have hy4 := hy3.drawn d4
          have l2c := l2b.drawn d4
          clear x0 x1 x2 k3 hx3 hy3 l2b l3 d4
          obtain ⟨x0, x1, x2⟩ := k4.cells
          go_wp2_with fail
          go_quiet (fail)
          go_wp2_with fail
          refine (ref_equal_x (b := true) (by simp [HEQ.out]) (hx4.drawn ⟨_, rfl⟩) (hy4.drawn ⟨_, rfl⟩)).mono ?_
          rintro e w5 ⟨rfl, d5⟩
          obtain ⟨nq, rfl⟩ := d5
          go_wp2_with fail
          refine (alive_any _).mono ?_
          rintro e w6 ⟨rfl, b6⟩
          go_wp2_with fail
          go_ret
          exact ⟨rfl, k4.below.trans ((show Below w4.heap.size w4 _ from ⟨b6.os, b6.tape, b6.output, b6.size, b6.block⟩).mono k4.below.size)⟩
        · have HEQ := Lib.hid he
          clear he
          go_enter Try.func9, Try.ntmps9
          go_wp2_with fail
          refine (few_x (r := true) (by simp; omega) (by omega) _).mono ?_
          rintro e w1 ⟨rfl, rfl⟩
          go_wp2_with fail
          refine (few_x (r := true) (by simp; omega) (by omega) _).mono ?_
          rintro e w1 ⟨rfl, rfl⟩
          go_wp2_with fail
          refine (pdiff_x HP.out HQ.out HZ.out (by omega) (by omega) _ hx hy).mono ?_
          rintro e w2 ⟨C, r, g, rfl, l2, b2⟩
          have hr : r = N := by rw [l2.count, HLZ.out]
          subst hr
          have lb : Below w2.heap.size w2 (w2.alloc (.cells #[.int .i64 (p : Int), .int .i64 0, .slice C r g] 24)) := (Below.refl _ _).alloc (Nat.le_refl _) _
          have k2 := Bx.fresh b2 (.int .i64 (p : Int)) (.int .i64 0) (.slice C r g) 24
          have hx2 := hx.keep k2.below
          have hy2 := hy.keep k2.below
          have l2a := l2.keep lb
          clear lb b2
          obtain ⟨x0, x1, x2⟩ := k2.cells
          go_wp2_with fail
          refine (papply_yes (a := p) (d := 0) hDn (by omega) (by omega) HT.out _ l2a hx2).mono ?_
          rintro e w3 ⟨E, r', g', rfl, l3, b3⟩
          have k3 := k2.step b3 (by first | exact .inl rfl | exact .inr rfl)
          have hx3 := hx2.keep b3
          have hy3 := hy2.keep b3
          have l2b := l2a.keep b3
          clear x0 x1 x2 k2 hx2 hy2 l2a b3
          obtain ⟨x0, x1, x2⟩ := k3.cells
          go_wp2_with fail
          refine (ref_equal_x (b := true) (by simp) l3 hy3).mono ?_
          rintro e w4 ⟨rfl, d4⟩
          have k4 := k3.step (d4.below _) (by first | exact .inl rfl | exact .inr rfl)
          have hx4 := hx3.drawn d4
          have hy4 := hy3.drawn d4
          have l2c := l2b.drawn d4
          clear x0 x1 x2 k3 hx3 hy3 l2b l3 d4
          obtain ⟨x0, x1, x2⟩ := k4.cells
          go_wp2_with fail
          go_quiet (fail)
          go_wp2_with fail
          refine (ref_equal_x (b := false) (by rw [decide_eq_false_iff_not]; exact HEQ.out) (hx4.drawn ⟨_, rfl⟩) (hy4.drawn ⟨_, rfl⟩)).mono ?_
          rintro e w5 ⟨rfl, d5⟩
          obtain ⟨nq, rfl⟩ := d5
          go_wp2_with fail
          refine (alive_any _).mono ?_
          rintro e w6 ⟨rfl, b6⟩
          go_wp2_with fail
          go_ret
          exact ⟨rfl, k4.below.trans ((show Below w4.heap.size w4 _ from ⟨b6.os, b6.tape, b6.output, b6.size, b6.block⟩).mono k4.below.size)⟩
      · have HEQ : Hid (¬ xs = ys) := Lib.hid (fun he => by have := tu_same HP.out HS.out HCN.out HCM.out HD.out HN.out he; omega)
        rcases Nat.eq_zero_or_pos N with hN0 | hN0
        · subst hN0
          go_enter Try.func9, Try.ntmps9
          go_wp2_with fail
          refine (few_x (r := true) (by simp; omega) (by omega) _).mono ?_
          rintro e w1 ⟨rfl, rfl⟩
          go_wp2_with fail
          refine (few_x (r := true) (by simp; omega) (by omega) _).mono ?_
          rintro e w1 ⟨rfl, rfl⟩
          go_wp2_with fail
          refine (pdiff_x HP.out HQ.out HZ.out (by omega) (by omega) _ hx hy).mono ?_
          rintro e w2 ⟨C, r, g, rfl, l2, b2⟩
          obtain rfl : r = 0 := by rw [l2.count, HLZ.out]
          have lb : Below w2.heap.size w2 (w2.alloc (.cells #[.int .i64 (p : Int), .int .i64 (D : Int), .slice C 0 g] 24)) := (Below.refl _ _).alloc (Nat.le_refl _) _
          have k2 := Bx.fresh b2 (.int .i64 (p : Int)) (.int .i64 (D : Int)) (.slice C 0 g) 24
          have hx2 := hx.keep k2.below
          have hy2 := hy.keep k2.below
          have l2a := l2.keep lb
          clear lb b2
          obtain ⟨x0, x1, x2⟩ := k2.cells
          go_wp2_with fail
          refine (papply_yes (a := p) (d := D) hDn (by omega) (by omega) HT.out _ l2a hx2).mono ?_
          rintro e w3 ⟨E, r', g', rfl, l3, b3⟩
          have k3 := k2.step b3 (by first | exact .inl rfl | exact .inr rfl)
          have hx3 := hx2.keep b3
          have hy3 := hy2.keep b3
          have l2b := l2a.keep b3
          clear x0 x1 x2 k2 hx2 hy2 l2a b3
          obtain ⟨x0, x1, x2⟩ := k3.cells
          go_wp2_with fail
          refine (ref_equal_x (b := true) (by simp) l3 hy3).mono ?_
          rintro e w4 ⟨rfl, d4⟩
          have k4 := k3.step (d4.below _) (by first | exact .inl rfl | exact .inr rfl)
          have hx4 := hx3.drawn d4
          have hy4 := hy3.drawn d4
          have l2c := l2b.drawn d4
          clear x0 x1 x2 k3 hx3 hy3 l2b l3 d4
          obtain ⟨x0, x1, x2⟩ := k4.cells
          go_wp2_with fail
          go_quiet (fail)
          go_wp2_with fail
          refine (ref_equal_x (b := false) (by rw [decide_eq_false_iff_not]; exact HEQ.out) (hx4.drawn ⟨_, rfl⟩) (hy4.drawn ⟨_, rfl⟩)).mono ?_
          rintro e w5 ⟨rfl, d5⟩
          obtain ⟨nq, rfl⟩ := d5
          go_wp2_with fail
          refine (alive_any _).mono ?_
          rintro e w6 ⟨rfl, b6⟩
          go_wp2_with fail
          go_ret
          exact ⟨rfl, k4.below.trans ((show Below w4.heap.size w4 _ from ⟨b6.os, b6.tape, b6.output, b6.size, b6.block⟩).mono k4.below.size)⟩
        · have F1 := Lib.hid (tu_first HP.out HCN.out HCM.out (by have := HD.out; omega) (by have := HN.out; omega))
          have F2 := Lib.hid (tu_last HP.out HS.out HCN.out HCM.out HD.out HN.out hD0 hN0)
          have Z1 := Lib.hid (tu_at HCM.out HN.out HZ2.out (j := 0) hN0)
          have Z2 := Lib.hid (tu_at HCM.out HN.out HZ2.out (j := N - 1) (by omega))
          go_enter Try.func9, Try.ntmps9
          go_wp2_with fail
          refine (few_x (r := true) (by simp; omega) (by omega) _).mono ?_
          rintro e w1 ⟨rfl, rfl⟩
          go_wp2_with fail
          refine (few_x (r := true) (by simp; omega) (by omega) _).mono ?_
          rintro e w1 ⟨rfl, rfl⟩
          go_wp2_with fail
          refine (pdiff_x HP.out HQ.out HZ.out (by omega) (by omega) _ hx hy).mono ?_
          rintro e w2 ⟨C, r, g, rfl, l2, b2⟩
          have hr : r = N := by rw [l2.count, HLZ.out]
          subst hr
          have lb : Below w2.heap.size w2 (w2.alloc (.cells #[.int .i64 (p : Int), .int .i64 (D : Int), .slice C r g] 24)) := (Below.refl _ _).alloc (Nat.le_refl _) _
          have k2 := Bx.fresh b2 (.int .i64 (p : Int)) (.int .i64 (D : Int)) (.slice C r g) 24
          have hx2 := hx.keep k2.below
          have hy2 := hy.keep k2.below
          have l2a := l2.keep lb
          clear lb b2
          obtain ⟨x0, x1, x2⟩ := k2.cells
          go_wp2_with fail
          refine (papply_yes (a := p) (d := D) hDn (by omega) (by omega) HT.out _ l2a hx2).mono ?_
          rintro e w3 ⟨E, r', g', rfl, l3, b3⟩
          have k3 := k2.step b3 (by first | exact .inl rfl | exact .inr rfl)
          have hx3 := hx2.keep b3
          have hy3 := hy2.keep b3
          have l2b := l2a.keep b3
          clear x0 x1 x2 k2 hx2 hy2 l2a b3
          obtain ⟨x0, x1, x2⟩ := k3.cells
          go_wp2_with fail
          refine (ref_equal_x (b := true) (by simp) l3 hy3).mono ?_
          rintro e w4 ⟨rfl, d4⟩
          have k4 := k3.step (d4.below _) (by first | exact .inl rfl | exact .inr rfl)
          have hx4 := hx3.drawn d4
          have hy4 := hy3.drawn d4
          have l2c := l2b.drawn d4
          clear x0 x1 x2 k3 hx3 hy3 l2b l3 d4
          obtain ⟨x0, x1, x2⟩ := k4.cells
          go_wp2_with fail
          have i0 : (p : Int) < (n : Int) := by omega
          have i1 : IntKind.i64.wrap ((p : Int) + (D : Int)) = (p : Int) + (D : Int) := IntWalk.i64_in _ (by omega)
          have i2 : IntKind.i64.wrap ((p : Int) + (D : Int) - 1) = (p : Int) + (D : Int) - 1 := IntWalk.i64_in _ (by omega)
          have hrn : r ≤ 60 := by have := HN.out; omega
          have i3 : IntKind.i64.wrap ((r : Int) - 1) = (r : Int) - 1 := IntWalk.i64_in _ (by omega)
          have i4 : ((p : Int) + (D : Int) - 1).toNat = p + D - 1 := by omega
          have i5 : ((r : Int) - 1).toNat = r - 1 := by omega
          have i6 : (0 : Int) ≤ (p : Int) + (D : Int) - 1 := by omega
          have i6' : (1 : Int) ≤ (p : Int) + (D : Int) := by omega
          have i7 : (p : Int) + (D : Int) - 1 < (n : Int) := by omega
          have i8 : (0 : Int) ≤ (r : Int) - 1 := by omega
          have i8' : (1 : Int) ≤ (r : Int) := by omega
          have i9 : (r : Int) - 1 < (r : Int) := by omega
          have i10 : (0 : Int) < (r : Int) := by omega
          have i11 : (0 : Int) < (D : Int) := by omega
          have hcg := l2c.cap
          obtain ⟨bx, ox, eA, _, c1⟩ := hx4.int_at (k := p) (by omega)
          cases eA
          obtain ⟨_, _, eA, _, c2⟩ := hx4.int_at (k := p + D - 1) (by omega)
          cases eA
          obtain ⟨bz, oz, eC, _, c3⟩ := l2c.int_at (k := 0) (by omega)
          cases eC
          obtain ⟨_, _, eC, _, c4⟩ := l2c.int_at (k := r - 1) (by omega)
          cases eC
          rw [Nat.add_zero] at c3
          obtain ⟨u1, hu1⟩ : ∃ u, xs.getD p 0 = u := ⟨_, rfl⟩
          obtain ⟨u2, hu2⟩ : ∃ u, xs.getD (p + D - 1) 0 = u := ⟨_, rfl⟩
          obtain ⟨v1, hv1⟩ : ∃ u, zs.getD 0 0 = u := ⟨_, rfl⟩
          obtain ⟨v2, hv2⟩ : ∃ u, zs.getD (r - 1) 0 = u := ⟨_, rfl⟩
          rw [hu1] at c1
          rw [hu2] at c2
          rw [hv1] at c3
          rw [hv2] at c4
          have e1 : (u1 == v1) = false := by rw [beq_eq_false_iff_ne, ← hu1, ← hv1, Z1.out]; exact F1.out
          have e2 : (u2 == v2) = false := by rw [beq_eq_false_iff_ne, ← hu2, ← hv2, Z2.out]; exact F2.out
          clear hu1 hu2 hv1 hv2
          go_quiet (fail)
          clear i1 i2 i3 i4 i5
          go_wp2_with fail
          refine (ref_equal_x (b := false) (by rw [decide_eq_false_iff_not]; exact HEQ.out) (hx4.drawn ⟨_, rfl⟩) (hy4.drawn ⟨_, rfl⟩)).mono ?_
          rintro e w5 ⟨rfl, d5⟩
          obtain ⟨nq, rfl⟩ := d5
          go_wp2_with fail
          refine (alive_any _).mono ?_
          rintro e w6 ⟨rfl, b6⟩
          go_wp2_with fail
          go_ret
          exact ⟨rfl, k4.below.trans ((show Below w4.heap.size w4 _ from ⟨b6.os, b6.tape, b6.output, b6.size, b6.block⟩).mono k4.below.size)⟩
end Go.Proofs.Ytlgbdigpjobpoaa.Ed
