/-
  The walk of EditsMerges.
-/
import Derived.Test.YtlgbdigpjobpoaaEdWalkB
namespace Go.Proofs.Ytlgbdigpjobpoaa.Ed
open Go.RowKit
set_option linter.unusedVariables false

theorem Bx.fresh_at {w W : World} (h : Below w.heap.size w W) (x y z : Value) (t : TypeId) {g : Nat} (hg : g = W.heap.size) : Bx w (W.alloc (.cells #[x, y, z] t)) g x y z := by
  rw [hg]
  exact Bx.fresh h x y z t
theorem wf_le {a : Int} (h : (Lit.int .i64 a).wf = true) : a ≤ 9223372036854775807 := by
  have h' : -9223372036854775808 ≤ a ∧ a ≤ 9223372036854775807 := by simpa [Lit.wf, IntKind.min, IntKind.max, IntKind.signed, IntKind.bits] using h
  exact h'.2

set_option maxHeartbeats 2000000 in
theorem merges_walk (a d b q : Int) (A B : Option Addr) (n c m f : Nat) (xs ys : List Int) (ha : (Lit.int .i64 a).wf = true) (hd : (Lit.int .i64 d).wf = true) (hb : (Lit.int .i64 b).wf = true) (hq : (Lit.int .i64 q).wf = true) (w : World) (hx : Sl w A n c 1 (ints xs)) (hy : Sl w B m f 1 (ints ys)) :
    Calls Try.prog 7 #[.agg #[.int .i64 a, .int .i64 d, .slice A n c], .agg #[.int .i64 b, .int .i64 q, .slice B m f]] w (Makes (.bool true) w) := by
  have hcx := hx.cap
  have hmx := hx.max
  have hcy := hy.cap
  have hmy := hy.max
  have HA := Lib.hid ha
  have HD := Lib.hid hd
  have HB := Lib.hid hb
  have HQ := Lib.hid hq
  clear ha hd hb hq
  rcases Nat.lt_or_ge 40 n with hn | hn
  · have k0 := (Bx.new w (.int .i64 a) (.int .i64 d) (.slice A n c) 24).alloc (.cells #[.int .i64 b, .int .i64 q, .slice B m f] 24)
    have f0 := Bx.fresh_at (g := w.heap.size + 1) (Bx.new w (.int .i64 a) (.int .i64 d) (.slice A n c) 24).below (.int .i64 b) (.int .i64 q) (.slice B m f) 24 (by simp)
    go_enter Try.func7, Try.ntmps7
    go_wp2_with fail
    refine (ref_small_x (r := false) (by simp; omega) (by omega) _).mono ?_
    rintro e w1 ⟨rfl, b1⟩
    have k1 := k0.step b1 (by first | exact .inl rfl | exact .inr rfl)
    have f1 := f0.step b1 (by first | exact .inl rfl | exact .inr rfl)
    clear k0 f0 b1
    go_wp2_with fail
    refine (alive_any _).mono ?_
    rintro e w9 ⟨rfl, b9⟩
    have k9 := k1.step b9 (by first | exact .inl rfl | exact .inr rfl)
    go_wp2_with fail
    go_ret
    exact ⟨rfl, k9.below⟩
  · rcases Nat.lt_or_ge 40 m with hm | hm
    · have k0 := (Bx.new w (.int .i64 a) (.int .i64 d) (.slice A n c) 24).alloc (.cells #[.int .i64 b, .int .i64 q, .slice B m f] 24)
      have f0 := Bx.fresh_at (g := w.heap.size + 1) (Bx.new w (.int .i64 a) (.int .i64 d) (.slice A n c) 24).below (.int .i64 b) (.int .i64 q) (.slice B m f) 24 (by simp)
      go_enter Try.func7, Try.ntmps7
      go_wp2_with fail
      refine (ref_small_x (r := true) (by simp; omega) (by omega) _).mono ?_
      rintro e w1 ⟨rfl, b1⟩
      have k1 := k0.step b1 (by first | exact .inl rfl | exact .inr rfl)
      have f1 := f0.step b1 (by first | exact .inl rfl | exact .inr rfl)
      clear k0 f0 b1
      obtain ⟨x0, x1, x2⟩ := k1.cells
      obtain ⟨y0, y1, y2⟩ := f1.cells
      go_wp2_with fail
      refine (ref_small_x (r := false) (by simp; omega) (by omega) _).mono ?_
      rintro e w2 ⟨rfl, b2⟩
      have k2 := k1.step b2 (by first | exact .inl rfl | exact .inr rfl)
      have f2 := f1.step b2 (by first | exact .inl rfl | exact .inr rfl)
      clear k1 f1 b2
      go_wp2_with fail
      refine (alive_any _).mono ?_
      rintro e w9 ⟨rfl, b9⟩
      have k9 := k2.step b9 (by first | exact .inl rfl | exact .inr rfl)
      go_wp2_with fail
      go_ret
      exact ⟨rfl, k9.below⟩
    · by_cases hk : mrg a d n b q
      · obtain ⟨h0, h1, h2, h3⟩ := hk
        obtain ⟨h4, h5, h6, h7⟩ := chk_zero.1 h3
        have hbm := wf_le HB.out
        have hdm' := wf_le HD.out
        obtain ⟨a, rfl⟩ := Int.eq_ofNat_of_zero_le h0
        obtain ⟨d, rfl⟩ := Int.eq_ofNat_of_zero_le h1
        obtain ⟨q, rfl⟩ := Int.eq_ofNat_of_zero_le h5
        obtain ⟨k, rfl⟩ : ∃ k : Nat, b = (a : Int) + (k : Int) := ⟨(b - a).toNat, by omega⟩
        have hle : k + q ≤ n := by omega
        have hw : a + k ≤ 9223372036854775807 := by omega
        have hdm : d ≤ 9223372036854775807 := by omega
        clear h0 h1 h2 h3 h4 h5 h6 h7 hbm hdm'
        have k0 := (Bx.new w (.int .i64 (a : Int)) (.int .i64 (d : Int)) (.slice A n c) 24).alloc (.cells #[.int .i64 ((a : Int) + (k : Int)), .int .i64 (q : Int), .slice B m f] 24)
        have f0 := Bx.fresh_at (g := w.heap.size + 1) (Bx.new w (.int .i64 (a : Int)) (.int .i64 (d : Int)) (.slice A n c) 24).below (.int .i64 ((a : Int) + (k : Int))) (.int .i64 (q : Int)) (.slice B m f) 24 (by simp)
        go_enter Try.func7, Try.ntmps7
        go_wp2_with fail
        refine (ref_small_x (r := true) (by simp; omega) (by omega) _).mono ?_
        rintro e w1 ⟨rfl, b1⟩
        have k1 := k0.step b1 (by first | exact .inl rfl | exact .inr rfl)
        have f1 := f0.step b1 (by first | exact .inl rfl | exact .inr rfl)
        clear k0 f0 b1
        obtain ⟨x0, x1, x2⟩ := k1.cells
        obtain ⟨y0, y1, y2⟩ := f1.cells
        go_wp2_with fail
        refine (ref_small_x (r := true) (by simp; omega) (by omega) _).mono ?_
        rintro e w2 ⟨rfl, b2⟩
        have k2 := k1.step b2 (by first | exact .inl rfl | exact .inr rfl)
        have f2 := f1.step b2 (by first | exact .inl rfl | exact .inr rfl)
        clear k1 f1 b2
        obtain ⟨x0, x1, x2⟩ := k2.cells
        obtain ⟨y0, y1, y2⟩ := f2.cells
        go_wp2_with fail
        refine (pmerge_yes hle hw hdm hn hm rfl _ (hx.keep k2.below) (hy.keep k2.below)).mono ?_
        rintro e w3 ⟨C, p, g, rfl, l3, b3⟩
        have k3 := (k2.step b3 (by first | exact .inl rfl | exact .inr rfl)).alloc (.cells #[.int .i64 (a : Int), .int .i64 (d : Int), .slice C p g] 24)
        have f3 := (f2.step b3 (by first | exact .inl rfl | exact .inr rfl)).alloc (.cells #[.int .i64 (a : Int), .int .i64 (d : Int), .slice C p g] 24)
        have kA := Bx.fresh (k2.step b3 (by first | exact .inl rfl | exact .inr rfl)).below (.int .i64 (a : Int)) (.int .i64 (d : Int)) (.slice C p g) 24
        have l3a := l3.keep ((Below.refl _ _).alloc (Nat.le_refl _) (.cells #[.int .i64 (a : Int), .int .i64 (d : Int), .slice C p g] 24))
        have hx3 := hx.keep k3.below
        have hy3 := hy.keep k3.below
        clear k2 f2 b3 x0 x1 x2 y0 y1 y2 l3
        obtain ⟨x0, x1, x2⟩ := k3.cells
        obtain ⟨y0, y1, y2⟩ := f3.cells
        go_wp2_with fail
        refine (ref_merge_yes a d k q n m c f A B xs ys hle hw _ hx3 hy3 (by omega)).mono ?_
        rintro e w4 ⟨D, p', g', rfl, l4, b4⟩
        have kA4 := (kA.step b4 (by first | exact .inl rfl | exact .inr rfl)).alloc (.cells #[.int .i64 (a : Int), .int .i64 (d : Int), .slice D p' g'] 24)
        have kB := Bx.fresh (kA.step b4 (by first | exact .inl rfl | exact .inr rfl)).below (.int .i64 (a : Int)) (.int .i64 (d : Int)) (.slice D p' g') 24
        have l3b := (l3a.keep b4).keep ((Below.refl _ _).alloc (Nat.le_refl _) (.cells #[.int .i64 (a : Int), .int .i64 (d : Int), .slice D p' g'] 24))
        have l4b := l4.keep ((Below.refl _ _).alloc (Nat.le_refl _) (.cells #[.int .i64 (a : Int), .int .i64 (d : Int), .slice D p' g'] 24))
        clear k3 f3 b4 x0 x1 x2 y0 y1 y2 l3a l4 kA hx3 hy3
        obtain ⟨x0, x1, x2⟩ := kA4.cells
        obtain ⟨y0, y1, y2⟩ := kB.cells
        go_wp2_with fail
        refine (ref_same_x (r := true) (by simp) _ l3b l4b).mono ?_
        rintro e w5 ⟨rfl, b5⟩
        have k5 := kB.step b5 (by first | exact .inl rfl | exact .inr rfl)
        clear kA4 kB b5 x0 x1 x2 y0 y1 y2
        go_wp2_with fail
        refine (alive_any _).mono ?_
        rintro e w9 ⟨rfl, b9⟩
        have k9 := k5.step b9 (by first | exact .inl rfl | exact .inr rfl)
        go_wp2_with fail
        go_ret
        exact ⟨rfl, k9.below⟩
      · have H := Lib.hid hk
        clear hk
        have k0 := (Bx.new w (.int .i64 a) (.int .i64 d) (.slice A n c) 24).alloc (.cells #[.int .i64 b, .int .i64 q, .slice B m f] 24)
        have f0 := Bx.fresh_at (g := w.heap.size + 1) (Bx.new w (.int .i64 a) (.int .i64 d) (.slice A n c) 24).below (.int .i64 b) (.int .i64 q) (.slice B m f) 24 (by simp)
        go_enter Try.func7, Try.ntmps7
        go_wp2_with fail
        refine (ref_small_x (r := true) (by simp; omega) (by omega) _).mono ?_
        rintro e w1 ⟨rfl, b1⟩
        have k1 := k0.step b1 (by first | exact .inl rfl | exact .inr rfl)
        have f1 := f0.step b1 (by first | exact .inl rfl | exact .inr rfl)
        clear k0 f0 b1
        obtain ⟨x0, x1, x2⟩ := k1.cells
        obtain ⟨y0, y1, y2⟩ := f1.cells
        go_wp2_with fail
        refine (ref_small_x (r := true) (by simp; omega) (by omega) _).mono ?_
        rintro e w2 ⟨rfl, b2⟩
        have k2 := k1.step b2 (by first | exact .inl rfl | exact .inr rfl)
        have f2 := f1.step b2 (by first | exact .inl rfl | exact .inr rfl)
        clear k1 f1 b2
        obtain ⟨x0, x1, x2⟩ := k2.cells
        obtain ⟨y0, y1, y2⟩ := f2.cells
        go_wp2_with fail
        refine (pmerge_no H.out HA.out HD.out HB.out HQ.out hn hm _ (hx.keep k2.below) (hy.keep k2.below)).mono ?_
        rintro e w3 ⟨C, p, g, rfl, l3, b3⟩
        have k3 := (k2.step b3 (by first | exact .inl rfl | exact .inr rfl)).alloc (.cells #[.int .i64 0, .int .i64 0, .slice C p g] 24)
        have f3 := (f2.step b3 (by first | exact .inl rfl | exact .inr rfl)).alloc (.cells #[.int .i64 0, .int .i64 0, .slice C p g] 24)
        have kA := Bx.fresh (k2.step b3 (by first | exact .inl rfl | exact .inr rfl)).below (.int .i64 0) (.int .i64 0) (.slice C p g) 24
        have l3a := l3.keep ((Below.refl _ _).alloc (Nat.le_refl _) (.cells #[.int .i64 0, .int .i64 0, .slice C p g] 24))
        have hx3 := hx.keep k3.below
        have hy3 := hy.keep k3.below
        clear k2 f2 b3 x0 x1 x2 y0 y1 y2 l3
        obtain ⟨x0, x1, x2⟩ := k3.cells
        obtain ⟨y0, y1, y2⟩ := f3.cells
        go_wp2_with fail
        refine (ref_merge_no a d b q A B n m c f H.out HB.out (by omega) _).mono ?_
        rintro e w4 ⟨D, p', g', rfl, l4, b4⟩
        have kA4 := (kA.step b4 (by first | exact .inl rfl | exact .inr rfl)).alloc (.cells #[.int .i64 0, .int .i64 0, .slice D p' g'] 24)
        have kB := Bx.fresh (kA.step b4 (by first | exact .inl rfl | exact .inr rfl)).below (.int .i64 0) (.int .i64 0) (.slice D p' g') 24
        have l3b := (l3a.keep b4).keep ((Below.refl _ _).alloc (Nat.le_refl _) (.cells #[.int .i64 0, .int .i64 0, .slice D p' g'] 24))
        have l4b := l4.keep ((Below.refl _ _).alloc (Nat.le_refl _) (.cells #[.int .i64 0, .int .i64 0, .slice D p' g'] 24))
        clear k3 f3 b4 x0 x1 x2 y0 y1 y2 l3a l4 kA hx3 hy3
        obtain ⟨x0, x1, x2⟩ := kA4.cells
        obtain ⟨y0, y1, y2⟩ := kB.cells
        go_wp2_with fail
        refine (ref_same_x (r := true) (by simp) _ l3b l4b).mono ?_
        rintro e w5 ⟨rfl, b5⟩
        have k5 := kB.step b5 (by first | exact .inl rfl | exact .inr rfl)
        clear kA4 kB b5 x0 x1 x2 y0 y1 y2
        go_wp2_with fail
        refine (alive_any _).mono ?_
        rintro e w9 ⟨rfl, b9⟩
        have k9 := k5.step b9 (by first | exact .inl rfl | exact .inr rfl)
        go_wp2_with fail
        go_ret
        exact ⟨rfl, k9.below⟩
end Go.Proofs.Ytlgbdigpjobpoaa.Ed
