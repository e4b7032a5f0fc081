/-
  The walk of EditsTwice.
-/
import Derived.Test.YtlgbdigpjobpoaaEdWalkF
namespace Go.Proofs.Ytlgbdigpjobpoaa.Ed
open Go.RowKit
set_option linter.unusedVariables false

theorem twice_same {a d n l k q : Nat} {xs ys zs : List Int} (h : a + d ≤ zs.length) (hl : l = zs.length) (hn : n = xs.length) (hk : k + q ≤ n) :
    (zs.take a ++ xs ++ zs.drop (a + d)).take (a + k) ++ ys ++ (zs.take a ++ xs ++ zs.drop (a + d)).drop (a + k + q) = zs.take a ++ (xs.take k ++ ys ++ xs.drop (k + q)) ++ zs.drop (a + d) := by
  have h1 : (zs.take a).length = a := by simp; omega
  have e1 : (zs.take a ++ xs ++ zs.drop (a + d)).take (a + k) = zs.take a ++ xs.take k := by
    rw [List.append_assoc, List.take_append, h1, List.take_of_length_le (by omega), Nat.add_sub_cancel_left, List.take_append_of_le_length (by omega)]
  have e2 : (zs.take a ++ xs ++ zs.drop (a + d)).drop (a + k + q) = xs.drop (k + q) ++ zs.drop (a + d) := by
    rw [List.append_assoc, List.drop_append, h1, List.drop_eq_nil_of_le (by omega), List.nil_append, show a + k + q - a = k + q by omega, List.drop_append_of_le_length (by omega)]
  rw [e1, e2]
  simp only [List.append_assoc]

set_option maxHeartbeats 4000000 in
theorem twice_walk (a d b q : Int) (A B C0 : Option Addr) (n c m f l h : Nat) (xs ys zs : List Int) (ha : (Lit.int .i64 a).wf = true) (hd : (Lit.int .i64 d).wf = true) (hb : (Lit.int .i64 b).wf = true) (hq : (Lit.int .i64 q).wf = true) (w : World) (hx : Sl w A n c 1 (ints xs)) (hy : Sl w B m f 1 (ints ys)) (hz : Sl w C0 l h 1 (ints zs)) :
    Calls Try.prog 10 #[.agg #[.int .i64 a, .int .i64 d, .slice A n c], .agg #[.int .i64 b, .int .i64 q, .slice B m f], .slice C0 l h] w (Makes (.bool true) w) := by
  have hcx := hx.cap
  have hmx := hx.max
  have hcy := hy.cap
  have hmy := hy.max
  have hcz := hz.cap
  have hmz := hz.max
  have HA := Lib.hid ha
  have HD := Lib.hid hd
  have HB := Lib.hid hb
  have HQ := Lib.hid hq
  clear ha hd hb hq
  rcases Nat.lt_or_ge 40 n with hn | hn
  · have k0 := (Bx.new w (.int .i64 a) (.int .i64 d) (.slice A n c) 24).alloc (.cells #[.int .i64 b, .int .i64 q, .slice B m f] 24)
    have f0 := Bx.fresh_at (g := w.heap.size + 1) (Bx.new w (.int .i64 a) (.int .i64 d) (.slice A n c) 24).below (.int .i64 b) (.int .i64 q) (.slice B m f) 24 (by simp)
    go_enter Try.func10, Try.ntmps10
    go_wp2_with fail
    refine (ref_small_x (r := false) (by simp; omega) (by omega) _).mono ?_
    rintro e w1 ⟨rfl, b1⟩
    have k1 := k0.step b1 (by first | exact .inl rfl | exact .inr rfl)
    have f1 := f0.step b1 (by first | exact .inl rfl | exact .inr rfl)
    clear k0 f0 b1
    go_wp2_with fail
    refine (alive_any _).mono ?_
    rintro e w9 ⟨rfl, b9⟩
    have k9 := k1.step b9 (by first | exact .inl rfl | exact .inr rfl)
    go_wp2_with fail
    go_ret
    exact ⟨rfl, k9.below⟩
  · rcases Nat.lt_or_ge 40 m with hm | hm
    · have k0 := (Bx.new w (.int .i64 a) (.int .i64 d) (.slice A n c) 24).alloc (.cells #[.int .i64 b, .int .i64 q, .slice B m f] 24)
      have f0 := Bx.fresh_at (g := w.heap.size + 1) (Bx.new w (.int .i64 a) (.int .i64 d) (.slice A n c) 24).below (.int .i64 b) (.int .i64 q) (.slice B m f) 24 (by simp)
      go_enter Try.func10, Try.ntmps10
      go_wp2_with fail
      refine (ref_small_x (r := true) (by simp; omega) (by omega) _).mono ?_
      rintro e w1 ⟨rfl, b1⟩
      have k1 := k0.step b1 (by first | exact .inl rfl | exact .inr rfl)
      have f1 := f0.step b1 (by first | exact .inl rfl | exact .inr rfl)
      clear k0 f0 b1
      obtain ⟨x0, x1, x2⟩ := k1.cells
      obtain ⟨y0, y1, y2⟩ := f1.cells
      go_wp2_with fail
      refine (ref_small_x (r := false) (by simp; omega) (by omega) _).mono ?_
      rintro e w2 ⟨rfl, b2⟩
      have k2 := k1.step b2 (by first | exact .inl rfl | exact .inr rfl)
      have f2 := f1.step b2 (by first | exact .inl rfl | exact .inr rfl)
      clear k1 f1 b2
      go_wp2_with fail
      refine (alive_any _).mono ?_
      rintro e w9 ⟨rfl, b9⟩
      have k9 := k2.step b9 (by first | exact .inl rfl | exact .inr rfl)
      go_wp2_with fail
      go_ret
      exact ⟨rfl, k9.below⟩
    · rcases Nat.lt_or_ge 60 l with hl | hl
      · have k0 := (Bx.new w (.int .i64 a) (.int .i64 d) (.slice A n c) 24).alloc (.cells #[.int .i64 b, .int .i64 q, .slice B m f] 24)
        have f0 := Bx.fresh_at (g := w.heap.size + 1) (Bx.new w (.int .i64 a) (.int .i64 d) (.slice A n c) 24).below (.int .i64 b) (.int .i64 q) (.slice B m f) 24 (by simp)
        go_enter Try.func10, Try.ntmps10
        go_wp2_with fail
        refine (ref_small_x (r := true) (by simp; omega) (by omega) _).mono ?_
        rintro e w1 ⟨rfl, b1⟩
        have k1 := k0.step b1 (by first | exact .inl rfl | exact .inr rfl)
        have f1 := f0.step b1 (by first | exact .inl rfl | exact .inr rfl)
        clear k0 f0 b1
        obtain ⟨x0, x1, x2⟩ := k1.cells
        obtain ⟨y0, y1, y2⟩ := f1.cells
        go_wp2_with fail
        refine (ref_small_x (r := true) (by simp; omega) (by omega) _).mono ?_
        rintro e w2 ⟨rfl, b2⟩
        have k2 := k1.step b2 (by first | exact .inl rfl | exact .inr rfl)
        have f2 := f1.step b2 (by first | exact .inl rfl | exact .inr rfl)
        clear k1 f1 b2
        obtain ⟨x0, x1, x2⟩ := k2.cells
        obtain ⟨y0, y1, y2⟩ := f2.cells
        go_wp2_with fail
        refine (few_x (r := false) (by simp; omega) (by omega) _).mono ?_
        rintro e w9 ⟨rfl, rfl⟩
        go_wp2_with fail
        refine (alive_any _).mono ?_
        rintro e w9 ⟨rfl, b9⟩
        have k9 := k2.step b9 (by first | exact .inl rfl | exact .inr rfl)
        go_wp2_with fail
        go_ret
        exact ⟨rfl, k9.below⟩
      · by_cases hk : mrg a d n b q
        · obtain ⟨h0, h1, h2, h3⟩ := hk
          obtain ⟨h4, h5, h6, h7⟩ := chk_zero.1 h3
          have hbm := wf_le HB.out
          have hdm' := wf_le HD.out
          obtain ⟨a, rfl⟩ := Int.eq_ofNat_of_zero_le h0
          obtain ⟨d, rfl⟩ := Int.eq_ofNat_of_zero_le h1
          obtain ⟨q, rfl⟩ := Int.eq_ofNat_of_zero_le h5
          obtain ⟨k, rfl⟩ : ∃ k : Nat, b = (a : Int) + (k : Int) := ⟨(b - a).toNat, by omega⟩
          have hle : k + q ≤ n := by omega
          have hw : a + k ≤ 9223372036854775807 := by omega
          have hdm : d ≤ 9223372036854775807 := by omega
          clear h0 h1 h2 h3 h4 h5 h6 h7 hbm hdm'
          rcases chk_cases a d l with hc | hc
          · have hle2 : a + d ≤ l := by have := chk_zero.1 hc; omega
            clear hc
            have HLC := Lib.hid hz.count
            have HNC := Lib.hid hx.count
            have HMC := Lib.hid hy.count
            have HLE : Hid (a + d ≤ zs.length) := Lib.hid (by have := HLC.out; omega)
            have k0 := (Bx.new w (.int .i64 (a : Int)) (.int .i64 (d : Int)) (.slice A n c) 24).alloc (.cells #[.int .i64 ((a : Int) + (k : Int)), .int .i64 (q : Int), .slice B m f] 24)
            have f0 := Bx.fresh_at (g := w.heap.size + 1) (Bx.new w (.int .i64 (a : Int)) (.int .i64 (d : Int)) (.slice A n c) 24).below (.int .i64 ((a : Int) + (k : Int))) (.int .i64 (q : Int)) (.slice B m f) 24 (by simp)
            go_enter Try.func10, Try.ntmps10
            go_wp2_with fail
            refine (ref_small_x (r := true) (by simp; omega) (by omega) _).mono ?_
            rintro e w1 ⟨rfl, b1⟩
            have k1 := k0.step b1 (by first | exact .inl rfl | exact .inr rfl)
            have f1 := f0.step b1 (by first | exact .inl rfl | exact .inr rfl)
            clear k0 f0 b1
            obtain ⟨x0, x1, x2⟩ := k1.cells
            obtain ⟨y0, y1, y2⟩ := f1.cells
            go_wp2_with fail
            refine (ref_small_x (r := true) (by simp; omega) (by omega) _).mono ?_
            rintro e w2 ⟨rfl, b2⟩
            have k2 := k1.step b2 (by first | exact .inl rfl | exact .inr rfl)
            have f2 := f1.step b2 (by first | exact .inl rfl | exact .inr rfl)
            clear k1 f1 b2
            obtain ⟨x0, x1, x2⟩ := k2.cells
            obtain ⟨y0, y1, y2⟩ := f2.cells
            go_wp2_with fail
            refine (few_x (r := true) (by simp; omega) (by omega) _).mono ?_
            rintro e w9 ⟨rfl, rfl⟩
            go_wp2_with fail
            refine (pmerge_yes hle hw hdm hn hm rfl _ (hx.keep k2.below) (hy.keep k2.below)).mono ?_
            rintro e w3 ⟨C, p, g, rfl, l3, b3⟩
            have k3 := (k2.step b3 (by first | exact .inl rfl | exact .inr rfl)).alloc (.cells #[.int .i64 (a : Int), .int .i64 (d : Int), .slice C p g] 24)
            have f3 := (f2.step b3 (by first | exact .inl rfl | exact .inr rfl)).alloc (.cells #[.int .i64 (a : Int), .int .i64 (d : Int), .slice C p g] 24)
            have kA := Bx.fresh (k2.step b3 (by first | exact .inl rfl | exact .inr rfl)).below (.int .i64 (a : Int)) (.int .i64 (d : Int)) (.slice C p g) 24
            have l3a := l3.keep ((Below.refl _ _).alloc (Nat.le_refl _) (.cells #[.int .i64 (a : Int), .int .i64 (d : Int), .slice C p g] 24))
            have hx3 := hx.keep k3.below
            have hy3 := hy.keep k3.below
            have hz3 := hz.keep k3.below
            clear k2 f2 b3 x0 x1 x2 y0 y1 y2 l3
            obtain ⟨x0, x1, x2⟩ := k3.cells
            obtain ⟨y0, y1, y2⟩ := f3.cells
            go_wp2_with fail
            refine (papply_yes hle2 (by omega) (by omega) rfl _ hx3 hz3).mono ?_
            rintro e w4 ⟨D, p', g', rfl, l4, b4⟩
            have k4 := k3.step b4 (by first | exact .inl rfl | exact .inr rfl)
            have f4 := f3.step b4 (by first | exact .inl rfl | exact .inr rfl)
            have kA4 := kA.step b4 (by first | exact .inl rfl | exact .inr rfl)
            have l3b := l3a.keep b4
            clear k3 f3 kA b4 x0 x1 x2 y0 y1 y2 l3a hx3 hy3 hz3
            obtain ⟨x0, x1, x2⟩ := kA4.cells
            have HP' : Hid (p' = l - d + n) := Lib.hid (by rw [l4.count, und_length HLE.out HLC.out HNC.out])
            have hp2 : p' ≤ 100 := by have := HP'.out; omega
            have hp3 : (a + k) + q ≤ p' := by have := HP'.out; omega
            have HPC : Hid (p = k + m + (n - (k + q))) := Lib.hid (by have := HNC.out; have := HMC.out; rw [l3b.count]; simp; omega)
            have hpp : p ≤ 100 := by have := HPC.out; omega
            have hy4 := hy.keep k4.below
            have hz4 := hz.keep k4.below
            obtain ⟨y0, y1, y2⟩ := f4.cells
            go_wp2_with fail
            refine (papply_yes (a := a + k) hp3 (by omega) hp2 rfl _ hy4 l4).mono ?_
            rintro e w5 ⟨G, s, t, rfl, l5, b5⟩
            have k5 := k4.step b5 (by first | exact .inl rfl | exact .inr rfl)
            have kA5 := kA4.step b5 (by first | exact .inl rfl | exact .inr rfl)
            have l3c := l3b.keep b5
            have hz5 := hz4.keep b5
            clear k4 f4 kA4 b5 x0 x1 x2 y0 y1 y2 l3b l4 hy4 hz4
            obtain ⟨x0, x1, x2⟩ := kA5.cells
            go_wp2_with fail
            refine (papply_yes hle2 hpp (by omega) rfl _ l3c hz5).mono ?_
            rintro e w6 ⟨L, s', t', rfl, l6, b6⟩
            have k6 := k5.step b6 (by first | exact .inl rfl | exact .inr rfl)
            have l5a := l5.keep b6
            clear k5 kA5 b6 x0 x1 x2 l3c hz5 l5
            go_wp2_with fail
            refine (ref_equal_x (b := true) (by rw [decide_eq_true_eq]; exact twice_same HLE.out HLC.out HNC.out hle) l5a l6).mono ?_
            rintro e w7 ⟨rfl, d7⟩
            have k7 := k6.step (d7.below _) (by first | exact .inl rfl | exact .inr rfl)
            clear k6 d7 l5a l6
            go_wp2_with fail
            refine (alive_any _).mono ?_
            rintro e w9 ⟨rfl, b9⟩
            have k9 := k7.step b9 (by first | exact .inl rfl | exact .inr rfl)
            go_wp2_with fail
            go_ret
            exact ⟨rfl, k9.below⟩
          · have HK := Lib.hid hc
            clear hc
            have k0 := (Bx.new w (.int .i64 (a : Int)) (.int .i64 (d : Int)) (.slice A n c) 24).alloc (.cells #[.int .i64 ((a : Int) + (k : Int)), .int .i64 (q : Int), .slice B m f] 24)
            have f0 := Bx.fresh_at (g := w.heap.size + 1) (Bx.new w (.int .i64 (a : Int)) (.int .i64 (d : Int)) (.slice A n c) 24).below (.int .i64 ((a : Int) + (k : Int))) (.int .i64 (q : Int)) (.slice B m f) 24 (by simp)
            go_enter Try.func10, Try.ntmps10
            go_wp2_with fail
            refine (ref_small_x (r := true) (by simp; omega) (by omega) _).mono ?_
            rintro e w1 ⟨rfl, b1⟩
            have k1 := k0.step b1 (by first | exact .inl rfl | exact .inr rfl)
            have f1 := f0.step b1 (by first | exact .inl rfl | exact .inr rfl)
            clear k0 f0 b1
            obtain ⟨x0, x1, x2⟩ := k1.cells
            obtain ⟨y0, y1, y2⟩ := f1.cells
            go_wp2_with fail
            refine (ref_small_x (r := true) (by simp; omega) (by omega) _).mono ?_
            rintro e w2 ⟨rfl, b2⟩
            have k2 := k1.step b2 (by first | exact .inl rfl | exact .inr rfl)
            have f2 := f1.step b2 (by first | exact .inl rfl | exact .inr rfl)
            clear k1 f1 b2
            obtain ⟨x0, x1, x2⟩ := k2.cells
            obtain ⟨y0, y1, y2⟩ := f2.cells
            go_wp2_with fail
            refine (few_x (r := true) (by simp; omega) (by omega) _).mono ?_
            rintro e w9 ⟨rfl, rfl⟩
            go_wp2_with fail
            refine (pmerge_yes hle hw hdm hn hm rfl _ (hx.keep k2.below) (hy.keep k2.below)).mono ?_
            rintro e w3 ⟨C, p, g, rfl, l3, b3⟩
            have k3 := (k2.step b3 (by first | exact .inl rfl | exact .inr rfl)).alloc (.cells #[.int .i64 (a : Int), .int .i64 (d : Int), .slice C p g] 24)
            have f3 := (f2.step b3 (by first | exact .inl rfl | exact .inr rfl)).alloc (.cells #[.int .i64 (a : Int), .int .i64 (d : Int), .slice C p g] 24)
            have kA := Bx.fresh (k2.step b3 (by first | exact .inl rfl | exact .inr rfl)).below (.int .i64 (a : Int)) (.int .i64 (d : Int)) (.slice C p g) 24
            have l3a := l3.keep ((Below.refl _ _).alloc (Nat.le_refl _) (.cells #[.int .i64 (a : Int), .int .i64 (d : Int), .slice C p g] 24))
            have hx3 := hx.keep k3.below
            have hy3 := hy.keep k3.below
            have hz3 := hz.keep k3.below
            clear k2 f2 b3 x0 x1 x2 y0 y1 y2 l3
            obtain ⟨x0, x1, x2⟩ := k3.cells
            obtain ⟨y0, y1, y2⟩ := f3.cells
            go_wp2_with fail
            refine (papply_no HK.out HA.out HD.out (by omega) (by omega) _ hx3 hz3).mono ?_
            rintro e w4 ⟨D, p', g', rfl, l4, b4⟩
            have k4 := k3.step b4 (by first | exact .inl rfl | exact .inr rfl)
            have f4 := f3.step b4 (by first | exact .inl rfl | exact .inr rfl)
            have kA4 := kA.step b4 (by first | exact .inl rfl | exact .inr rfl)
            have l3b := l3a.keep b4
            clear k3 f3 kA b4 x0 x1 x2 y0 y1 y2 l3a hx3 hy3 hz3
            obtain ⟨x0, x1, x2⟩ := kA4.cells
            go_wp2_with fail
            refine (alive_any _).mono ?_
            rintro e w9 ⟨rfl, b9⟩
            have k9 := k4.step b9 (by first | exact .inl rfl | exact .inr rfl)
            go_wp2_with fail
            go_ret
            exact ⟨rfl, k9.below⟩
        · have H := Lib.hid hk
          clear hk
          rcases chk_cases a d l with hc | hc
          · obtain ⟨h0, h1, h2, h3⟩ := chk_zero.1 hc
            obtain ⟨a, rfl⟩ := Int.eq_ofNat_of_zero_le h0
            obtain ⟨d, rfl⟩ := Int.eq_ofNat_of_zero_le h1
            have hle2 : a + d ≤ l := by omega
            clear hc h0 h1 h2 h3
            have k0 := (Bx.new w (.int .i64 (a : Int)) (.int .i64 (d : Int)) (.slice A n c) 24).alloc (.cells #[.int .i64 b, .int .i64 q, .slice B m f] 24)
            have f0 := Bx.fresh_at (g := w.heap.size + 1) (Bx.new w (.int .i64 (a : Int)) (.int .i64 (d : Int)) (.slice A n c) 24).below (.int .i64 b) (.int .i64 q) (.slice B m f) 24 (by simp)
            go_enter Try.func10, Try.ntmps10
            go_wp2_with fail
            refine (ref_small_x (r := true) (by simp; omega) (by omega) _).mono ?_
            rintro e w1 ⟨rfl, b1⟩
            have k1 := k0.step b1 (by first | exact .inl rfl | exact .inr rfl)
            have f1 := f0.step b1 (by first | exact .inl rfl | exact .inr rfl)
            clear k0 f0 b1
            obtain ⟨x0, x1, x2⟩ := k1.cells
            obtain ⟨y0, y1, y2⟩ := f1.cells
            go_wp2_with fail
            refine (ref_small_x (r := true) (by simp; omega) (by omega) _).mono ?_
            rintro e w2 ⟨rfl, b2⟩
            have k2 := k1.step b2 (by first | exact .inl rfl | exact .inr rfl)
            have f2 := f1.step b2 (by first | exact .inl rfl | exact .inr rfl)
            clear k1 f1 b2
            obtain ⟨x0, x1, x2⟩ := k2.cells
            obtain ⟨y0, y1, y2⟩ := f2.cells
            go_wp2_with fail
            refine (few_x (r := true) (by simp; omega) (by omega) _).mono ?_
            rintro e w9 ⟨rfl, rfl⟩
            go_wp2_with fail
            refine (pmerge_no H.out HA.out HD.out HB.out HQ.out hn hm _ (hx.keep k2.below) (hy.keep k2.below)).mono ?_
            rintro e w3 ⟨C, p, g, rfl, l3, b3⟩
            have k3 := (k2.step b3 (by first | exact .inl rfl | exact .inr rfl)).alloc (.cells #[.int .i64 0, .int .i64 0, .slice C p g] 24)
            have f3 := (f2.step b3 (by first | exact .inl rfl | exact .inr rfl)).alloc (.cells #[.int .i64 0, .int .i64 0, .slice C p g] 24)
            have kA := Bx.fresh (k2.step b3 (by first | exact .inl rfl | exact .inr rfl)).below (.int .i64 0) (.int .i64 0) (.slice C p g) 24
            have l3a := l3.keep ((Below.refl _ _).alloc (Nat.le_refl _) (.cells #[.int .i64 0, .int .i64 0, .slice C p g] 24))
            have hx3 := hx.keep k3.below
            have hy3 := hy.keep k3.below
            have hz3 := hz.keep k3.below
            clear k2 f2 b3 x0 x1 x2 y0 y1 y2 l3
            obtain ⟨x0, x1, x2⟩ := k3.cells
            obtain ⟨y0, y1, y2⟩ := f3.cells
            go_wp2_with fail
            refine (papply_yes hle2 (by omega) (by omega) rfl _ hx3 hz3).mono ?_
            rintro e w4 ⟨D, p', g', rfl, l4, b4⟩
            have k4 := k3.step b4 (by first | exact .inl rfl | exact .inr rfl)
            have f4 := f3.step b4 (by first | exact .inl rfl | exact .inr rfl)
            have kA4 := kA.step b4 (by first | exact .inl rfl | exact .inr rfl)
            have l3b := l3a.keep b4
            clear k3 f3 kA b4 x0 x1 x2 y0 y1 y2 l3a hx3 hy3 hz3
            obtain ⟨x0, x1, x2⟩ := kA4.cells
            go_wp2_with fail
            refine (ref_same_x (r := true) (by simp) _ l3b (Sl.nil _ _)).mono ?_
            rintro e w5 ⟨rfl, b5⟩
            have k5 := k4.step b5 (by first | exact .inl rfl | exact .inr rfl)
            clear k4 kA4 b5 x0 x1 x2
            go_wp2_with fail
            refine (alive_any _).mono ?_
            rintro e w9 ⟨rfl, b9⟩
            have k9 := k5.step b9 (by first | exact .inl rfl | exact .inr rfl)
            go_wp2_with fail
            go_ret
            exact ⟨rfl, k9.below⟩
          · have HK := Lib.hid hc
            clear hc
            have k0 := (Bx.new w (.int .i64 a) (.int .i64 d) (.slice A n c) 24).alloc (.cells #[.int .i64 b, .int .i64 q, .slice B m f] 24)
            have f0 := Bx.fresh_at (g := w.heap.size + 1) (Bx.new w (.int .i64 a) (.int .i64 d) (.slice A n c) 24).below (.int .i64 b) (.int .i64 q) (.slice B m f) 24 (by simp)
            go_enter Try.func10, Try.ntmps10
            go_wp2_with fail
            refine (ref_small_x (r := true) (by simp; omega) (by omega) _).mono ?_
            rintro e w1 ⟨rfl, b1⟩
            have k1 := k0.step b1 (by first | exact .inl rfl | exact .inr rfl)
            have f1 := f0.step b1 (by first | exact .inl rfl | exact .inr rfl)
            clear k0 f0 b1
            obtain ⟨x0, x1, x2⟩ := k1.cells
            obtain ⟨y0, y1, y2⟩ := f1.cells
            go_wp2_with fail
            refine (ref_small_x (r := true) (by simp; omega) (by omega) _).mono ?_
            rintro e w2 ⟨rfl, b2⟩
            have k2 := k1.step b2 (by first | exact .inl rfl | exact .inr rfl)
            have f2 := f1.step b2 (by first | exact .inl rfl | exact .inr rfl)
            clear k1 f1 b2
            obtain ⟨x0, x1, x2⟩ := k2.cells
            obtain ⟨y0, y1, y2⟩ := f2.cells
            go_wp2_with fail
            refine (few_x (r := true) (by simp; omega) (by omega) _).mono ?_
            rintro e w9 ⟨rfl, rfl⟩
            go_wp2_with fail
            refine (pmerge_no H.out HA.out HD.out HB.out HQ.out hn hm _ (hx.keep k2.below) (hy.keep k2.below)).mono ?_
            rintro e w3 ⟨C, p, g, rfl, l3, b3⟩
            have k3 := (k2.step b3 (by first | exact .inl rfl | exact .inr rfl)).alloc (.cells #[.int .i64 0, .int .i64 0, .slice C p g] 24)
            have f3 := (f2.step b3 (by first | exact .inl rfl | exact .inr rfl)).alloc (.cells #[.int .i64 0, .int .i64 0, .slice C p g] 24)
            have kA := Bx.fresh (k2.step b3 (by first | exact .inl rfl | exact .inr rfl)).below (.int .i64 0) (.int .i64 0) (.slice C p g) 24
            have l3a := l3.keep ((Below.refl _ _).alloc (Nat.le_refl _) (.cells #[.int .i64 0, .int .i64 0, .slice C p g] 24))
            have hx3 := hx.keep k3.below
            have hy3 := hy.keep k3.below
            have hz3 := hz.keep k3.below
            clear k2 f2 b3 x0 x1 x2 y0 y1 y2 l3
            obtain ⟨x0, x1, x2⟩ := k3.cells
            obtain ⟨y0, y1, y2⟩ := f3.cells
            go_wp2_with fail
            refine (papply_no HK.out HA.out HD.out (by omega) (by omega) _ hx3 hz3).mono ?_
            rintro e w4 ⟨D, p', g', rfl, l4, b4⟩
            have k4 := k3.step b4 (by first | exact .inl rfl | exact .inr rfl)
            have f4 := f3.step b4 (by first | exact .inl rfl | exact .inr rfl)
            have kA4 := kA.step b4 (by first | exact .inl rfl | exact .inr rfl)
            have l3b := l3a.keep b4
            clear k3 f3 kA b4 x0 x1 x2 y0 y1 y2 l3a hx3 hy3 hz3
            obtain ⟨x0, x1, x2⟩ := kA4.cells
            go_wp2_with fail
            refine (ref_same_x (r := true) (by simp) _ l3b (Sl.nil _ _)).mono ?_
            rintro e w5 ⟨rfl, b5⟩
            have k5 := k4.step b5 (by first | exact .inl rfl | exact .inr rfl)
            clear k4 kA4 b5 x0 x1 x2
            go_wp2_with fail
            refine (alive_any _).mono ?_
            rintro e w9 ⟨rfl, b9⟩
            have k9 := k5.step b9 (by first | exact .inl rfl | exact .inr rfl)
            go_wp2_with fail
            go_ret
            exact ⟨rfl, k9.below⟩
end Go.Proofs.Ytlgbdigpjobpoaa.Ed
