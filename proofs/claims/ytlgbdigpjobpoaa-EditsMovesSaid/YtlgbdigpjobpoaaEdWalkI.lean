/-
  The walk of EditsMoves.
-/
import Derived.Test.YtlgbdigpjobpoaaEdOpen
import Derived.Test.YtlgbdigpjobpoaaEdMath2
namespace Go.Proofs.Ytlgbdigpjobpoaa.Ed
open Go.RowKit
set_option linter.unusedVariables false

section
variable {a d n m i : Nat} {xs ys zs : List Int}
/-- Where a position stands behind the edit. -/
def kf (a d n i : Nat) : Nat := if i ≤ a then i else if i - a < d then a else i - d + n
theorem kf_shf (a d n i : Nat) : shf (a : Int) (d : Int) (n : Int) (i : Int) = (kf a d n i : Int) := by
  unfold shf kf
  repeat' split
  all_goals omega
theorem kf_up (a d n i : Nat) : kf a d n i ≤ kf a d n (i + 1) := by
  unfold kf
  repeat' split
  all_goals omega
theorem kf_le (h : a + d ≤ m) (hi : i ≤ m) : kf a d n i ≤ m - d + n := by
  unfold kf
  repeat' split
  all_goals omega
theorem mo_len (h : a + d ≤ m) (hm : m = ys.length) (hn : n = xs.length) (hz : ys.take a ++ xs ++ ys.drop (a + d) = zs) : zs.length = m - d + n := by
  rw [← hz]
  simp
  omega
theorem mo_low (h : a + d ≤ m) (hm : m = ys.length) (hz : ys.take a ++ xs ++ ys.drop (a + d) = zs) (hi : i < a) : zs.getD i 0 = ys.getD i 0 := by
  rw [← hz, List.append_assoc]
  have h1 : i < (ys.take a).length := by rw [List.length_take]; omega
  simp only [List.getD, List.getElem?_append_left h1, List.getElem?_take, hi, if_true]
theorem mo_high (h : a + d ≤ m) (hm : m = ys.length) (hn : n = xs.length) (hz : ys.take a ++ xs ++ ys.drop (a + d) = zs) (hi : a + d ≤ i) (hi2 : i < m) : zs.getD (i - d + n) 0 = ys.getD i 0 := by
  rw [← hz]
  have h1 : (ys.take a ++ xs).length = a + n := by rw [List.length_append, List.length_take]; omega
  simp only [List.getD]
  rw [List.getElem?_append_right (by omega), List.getElem?_drop, h1]
  congr 2
  omega
end

set_option maxRecDepth 100000 in
set_option maxHeartbeats 4000000 in
theorem moves_walk (a d : Int) (A B : Option Addr) (n c m f : Nat) (xs ys : List Int) (ha : (Lit.int .i64 a).wf = true) (hd : (Lit.int .i64 d).wf = true) (w : World) (hx : Sl w A n c 1 (ints xs)) (hy : Sl w B m f 1 (ints ys)) :
    Calls Try.prog 11 #[.agg #[.int .i64 a, .int .i64 d, .slice A n c], .slice B m f] w (Makes (.bool true) w) := by
  have hcx := hx.cap
  have hmx := hx.max
  have hcy := hy.cap
  have hmy := hy.max
  have HA := Lib.hid ha
  have HD := Lib.hid hd
  clear ha hd
  have k0 := Bx.new w (.int .i64 a) (.int .i64 d) (.slice A n c) 24
  rcases Nat.lt_or_ge 40 n with hn | hn
  · go_enter Try.func11, Try.ntmps11
    go_wp2_with fail
    refine (ref_small_x (r := false) (by simp; omega) (by omega) _).mono ?_
    rintro e w1 ⟨rfl, b1⟩
    have k1 := k0.step b1 (by first | exact .inl rfl | exact .inr rfl)
    clear k0 b1
    go_wp2_with fail
    refine (alive_any _).mono ?_
    rintro e w4 ⟨rfl, b4⟩
    have k4 := k1.step b4 (by first | exact .inl rfl | exact .inr rfl)
    go_wp2_with fail
    go_ret
    exact ⟨rfl, k4.below⟩
  · rcases Nat.lt_or_ge 60 m with hm | hm
    · go_enter Try.func11, Try.ntmps11
      go_wp2_with fail
      refine (ref_small_x (r := true) (by simp; omega) (by omega) _).mono ?_
      rintro e w1 ⟨rfl, b1⟩
      have k1 := k0.step b1 (by first | exact .inl rfl | exact .inr rfl)
      clear k0 b1
      obtain ⟨x0, x1, x2⟩ := k1.cells
      go_wp2_with fail
      refine (few_x (r := false) (by simp; omega) (by omega) _).mono ?_
      rintro e w2 ⟨rfl, rfl⟩
      go_wp2_with fail
      refine (alive_any _).mono ?_
      rintro e w4 ⟨rfl, b4⟩
      have k4 := k1.step b4 (by first | exact .inl rfl | exact .inr rfl)
      go_wp2_with fail
      go_ret
      exact ⟨rfl, k4.below⟩
    · rcases chk_cases a d m with hk | hk
      · obtain ⟨h0, h1, h2, h3⟩ := chk_zero.1 hk
        obtain ⟨a, rfl⟩ := Int.eq_ofNat_of_zero_le h0
        obtain ⟨d, rfl⟩ := Int.eq_ofNat_of_zero_le h1
        have hle : a + d ≤ m := by omega
        have HMC := Lib.hid hy.count
        have HNC := Lib.hid hx.count
        obtain ⟨zs, hz⟩ : ∃ zs, ys.take a ++ xs ++ ys.drop (a + d) = zs := ⟨_, rfl⟩
        have HZ := Lib.hid hz
        have HL : Hid (zs.length = m - d + n) := Lib.hid (mo_len hle HMC.out HNC.out hz)
        clear hk h0 h1 h2 h3 hz
        go_enter Try.func11, Try.ntmps11
        go_wp2_with fail
        refine (ref_small_x (r := true) (by simp; omega) (by omega) _).mono ?_
        rintro e w1 ⟨rfl, b1⟩
        have k1 := k0.step b1 (by first | exact .inl rfl | exact .inr rfl)
        clear k0 b1
        obtain ⟨x0, x1, x2⟩ := k1.cells
        go_wp2_with fail
        refine (few_x (r := true) (by simp; omega) (by omega) _).mono ?_
        rintro e w2 ⟨rfl, rfl⟩
        go_wp2_with fail
        refine (papply_yes hle (by omega) (by omega) HZ.out _ (hx.keep k1.below) (hy.keep k1.below)).mono ?_
        rintro e w2 ⟨C, T, g, rfl, l2, b2⟩
        have k2 := k1.step b2 (by first | exact .inl rfl | exact .inr rfl)
        have HT : Hid (T = m - d + n) := Lib.hid (by rw [l2.count, HL.out])
        have hT : T ≤ 100 := by have := HT.out; omega
        have hpc := l2.cap
        have hpm := l2.max
        have hy2 := hy.keep k2.below
        clear k1 b2 x0 x1 x2
        go_wp2_with fail
        go_loopw [7, 8] (fun t i wr => ∃ l j : Nat, j ≤ m + 1 ∧ l ≤ kf a d n j ∧ t = .int .i64 l ∧ i = .int .i64 j ∧ Below w2.heap.size w2 wr) (fun _ i _ => m + 1 - (intOf i).toNat)
        case atStart => exact ⟨0, 0, by omega, by omega, rfl, rfl, Below.refl _ _⟩
        case round =>
          obtain ⟨l, i, hi, hl, rfl, rfl, hb⟩ := hrel
          have kr := k2.step hb (.inl rfl)
          obtain ⟨x0, x1, x2⟩ := kr.cells
          have hyr := hy2.keep hb
          have lr := l2.keep hb
          have hbs := hb.size
          by_cases him : i ≤ m
          · obtain ⟨K, hK⟩ : ∃ K, kf a d n i = K := ⟨_, rfl⟩
            have HSH : Hid (shf (a : Int) (d : Int) (n : Int) (i : Int) = (K : Int)) := Lib.hid (by rw [kf_shf, hK])
            have HUP : Hid (K ≤ kf a d n (i + 1)) := Lib.hid (by rw [← hK]; exact kf_up a d n i)
            have hKT : K ≤ T := by rw [← hK, HT.out]; exact kf_le hle him
            rw [hK] at hl
            have hcase : (i = 0 ∧ K = 0 ∧ i = m) ∨ (i = 0 ∧ K = 0 ∧ i < m ∧ i < a + d) ∨ (i = 0 ∧ K = 0 ∧ i < m ∧ a + d ≤ i) ∨
                (0 < i ∧ i ≤ a ∧ K = i ∧ i = m) ∨ (0 < i ∧ i ≤ a ∧ K = i ∧ i < m ∧ i < a + d) ∨ (0 < i ∧ i ≤ a ∧ K = i ∧ i < m ∧ a + d ≤ i) ∨
                (a < i ∧ i < a + d ∧ K = a) ∨ (a < i ∧ a + d ≤ i ∧ K = i - d + n ∧ i = m) ∨ (a < i ∧ a + d ≤ i ∧ K = i - d + n ∧ i < m) := by
              unfold kf at hK
              repeat' split at hK
              all_goals omega
            have HK := Lib.hid hK
            have f1 : decide (K < l) = false := by simp; omega
            have f2 : decide (T < K) = false := by simp; omega
            have hKi : (K : Int) ≤ (T : Int) := by omega
            have hlK : (l : Int) ≤ (K : Int) := by omega
            clear hK
            rcases hcase with ⟨c1, c2, c3⟩ | ⟨c1, c2, c3, c4⟩ | ⟨c1, c2, c3, c4⟩ | ⟨c1, c2, c3, c4⟩ | ⟨c1, c2, c3, c4, c5⟩ | ⟨c1, c2, c3, c4, c5⟩ | ⟨c1, c2, c3⟩ | ⟨c1, c2, c3, c4⟩ | ⟨c1, c2, c3, c4⟩
            · have q0 : ((i : Int) == 0) = true := by rw [beq_iff_eq]; omega
              have q1 : ((K : Int) != 0) = false := by rw [bne_eq_false_iff_eq]; omega
              have g0 : decide ((0 : Int) < (i : Int)) = false := by simp; omega
              have g0' : decide (0 < i) = false := by simp; omega
              have g2 : decide (a < i) = false := by simp; omega
              have j0 : IntKind.i64.wrap ((a : Int) + (d : Int)) = (a : Int) + (d : Int) := IntWalk.i64_in _ (by omega)
              have t1 : decide (i < m) = false := by simp; omega
              clear c1 c2 c3
              go_wp2_with fail
              refine (pshift_x HSH.out hn HA.out HD.out (by omega) (by omega) _).mono ?_
              rintro e w3 ⟨rfl, b3⟩
              have kr3 := kr.step b3 (by first | exact .inl rfl | exact .inr rfl)
              have hb3 := hb.trans (b3.mono hbs)
              have hy3 := hyr.keep b3
              have l3 := lr.keep b3
              clear x0 x1 x2 kr b3 hyr lr
              obtain ⟨x0, x1, x2⟩ := kr3.cells
              go_wp2_with fail
              go_quiet (fail)
              go_wp2_with fail
              go_quiet (fail)
              clear j0
              go_wp2_with fail
              go_roundw
              case rel => exact ⟨K, i + 1, by omega, HUP.out, rfl, by go_num, by first | exact drewN_below hb3 _ | exact drewN_below (drewN_below hb3 _) _⟩
              case measure => simp [intOf]; omega
            · have q0 : ((i : Int) == 0) = true := by rw [beq_iff_eq]; omega
              have q1 : ((K : Int) != 0) = false := by rw [bne_eq_false_iff_eq]; omega
              have g0 : decide ((0 : Int) < (i : Int)) = false := by simp; omega
              have g0' : decide (0 < i) = false := by simp; omega
              have g2 : decide (a < i) = false := by simp; omega
              have j0 : IntKind.i64.wrap ((a : Int) + (d : Int)) = (a : Int) + (d : Int) := IntWalk.i64_in _ (by omega)
              have t1 : i < m := by omega
              have t2 : decide ((a : Int) + (d : Int) ≤ (i : Int)) = false := by simp; omega
              clear c1 c2 c3 c4
              go_wp2_with fail
              refine (pshift_x HSH.out hn HA.out HD.out (by omega) (by omega) _).mono ?_
              rintro e w3 ⟨rfl, b3⟩
              have kr3 := kr.step b3 (by first | exact .inl rfl | exact .inr rfl)
              have hb3 := hb.trans (b3.mono hbs)
              have hy3 := hyr.keep b3
              have l3 := lr.keep b3
              clear x0 x1 x2 kr b3 hyr lr
              obtain ⟨x0, x1, x2⟩ := kr3.cells
              go_wp2_with fail
              go_quiet (fail)
              go_wp2_with fail
              go_quiet (fail)
              clear j0
              go_wp2_with fail
              go_roundw
              case rel => exact ⟨K, i + 1, by omega, HUP.out, rfl, by go_num, by first | exact drewN_below hb3 _ | exact drewN_below (drewN_below hb3 _) _⟩
              case measure => simp [intOf]; omega
            · have q0 : ((i : Int) == 0) = true := by rw [beq_iff_eq]; omega
              have q1 : ((K : Int) != 0) = false := by rw [bne_eq_false_iff_eq]; omega
              have g0 : decide ((0 : Int) < (i : Int)) = false := by simp; omega
              have g0' : decide (0 < i) = false := by simp; omega
              have g2 : decide (a < i) = false := by simp; omega
              have j0 : IntKind.i64.wrap ((a : Int) + (d : Int)) = (a : Int) + (d : Int) := IntWalk.i64_in _ (by omega)
              have t1 : i < m := by omega
              have t2 : (a : Int) + (d : Int) ≤ (i : Int) := by omega
              clear c1 c2 c3 c4
              go_wp2_with fail
              refine (pshift_x HSH.out hn HA.out HD.out (by omega) (by omega) _).mono ?_
              rintro e w3 ⟨rfl, b3⟩
              have kr3 := kr.step b3 (by first | exact .inl rfl | exact .inr rfl)
              have hb3 := hb.trans (b3.mono hbs)
              have hy3 := hyr.keep b3
              have l3 := lr.keep b3
              clear x0 x1 x2 kr b3 hyr lr
              obtain ⟨x0, x1, x2⟩ := kr3.cells
              go_wp2_with fail
              go_quiet (fail)
              go_wp2_with fail
              go_quiet (fail)
              clear j0
              go_wp2_with fail
              go_roundw
              case rel => exact ⟨K, i + 1, by omega, HUP.out, rfl, by go_num, by first | exact drewN_below hb3 _ | exact drewN_below (drewN_below hb3 _) _⟩
              case measure => simp [intOf]; omega
            · have q0 : ((i : Int) == 0) = false := by rw [beq_eq_false_iff_ne]; omega
              have g0 : (0 : Int) < (i : Int) := by omega
              have g0' : 0 < i := by omega
              have g1 : i ≤ a := c2
              have g2 : decide (a < i) = false := by simp; omega
              have g3 : decide ((K : Int) < 1) = false := by simp; omega
              have g3' : (1 : Int) ≤ (K : Int) := by omega
              have g3'' : decide (K < 1) = false := by simp; omega
              have i1 : IntKind.i64.wrap ((K : Int) - 1) = (K : Int) - 1 := IntWalk.i64_in _ (by omega)
              have i2 : IntKind.i64.wrap ((i : Int) - 1) = (i : Int) - 1 := IntWalk.i64_in _ (by omega)
              have i3 : ((K : Int) - 1).toNat = K - 1 := by omega
              have i4 : ((i : Int) - 1).toNat = i - 1 := by omega
              have i5 : (0 : Int) ≤ (K : Int) - 1 := by omega
              have i6 : (0 : Int) ≤ (i : Int) - 1 := by omega
              have i6' : (1 : Int) ≤ (i : Int) := by omega
              have i7 : (K : Int) - 1 < (T : Int) := by omega
              have i8 : (i : Int) - 1 < (m : Int) := by omega
              have E : Hid (zs.getD (K - 1) 0 = ys.getD (i - 1) 0) := Lib.hid (by rw [c3]; exact mo_low (i := i - 1) hle HMC.out HZ.out (by omega))
              have j0 : IntKind.i64.wrap ((a : Int) + (d : Int)) = (a : Int) + (d : Int) := IntWalk.i64_in _ (by omega)
              have t1 : decide (i < m) = false := by simp; omega
              clear c1 c2 c3 c4
              go_wp2_with fail
              refine (pshift_x HSH.out hn HA.out HD.out (by omega) (by omega) _).mono ?_
              rintro e w3 ⟨rfl, b3⟩
              have kr3 := kr.step b3 (by first | exact .inl rfl | exact .inr rfl)
              have hb3 := hb.trans (b3.mono hbs)
              have hy3 := hyr.keep b3
              have l3 := lr.keep b3
              clear x0 x1 x2 kr b3 hyr lr
              obtain ⟨x0, x1, x2⟩ := kr3.cells
              obtain ⟨bz, oz, eC, _, z1⟩ := l3.int_at (k := K - 1) (by omega)
              cases eC
              obtain ⟨bt, ot, eB, _, z2⟩ := hy3.int_at (k := i - 1) (by omega)
              cases eB
              rw [E.out] at z1
              obtain ⟨u, hu⟩ : ∃ u, ys.getD (i - 1) 0 = u := ⟨_, rfl⟩
              rw [hu] at z1
              rw [hu] at z2
              have q3 : (u != u) = false := by simp
              clear hu
              go_wp2_with fail
              go_quiet (fail)
              go_wp2_with fail
              go_quiet (fail)
              clear j0 i1 i2 i3 i4
              go_wp2_with fail
              go_roundw
              case rel => exact ⟨K, i + 1, by omega, HUP.out, rfl, by go_num, by first | exact drewN_below hb3 _ | exact drewN_below (drewN_below hb3 _) _⟩
              case measure => simp [intOf]; omega
            · have q0 : ((i : Int) == 0) = false := by rw [beq_eq_false_iff_ne]; omega
              have g0 : (0 : Int) < (i : Int) := by omega
              have g0' : 0 < i := by omega
              have g1 : i ≤ a := c2
              have g2 : decide (a < i) = false := by simp; omega
              have g3 : decide ((K : Int) < 1) = false := by simp; omega
              have g3' : (1 : Int) ≤ (K : Int) := by omega
              have g3'' : decide (K < 1) = false := by simp; omega
              have i1 : IntKind.i64.wrap ((K : Int) - 1) = (K : Int) - 1 := IntWalk.i64_in _ (by omega)
              have i2 : IntKind.i64.wrap ((i : Int) - 1) = (i : Int) - 1 := IntWalk.i64_in _ (by omega)
              have i3 : ((K : Int) - 1).toNat = K - 1 := by omega
              have i4 : ((i : Int) - 1).toNat = i - 1 := by omega
              have i5 : (0 : Int) ≤ (K : Int) - 1 := by omega
              have i6 : (0 : Int) ≤ (i : Int) - 1 := by omega
              have i6' : (1 : Int) ≤ (i : Int) := by omega
              have i7 : (K : Int) - 1 < (T : Int) := by omega
              have i8 : (i : Int) - 1 < (m : Int) := by omega
              have E : Hid (zs.getD (K - 1) 0 = ys.getD (i - 1) 0) := Lib.hid (by rw [c3]; exact mo_low (i := i - 1) hle HMC.out HZ.out (by omega))
              have j0 : IntKind.i64.wrap ((a : Int) + (d : Int)) = (a : Int) + (d : Int) := IntWalk.i64_in _ (by omega)
              have t1 : i < m := by omega
              have t2 : decide ((a : Int) + (d : Int) ≤ (i : Int)) = false := by simp; omega
              clear c1 c2 c3 c4 c5
              go_wp2_with fail
              refine (pshift_x HSH.out hn HA.out HD.out (by omega) (by omega) _).mono ?_
              rintro e w3 ⟨rfl, b3⟩
              have kr3 := kr.step b3 (by first | exact .inl rfl | exact .inr rfl)
              have hb3 := hb.trans (b3.mono hbs)
              have hy3 := hyr.keep b3
              have l3 := lr.keep b3
              clear x0 x1 x2 kr b3 hyr lr
              obtain ⟨x0, x1, x2⟩ := kr3.cells
              obtain ⟨bz, oz, eC, _, z1⟩ := l3.int_at (k := K - 1) (by omega)
              cases eC
              obtain ⟨bt, ot, eB, _, z2⟩ := hy3.int_at (k := i - 1) (by omega)
              cases eB
              rw [E.out] at z1
              obtain ⟨u, hu⟩ : ∃ u, ys.getD (i - 1) 0 = u := ⟨_, rfl⟩
              rw [hu] at z1
              rw [hu] at z2
              have q3 : (u != u) = false := by simp
              clear hu
              go_wp2_with fail
              go_quiet (fail)
              go_wp2_with fail
              go_quiet (fail)
              clear j0 i1 i2 i3 i4
              go_wp2_with fail
              go_roundw
              case rel => exact ⟨K, i + 1, by omega, HUP.out, rfl, by go_num, by first | exact drewN_below hb3 _ | exact drewN_below (drewN_below hb3 _) _⟩
              case measure => simp [intOf]; omega
            · have q0 : ((i : Int) == 0) = false := by rw [beq_eq_false_iff_ne]; omega
              have g0 : (0 : Int) < (i : Int) := by omega
              have g0' : 0 < i := by omega
              have g1 : i ≤ a := c2
              have g2 : decide (a < i) = false := by simp; omega
              have g3 : decide ((K : Int) < 1) = false := by simp; omega
              have g3' : (1 : Int) ≤ (K : Int) := by omega
              have g3'' : decide (K < 1) = false := by simp; omega
              have i1 : IntKind.i64.wrap ((K : Int) - 1) = (K : Int) - 1 := IntWalk.i64_in _ (by omega)
              have i2 : IntKind.i64.wrap ((i : Int) - 1) = (i : Int) - 1 := IntWalk.i64_in _ (by omega)
              have i3 : ((K : Int) - 1).toNat = K - 1 := by omega
              have i4 : ((i : Int) - 1).toNat = i - 1 := by omega
              have i5 : (0 : Int) ≤ (K : Int) - 1 := by omega
              have i6 : (0 : Int) ≤ (i : Int) - 1 := by omega
              have i6' : (1 : Int) ≤ (i : Int) := by omega
              have i7 : (K : Int) - 1 < (T : Int) := by omega
              have i8 : (i : Int) - 1 < (m : Int) := by omega
              have E : Hid (zs.getD (K - 1) 0 = ys.getD (i - 1) 0) := Lib.hid (by rw [c3]; exact mo_low (i := i - 1) hle HMC.out HZ.out (by omega))
              have j0 : IntKind.i64.wrap ((a : Int) + (d : Int)) = (a : Int) + (d : Int) := IntWalk.i64_in _ (by omega)
              have t1 : i < m := by omega
              have t2 : (a : Int) + (d : Int) ≤ (i : Int) := by omega
              clear c1 c2 c3 c4 c5
              go_wp2_with fail
              refine (pshift_x HSH.out hn HA.out HD.out (by omega) (by omega) _).mono ?_
              rintro e w3 ⟨rfl, b3⟩
              have kr3 := kr.step b3 (by first | exact .inl rfl | exact .inr rfl)
              have hb3 := hb.trans (b3.mono hbs)
              have hy3 := hyr.keep b3
              have l3 := lr.keep b3
              clear x0 x1 x2 kr b3 hyr lr
              obtain ⟨x0, x1, x2⟩ := kr3.cells
              obtain ⟨bz, oz, eC, _, z1⟩ := l3.int_at (k := K - 1) (by omega)
              cases eC
              obtain ⟨bt, ot, eB, _, z2⟩ := hy3.int_at (k := i - 1) (by omega)
              cases eB
              rw [E.out] at z1
              obtain ⟨u, hu⟩ : ∃ u, ys.getD (i - 1) 0 = u := ⟨_, rfl⟩
              rw [hu] at z1
              rw [hu] at z2
              have q3 : (u != u) = false := by simp
              clear hu
              go_wp2_with fail
              go_quiet (fail)
              go_wp2_with fail
              go_quiet (fail)
              clear j0 i1 i2 i3 i4
              go_wp2_with fail
              go_roundw
              case rel => exact ⟨K, i + 1, by omega, HUP.out, rfl, by go_num, by first | exact drewN_below hb3 _ | exact drewN_below (drewN_below hb3 _) _⟩
              case measure => simp [intOf]; omega
            · have q0 : ((i : Int) == 0) = false := by rw [beq_eq_false_iff_ne]; omega
              have g0 : (0 : Int) < (i : Int) := by omega
              have g0' : 0 < i := by omega
              have g1 : decide (i ≤ a) = false := by simp; omega
              have g2 : a < i := c1
              have j0 : IntKind.i64.wrap ((a : Int) + (d : Int)) = (a : Int) + (d : Int) := IntWalk.i64_in _ (by omega)
              have t1 : i < m := by omega
              have t2 : decide ((a : Int) + (d : Int) ≤ (i : Int)) = false := by simp; omega
              clear c1 c2 c3
              go_wp2_with fail
              refine (pshift_x HSH.out hn HA.out HD.out (by omega) (by omega) _).mono ?_
              rintro e w3 ⟨rfl, b3⟩
              have kr3 := kr.step b3 (by first | exact .inl rfl | exact .inr rfl)
              have hb3 := hb.trans (b3.mono hbs)
              have hy3 := hyr.keep b3
              have l3 := lr.keep b3
              clear x0 x1 x2 kr b3 hyr lr
              obtain ⟨x0, x1, x2⟩ := kr3.cells
              go_wp2_with fail
              go_quiet (fail)
              go_wp2_with fail
              go_quiet (fail)
              clear j0
              go_wp2_with fail
              go_roundw
              case rel => exact ⟨K, i + 1, by omega, HUP.out, rfl, by go_num, by first | exact drewN_below hb3 _ | exact drewN_below (drewN_below hb3 _) _⟩
              case measure => simp [intOf]; omega
            · have q0 : ((i : Int) == 0) = false := by rw [beq_eq_false_iff_ne]; omega
              have g0 : (0 : Int) < (i : Int) := by omega
              have g0' : 0 < i := by omega
              have g1 : decide (i ≤ a) = false := by simp; omega
              have g2 : a < i := c1
              have j0 : IntKind.i64.wrap ((a : Int) + (d : Int)) = (a : Int) + (d : Int) := IntWalk.i64_in _ (by omega)
              have t1 : decide (i < m) = false := by simp; omega
              clear c1 c2 c3 c4
              go_wp2_with fail
              refine (pshift_x HSH.out hn HA.out HD.out (by omega) (by omega) _).mono ?_
              rintro e w3 ⟨rfl, b3⟩
              have kr3 := kr.step b3 (by first | exact .inl rfl | exact .inr rfl)
              have hb3 := hb.trans (b3.mono hbs)
              have hy3 := hyr.keep b3
              have l3 := lr.keep b3
              clear x0 x1 x2 kr b3 hyr lr
              obtain ⟨x0, x1, x2⟩ := kr3.cells
              go_wp2_with fail
              go_quiet (fail)
              go_wp2_with fail
              go_quiet (fail)
              clear j0
              go_wp2_with fail
              go_roundw
              case rel => exact ⟨K, i + 1, by omega, HUP.out, rfl, by go_num, by first | exact drewN_below hb3 _ | exact drewN_below (drewN_below hb3 _) _⟩
              case measure => simp [intOf]; omega
            · have q0 : ((i : Int) == 0) = false := by rw [beq_eq_false_iff_ne]; omega
              have g0 : (0 : Int) < (i : Int) := by omega
              have g0' : 0 < i := by omega
              have g1 : decide (i ≤ a) = false := by simp; omega
              have g2 : a < i := c1
              have g4 : ((K : Int) == (T : Int)) = false := by rw [beq_eq_false_iff_ne]; have := HT.out; omega
              have i7 : (K : Int) < (T : Int) := by have := HT.out; omega
              have i8 : (i : Int) < (m : Int) := by omega
              have E : Hid (zs.getD K 0 = ys.getD i 0) := Lib.hid (by rw [c3]; exact mo_high hle HMC.out HNC.out HZ.out c2 c4)
              have j0 : IntKind.i64.wrap ((a : Int) + (d : Int)) = (a : Int) + (d : Int) := IntWalk.i64_in _ (by omega)
              have t1 : i < m := by omega
              have t2 : (a : Int) + (d : Int) ≤ (i : Int) := by omega
              clear c1 c2 c3 c4
              go_wp2_with fail
              refine (pshift_x HSH.out hn HA.out HD.out (by omega) (by omega) _).mono ?_
              rintro e w3 ⟨rfl, b3⟩
              have kr3 := kr.step b3 (by first | exact .inl rfl | exact .inr rfl)
              have hb3 := hb.trans (b3.mono hbs)
              have hy3 := hyr.keep b3
              have l3 := lr.keep b3
              clear x0 x1 x2 kr b3 hyr lr
              obtain ⟨x0, x1, x2⟩ := kr3.cells
              obtain ⟨bz, oz, eC, _, z1⟩ := l3.int_at (k := K) (by omega)
              cases eC
              obtain ⟨bt, ot, eB, _, z2⟩ := hy3.int_at (k := i) (by omega)
              cases eB
              rw [E.out] at z1
              obtain ⟨u, hu⟩ : ∃ u, ys.getD i 0 = u := ⟨_, rfl⟩
              rw [hu] at z1
              rw [hu] at z2
              have q3 : (u != u) = false := by simp
              clear hu
              go_wp2_with fail
              go_quiet (fail)
              go_wp2_with fail
              go_quiet (fail)
              clear j0
              go_wp2_with fail
              go_roundw
              case rel => exact ⟨K, i + 1, by omega, HUP.out, rfl, by go_num, by first | exact drewN_below hb3 _ | exact drewN_below (drewN_below hb3 _) _⟩
              case measure => simp [intOf]; omega
          · have t1 : decide (i ≤ m) = false := by simp; omega
            go_wp2_with fail
            refine (alive_any _).mono ?_
            rintro e w9 ⟨rfl, b9⟩
            go_wp2_with fail
            go_ret
            exact ⟨rfl, (k2.below.trans (hb.mono k2.below.size)).trans (b9.mono (by have := k2.below.size; omega))⟩
      · have H := Lib.hid hk
        clear hk
        go_enter Try.func11, Try.ntmps11
        go_wp2_with fail
        refine (ref_small_x (r := true) (by simp; omega) (by omega) _).mono ?_
        rintro e w1 ⟨rfl, b1⟩
        have k1 := k0.step b1 (by first | exact .inl rfl | exact .inr rfl)
        clear k0 b1
        obtain ⟨x0, x1, x2⟩ := k1.cells
        go_wp2_with fail
        refine (few_x (r := true) (by simp; omega) (by omega) _).mono ?_
        rintro e w2 ⟨rfl, rfl⟩
        go_wp2_with fail
        refine (papply_no H.out HA.out HD.out hn (by omega) _ (hx.keep k1.below) (hy.keep k1.below)).mono ?_
        rintro e w2 ⟨C, p, g, rfl, l2, b2⟩
        have k2 := k1.step b2 (by first | exact .inl rfl | exact .inr rfl)
        clear k1 b2 x0 x1 x2
        go_wp2_with fail
        refine (alive_any _).mono ?_
        rintro e w5 ⟨rfl, b5⟩
        have k5 := k2.step b5 (by first | exact .inl rfl | exact .inr rfl)
        go_wp2_with fail
        go_ret
        exact ⟨rfl, k5.below⟩
end Go.Proofs.Ytlgbdigpjobpoaa.Ed
