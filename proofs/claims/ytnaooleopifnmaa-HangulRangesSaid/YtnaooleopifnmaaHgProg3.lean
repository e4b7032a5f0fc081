/-
  The contracts of package hangul: syllableSize and Split, for every slice of ints.
-/
import Derived.Test.YtnaooleopifnmaaHgProg2
namespace Go.Proofs.Ytnaooleopifnmaa.Hg
open Go.RowKit
set_option linter.unusedVariables false

/-- What the array of kinds holds behind k rounds. -/
def kc (zs : List Int) (k j : Nat) : Int := if j < k then kindAt zs j else 0
theorem kc_same {zs : List Int} {k j : Nat} (h : k ≠ j) : kc zs (k + 1) j = kc zs k j := by
  unfold kc
  by_cases h1 : j < k
  · rw [if_pos (by omega), if_pos h1]
  · rw [if_neg (by omega), if_neg h1]
theorem kc_new (zs : List Int) (k : Nat) : kc zs (k + 1) k = kindAt zs k := by unfold kc; rw [if_pos (by omega)]
theorem kc_end {zs : List Int} {k j : Nat} (hj : j < 3) (h : k = min zs.length 3) : kc zs k j = kindAt zs j := by
  unfold kc
  split
  · rfl
  · unfold kindAt
    rw [if_neg (by omega)]
theorem part_of {zs : List Int} {x y z : Int} {p : Nat} (h0 : kindAt zs 0 = x) (h1 : kindAt zs 1 = y) (h2 : kindAt zs 2 = z) (h : part3 x y z = p) : part zs = p := by rw [part_three, h0, h1, h2, h]
theorem part3_cases (a b c : Int) (ha : 0 ≤ a ∧ a ≤ 5) : (a = 1 ∧ b = 2 ∧ c = 3 ∧ part3 a b c = 3) ∨ (a = 1 ∧ b = 2 ∧ ¬ c = 3 ∧ part3 a b c = 2) ∨ (a = 4 ∧ b = 3 ∧ part3 a b c = 2) ∨ (a = 4 ∧ ¬ b = 3 ∧ part3 a b c = 1) ∨ (a = 5 ∧ part3 a b c = 1) ∨
    (¬ a = 4 ∧ ¬ a = 5 ∧ ¬ (a = 1 ∧ b = 2) ∧ part3 a b c = 0) := by
  unfold part3
  repeat' split
  all_goals omega
theorem kindAt_range (l : List Int) (k : Nat) : 0 ≤ kindAt l k ∧ kindAt l k ≤ 5 := by
  unfold kindAt
  split
  · exact kind_range _
  · omega

set_option maxRecDepth 100000 in
set_option maxHeartbeats 2000000 in
theorem size_any (A : Option Addr) (n c : Nat) (zs : List Int) (w : World) (h : Sl w A n c 1 (ints zs)) : Calls Try.prog 42 #[.slice A n c] w (Makes (.int .i64 (part zs)) w) := by
  have hcap := h.cap
  have hmax := h.max
  have HN := Lib.hid h.count
  rcases Nat.lt_or_ge 3 n with hn | hn
  · have hn' : (3 : Int) < (n : Int) := by omega
    go_enter Try.func42, Try.ntmps42
    go_wp2
    go_loopw [9] (fun i wr => ∃ (k : Nat) (x0 x1 x2 : Int), k ≤ 3 ∧ i = .int .i64 k ∧ wr = w.alloc (.cells #[.int .i64 x0, .int .i64 x1, .int .i64 x2] 54) ∧ Hid (x0 = kc zs k 0 ∧ x1 = kc zs k 1 ∧ x2 = kc zs k 2)) (fun i _ => 3 - (intOf i).toNat)
    case atStart => exact ⟨0, 0, 0, 0, by omega, rfl, rfl, Lib.hid ⟨rfl, rfl, rfl⟩⟩
    case round =>
      obtain ⟨k, x0, x1, x2, hk, rfl, rfl, HX⟩ := hrel
      by_cases hlt : k < 3
      · have hw := h.keep ((Below.refl _ _).alloc (Nat.le_refl _) (.cells #[.int .i64 x0, .int .i64 x1, .int .i64 x2] 54))
        obtain ⟨b, off, rfl, _, hc⟩ := hw.int_at (k := k) (by omega)
        obtain ⟨u, hu⟩ : ∃ u, zs.getD k 0 = u := ⟨_, rfl⟩
        obtain ⟨v, hv⟩ : ∃ v, kindAt zs k = v := ⟨_, rfl⟩
        have HK : Hid (kind u = v) := Lib.hid (by rw [← hv, ← hu, kindAt_in (by have := HN.out; omega)])
        rw [hu] at hc
        have HV := Lib.hid hv
        clear hu hv hw
        have hk3 : k = 0 ∨ k = 1 ∨ k = 2 := by omega
        rcases hk3 with rfl | rfl | rfl
        · rw [Nat.add_zero] at hc
          go_wp2_with (go_at_call 15; refine (pkind_x HK.out _).mono ?_; rintro e w' ⟨rfl, rfl⟩)
          go_roundw
          case rel => exact ⟨1, v, x1, x2, by omega, by go_num, rfl, Lib.hid ⟨(by rw [kc_new]; exact HV.out.symm), (by rw [kc_same (by decide)]; exact HX.out.2.1), (by rw [kc_same (by decide)]; exact HX.out.2.2)⟩⟩
          case measure => simp [intOf] <;> omega
        · go_wp2_with (go_at_call 15; refine (pkind_x HK.out _).mono ?_; rintro e w' ⟨rfl, rfl⟩)
          go_roundw
          case rel => exact ⟨2, x0, v, x2, by omega, by go_num, rfl, Lib.hid ⟨(by rw [kc_same (by decide)]; exact HX.out.1), (by rw [kc_new]; exact HV.out.symm), (by rw [kc_same (by decide)]; exact HX.out.2.2)⟩⟩
          case measure => simp [intOf] <;> omega
        · go_wp2_with (go_at_call 15; refine (pkind_x HK.out _).mono ?_; rintro e w' ⟨rfl, rfl⟩)
          go_roundw
          case rel => exact ⟨3, x0, x1, v, by omega, by go_num, rfl, Lib.hid ⟨(by rw [kc_same (by decide)]; exact HX.out.1), (by rw [kc_same (by decide)]; exact HX.out.2.1), (by rw [kc_new]; exact HV.out.symm)⟩⟩
          case measure => simp [intOf] <;> omega
      · have hmin : k = min zs.length 3 := by have := HN.out; omega
        have g0 : kindAt zs 0 = x0 := by rw [HX.out.1, kc_end (by decide) hmin]
        have g1 : kindAt zs 1 = x1 := by rw [HX.out.2.1, kc_end (by decide) hmin]
        have g2 : kindAt zs 2 = x2 := by rw [HX.out.2.2, kc_end (by decide) hmin]
        have hr := kindAt_range zs 0
        rw [g0] at hr
        have hlt2 : ((k : Int) < (3)) = False := by simp; omega
        rcases part3_cases x0 x1 x2 hr with ⟨e0, e1, e2, ep⟩ | ⟨e0, e1, e2, ep⟩ | ⟨e0, e1, ep⟩ | ⟨e0, e1, ep⟩ | ⟨e0, ep⟩ | ⟨e0, e1, e2, ep⟩
        · have HP := Lib.hid (part_of g0 g1 g2 ep)
          have q3 := three_is (a := 1) (b := 2) (e := 3) (c := 1) (d := 2) (f := 3) (r := true) (by decide)
          have q12 := two_is (a := 1) (b := 2) (c := 1) (d := 2) (r := true) (by decide)
          have q43 := two_is (a := 1) (b := 2) (c := 4) (d := 3) (r := false) (by decide)
          clear g0 g1 g2 hr ep HX
          subst e0
          subst e1
          subst e2
          go_wp2
          go_ret
          exact ⟨ret_int' (by rw [HP.out]; rfl), ((Below.refl _ _).alloc (Nat.le_refl _) _).alloc (by simp) _⟩
        · have HP := Lib.hid (part_of g0 g1 g2 ep)
          have q3 := three_is (a := 1) (b := 2) (e := x2) (c := 1) (d := 2) (f := 3) (r := false) (by rw [decide_eq_false_iff_not]; omega)
          have q12 := two_is (a := 1) (b := 2) (c := 1) (d := 2) (r := true) (by decide)
          have q43 := two_is (a := 1) (b := 2) (c := 4) (d := 3) (r := false) (by decide)
          clear g0 g1 g2 hr ep HX
          subst e0
          subst e1
          try clear e2
          go_wp2
          go_ret
          exact ⟨ret_int' (by rw [HP.out]; rfl), ((Below.refl _ _).alloc (Nat.le_refl _) _).alloc (by simp) _⟩
        · have HP := Lib.hid (part_of g0 g1 g2 ep)
          have q3 := three_is (a := 4) (b := 3) (e := x2) (c := 1) (d := 2) (f := 3) (r := false) (by rw [decide_eq_false_iff_not]; omega)
          have q12 := two_is (a := 4) (b := 3) (c := 1) (d := 2) (r := false) (by decide)
          have q43 := two_is (a := 4) (b := 3) (c := 4) (d := 3) (r := true) (by decide)
          clear g0 g1 g2 hr ep HX
          subst e0
          subst e1
          try clear e2
          go_wp2
          go_ret
          exact ⟨ret_int' (by rw [HP.out]; rfl), ((Below.refl _ _).alloc (Nat.le_refl _) _).alloc (by simp) _⟩
        · have HP := Lib.hid (part_of g0 g1 g2 ep)
          have q3 := three_is (a := 4) (b := x1) (e := x2) (c := 1) (d := 2) (f := 3) (r := false) (by rw [decide_eq_false_iff_not]; omega)
          have q12 := two_is (a := 4) (b := x1) (c := 1) (d := 2) (r := false) (by rw [decide_eq_false_iff_not]; omega)
          have q43 := two_is (a := 4) (b := x1) (c := 4) (d := 3) (r := false) (by rw [decide_eq_false_iff_not]; omega)
          clear g0 g1 g2 hr ep HX
          subst e0
          try clear e1
          try clear e2
          go_wp2
          go_ret
          exact ⟨ret_int' (by rw [HP.out]; rfl), ((Below.refl _ _).alloc (Nat.le_refl _) _).alloc (by simp) _⟩
        · have HP := Lib.hid (part_of g0 g1 g2 ep)
          have q3 := three_is (a := 5) (b := x1) (e := x2) (c := 1) (d := 2) (f := 3) (r := false) (by rw [decide_eq_false_iff_not]; omega)
          have q12 := two_is (a := 5) (b := x1) (c := 1) (d := 2) (r := false) (by rw [decide_eq_false_iff_not]; omega)
          have q43 := two_is (a := 5) (b := x1) (c := 4) (d := 3) (r := false) (by rw [decide_eq_false_iff_not]; omega)
          clear g0 g1 g2 hr ep HX
          subst e0
          try clear e1
          try clear e2
          go_wp2
          go_ret
          exact ⟨ret_int' (by rw [HP.out]; rfl), ((Below.refl _ _).alloc (Nat.le_refl _) _).alloc (by simp) _⟩
        · have HP := Lib.hid (part_of g0 g1 g2 ep)
          have q3 := three_is (a := x0) (b := x1) (e := x2) (c := 1) (d := 2) (f := 3) (r := false) (by rw [decide_eq_false_iff_not]; omega)
          have q12 := two_is (a := x0) (b := x1) (c := 1) (d := 2) (r := false) (by rw [decide_eq_false_iff_not]; omega)
          have q43 := two_is (a := x0) (b := x1) (c := 4) (d := 3) (r := false) (by rw [decide_eq_false_iff_not]; omega)
          have y4 : (x0 == 4) = false := by rw [beq_eq_false_iff_ne]; exact e0
          have y5 : (x0 == 5) = false := by rw [beq_eq_false_iff_ne]; exact e1
          clear g0 g1 g2 hr ep HX
          try clear e0
          try clear e1
          try clear e2
          go_wp2
          go_ret
          exact ⟨ret_int' (by rw [HP.out]; rfl), ((Below.refl _ _).alloc (Nat.le_refl _) _).alloc (by simp) _⟩
  · have hn' : (n : Int) ≤ 3 := by omega
    go_enter Try.func42, Try.ntmps42
    go_wp2
    go_loopw [9] (fun i wr => ∃ (k : Nat) (x0 x1 x2 : Int), k ≤ n ∧ i = .int .i64 k ∧ wr = w.alloc (.cells #[.int .i64 x0, .int .i64 x1, .int .i64 x2] 54) ∧ Hid (x0 = kc zs k 0 ∧ x1 = kc zs k 1 ∧ x2 = kc zs k 2)) (fun i _ => n - (intOf i).toNat)
    case atStart => exact ⟨0, 0, 0, 0, by omega, rfl, rfl, Lib.hid ⟨rfl, rfl, rfl⟩⟩
    case round =>
      obtain ⟨k, x0, x1, x2, hk, rfl, rfl, HX⟩ := hrel
      by_cases hlt : k < n
      · have hw := h.keep ((Below.refl _ _).alloc (Nat.le_refl _) (.cells #[.int .i64 x0, .int .i64 x1, .int .i64 x2] 54))
        obtain ⟨b, off, rfl, _, hc⟩ := hw.int_at (k := k) (by omega)
        obtain ⟨u, hu⟩ : ∃ u, zs.getD k 0 = u := ⟨_, rfl⟩
        obtain ⟨v, hv⟩ : ∃ v, kindAt zs k = v := ⟨_, rfl⟩
        have HK : Hid (kind u = v) := Lib.hid (by rw [← hv, ← hu, kindAt_in (by have := HN.out; omega)])
        rw [hu] at hc
        have HV := Lib.hid hv
        clear hu hv hw
        have hk3 : k = 0 ∨ k = 1 ∨ k = 2 := by omega
        rcases hk3 with rfl | rfl | rfl
        · rw [Nat.add_zero] at hc
          go_wp2_with (go_at_call 15; refine (pkind_x HK.out _).mono ?_; rintro e w' ⟨rfl, rfl⟩)
          go_roundw
          case rel => exact ⟨1, v, x1, x2, by omega, by go_num, rfl, Lib.hid ⟨(by rw [kc_new]; exact HV.out.symm), (by rw [kc_same (by decide)]; exact HX.out.2.1), (by rw [kc_same (by decide)]; exact HX.out.2.2)⟩⟩
          case measure => simp [intOf] <;> omega
        · go_wp2_with (go_at_call 15; refine (pkind_x HK.out _).mono ?_; rintro e w' ⟨rfl, rfl⟩)
          go_roundw
          case rel => exact ⟨2, x0, v, x2, by omega, by go_num, rfl, Lib.hid ⟨(by rw [kc_same (by decide)]; exact HX.out.1), (by rw [kc_new]; exact HV.out.symm), (by rw [kc_same (by decide)]; exact HX.out.2.2)⟩⟩
          case measure => simp [intOf] <;> omega
        · go_wp2_with (go_at_call 15; refine (pkind_x HK.out _).mono ?_; rintro e w' ⟨rfl, rfl⟩)
          go_roundw
          case rel => exact ⟨3, x0, x1, v, by omega, by go_num, rfl, Lib.hid ⟨(by rw [kc_same (by decide)]; exact HX.out.1), (by rw [kc_same (by decide)]; exact HX.out.2.1), (by rw [kc_new]; exact HV.out.symm)⟩⟩
          case measure => simp [intOf] <;> omega
      · have hmin : k = min zs.length 3 := by have := HN.out; omega
        have g0 : kindAt zs 0 = x0 := by rw [HX.out.1, kc_end (by decide) hmin]
        have g1 : kindAt zs 1 = x1 := by rw [HX.out.2.1, kc_end (by decide) hmin]
        have g2 : kindAt zs 2 = x2 := by rw [HX.out.2.2, kc_end (by decide) hmin]
        have hr := kindAt_range zs 0
        rw [g0] at hr
        have hlt2 : ((k : Int) < ((n : Int))) = False := by simp; omega
        rcases part3_cases x0 x1 x2 hr with ⟨e0, e1, e2, ep⟩ | ⟨e0, e1, e2, ep⟩ | ⟨e0, e1, ep⟩ | ⟨e0, e1, ep⟩ | ⟨e0, ep⟩ | ⟨e0, e1, e2, ep⟩
        · have HP := Lib.hid (part_of g0 g1 g2 ep)
          have q3 := three_is (a := 1) (b := 2) (e := 3) (c := 1) (d := 2) (f := 3) (r := true) (by decide)
          have q12 := two_is (a := 1) (b := 2) (c := 1) (d := 2) (r := true) (by decide)
          have q43 := two_is (a := 1) (b := 2) (c := 4) (d := 3) (r := false) (by decide)
          clear g0 g1 g2 hr ep HX
          subst e0
          subst e1
          subst e2
          go_wp2
          go_ret
          exact ⟨ret_int' (by rw [HP.out]; rfl), ((Below.refl _ _).alloc (Nat.le_refl _) _).alloc (by simp) _⟩
        · have HP := Lib.hid (part_of g0 g1 g2 ep)
          have q3 := three_is (a := 1) (b := 2) (e := x2) (c := 1) (d := 2) (f := 3) (r := false) (by rw [decide_eq_false_iff_not]; omega)
          have q12 := two_is (a := 1) (b := 2) (c := 1) (d := 2) (r := true) (by decide)
          have q43 := two_is (a := 1) (b := 2) (c := 4) (d := 3) (r := false) (by decide)
          clear g0 g1 g2 hr ep HX
          subst e0
          subst e1
          try clear e2
          go_wp2
          go_ret
          exact ⟨ret_int' (by rw [HP.out]; rfl), ((Below.refl _ _).alloc (Nat.le_refl _) _).alloc (by simp) _⟩
        · have HP := Lib.hid (part_of g0 g1 g2 ep)
          have q3 := three_is (a := 4) (b := 3) (e := x2) (c := 1) (d := 2) (f := 3) (r := false) (by rw [decide_eq_false_iff_not]; omega)
          have q12 := two_is (a := 4) (b := 3) (c := 1) (d := 2) (r := false) (by decide)
          have q43 := two_is (a := 4) (b := 3) (c := 4) (d := 3) (r := true) (by decide)
          clear g0 g1 g2 hr ep HX
          subst e0
          subst e1
          try clear e2
          go_wp2
          go_ret
          exact ⟨ret_int' (by rw [HP.out]; rfl), ((Below.refl _ _).alloc (Nat.le_refl _) _).alloc (by simp) _⟩
        · have HP := Lib.hid (part_of g0 g1 g2 ep)
          have q3 := three_is (a := 4) (b := x1) (e := x2) (c := 1) (d := 2) (f := 3) (r := false) (by rw [decide_eq_false_iff_not]; omega)
          have q12 := two_is (a := 4) (b := x1) (c := 1) (d := 2) (r := false) (by rw [decide_eq_false_iff_not]; omega)
          have q43 := two_is (a := 4) (b := x1) (c := 4) (d := 3) (r := false) (by rw [decide_eq_false_iff_not]; omega)
          clear g0 g1 g2 hr ep HX
          subst e0
          try clear e1
          try clear e2
          go_wp2
          go_ret
          exact ⟨ret_int' (by rw [HP.out]; rfl), ((Below.refl _ _).alloc (Nat.le_refl _) _).alloc (by simp) _⟩
        · have HP := Lib.hid (part_of g0 g1 g2 ep)
          have q3 := three_is (a := 5) (b := x1) (e := x2) (c := 1) (d := 2) (f := 3) (r := false) (by rw [decide_eq_false_iff_not]; omega)
          have q12 := two_is (a := 5) (b := x1) (c := 1) (d := 2) (r := false) (by rw [decide_eq_false_iff_not]; omega)
          have q43 := two_is (a := 5) (b := x1) (c := 4) (d := 3) (r := false) (by rw [decide_eq_false_iff_not]; omega)
          clear g0 g1 g2 hr ep HX
          subst e0
          try clear e1
          try clear e2
          go_wp2
          go_ret
          exact ⟨ret_int' (by rw [HP.out]; rfl), ((Below.refl _ _).alloc (Nat.le_refl _) _).alloc (by simp) _⟩
        · have HP := Lib.hid (part_of g0 g1 g2 ep)
          have q3 := three_is (a := x0) (b := x1) (e := x2) (c := 1) (d := 2) (f := 3) (r := false) (by rw [decide_eq_false_iff_not]; omega)
          have q12 := two_is (a := x0) (b := x1) (c := 1) (d := 2) (r := false) (by rw [decide_eq_false_iff_not]; omega)
          have q43 := two_is (a := x0) (b := x1) (c := 4) (d := 3) (r := false) (by rw [decide_eq_false_iff_not]; omega)
          have y4 : (x0 == 4) = false := by rw [beq_eq_false_iff_ne]; exact e0
          have y5 : (x0 == 5) = false := by rw [beq_eq_false_iff_ne]; exact e1
          clear g0 g1 g2 hr ep HX
          try clear e0
          try clear e1
          try clear e2
          go_wp2
          go_ret
          exact ⟨ret_int' (by rw [HP.out]; rfl), ((Below.refl _ _).alloc (Nat.le_refl _) _).alloc (by simp) _⟩

/-- Within a syllable no other one begins. -/
theorem spl_skip {l : List Int} {i : Nat} (hp : 0 < part (l.drop i)) : spl l (i + 1) = spl l (i + part (l.drop i)) := by
  have hf := part_fits l i
  have hlen : i < l.length := by omega
  have step : ∀ j, i + j < l.length → (kindAt l (i + j) = 2 ∨ kindAt l (i + j) = 3) → spl l (i + j) = spl l (i + j + 1) := fun j hj hk => by
    refine spl_none hj ?_
    have e : kindAt (l.drop (i + j)) 0 = kindAt l (i + j) := by rw [kindAt_drop, Nat.add_zero]
    rw [part_three, part3, e]
    repeat' split
    all_goals omega
  have e1 : kindAt (l.drop i) 1 = kindAt l (i + 1) := kindAt_drop l i 1
  have e2 : kindAt (l.drop i) 2 = kindAt l (i + 2) := kindAt_drop l i 2
  have hr := kindAt_range (l.drop i) 0
  rcases part3_cases (kindAt (l.drop i) 0) (kindAt (l.drop i) 1) (kindAt (l.drop i) 2) hr with ⟨_, h1, h2, ep⟩ | ⟨_, h1, h2, ep⟩ | ⟨_, h1, ep⟩ | ⟨_, _, ep⟩ | ⟨_, ep⟩ | ⟨_, _, _, ep⟩ <;> rw [← part_three] at ep
  · rw [ep, step 1 (by omega) (.inl (by omega)), step 2 (by omega) (.inr (by omega))]
  · rw [ep, step 1 (by omega) (.inl (by omega))]
  · rw [ep, step 1 (by omega) (.inr (by omega))]
  · rw [ep]
  · rw [ep]
  · omega
theorem size_x {A : Option Addr} {n c : Nat} {zs : List Int} {p : Nat} (hp : part zs = p) (w : World) (h : Sl w A n c 1 (ints zs)) : Calls Try.prog 42 #[.slice A n c] w (Makes (.int .i64 p) w) := by
  rw [← hp]
  exact size_any A n c zs w h

set_option maxHeartbeats 1000000 in
theorem psplit_any (A : Option Addr) (n c : Nat) (zs : List Int) (w : World) (h : Sl w A n c 1 (ints zs)) (hn : n ≤ 500) : Calls Try.prog 23 #[.slice A n c] w (GivesRanges (spl zs 0) w) := by
  have hcap := h.cap
  have hmax := h.max
  have HC := Lib.hid h.count
  go_enter Try.func23, Try.ntmps23
  go_wp2
  go_loopw [3, 8] (fun v i wr => ∃ (k : Nat) (done : List (Int × Int)), k ≤ n ∧ done.length ≤ k ∧ i = .int .i64 k ∧ Own wr w.heap.size 34 2 v done.length (rngs done) ∧ Below w.heap.size w wr ∧ Hid (spl zs 0 = done ++ spl zs k)) (fun _ i _ => n - (intOf i).toNat)
  case atStart => exact ⟨0, [], by omega, by simp, rfl, Own.nil _ _ _ _, Below.refl _ _, Lib.hid rfl⟩
  case round =>
    obtain ⟨k, done, hk, hd, rfl, ho, hb, HS⟩ := hrel
    have hw := h.keep hb
    by_cases hlt : k < n
    · have hz : k < zs.length := by rw [← HC.out]; exact hlt
      have hfit : part (zs.drop k) ≤ n - k := by have := part_fits zs k; rw [← HC.out] at this; exact this
      have ht := hw.tail_in hlt
      obtain ⟨p, hp⟩ : ∃ p, part (zs.drop k) = p := ⟨_, rfl⟩
      rw [hp] at hfit
      have hbs := hb.size
      rcases Nat.eq_zero_or_pos p with h0 | h0
      · have HN := Lib.hid (spl_none hz (by rw [hp]; exact h0))
        have HP := Lib.hid (by rw [← h0]; exact hp : part (zs.drop k) = 0)
        clear hp h0
        go_wp2_with (go_at_call 42; refine (size_x HP.out _ ht).mono ?_; rintro e w1 ⟨rfl, b1⟩)
        go_roundw
        case rel => exact ⟨k + 1, done, by omega, by omega, by go_num, ho.below b1, hb.trans (b1.mono hbs), Lib.hid (by rw [HS.out, HN.out])⟩
        case measure => simp [intOf]; omega
      · have HN := Lib.hid (spl_some hz (by rw [hp]; exact h0))
        have HK := Lib.hid (spl_skip (l := zs) (i := k) (by rw [hp]; exact h0))
        have HP := Lib.hid hp
        clear hp
        go_wp2_with (first
          | (go_at_call 42; refine (size_x HP.out _ ht).mono ?_; rintro e w1 ⟨rfl, b1⟩; have ho' := ho.below b1; have hbs1 := b1.size)
          | (at_builtin; refine wpList_append_ranges rfl (.tmp 17) (.tmp 23) rfl w.heap.size u3 done.length done rfl (ho'.alloc _) _ 1 1 [((k : Int), ((k + p : Nat) : Int))] rfl (Sl.built_at w1 34 2 1 _ rfl (by unfold maxLen; omega) rfl) (done.length + 1) rfl _ rfl (by omega) (by simp; omega) ?_; intro v1 w2 ho1 hb1))
        have hb2 := ((hb.trans (b1.mono hbs)).alloc (by omega) _).trans hb1
        go_roundw
        case rel => exact ⟨k + 1, done ++ [((k : Int), ((k + p : Nat) : Int))], by omega, by simp; omega, by go_num, by simpa using ho1, hb2, Lib.hid (by rw [HS.out, HN.out, HK.out, HP.out]; simp)⟩
        case measure => simp [intOf]; omega
    · have HE := Lib.hid (spl_end (l := zs) (i := k) (by rw [← HC.out]; exact hlt))
      go_wp2
      go_ret
      obtain ⟨B, g, rfl, hl⟩ := ho.sl
      exact ⟨B, _, g, rfl, by rw [HS.out, HE.out, List.append_nil]; exact hl, hb⟩
end Go.Proofs.Ytnaooleopifnmaa.Hg
