/-
  The contracts of package hangul: divide, Decompose, Compose, for every input.
-/
import Derived.Test.YtnaooleopifnmaaHgProg
import Derived.Test.YtnaooleopifnmaaHgArr
namespace Go.Proofs.Ytnaooleopifnmaa.Hg
open Go.RowKit
set_option linter.unusedVariables false

theorem pkind_x {c k : Int} (h : kind c = k) (w : World) : Calls Try.prog 15 #[.int .i64 c] w (Gives (.int .i64 k) w) := by
  rw [← h]
  exact pkind_any c w
theorem divide_x {c z : Int} (h1 : 44032 ≤ c) (h2 : c ≤ 55203) (hz : (if 0 < (c - 44032) % 28 then 4520 + (c - 44032) % 28 - 1 else 0) = z) (w : World) :
    Calls Try.prog 41 #[.int .i64 c] w (Makes (.agg #[.int .i64 (4352 + (c - 44032) / 588), .int .i64 (4449 + (c - 44032) / 28 % 21), .int .i64 z]) w) := by
  rcases Int.lt_or_le 0 ((c - 44032) % 28) with h | h
  · have H : Hid (z = 4520 + (c - 44032) % 28 - 1) := Lib.hid (by rw [← hz, if_pos h])
    clear hz
    go_enter Try.func41, Try.ntmps41
    go_wp2
    rw [H.out]
    exact bodyPost_ret (v := .agg #[.int .i64 (4352 + (c - 44032) / 588), .int .i64 (4449 + (c - 44032) / 28 % 21), .int .i64 (4520 + (c - 44032) % 28 - 1)]) (by simp [results, Try.results41, go_sem]) rfl ⟨rfl, ((Below.refl _ _).alloc (Nat.le_refl _) _).alloc (by simp) _⟩
  · have H : Hid (z = 0) := Lib.hid (by rw [← hz, if_neg (by omega)])
    clear hz
    go_enter Try.func41, Try.ntmps41
    go_wp2
    rw [H.out]
    exact bodyPost_ret (v := .agg #[.int .i64 (4352 + (c - 44032) / 588), .int .i64 (4449 + (c - 44032) / 28 % 21), .int .i64 0]) (by simp [results, Try.results41, go_sem]) rfl ⟨rfl, ((Below.refl _ _).alloc (Nat.le_refl _) _).alloc (by simp) _⟩

theorem makes_two {x y : Int} {p q : Bool} {w w' : World} {r : Int × Bool} (h : r = (x, p)) (hy : y = x) (hq : q = p) (hb : Below w.heap.size w w') : Makes (.tuple #[.int .i64 r.1, .bool r.2]) w (.returned (.tuple #[.int .i64 y, .bool q])) w' := by
  subst h
  subst hy
  subst hq
  exact ⟨rfl, hb⟩
theorem pcompose_any (a b : Int) (w : World) : Calls Try.prog 21 #[.int .i64 a, .int .i64 b] w (Makes (.tuple #[.int .i64 (comp a b).1, .bool (comp a b).2]) w) := by
  obtain ⟨x, hx⟩ : ∃ x, kind a = x := ⟨_, rfl⟩
  obtain ⟨y, hy⟩ : ∃ y, kind b = y := ⟨_, rfl⟩
  have hcase : (x = 1 ∧ y = 2) ∨ (x = 4 ∧ y = 3) ∨ (¬ (x = 1 ∧ y = 2) ∧ ¬ (x = 4 ∧ y = 3)) := by omega
  rcases hcase with ⟨h1, h2⟩ | ⟨h1, h2⟩ | ⟨h1, h2⟩
  · rw [h1] at hx
    rw [h2] at hy
    have ha := kind_lead.1 hx
    have hb := kind_vowel.1 hy
    have H : Hid (comp a b = (44032 + (21 * (a - 4352) + b - 4449) * 28, true)) := Lib.hid (by rw [comp, if_pos ⟨hx, hy⟩])
    have q1 := two_is (a := 1) (b := 2) (c := 1) (d := 2) (r := true) (by decide)
    have q2 := two_is (a := 1) (b := 2) (c := 4) (d := 3) (r := false) (by decide)
    have HX := Lib.hid hx
    have HY := Lib.hid hy
    clear hx hy h1 h2
    obtain ⟨a1, a2⟩ := ha
    obtain ⟨b1, b2⟩ := hb
    go_enter Try.func21, Try.ntmps21
    go_wp2_with fail
    refine (pkind_x HX.out _).mono ?_
    rintro e w' ⟨rfl, rfl⟩
    go_wp2_with fail
    refine (pkind_x HY.out _).mono ?_
    rintro e w' ⟨rfl, rfl⟩
    go_wp2_with fail
    go_ret2
    exact makes_two H.out (by first | rfl | omega) rfl ((Below.refl _ _).alloc (Nat.le_refl _) _)
  · rw [h1] at hx
    rw [h2] at hy
    have ha := kind_open.1 hx
    have hb := kind_trail.1 hy
    have H : Hid (comp a b = (a + b - 4520 + 1, true)) := Lib.hid (by rw [comp, if_neg (by omega), if_pos ⟨hx, hy⟩])
    have q1 := two_is (a := 4) (b := 3) (c := 1) (d := 2) (r := false) (by decide)
    have q2 := two_is (a := 4) (b := 3) (c := 4) (d := 3) (r := true) (by decide)
    have HX := Lib.hid hx
    have HY := Lib.hid hy
    clear hx hy h1 h2
    obtain ⟨a1, a2, _⟩ := ha
    obtain ⟨b1, b2⟩ := hb
    go_enter Try.func21, Try.ntmps21
    go_wp2_with fail
    refine (pkind_x HX.out _).mono ?_
    rintro e w' ⟨rfl, rfl⟩
    go_wp2_with fail
    refine (pkind_x HY.out _).mono ?_
    rintro e w' ⟨rfl, rfl⟩
    go_wp2_with fail
    go_ret2
    exact makes_two H.out (by first | rfl | omega) rfl ((Below.refl _ _).alloc (Nat.le_refl _) _)
  · have H : Hid (comp a b = (0, false)) := Lib.hid (by rw [comp, if_neg (by omega), if_neg (by omega)])
    have q1 := two_is (a := x) (b := y) (c := 1) (d := 2) (r := false) (by rw [decide_eq_false_iff_not]; exact h1)
    have q2 := two_is (a := x) (b := y) (c := 4) (d := 3) (r := false) (by rw [decide_eq_false_iff_not]; exact h2)
    have HX := Lib.hid hx
    have HY := Lib.hid hy
    clear hx hy h1 h2
    go_enter Try.func21, Try.ntmps21
    go_wp2_with fail
    refine (pkind_x HX.out _).mono ?_
    rintro e w' ⟨rfl, rfl⟩
    go_wp2_with fail
    refine (pkind_x HY.out _).mono ?_
    rintro e w' ⟨rfl, rfl⟩
    go_wp2_with fail
    go_ret2
    exact makes_two H.out rfl rfl ((Below.refl _ _).alloc (Nat.le_refl _) _)

theorem pdecompose_any (c : Int) (w : World) : Calls Try.prog 18 #[.int .i64 c] w (Lists (dec c) w) := by
  obtain ⟨k, hk⟩ : ∃ k, kind c = k := ⟨_, rfl⟩
  have hr := kind_range c
  have hcase : (¬ k = 4 ∧ ¬ k = 5) ∨ k = 4 ∨ k = 5 := by omega
  rcases hcase with ⟨h4, h5⟩ | h | h
  · have H := Lib.hid (dec_other (by omega : kind c < 4))
    have HK := Lib.hid hk
    have e4 : (k == 4) = false := by rw [beq_eq_false_iff_ne]; exact h4
    have e5 : (k == 5) = false := by rw [beq_eq_false_iff_ne]; exact h5
    have n4 : (k != 4) = true := by rw [bne, e4]; rfl
    have n5 : (k != 5) = true := by rw [bne, e5]; rfl
    clear hk hr h4 h5
    go_enter Try.func18, Try.ntmps18
    go_wp2_with (go_at_call 15; refine (pkind_x HK.out _).mono ?_; rintro e w' ⟨rfl, rfl⟩)
    go_ret
    exact ⟨_, _, _, rfl, by rw [H.out]; exact Sl.built w 3 1 1 _ rfl (by unfold maxLen; omega), (Below.refl _ _).alloc (Nat.le_refl _) _⟩
  · rw [h] at hk
    have H := Lib.hid (dec_open hk)
    obtain ⟨s1, s2, s3⟩ := kind_open.1 hk
    have HK := Lib.hid hk
    clear hk hr h
    obtain ⟨z, hz⟩ : ∃ z, (if 0 < (c - 44032) % 28 then 4520 + (c - 44032) % 28 - 1 else 0) = z := ⟨_, rfl⟩
    have HZ := Lib.hid hz
    obtain ⟨u, hu⟩ : ∃ u, 4352 + (c - 44032) / 588 = u := ⟨_, rfl⟩
    obtain ⟨v, hv⟩ : ∃ v, 4449 + (c - 44032) / 28 % 21 = v := ⟨_, rfl⟩
    have hz0 : z = 0 := by rw [← hz, if_neg (by omega)]
    subst hz0
    have HD : Hid (dec c = [u, v]) := Lib.hid (by rw [H.out, ← hu, ← hv]; congr 2; omega)
    have HDV : ∀ w, Calls Try.prog 41 #[.int .i64 c] w (Makes (.agg #[.int .i64 u, .int .i64 v, .int .i64 0]) w) := fun w => by
      rw [← hu, ← hv]
      exact divide_x s1 s2 HZ.out w
    have HDV' := Lib.hid HDV
    clear HDV hu hv hz s3
    go_enter Try.func18, Try.ntmps18
    go_wp2_with (first | (go_at_call 15; refine (pkind_x HK.out _).mono ?_; rintro e w' ⟨rfl, rfl⟩) | (go_at_call 41; refine (HDV'.out _).mono ?_; rintro e w1 ⟨rfl, b1⟩))
    go_ret
    refine ⟨_, _, _, rfl, by rw [HD.out]; exact Sl.built_at (w1.alloc _) 3 1 2 _ rfl (by unfold maxLen; omega) (by simp), (b1.alloc b1.size _).alloc (by simp; have := b1.size; omega) _⟩
  · rw [h] at hk
    have H := Lib.hid (dec_shut hk)
    obtain ⟨s1, s2, s3⟩ := kind_shut.1 hk
    have HK := Lib.hid hk
    clear hk hr h
    obtain ⟨z, hz⟩ : ∃ z, (if 0 < (c - 44032) % 28 then 4520 + (c - 44032) % 28 - 1 else 0) = z := ⟨_, rfl⟩
    have HZ := Lib.hid hz
    obtain ⟨u, hu⟩ : ∃ u, 4352 + (c - 44032) / 588 = u := ⟨_, rfl⟩
    obtain ⟨v, hv⟩ : ∃ v, 4449 + (c - 44032) / 28 % 21 = v := ⟨_, rfl⟩
    have HD : Hid (dec c = [u, v, z]) := Lib.hid (by rw [H.out, ← hu, ← hv, ← hz, if_pos (by omega)]; congr 2; omega)
    have ez : (z == 0) = false := by rw [beq_eq_false_iff_ne, ← hz, if_pos (by omega)]; omega
    have HDV : ∀ w, Calls Try.prog 41 #[.int .i64 c] w (Makes (.agg #[.int .i64 u, .int .i64 v, .int .i64 z]) w) := fun w => by
      rw [← hu, ← hv]
      exact divide_x s1 s2 HZ.out w
    have HDV' := Lib.hid HDV
    clear HDV hu hv hz s3
    go_enter Try.func18, Try.ntmps18
    go_wp2_with (first | (go_at_call 15; refine (pkind_x HK.out _).mono ?_; rintro e w' ⟨rfl, rfl⟩) | (go_at_call 41; refine (HDV'.out _).mono ?_; rintro e w1 ⟨rfl, b1⟩))
    go_ret
    refine ⟨_, _, _, rfl, by rw [HD.out]; exact Sl.built_at (w1.alloc _) 3 1 3 _ rfl (by unfold maxLen; omega) (by simp), (b1.alloc b1.size _).alloc (by simp; have := b1.size; omega) _⟩
end Go.Proofs.Ytnaooleopifnmaa.Hg
