/-
  The contracts of the reference's functions of layer 19: Kind, Compose, Decompose, Part, Split, for every input.
-/
import Derived.Test.YtnaooleopifnmaaMem
import Derived.Test.YtnaooleopifnmaaHgMath
import Derived.Deep.QuietTactic
import Derived.BigQuiet
import Derived.WalkLawsBesides
namespace Go.Proofs.Ytnaooleopifnmaa.Hg
open Go.RowKit
set_option linter.unusedVariables false

theorem ref_kind_any (c : Int) (w : World) : Calls Try.prog 16 #[.int .i64 c] w (Gives (.int .i64 (kind c)) w) := by
  have h9 : c < 4352 ∨ 4352 ≤ c ∧ c ≤ 4370 ∨ 4370 < c ∧ c < 4449 ∨ 4449 ≤ c ∧ c ≤ 4469 ∨ 4469 < c ∧ c < 4520 ∨ 4520 ≤ c ∧ c ≤ 4546 ∨ 4546 < c ∧ c < 44032 ∨ (44032 ≤ c ∧ c ≤ 55203 ∧ (c - 44032) % 28 = 0) ∨ (44032 ≤ c ∧ c ≤ 55203 ∧ ¬ (c - 44032) % 28 = 0) ∨ 55203 < c := by omega
  rcases h9 with h | ⟨h, h2⟩ | ⟨h, h2⟩ | ⟨h, h2⟩ | ⟨h, h2⟩ | ⟨h, h2⟩ | ⟨h, h2⟩ | ⟨h, h2, h3⟩ | ⟨h, h2, h3⟩ | h
  · have H : Hid (kind c = 0) := Lib.hid (by unfold kind; (repeat' split) <;> omega)
    go_enter Try.func16, Try.ntmps16
    go_wp2
    go_ret
    exact gives_int (H.out.trans (by first | rfl | omega))
  · have H : Hid (kind c = 1) := Lib.hid (by unfold kind; (repeat' split) <;> omega)
    go_enter Try.func16, Try.ntmps16
    go_wp2
    go_ret
    exact gives_int (H.out.trans (by first | rfl | omega))
  · have H : Hid (kind c = 0) := Lib.hid (by unfold kind; (repeat' split) <;> omega)
    go_enter Try.func16, Try.ntmps16
    go_wp2
    go_ret
    exact gives_int (H.out.trans (by first | rfl | omega))
  · have H : Hid (kind c = 2) := Lib.hid (by unfold kind; (repeat' split) <;> omega)
    go_enter Try.func16, Try.ntmps16
    go_wp2
    go_ret
    exact gives_int (H.out.trans (by first | rfl | omega))
  · have H : Hid (kind c = 0) := Lib.hid (by unfold kind; (repeat' split) <;> omega)
    go_enter Try.func16, Try.ntmps16
    go_wp2
    go_ret
    exact gives_int (H.out.trans (by first | rfl | omega))
  · have H : Hid (kind c = 3) := Lib.hid (by unfold kind; (repeat' split) <;> omega)
    go_enter Try.func16, Try.ntmps16
    go_wp2
    go_ret
    exact gives_int (H.out.trans (by first | rfl | omega))
  · have H : Hid (kind c = 0) := Lib.hid (by unfold kind; (repeat' split) <;> omega)
    go_enter Try.func16, Try.ntmps16
    go_wp2
    go_ret
    exact gives_int (H.out.trans (by first | rfl | omega))
  · have H : Hid (kind c = 4) := Lib.hid (by unfold kind; (repeat' split) <;> omega)
    have hb : ((c - 44032) % 28 == 0) = true := by rw [h3]; rfl
    clear h3
    go_enter Try.func16, Try.ntmps16
    go_wp2
    go_ret
    exact gives_int (H.out.trans (by first | rfl | omega))
  · have H : Hid (kind c = 5) := Lib.hid (by unfold kind; (repeat' split) <;> omega)
    have hb : ((c - 44032) % 28 == 0) = false := by rw [beq_eq_false_iff_ne]; exact h3
    clear h3
    go_enter Try.func16, Try.ntmps16
    go_wp2
    go_ret
    exact gives_int (H.out.trans (by first | rfl | omega))
  · have H : Hid (kind c = 0) := Lib.hid (by unfold kind; (repeat' split) <;> omega)
    go_enter Try.func16, Try.ntmps16
    go_wp2
    go_ret
    exact gives_int (H.out.trans (by first | rfl | omega))

theorem ref_kind_x {c k : Int} (h : kind c = k) (w : World) : Calls Try.prog 16 #[.int .i64 c] w (Gives (.int .i64 k) w) := by
  rw [← h]
  exact ref_kind_any c w
theorem gives_two {x y : Int} {p q : Bool} {w : World} {r : Int × Bool} (h : r = (x, p)) (hy : y = x) (hq : q = p) : Gives (.tuple #[.int .i64 r.1, .bool r.2]) w (.returned (.tuple #[.int .i64 y, .bool q])) w := by
  subst h
  subst hy
  subst hq
  exact ⟨rfl, rfl⟩

theorem ref_compose_any (a b : Int) (w : World) : Calls Try.prog 22 #[.int .i64 a, .int .i64 b] w (Gives (.tuple #[.int .i64 (comp a b).1, .bool (comp a b).2]) w) := by
  obtain ⟨x, hx⟩ : ∃ x, kind a = x := ⟨_, rfl⟩
  obtain ⟨y, hy⟩ : ∃ y, kind b = y := ⟨_, rfl⟩
  have hcase : (x = 1 ∧ y = 2) ∨ (x = 4 ∧ y = 3) ∨ (x = 1 ∧ ¬ y = 2) ∨ (x = 4 ∧ ¬ y = 3) ∨ (¬ x = 1 ∧ ¬ x = 4) := by omega
  rcases hcase with ⟨h1, h2⟩ | ⟨h1, h2⟩ | ⟨h1, h2⟩ | ⟨h1, h2⟩ | ⟨h1, h2⟩
  · rw [h1] at hx
    rw [h2] at hy
    have ha := kind_lead.1 hx
    have hb := kind_vowel.1 hy
    have H : Hid (comp a b = (44032 + (21 * (a - 4352) + b - 4449) * 28, true)) := Lib.hid (by rw [comp, if_pos ⟨hx, hy⟩])
    have HX := Lib.hid hx
    have HY := Lib.hid hy
    clear hx hy h1 h2
    obtain ⟨a1, a2⟩ := ha
    obtain ⟨b1, b2⟩ := hb
    go_enter Try.func22, Try.ntmps22
    go_wp2_with fail
    refine (ref_kind_x HX.out _).mono ?_
    rintro e w' ⟨rfl, rfl⟩
    go_wp2_with fail
    refine (ref_kind_x HY.out _).mono ?_
    rintro e w' ⟨rfl, rfl⟩
    go_wp2_with fail
    go_ret2
    exact gives_two H.out (by first | rfl | omega) rfl
  · rw [h1] at hx
    rw [h2] at hy
    have ha := kind_open.1 hx
    have hb := kind_trail.1 hy
    have H : Hid (comp a b = (a + b - 4520 + 1, true)) := Lib.hid (by rw [comp, if_neg (by omega), if_pos ⟨hx, hy⟩])
    have HX := Lib.hid hx
    have HY := Lib.hid hy
    clear hx hy h1 h2
    obtain ⟨a1, a2, _⟩ := ha
    obtain ⟨b1, b2⟩ := hb
    go_enter Try.func22, Try.ntmps22
    go_wp2_with fail
    refine (ref_kind_x HX.out _).mono ?_
    rintro e w' ⟨rfl, rfl⟩
    go_wp2_with fail
    refine (ref_kind_x HX.out _).mono ?_
    rintro e w' ⟨rfl, rfl⟩
    go_wp2_with fail
    refine (ref_kind_x HY.out _).mono ?_
    rintro e w' ⟨rfl, rfl⟩
    go_wp2_with fail
    go_ret2
    exact gives_two H.out (by first | rfl | omega) rfl
  · have H : Hid (comp a b = (0, false)) := Lib.hid (by rw [comp, if_neg (by omega), if_neg (by omega)])
    rw [h1] at hx
    have HX := Lib.hid hx
    have HY := Lib.hid hy
    have hb : (y == 2) = false := by rw [beq_eq_false_iff_ne]; exact h2
    clear hx hy h1 h2
    go_enter Try.func22, Try.ntmps22
    go_wp2_with fail
    refine (ref_kind_x HX.out _).mono ?_
    rintro e w' ⟨rfl, rfl⟩
    go_wp2_with fail
    refine (ref_kind_x HY.out _).mono ?_
    rintro e w' ⟨rfl, rfl⟩
    go_wp2_with fail
    refine (ref_kind_x HX.out _).mono ?_
    rintro e w' ⟨rfl, rfl⟩
    go_wp2_with fail
    go_ret2
    exact gives_two H.out rfl rfl
  · have H : Hid (comp a b = (0, false)) := Lib.hid (by rw [comp, if_neg (by omega), if_neg (by omega)])
    rw [h1] at hx
    have HX := Lib.hid hx
    have HY := Lib.hid hy
    have hb : (y == 3) = false := by rw [beq_eq_false_iff_ne]; exact h2
    clear hx hy h1 h2
    go_enter Try.func22, Try.ntmps22
    go_wp2_with fail
    refine (ref_kind_x HX.out _).mono ?_
    rintro e w' ⟨rfl, rfl⟩
    go_wp2_with fail
    refine (ref_kind_x HX.out _).mono ?_
    rintro e w' ⟨rfl, rfl⟩
    go_wp2_with fail
    refine (ref_kind_x HY.out _).mono ?_
    rintro e w' ⟨rfl, rfl⟩
    go_wp2_with fail
    go_ret2
    exact gives_two H.out rfl rfl
  · have H : Hid (comp a b = (0, false)) := Lib.hid (by rw [comp, if_neg (by omega), if_neg (by omega)])
    have HX := Lib.hid hx
    have hb : (x == 1) = false := by rw [beq_eq_false_iff_ne]; exact h1
    have hb4 : (x == 4) = false := by rw [beq_eq_false_iff_ne]; exact h2
    clear hx hy h1 h2
    go_enter Try.func22, Try.ntmps22
    go_wp2_with fail
    refine (ref_kind_x HX.out _).mono ?_
    rintro e w' ⟨rfl, rfl⟩
    go_wp2_with fail
    refine (ref_kind_x HX.out _).mono ?_
    rintro e w' ⟨rfl, rfl⟩
    go_wp2_with fail
    go_ret2
    exact gives_two H.out rfl rfl

theorem ref_decompose_any (c : Int) (w : World) : Calls Try.prog 19 #[.int .i64 c] w (Lists (dec c) w) := by
  obtain ⟨k, hk⟩ : ∃ k, kind c = k := ⟨_, rfl⟩
  rcases Int.lt_or_le k 4 with h | h
  · have H := Lib.hid (dec_other (by omega : kind c < 4))
    have HK := Lib.hid hk
    clear hk
    go_enter Try.func19, Try.ntmps19
    go_wp2_with fail
    refine (ref_kind_x HK.out _).mono ?_
    rintro e w' ⟨rfl, rfl⟩
    go_wp2_with fail
    go_ret
    exact ⟨_, _, _, rfl, by rw [H.out]; exact Sl.built w 3 1 1 _ rfl (by unfold maxLen; omega), (Below.refl _ _).alloc (Nat.le_refl _) _⟩
  · have hs := kind_syll.1 (by omega : 4 ≤ kind c)
    obtain ⟨s1, s2⟩ := hs
    have hr := kind_range c
    have h45 : k = 4 ∨ k = 5 := by omega
    have HK := Lib.hid hk
    rcases h45 with e | e
    · rw [e] at hk
      have H := Lib.hid (dec_open hk)
      have hm := (kind_open.1 hk).2.2
      have hm2 : (c - 44032) % 28 ≤ 0 := by omega
      clear hk hr hm e
      go_enter Try.func19, Try.ntmps19
      go_wp2_with fail
      refine (ref_kind_x HK.out _).mono ?_
      rintro e w' ⟨rfl, rfl⟩
      go_wp2_with fail
      go_ret
      exact ⟨_, _, _, rfl, by rw [H.out]; exact Sl.built w 3 1 2 _ rfl (by unfold maxLen; omega), (Below.refl _ _).alloc (Nat.le_refl _) _⟩
    · rw [e] at hk
      have H := Lib.hid (dec_shut hk)
      have hm := (kind_shut.1 hk).2.2
      have hm2 : 0 < (c - 44032) % 28 := by omega
      clear hk hr hm e
      go_enter Try.func19, Try.ntmps19
      go_wp2_with fail
      refine (ref_kind_x HK.out _).mono ?_
      rintro e w' ⟨rfl, rfl⟩
      go_wp2_with (at_builtin; go_loud (refine wpList_append_ints rfl (.tmp 24) (.tmp 29) rfl w.heap.size _ 2 [4352 + (c - 44032) / 28 / 21, 4449 + (c - 44032) / 28 % 21] rfl ((Own.built w w.heap.size 3 1 2 _ (Nat.le_refl _) rfl (by unfold maxLen; omega)).alloc _) _ 1 1 [4520 + (c - 44032) % 28 - 1] rfl (Sl.built_at _ 3 1 1 _ rfl (by unfold maxLen; omega) (by simp)) 3 rfl _ rfl (by omega) (by simp; omega) ?_); intro v1 w1 ho1 hb1)
      go_ret
      obtain ⟨A, g, rfl, hl⟩ := ho1.sl
      refine ⟨A, 3, g, rfl, by rw [H.out]; exact hl, (((Below.refl _ _).alloc (Nat.le_refl _) _).alloc (by simp) _).trans hb1⟩
end Go.Proofs.Ytnaooleopifnmaa.Hg
