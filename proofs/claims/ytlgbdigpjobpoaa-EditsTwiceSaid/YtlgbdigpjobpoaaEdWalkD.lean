/-
  The walks of EditsDiffs and EditsShifts.
-/
import Derived.Test.YtlgbdigpjobpoaaEdWalkC
namespace Go.Proofs.Ytlgbdigpjobpoaa.Ed
open Go.RowKit
set_option linter.unusedVariables false

theorem ref_diff_x {A B : Option Addr} {n m c f : Nat} {xs ys : List Int} {p : Nat} {q : Int} {zs : List Int} (hp : pre xs ys = p) (hq : (n : Int) - suf xs ys - p = q) (hz : (ys.drop p).take (m - suf xs ys - p) = zs) (hn : n ≤ 100) (hm : m ≤ 100) (w : World) (hx : Sl w A n c 1 (ints xs)) (hy : Sl w B m f 1 (ints ys)) :
    Calls Try.prog 24 #[.slice A n c, .slice B m f] w (GivesEdit p q zs w) := by
  have h := ref_diff_any A B n m c f xs ys w hx hy (by omega) (by omega)
  rw [hp, hq, hz] at h
  exact h

set_option maxHeartbeats 1000000 in
theorem diffs_walk (A B : Option Addr) (n c m f : Nat) (xs ys : List Int) (w : World) (hx : Sl w A n c 1 (ints xs)) (hy : Sl w B m f 1 (ints ys)) :
    Calls Try.prog 6 #[.slice A n c, .slice B m f] w (Makes (.bool true) w) := by
  have hcx := hx.cap
  have hmx := hx.max
  have hcy := hy.cap
  have hmy := hy.max
  rcases Nat.lt_or_ge 60 n with hn | hn
  · go_enter Try.func6, Try.ntmps6
    go_wp2_with fail
    refine (few_x (r := false) (by simp; omega) (by omega) _).mono ?_
    rintro e w1 ⟨rfl, rfl⟩
    go_wp2_with fail
    refine (alive_any _).mono ?_
    rintro e w9 ⟨rfl, b9⟩
    go_wp2_with fail
    go_ret
    exact ⟨rfl, b9⟩
  · rcases Nat.lt_or_ge 60 m with hm | hm
    · go_enter Try.func6, Try.ntmps6
      go_wp2_with fail
      refine (few_x (r := true) (by simp; omega) (by omega) _).mono ?_
      rintro e w1 ⟨rfl, rfl⟩
      go_wp2_with fail
      refine (few_x (r := false) (by simp; omega) (by omega) _).mono ?_
      rintro e w1 ⟨rfl, rfl⟩
      go_wp2_with fail
      refine (alive_any _).mono ?_
      rintro e w9 ⟨rfl, b9⟩
      go_wp2_with fail
      go_ret
      exact ⟨rfl, b9⟩
    · obtain ⟨p, hp⟩ : ∃ p, pre xs ys = p := ⟨_, rfl⟩
      obtain ⟨q, hq⟩ : ∃ q, (n : Int) - suf xs ys - p = q := ⟨_, rfl⟩
      obtain ⟨zs, hz⟩ : ∃ zs, (ys.drop p).take (m - suf xs ys - p) = zs := ⟨_, rfl⟩
      have HP := Lib.hid hp
      have HQ := Lib.hid hq
      have HZ := Lib.hid hz
      clear hp hq hz
      go_enter Try.func6, Try.ntmps6
      go_wp2_with fail
      refine (few_x (r := true) (by simp; omega) (by omega) _).mono ?_
      rintro e w1 ⟨rfl, rfl⟩
      go_wp2_with fail
      refine (few_x (r := true) (by simp; omega) (by omega) _).mono ?_
      rintro e w1 ⟨rfl, rfl⟩
      go_wp2_with fail
      refine (pdiff_x HP.out HQ.out HZ.out (by omega) (by omega) _ hx hy).mono ?_
      rintro e w2 ⟨C, r, g, rfl, l2, b2⟩
      go_wp2_with fail
      refine (ref_diff_x HP.out HQ.out HZ.out (by omega) (by omega) _ (hx.keep b2) (hy.keep b2)).mono ?_
      rintro e w3 ⟨D, r', g', rfl, l3, b3⟩
      have t3 := b2.trans (b3.mono b2.size)
      go_wp2_with fail
      refine (ref_same_x (r := true) (by simp) _ (l2.keep b3) l3).mono ?_
      rintro e w4 ⟨rfl, b4⟩
      have t4 := t3.trans (b4.mono t3.size)
      go_wp2_with fail
      refine (alive_any _).mono ?_
      rintro e w9 ⟨rfl, b9⟩
      go_wp2_with fail
      go_ret
      exact ⟨rfl, t4.trans (b9.mono t4.size)⟩
end Go.Proofs.Ytlgbdigpjobpoaa.Ed
