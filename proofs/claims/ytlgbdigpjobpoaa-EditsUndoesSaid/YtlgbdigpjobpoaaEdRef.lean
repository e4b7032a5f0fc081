/-
  The contracts of the reference's functions of layer 53.
-/
import Derived.Test.YtlgbdigpjobpoaaMem
import Derived.Test.YtlgbdigpjobpoaaEdMath
import Derived.Test.YtlgbdigpjobpoaaR01Compare
import Derived.Deep.QuietTactic
import Derived.BigQuiet
import Derived.StillTailTactics
namespace Go.Proofs.Ytlgbdigpjobpoaa.Ed
open Go.RowKit
set_option linter.unusedVariables false

/-- The value of an edit. -/
def ev (a d : Int) (A : Option Addr) (n c : Nat) : Value := .agg #[.int .i64 a, .int .i64 d, .slice A n c]

theorem ref_small_any (a d : Int) (A : Option Addr) (n c : Nat) (hn : n ≤ 9223372036854775807) (w : World) : Calls Try.prog 12 #[.agg #[.int .i64 a, .int .i64 d, .slice A n c]] w (Makes (.bool (decide (n ≤ 40))) w) := by
  rcases Nat.lt_or_ge 40 n with h | h
  · have H : Hid (decide (n ≤ 40) = false) := Lib.hid (by simp; omega)
    go_enter Try.func12, Try.ntmps12
    go_wp2
    go_ret
    exact ⟨ret_bool' (by rw [H.out]; simp; omega), (Below.refl _ _).alloc (Nat.le_refl _) _⟩
  · have H : Hid (decide (n ≤ 40) = true) := Lib.hid (by simp; omega)
    go_enter Try.func12, Try.ntmps12
    go_wp2
    go_ret
    exact ⟨ret_bool' (by rw [H.out]; simp; omega), (Below.refl _ _).alloc (Nat.le_refl _) _⟩

theorem ref_check_any (a d s : Int) (A : Option Addr) (n c : Nat) (ha : (Lit.int .i64 a).wf = true) (hs : (Lit.int .i64 s).wf = true) (w : World) :
    Calls Try.prog 14 #[.agg #[.int .i64 a, .int .i64 d, .slice A n c], .int .i64 s] w (Makes (.int .i64 (chk a d s)) w) := by
  have hs' : -9223372036854775808 ≤ s ∧ s ≤ 9223372036854775807 := by simpa [Lit.wf, IntKind.min, IntKind.max, IntKind.signed, IntKind.bits] using hs
  obtain ⟨s0, s1⟩ := hs'
  clear ha hs
  have hcase : a < 0 ∨ (0 ≤ a ∧ d < 0) ∨ (0 ≤ a ∧ 0 ≤ d ∧ s < a) ∨ (0 ≤ a ∧ 0 ≤ d ∧ a ≤ s ∧ s - a < d) ∨ (0 ≤ a ∧ 0 ≤ d ∧ a ≤ s ∧ d ≤ s - a) := by omega
  rcases hcase with h | ⟨h, h2⟩ | ⟨h, h2, h3⟩ | ⟨h, h2, h3, h4⟩ | ⟨h, h2, h3, h4⟩
  · have H := Lib.hid ((chk_one (a := a) (d := d) (s := s)).2 (by omega))
    go_enter Try.func14, Try.ntmps14
    go_wp2
    go_ret
    exact ⟨ret_int' H.out, (Below.refl _ _).alloc (Nat.le_refl _) _⟩
  · have H := Lib.hid ((chk_one (a := a) (d := d) (s := s)).2 (by omega))
    go_enter Try.func14, Try.ntmps14
    go_wp2
    go_ret
    exact ⟨ret_int' H.out, (Below.refl _ _).alloc (Nat.le_refl _) _⟩
  · have H := Lib.hid ((chk_one (a := a) (d := d) (s := s)).2 (by omega))
    go_enter Try.func14, Try.ntmps14
    go_wp2
    go_ret
    exact ⟨ret_int' H.out, (Below.refl _ _).alloc (Nat.le_refl _) _⟩
  · have H := Lib.hid ((chk_one (a := a) (d := d) (s := s)).2 (by omega))
    go_enter Try.func14, Try.ntmps14
    go_wp2
    go_ret
    exact ⟨ret_int' H.out, (Below.refl _ _).alloc (Nat.le_refl _) _⟩
  · have H := Lib.hid ((chk_zero (a := a) (d := d) (s := s)).2 (by omega))
    go_enter Try.func14, Try.ntmps14
    go_wp2
    go_ret
    exact ⟨ret_int' H.out, (Below.refl _ _).alloc (Nat.le_refl _) _⟩
theorem ref_check_x {a d s r : Int} (h : chk a d s = r) {A : Option Addr} {n c : Nat} (ha : (Lit.int .i64 a).wf = true) (hs : (Lit.int .i64 s).wf = true) (w : World) :
    Calls Try.prog 14 #[.agg #[.int .i64 a, .int .i64 d, .slice A n c], .int .i64 s] w (Makes (.int .i64 r) w) := by
  rw [← h]
  exact ref_check_any a d s A n c ha hs w

theorem ref_join_any (A B C : Option Addr) (n m l c d e : Nat) (xs ys zs : List Int) (w : World) (hx : Sl w A n c 1 (ints xs)) (hy : Sl w B m d 1 (ints ys)) (hz : Sl w C l e 1 (ints zs)) (hs : n + m + l ≤ 1000000) :
    Calls Try.prog 30 #[.slice A n c, .slice B m d, .slice C l e] w (ListsNew (xs ++ ys ++ zs) w) := by
  go_enter Try.func30, Try.ntmps30
  go_wp2_with (first
    | (at_builtin; refine wpList_append_ints rfl (.tmp 8) (.tmp 9) rfl w.heap.size (.slice none 0 0) 0 [] rfl (Own.nil _ _ _ _) A n c xs rfl hx n (by omega) xs rfl (by omega) (Nat.le_refl _) ?_; intro v1 w1 o1 b1; have hy1 := hy.keep b1; have hz1 := hz.keep b1)
    | (at_builtin; refine wpList_append_ints rfl (.tmp 11) (.tmp 12) rfl w.heap.size v1 n xs rfl o1 B m d ys rfl hy1 (n + m) rfl (xs ++ ys) rfl (by omega) b1.size ?_; intro v2 w2 o2 b2; have b12 := b1.trans b2; have hz2 := hz.keep b12)
    | (at_builtin; refine wpList_append_ints rfl (.tmp 14) (.tmp 15) rfl w.heap.size v2 (n + m) (xs ++ ys) rfl o2 C l e zs rfl hz2 (n + m + l) rfl (xs ++ ys ++ zs) rfl (by omega) b12.size ?_; intro v3 w3 o3 b3; have b13 := b12.trans b3))
  go_ret
  obtain ⟨D, g, rfl, hl, hf⟩ := o3.sl_from
  exact ⟨D, _, g, rfl, hl, b13, hf⟩
end Go.Proofs.Ytlgbdigpjobpoaa.Ed
