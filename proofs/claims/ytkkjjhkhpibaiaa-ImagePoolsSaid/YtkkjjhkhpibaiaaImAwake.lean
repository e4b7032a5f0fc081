/-
  The contract of the example with which each statement on images ends.
-/
import Derived.Test.YtkkjjhkhpibaiaaImRun
import Derived.Test.YtkkjjhkhpibaiaaImSeal
namespace Go.Proofs.Ytkkjjhkhpibaiaa.Im
open Go.RowKit
set_option linter.unusedVariables false

theorem read_ex (w : World) : Calls Try.prog 18 #[.string ⟨#[4, 2, 1, 114, 101, 115, 116]⟩] w (fun e w' => ∃ g, e = .returned (.tuple #[.slice (some ⟨g, 0, none⟩) 2 2, .int .i64 3, .int .i64 0]) ∧ Blk w' g [1, -1] ∧ Below w.heap.size w w') := by
  have hr : rdList (strInts ⟨#[4, 2, 1, 114, 101, 115, 116]⟩) = .ok ([1, -1], [114, 101, 115, 116]) := by kernel_rfl
  refine (readInts_any w (by decide) hr).mono ?_
  rintro e w' ⟨⟨g, rfl, hz⟩, hb⟩
  exact ⟨g, rfl, hz, hb⟩
theorem ints_ex {A : Option Addr} {c : Nat} (w : World) (hx : Sl w A 2 c 1 (ints [1, -1])) : Calls Try.prog 16 #[.slice A 2 c] w (Makes (.string ⟨#[4, 2, 1]⟩) w) :=
  ints_any w hx (by intro z hz; simp at hz; unfold I64; omega) (by omega) (by rfl)
theorem sum_ex (w : World) : Calls Try.prog 13 #[.string ⟨#[]⟩] w (Gives (.int .u32 2166136261) w) := by
  have h := sum_any ⟨#[]⟩ w (by decide)
  rw [show sumL (strInts ⟨#[]⟩) = 2166136261 from by rw [sumL, show strInts ⟨#[]⟩ = [] from rfl, sumFrom_nil]] at h
  exact h
theorem two_ints (w : World) : Sl (w.alloc (.cells #[.int .i64 1, .int .i64 (-1)] 3)) (some ⟨w.heap.size, 0, none⟩) 2 2 1 (ints [1, -1]) :=
  Sl.built w 3 1 2 (ints [1, -1]) rfl (by unfold maxLen; omega)

set_option maxRecDepth 100000 in
set_option maxHeartbeats 2000000 in
theorem alive_any (w : World) : Calls Try.prog 15 #[] w (Makes (.bool true) w) := by
  go_enter Try.func15, Try.ntmps15
  go_wp2_with (first
    | (go_at_call 18; refine (read_ex _).mono ?_; rintro e w1 ⟨g, rfl, hz, b1⟩)
    | (go_at_call 16; refine (ints_ex _ (two_ints _)).mono ?_; rintro e w2 ⟨rfl, b2⟩; have hz2 := hz.keep (Below.trans (Below.alloc (Below.refl w1.heap.size w1) (Nat.le_refl _) (.cells #[.int .i64 1, .int .i64 (-1)] 3)) (b2.mono (by simp))) hz.lt; have t2 := Below.trans b1 (Below.trans (Below.alloc (Below.refl w.heap.size w1) b1.size (.cells #[.int .i64 1, .int .i64 (-1)] 3)) (b2.mono (by simp; have := b1.size; omega))))
    | (go_at_call 19; refine (same_any (r := true) (xs := [1, -1]) (ys := [1, -1]) _ ((hz2.keep (Below.alloc (Below.refl w2.heap.size w2) (Nat.le_refl _) (.cells #[.int .i64 1, .int .i64 (-1)] 3)) hz2.lt).sl (n := 2) rfl (by unfold maxLen; omega)) (two_ints _) (by decide)).mono ?_; rintro e w3 ⟨rfl, d3⟩; have t3 := Below.trans t2 (Below.trans (Below.alloc (Below.refl w.heap.size w2) t2.size (.cells #[.int .i64 1, .int .i64 (-1)] 3)) (d3.below _)))
    | (go_at_call 13; refine (sum_ex _).mono ?_; rintro e w4 ⟨rfl, rfl⟩))
  go_ret
  exact ⟨rfl, t3⟩
end Go.Proofs.Ytkkjjhkhpibaiaa.Im
