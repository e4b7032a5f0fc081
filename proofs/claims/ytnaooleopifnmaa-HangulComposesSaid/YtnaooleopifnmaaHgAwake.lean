/-
  The contract of the examples with which each statement on Hangul begins.
-/
import Derived.Test.YtnaooleopifnmaaHgProg3
import Derived.Test.YtnaooleopifnmaaR01Compare
namespace Go.Proofs.Ytnaooleopifnmaa.Hg
open Go.RowKit
set_option linter.unusedVariables false

theorem pcompose_x {a b x : Int} {ok : Bool} (h : comp a b = (x, ok)) (w : World) : Calls Try.prog 21 #[.int .i64 a, .int .i64 b] w (Makes (.tuple #[.int .i64 x, .bool ok]) w) := by
  have := pcompose_any a b w
  rw [h] at this
  exact this
theorem pdecompose_x {c : Int} {zs : List Int} (h : dec c = zs) (w : World) : Calls Try.prog 18 #[.int .i64 c] w (Lists zs w) := by
  rw [← h]
  exact pdecompose_any c w
theorem psplit_x {A : Option Addr} {n c : Nat} {zs : List Int} {l : List (Int × Int)} (hl : spl zs 0 = l) (w : World) (h : Sl w A n c 1 (ints zs)) (hn : n ≤ 500) : Calls Try.prog 23 #[.slice A n c] w (GivesRanges l w) := by
  rw [← hl]
  exact psplit_any A n c zs w h hn

set_option maxHeartbeats 1000000 in
theorem awake_any (w : World) : Calls Try.prog 20 #[] w (Makes (.bool true) w) := by
  go_enter Try.func20, Try.ntmps20
  go_wp2_with fail
  refine (pcompose_x (x := 44032) (ok := true) (by decide) _).mono ?_
  rintro e w1 ⟨rfl, b1⟩
  go_wp2_with fail
  refine (psplit_x (zs := [4352, 4449, 4520, 65, 44032]) (l := [(0, 3), (4, 5)]) (by decide) _ (Sl.built w1 3 1 5 _ rfl (by unfold maxLen; omega)) (by omega)).mono ?_
  rintro e w2 ⟨A, n, c, rfl, hl, hb⟩
  obtain rfl : n = 2 := hl.rcount
  have b2 : Below w.heap.size w w2 := b1.trans ((((Below.refl _ _).alloc (Nat.le_refl _) _).trans (hb.mono (by simp))).mono b1.size)
  clear hb
  go_wp2_with fail
  refine (pdecompose_x (zs := [4352, 4449, 4520]) (by decide) _).mono ?_
  rintro e w3 ⟨B, m, d, rfl, hd, hb3⟩
  obtain rfl : m = 3 := hd.count
  have b3 := b2.trans (hb3.mono b2.size)
  have hl3 := hl.keep hb3
  go_wp2_with fail
  have bl4 : Below w3.heap.size w3 (w3.alloc (.cells #[.int .i64 4352, .int .i64 4449, .int .i64 4520] 3)) := (Below.refl _ _).alloc (Nat.le_refl _) _
  refine (ref_equal_x (b := true) (by decide) (hd.keep bl4) (Sl.built w3 3 1 3 (ints [4352, 4449, 4520]) rfl (by unfold maxLen; omega))).mono ?_
  rintro e w4 ⟨rfl, hd4⟩
  have b4 := b3.trans ((bl4.trans (hd4.below _)).mono b3.size)
  have hl4 := (hl3.keep bl4).drawn hd4
  obtain ⟨b, off, rfl, _, _, c1⟩ := hl4.rng_at (k := 0) (by omega)
  obtain ⟨b', off', e, _, c2, _⟩ := hl4.rng_at (k := 1) (by omega)
  cases e
  simp only [Nat.zero_mul, Nat.one_mul, Nat.add_zero] at c1 c2
  have hcap := hl4.cap
  have hmax := hl4.max
  go_wp2_with (first
    | (go_at_call 15; refine (pkind_x (k := 5) (by decide) _).mono ?_; rintro e w' ⟨rfl, rfl⟩))
  go_ret
  exact ⟨rfl, b4⟩
end Go.Proofs.Ytnaooleopifnmaa.Hg
