/-
  The contracts of join and Decode of package utf16text.
-/
import Derived.Test.YtjfhhcaikapfiaaDoorUxProgB
import Derived.Test.YtjfhhcaikapfiaaDoorUxArr
import Derived.Deep.QuietTactic
import Derived.BigQuiet
import Derived.Deep.RegionHeld3
namespace Go.Proofs.YtjfhhcaikapfiaaDoor.Ux
open Go.RowKit
set_option linter.unusedVariables false

theorem makes_two {x y : Int} {p : Bool} {w w' : World} (h : x = y) (hb : Below w.heap.size w w') : Makes (.tuple #[.int .i64 y, .bool p]) w (.returned (.tuple #[.int .i64 x, .bool p])) w' := by
  subst h
  exact ⟨rfl, hb⟩
theorem high_iff {u : Int} : high u = true ↔ 55296 ≤ u ∧ u ≤ 56319 := by simp [high]
theorem low_iff {u : Int} : low u = true ↔ 56320 ≤ u ∧ u ≤ 57343 := by simp [low]
theorem unit_iff {u : Int} : unit u = true ↔ 0 ≤ u ∧ u ≤ 65535 ∧ ¬ (55296 ≤ u ∧ u ≤ 57343) := by unfold unit; rw [decide_eq_true_iff]

set_option maxHeartbeats 1000000 in
theorem join_yes {u v : Int} (hu : high u = true) (hv : low v = true) (w : World) : Calls Tryd.prog 30 #[.agg #[.int .i64 u, .int .i64 v]] w (Makes (.tuple #[.int .i64 (pairv u v), .bool true]) w) := by
  obtain ⟨hu1, hu2⟩ := high_iff.1 hu
  obtain ⟨hv1, hv2⟩ := low_iff.1 hv
  obtain ⟨z, hz⟩ : ∃ z, 65536 + (u - 55296) * 1024 + (v - 56320) = z := ⟨_, rfl⟩
  have HZ : Hid (z = pairv u v) := Lib.hid (by rw [← hz, pairv]; omega)
  have z1 : 65536 ≤ z := by omega
  have z2 : z ≤ 1114111 := by omega
  have d1 : decide (z < 65536) = false := by rw [decide_eq_false_iff_not]; omega
  have d2 : decide (1114111 < z) = false := by rw [decide_eq_false_iff_not]; omega
  have HX : Hid (55296 + (z - 65536) / 1024 = u) := Lib.hid (by omega)
  have HY : Hid (56320 + (z - 65536) % 1024 = v) := Lib.hid (by omega)
  have q := two_is (a := u) (b := v) (c := u) (d := v) (r := true) (by simp)
  have bx : Below w.heap.size w (w.alloc (.cells #[.int .i64 u, .int .i64 v] 45)) := (Below.refl _ _).alloc (Nat.le_refl _) _
  obtain ⟨⟨x0, x1⟩, _, _⟩ := box2 (heap_alloc_new w (.cells #[.int .i64 u, .int .i64 v] 45))
  have sx : w.heap.size < (w.alloc (.cells #[.int .i64 u, .int .i64 v] 45)).heap.size := by simp
  clear hu hv
  go_enter Tryd.func30, Tryd.ntmps30
  go_wp2_with fail
  clear hz
  go_region_held3 (fun W => W.cell? ⟨w.heap.size, 0, none⟩ = some (.int .i64 u) ∧ W.cell? ⟨w.heap.size, 1, none⟩ = some (.int .i64 v)) (first | exact ⟨x0, x1⟩ | exact ⟨(hb.cell (p := ⟨w.heap.size, 0, none⟩) sx).trans x0, (hb.cell (p := ⟨w.heap.size, 1, none⟩) sx).trans x1⟩)
    (first | (go_at_call 25; refine (pair_x z1 z2 HX.out HY.out _).mono ?_; rintro e w2 ⟨rfl, hb⟩))
  go_wp2_with fail
  go_ret2
  exact makes_two HZ.out (bx.trans ((undrew hb).mono bx.size))

set_option maxHeartbeats 1000000 in
theorem join_no {u v : Int} (h : ¬ (high u = true ∧ low v = true)) (w : World) : Calls Tryd.prog 30 #[.agg #[.int .i64 u, .int .i64 v]] w (Makes (.tuple #[.int .i64 0, .bool false]) w) := by
  rw [high_iff, low_iff] at h
  obtain ⟨z, hz⟩ : ∃ z, wrap64 (wrap64 (65536 + wrap64 (wrap64 (u - 55296) * 1024)) + wrap64 (v - 56320)) = z := ⟨_, rfl⟩
  have bx : Below w.heap.size w (w.alloc (.cells #[.int .i64 u, .int .i64 v] 45)) := (Below.refl _ _).alloc (Nat.le_refl _) _
  obtain ⟨⟨x0, x1⟩, _, _⟩ := box2 (heap_alloc_new w (.cells #[.int .i64 u, .int .i64 v] 45))
  have sx : w.heap.size < (w.alloc (.cells #[.int .i64 u, .int .i64 v] 45)).heap.size := by simp
  rcases Int.lt_or_le z 65536 with z1 | z1
  · clear h
    go_enter Tryd.func30, Tryd.ntmps30
    go_wp2_with fail
    rw [hz]
    clear hz
    go_quiet (fail)
    go_wp2_with fail
    go_ret2
    exact makes_two rfl (drewN_below bx _)
  · have d1 : decide (z < 65536) = false := by rw [decide_eq_false_iff_not]; omega
    rcases Int.lt_or_le 1114111 z with z2 | z2
    · clear h
      go_enter Tryd.func30, Tryd.ntmps30
      go_wp2_with fail
      rw [hz]
      clear hz
      go_quiet (fail)
      go_wp2_with fail
      go_ret2
      exact makes_two rfl (drewN_below bx _)
    · have d2 : decide (1114111 < z) = false := by rw [decide_eq_false_iff_not]; omega
      obtain ⟨x, hx⟩ : ∃ x, 55296 + (z - 65536) / 1024 = x := ⟨_, rfl⟩
      obtain ⟨y, hy⟩ : ∃ y, 56320 + (z - 65536) % 1024 = y := ⟨_, rfl⟩
      have q := two_is (a := x) (b := y) (c := u) (d := v) (r := false) (by rw [decide_eq_false_iff_not]; omega)
      have HX := Lib.hid hx
      have HY := Lib.hid hy
      clear h hx hy
      go_enter Tryd.func30, Tryd.ntmps30
      go_wp2_with fail
      rw [hz]
      clear hz
      go_region_held3 (fun W => W.cell? ⟨w.heap.size, 0, none⟩ = some (.int .i64 u) ∧ W.cell? ⟨w.heap.size, 1, none⟩ = some (.int .i64 v)) (first | exact ⟨x0, x1⟩ | exact ⟨(hb.cell (p := ⟨w.heap.size, 0, none⟩) sx).trans x0, (hb.cell (p := ⟨w.heap.size, 1, none⟩) sx).trans x1⟩)
        (first | (go_at_call 25; refine (pair_x z1 z2 HX.out HY.out _).mono ?_; rintro e w2 ⟨rfl, hb⟩))
      go_wp2_with fail
      go_ret2
      exact makes_two rfl (bx.trans ((undrew hb).mono bx.size))
end Go.Proofs.YtjfhhcaikapfiaaDoor.Ux
