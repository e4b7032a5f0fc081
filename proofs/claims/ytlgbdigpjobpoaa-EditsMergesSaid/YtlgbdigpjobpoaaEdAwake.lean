/-
  The contract of the examples with which each statement on edits ends.
-/
import Derived.Test.YtlgbdigpjobpoaaEdProg
namespace Go.Proofs.Ytlgbdigpjobpoaa.Ed
open Go.RowKit
set_option linter.unusedVariables false

theorem ml (n : Nat) (h : n ≤ 1000) : n ≤ maxLen := by unfold maxLen; omega

theorem built_last (w : World) (o : Obj) (t : TypeId) (n : Nat) (zs : List Int) (h : zs.length = n) (hm : n ≤ 1000) {g : Nat} (hg : g = w.heap.size) : Sl ((w.alloc (.cells (ints zs).toArray t)).alloc o) (some ⟨g, 0, none⟩) n n 1 (ints zs) := by
  rw [hg]
  exact (Sl.built w t 1 n (ints zs) (by simp [ints, h]) (ml n hm)).keep ((Below.refl _ _).alloc (Nat.le_refl _) _)
theorem built_next (w : World) (o : Obj) (t : TypeId) (n : Nat) (zs : List Int) (h : zs.length = n) (hm : n ≤ 1000) {g : Nat} (hg : g = w.heap.size + 1) : Sl ((w.alloc o).alloc (.cells (ints zs).toArray t)) (some ⟨g, 0, none⟩) n n 1 (ints zs) := by
  have h := Sl.built (w.alloc o) t 1 n (ints zs) (by simp [ints, h]) (ml n hm)
  rw [World.size_alloc, ← hg] at h
  exact h
theorem alloc5 (w : World) (o1 o2 o3 o4 o5 : Obj) {W : World} (hW : W = ((((w.alloc o1).alloc o2).alloc o3).alloc o4).alloc o5) :
    W.heap[w.heap.size]? = some o1 ∧ W.heap[w.heap.size + 1 + 1]? = some o3 ∧ Below w.heap.size w W ∧ W.heap.size = w.heap.size + 5 := by
  subst hW
  refine ⟨?_, ?_, ?_, by simp⟩
  · rw [heap_alloc_old _ _ (by simp; omega), heap_alloc_old _ _ (by simp; omega), heap_alloc_old _ _ (by simp; omega), heap_alloc_old _ _ (by simp), heap_alloc_new]
  · rw [heap_alloc_old _ _ (by simp), heap_alloc_old _ _ (by simp)]
    have e := heap_alloc_new ((w.alloc o1).alloc o2) o3
    simp only [World.size_alloc] at e
    exact e
  · exact (((((Below.refl _ _).alloc (Nat.le_refl _) _).alloc (by simp) _).alloc (by simp; omega) _).alloc (by simp; omega) _).alloc (by simp; omega) _

set_option maxRecDepth 100000 in
set_option maxHeartbeats 1000000 in
theorem alive_any (w : World) : Calls Try.prog 15 #[] w (Makes (.bool true) w) := by
  go_enter Try.func15, Try.ntmps15
  go_wp2_with fail
  refine (pdiff_x (p := 1) (q := 1) (zs := [120]) (xs := [97, 98, 99]) (ys := [97, 120, 99]) (by decide) (by decide) (by decide) (by omega) (by omega) _ (built_last w _ 3 3 [97, 98, 99] rfl (by omega) rfl) (built_next w _ 3 3 [97, 120, 99] rfl (by omega) rfl)).mono ?_
  rintro e w1 ⟨A1, n1, c1, rfl, l1, b1⟩
  obtain rfl : n1 = 1 := l1.count
  have t1 : Below w.heap.size w w1 := (((Below.refl _ _).alloc (Nat.le_refl _) _).alloc (by simp) _).trans (b1.mono (by simp; omega))
  clear b1
  go_wp2_with fail
  refine (pmerge_yes (a := 1) (d := 0) (k := 1) (q := 2) (zs := [120, 118]) (xs := [120, 121, 122]) (ys := [118]) (by omega) (by omega) (by omega) (by omega) (by omega) (by decide) _ (built_last _ _ 3 3 [120, 121, 122] rfl (by omega) (by simp)) (built_next _ _ 3 1 [118] rfl (by omega) (by simp))).mono ?_
  rintro e w2 ⟨A2, n2, c2, rfl, l2, b2⟩
  obtain ⟨g1, g3, t5, hsz⟩ := alloc5 w1 _ _ _ _ _ rfl
  obtain rfl : n2 = 2 := l2.count
  have G1 := (b2.block w1.heap.size (by rw [hsz]; omega)).trans g1
  have G3 := (b2.block (w1.heap.size + 1 + 1) (by rw [hsz]; omega)).trans g3
  have T2 := t5.trans (b2.mono t5.size)
  have L1 := l1.keep T2
  have S2 : w1.heap.size + 5 ≤ w2.heap.size := by have := b2.size; rw [hsz] at this; exact this
  clear b2 g1 g3 t5 hsz
  obtain ⟨⟨x0, x1, x2⟩, _, _, _⟩ := box3 G1
  obtain ⟨⟨z0, z1, z2⟩, _, _, _⟩ := box3 G3
  have bA : Below w2.heap.size w2 (w2.alloc (.cells #[.int .i64 1, .int .i64 0, .slice A2 2 c2] 24)) := (Below.refl _ _).alloc (Nat.le_refl _) _
  have X0 := (bA.cell (p := ⟨w1.heap.size, 0, none⟩) (by show w1.heap.size < w2.heap.size; omega)).trans x0
  have X1 := (bA.cell (p := ⟨w1.heap.size, 1, none⟩) (by show w1.heap.size < w2.heap.size; omega)).trans x1
  have X2 := (bA.cell (p := ⟨w1.heap.size, 2, none⟩) (by show w1.heap.size < w2.heap.size; omega)).trans x2
  clear x0 x1 x2 z0 z1 z2
  go_wp2_with fail
  refine (ref_same_x (r := true) (xs := [120]) (ys := [120]) (by decide) _ ((L1.keep bA).keep ((Below.refl _ _).alloc (Nat.le_refl _) _)) (built_next _ _ 3 1 [120] rfl (by omega) rfl)).mono ?_
  rintro e w4 ⟨rfl, b4⟩
  obtain ⟨g4, _, t4, hs4⟩ := boxed2 b4
  have T4 := T2.trans (t4.mono T2.size)
  have F4 := (t4.block (w1.heap.size + 1 + 1) (by omega)).trans G3
  have L4 := l2.keep t4
  have S4 := t4.size
  clear b4 t4 X0 X1 X2 bA T2 L1 l2
  obtain ⟨⟨z0, z1, z2⟩, _, _, _⟩ := box3 F4
  go_wp2_with fail
  refine (pshift_x (r := 1) (by decide) (by omega) rfl rfl (by omega) (by omega) _).mono ?_
  rintro e w5 ⟨rfl, b5⟩
  have T5 := T4.trans (b5.mono T4.size)
  have F5 := (b5.block (w1.heap.size + 1 + 1) (by omega)).trans F4
  have g5 := (b5.block w2.heap.size (by omega)).trans g4
  have L5 := L4.keep b5
  have S5 := b5.size
  clear b5 F4 g4 L4 T4 z0 z1 z2
  obtain ⟨⟨z0, z1, z2⟩, _, _, _⟩ := box3 F5
  go_wp2_with fail
  refine (pshift_x (r := 3) (by decide) (by omega) rfl rfl (by omega) (by omega) _).mono ?_
  rintro e w6 ⟨rfl, b6⟩
  have T6 := T5.trans (b6.mono T5.size)
  have F6 := (b6.block (w1.heap.size + 1 + 1) (by omega)).trans F5
  have g6 := (b6.block w2.heap.size (by omega)).trans g5
  have L6 := L5.keep b6
  have S6 := b6.size
  clear b6 F5 g5 L5 T5 z0 z1 z2
  obtain ⟨⟨z0, z1, z2⟩, _, _, _⟩ := box3 g6
  go_wp2_with fail
  refine (ref_same_x (r := true) (xs := [120, 118]) (ys := [120, 118]) (by decide) _ (L6.keep ((Below.refl _ _).alloc (Nat.le_refl _) _)) (Sl.built w6 3 1 2 (ints [120, 118]) rfl (ml _ (by omega)))).mono ?_
  rintro e w7 ⟨rfl, b7⟩
  have t7 := boxed_below b7
  have T7 := T6.trans (t7.mono T6.size)
  have F7 := (t7.block (w1.heap.size + 1 + 1) (by omega)).trans F6
  clear b7 t7 F6 g6 L6 T6 z0 z1 z2
  obtain ⟨⟨z0, z1, z2⟩, _, _, _⟩ := box3 F7
  go_wp2_with fail
  refine (pcheck_x (r := 1) (by decide) rfl rfl rfl (by omega) _).mono ?_
  rintro e w8 ⟨rfl, b8⟩
  have T8 := T7.trans (b8.mono T7.size)
  go_wp2_with fail
  go_ret
  exact ⟨rfl, t1.trans (T8.mono t1.size)⟩
end Go.Proofs.Ytlgbdigpjobpoaa.Ed
