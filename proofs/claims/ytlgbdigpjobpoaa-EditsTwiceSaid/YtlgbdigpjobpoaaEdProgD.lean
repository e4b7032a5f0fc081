/-
  The contract of Merge of package edits where there is none.
-/
import Derived.Test.YtlgbdigpjobpoaaEdProgC
import Derived.Test.YtlgbdigpjobpoaaEdMerge
namespace Go.Proofs.Ytlgbdigpjobpoaa.Ed
open Go.RowKit
set_option linter.unusedVariables false

/-- All old memory as it was, and three blocks of the call's own hold these objects. -/
structure B3 (w W : World) (o o' o'' : Obj) : Prop where
  below : Below w.heap.size w W
  size : w.heap.size + 1 + 1 < W.heap.size
  h0 : W.heap[w.heap.size]? = some o
  h1 : W.heap[w.heap.size + 1]? = some o'
  h2 : W.heap[w.heap.size + 1 + 1]? = some o''
theorem B3.new (w : World) (o o' o'' : Obj) : B3 w (((w.alloc o).alloc o').alloc o'') o o' o'' := by
  obtain ⟨h0, h1, h2, t, s⟩ := boxed3 (w := w) (o := o) (o' := o') (o'' := o'') (Below.refl _ _)
  exact ⟨t, s, h0, h1, h2⟩
theorem B3.step {w W w1 : World} {o o' o'' : Obj} (h : B3 w W o o' o'') (hb : Below W.heap.size W w1) : B3 w w1 o o' o'' :=
  ⟨h.below.trans (hb.mono h.below.size), Nat.lt_of_lt_of_le h.size hb.size, (hb.block _ (by have := h.size; omega)).trans h.h0, (hb.block _ (by have := h.size; omega)).trans h.h1, (hb.block _ h.size).trans h.h2⟩

set_option maxHeartbeats 2000000 in
theorem pmerge_n0 {a d b q : Int} {A B : Option Addr} {n m c f : Nat} {xs ys : List Int} (h : ¬ mrg a d n b q) (ha : (Lit.int .i64 a).wf = true) (hd : (Lit.int .i64 d).wf = true) (hb : (Lit.int .i64 b).wf = true) (hq : (Lit.int .i64 q).wf = true) (hn : n ≤ 100) (hm : m ≤ 100) (w : World) (hx : Sl w A n c 1 (ints xs)) (hy : Sl w B m f 1 (ints ys)) :
    Calls Try.prog 25 #[.agg #[.int .i64 a, .int .i64 d, .slice A n c], .agg #[.int .i64 b, .int .i64 q, .slice B m f]] w (EditOk 0 0 [] false w) := by
  have hb' : -9223372036854775808 ≤ b ∧ b ≤ 9223372036854775807 := by simpa [Lit.wf, IntKind.min, IntKind.max, IntKind.signed, IntKind.bits] using hb
  obtain ⟨bb0, bb1⟩ := hb'
  have HQ := Lib.hid hq
  clear hb ha hd hq
  have hcase : ¬ (0 ≤ a ∧ 0 ≤ d) ∨ (0 ≤ a ∧ 0 ≤ d ∧ ¬ (0 ≤ b ∧ 0 ≤ q)) ∨ (0 ≤ a ∧ 0 ≤ d ∧ (0 ≤ b ∧ 0 ≤ q) ∧ b < a) ∨ (0 ≤ a ∧ 0 ≤ d ∧ (0 ≤ b ∧ 0 ≤ q) ∧ a ≤ b ∧ chk (b - a) q n = 1) := by
    rcases chk_cases (b - a) q n with h1 | h1
    · unfold mrg at h; omega
    · omega
  clear h
  have k0 := B3.new w (.cells #[.int .i64 a, .int .i64 d, .slice A n c] 24) (.cells #[.int .i64 b, .int .i64 q, .slice B m f] 24) (.cells #[.int .i64 0, .int .i64 0, .slice none 0 0] 24)
  rcases hcase with h | ⟨h, h2, h3⟩ | ⟨h, h2, h3, h4⟩ | ⟨h, h2, h3, h4, h5⟩
  · have HF : Hid (decide (0 ≤ a ∧ 0 ≤ d) = false) := Lib.hid (by rw [decide_eq_false_iff_not]; exact h)
    clear h
    go_enter Try.func25, Try.ntmps25
    go_wp2_with fail
    refine (pforward_x HF.out _).mono ?_
    rintro e w1 ⟨rfl, b1⟩
    have k1 := k0.step b1
    obtain ⟨⟨y0, y1, y2⟩, f0, f1, f2⟩ := box3 k1.h2
    clear b1
    go_wp2_with fail
    refine bodyPost_ret (v := .tuple #[.agg #[.int .i64 0, .int .i64 0, .slice none 0 0], .bool false]) (by simp [results, Try.results25, go_sem, y0, y1, y2]) rfl ⟨none, 0, 0, rfl, Sl.nil _ _, ?_⟩
    exact ((k1.below.setCell (by simp; omega) _).setCell (by simp; omega) _).setCell (by simp; omega) _
  · have HF : Hid (decide (0 ≤ a ∧ 0 ≤ d) = true) := Lib.hid (by rw [decide_eq_true_iff]; omega)
    have HG : Hid (decide (0 ≤ b ∧ 0 ≤ q) = false) := Lib.hid (by rw [decide_eq_false_iff_not]; exact h3)
    clear h h2 h3
    go_enter Try.func25, Try.ntmps25
    go_wp2_with fail
    refine (pforward_x HF.out _).mono ?_
    rintro e w1 ⟨rfl, b1⟩
    have k1 := k0.step b1
    obtain ⟨⟨x0, x1, x2⟩, _, _, _⟩ := box3 k1.h1
    clear b1
    go_wp2_with fail
    refine (pforward_x HG.out _).mono ?_
    rintro e w2 ⟨rfl, b2⟩
    have k2 := k1.step b2
    clear x0 x1 x2 b2
    obtain ⟨⟨y0, y1, y2⟩, f0, f1, f2⟩ := box3 k2.h2
    go_wp2_with fail
    refine bodyPost_ret (v := .tuple #[.agg #[.int .i64 0, .int .i64 0, .slice none 0 0], .bool false]) (by simp [results, Try.results25, go_sem, y0, y1, y2]) rfl ⟨none, 0, 0, rfl, Sl.nil _ _, ?_⟩
    exact ((k2.below.setCell (by simp; omega) _).setCell (by simp; omega) _).setCell (by simp; omega) _
  · have HF : Hid (decide (0 ≤ a ∧ 0 ≤ d) = true) := Lib.hid (by rw [decide_eq_true_iff]; omega)
    have HG : Hid (decide (0 ≤ b ∧ 0 ≤ q) = true) := Lib.hid (by rw [decide_eq_true_iff]; exact h3)
    clear h3
    go_enter Try.func25, Try.ntmps25
    go_wp2_with fail
    refine (pforward_x HF.out _).mono ?_
    rintro e w1 ⟨rfl, b1⟩
    have k1 := k0.step b1
    obtain ⟨⟨x0, x1, x2⟩, _, _, _⟩ := box3 k1.h1
    clear b1
    go_wp2_with fail
    refine (pforward_x HG.out _).mono ?_
    rintro e w2 ⟨rfl, b2⟩
    have k2 := k1.step b2
    clear x0 x1 x2 b2
    obtain ⟨⟨y0, y1, y2⟩, f0, f1, f2⟩ := box3 k2.h2
    obtain ⟨⟨x0, x1, x2⟩, _, _, _⟩ := box3 k2.h1
    obtain ⟨⟨z0, z1, z2⟩, _, _, _⟩ := box3 k2.h0
    go_wp2_with fail
    refine bodyPost_ret (v := .tuple #[.agg #[.int .i64 0, .int .i64 0, .slice none 0 0], .bool false]) (by simp [results, Try.results25, go_sem, y0, y1, y2]) rfl ⟨none, 0, 0, rfl, Sl.nil _ _, ?_⟩
    exact ((k2.below.setCell (by simp; omega) _).setCell (by simp; omega) _).setCell (by simp; omega) _
  · have HF : Hid (decide (0 ≤ a ∧ 0 ≤ d) = true) := Lib.hid (by rw [decide_eq_true_iff]; omega)
    have HG : Hid (decide (0 ≤ b ∧ 0 ≤ q) = true) := Lib.hid (by rw [decide_eq_true_iff]; exact h3)
    have H := Lib.hid h5
    have i1 : IntKind.i64.wrap (b - a) = b - a := IntWalk.i64_in _ (by omega)
    have HW : Hid ((Lit.int .i64 (b - a)).wf = true) := Lib.hid (by
      have h1 : IntKind.i64.min = -9223372036854775808 := rfl
      have h2 : IntKind.i64.max = 9223372036854775807 := rfl
      simp only [Lit.wf, Bool.and_eq_true, decide_eq_true_eq]
      omega)
    clear h3 h5
    go_enter Try.func25, Try.ntmps25
    go_wp2_with fail
    refine (pforward_x HF.out _).mono ?_
    rintro e w1 ⟨rfl, b1⟩
    have k1 := k0.step b1
    obtain ⟨⟨x0, x1, x2⟩, _, _, _⟩ := box3 k1.h1
    clear b1
    go_wp2_with fail
    refine (pforward_x HG.out _).mono ?_
    rintro e w2 ⟨rfl, b2⟩
    have k2 := k1.step b2
    clear x0 x1 x2 b2
    obtain ⟨⟨x0, x1, x2⟩, _, _, _⟩ := box3 k2.h1
    obtain ⟨⟨z0, z1, z2⟩, _, _, _⟩ := box3 k2.h0
    have s2 := k2.size
    have s2a : w.heap.size < w2.heap.size := by omega
    have s2b : w.heap.size + 1 < w2.heap.size := by omega
    have A2 : (w2.alloc (.cells #[.int .i64 (b - a), .int .i64 q, .slice none 0 0] 24)).cell? ⟨w.heap.size, 2, none⟩ = some (.slice A n c) := (((Below.refl w2.heap.size w2).alloc (Nat.le_refl _) _).cell (p := ⟨w.heap.size, 2, none⟩) s2a).trans z2
    go_wp2_with fail
    refine (pcheck_y H.out HW.out HQ.out (nat_wf n (by omega)) (by omega) _).mono ?_
    rintro e w3 ⟨rfl, b3⟩
    have k3 := k2.step (((Below.refl _ _).alloc (Nat.le_refl _) (.cells #[.int .i64 (b - a), .int .i64 q, .slice none 0 0] 24)).trans (b3.mono (by simp)))
    clear x0 x1 x2 z0 z1 z2 b3 A2 s2 s2a s2b
    obtain ⟨⟨y0, y1, y2⟩, f0, f1, f2⟩ := box3 k3.h2
    go_wp2_with fail
    refine bodyPost_ret (v := .tuple #[.agg #[.int .i64 0, .int .i64 0, .slice none 0 0], .bool false]) (by simp [results, Try.results25, go_sem, y0, y1, y2]) rfl ⟨none, 0, 0, rfl, Sl.nil _ _, ?_⟩
    exact ((k3.below.setCell (by simp; omega) _).setCell (by simp; omega) _).setCell (by simp; omega) _

end Go.Proofs.Ytlgbdigpjobpoaa.Ed
