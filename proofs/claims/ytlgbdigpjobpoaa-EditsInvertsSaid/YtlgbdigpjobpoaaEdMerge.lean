/-
  The contract of the reference's Merge of layer 53.
-/
import Derived.Test.YtlgbdigpjobpoaaEdRef4
namespace Go.Proofs.Ytlgbdigpjobpoaa.Ed
open Go.RowKit
set_option linter.unusedVariables false

/-- The call returns an edit (its list in memory) and a Bool, all old memory as it was. -/
def EditOk (a d : Int) (ins : List Int) (r : Bool) (w : World) (e : Ending) (w' : World) : Prop :=
  ∃ A n c, e = .returned (.tuple #[.agg #[.int .i64 a, .int .i64 d, .slice A n c], .bool r]) ∧ Sl w' A n c 1 (ints ins) ∧ Below w.heap.size w w'

/-- Two edits one after the other are one edit. -/
def mrg (a d : Int) (n : Nat) (b c : Int) : Prop := 0 ≤ a ∧ 0 ≤ d ∧ a ≤ b ∧ chk (b - a) c n = 0

/-- Three blocks that have just been made read the same behind a call that leaves them alone. -/
theorem boxed3 {w w1 : World} {o o' o'' : Obj} (hb : Below (((w.alloc o).alloc o').alloc o'').heap.size (((w.alloc o).alloc o').alloc o'') w1) :
    w1.heap[w.heap.size]? = some o ∧ w1.heap[w.heap.size + 1]? = some o' ∧ w1.heap[w.heap.size + 1 + 1]? = some o'' ∧ Below w.heap.size w w1 ∧ w.heap.size + 1 + 1 < w1.heap.size := by
  have hb2 : Below ((w.alloc o).alloc o').heap.size ((w.alloc o).alloc o') w1 := ((Below.refl _ _).alloc (Nat.le_refl _) _).trans (hb.mono (by simp))
  obtain ⟨h0, h1, t, _⟩ := boxed2 hb2
  refine ⟨h0, h1, ?_, t, ?_⟩
  · have h := hb.block (w.heap.size + 1 + 1) (by simp)
    have e := heap_alloc_new ((w.alloc o).alloc o') o''
    simp only [World.size_alloc] at e
    rw [e] at h
    exact h
  · have := hb.size
    simp at this
    omega

set_option maxHeartbeats 1000000 in
theorem ref_merge_no (a d b q : Int) (A B : Option Addr) (n m c f : Nat) (h : ¬ mrg a d n b q) (hb : (Lit.int .i64 b).wf = true) (hn : n ≤ 9223372036854775807) (w : World) :
    Calls Try.prog 26 #[.agg #[.int .i64 a, .int .i64 d, .slice A n c], .agg #[.int .i64 b, .int .i64 q, .slice B m f]] w (EditOk 0 0 [] false w) := by
  have hb' : -9223372036854775808 ≤ b ∧ b ≤ 9223372036854775807 := by simpa [Lit.wf, IntKind.min, IntKind.max, IntKind.signed, IntKind.bits] using hb
  obtain ⟨b0, b1⟩ := hb'
  clear hb
  have hcase : a < 0 ∨ (0 ≤ a ∧ d < 0) ∨ (0 ≤ a ∧ 0 ≤ d ∧ b < a) ∨ (0 ≤ a ∧ 0 ≤ d ∧ a ≤ b ∧ chk (b - a) q n = 1) := by
    rcases chk_cases (b - a) q n with h1 | h1
    · unfold mrg at h; omega
    · omega
  clear h
  rcases hcase with h | ⟨h, h2⟩ | ⟨h, h2, h3⟩ | ⟨h, h2, h3, h4⟩
  · go_enter Try.func26, Try.ntmps26
    go_wp2_with fail
    obtain ⟨_, _, g2, t1, hsz⟩ := boxed3 (w := w) (o := .cells #[.int .i64 a, .int .i64 d, .slice A n c] 24) (o' := .cells #[.int .i64 b, .int .i64 q, .slice B m f] 24) (o'' := .cells #[.int .i64 0, .int .i64 0, .slice none 0 0] 24) (Below.refl _ _)
    obtain ⟨⟨y0, y1, y2⟩, f0, f1, f2⟩ := box3 g2
    refine bodyPost_ret (v := .tuple #[.agg #[.int .i64 0, .int .i64 0, .slice none 0 0], .bool false]) (by simp [results, Try.results26, go_sem, y0, y1, y2]) rfl ⟨none, 0, 0, rfl, Sl.nil _ _, ?_⟩
    exact t1
  · go_enter Try.func26, Try.ntmps26
    go_wp2_with fail
    obtain ⟨_, _, g2, t1, hsz⟩ := boxed3 (w := w) (o := .cells #[.int .i64 a, .int .i64 d, .slice A n c] 24) (o' := .cells #[.int .i64 b, .int .i64 q, .slice B m f] 24) (o'' := .cells #[.int .i64 0, .int .i64 0, .slice none 0 0] 24) (Below.refl _ _)
    obtain ⟨⟨y0, y1, y2⟩, f0, f1, f2⟩ := box3 g2
    refine bodyPost_ret (v := .tuple #[.agg #[.int .i64 0, .int .i64 0, .slice none 0 0], .bool false]) (by simp [results, Try.results26, go_sem, y0, y1, y2]) rfl ⟨none, 0, 0, rfl, Sl.nil _ _, ?_⟩
    exact t1
  · go_enter Try.func26, Try.ntmps26
    go_wp2_with fail
    obtain ⟨_, _, g2, t1, hsz⟩ := boxed3 (w := w) (o := .cells #[.int .i64 a, .int .i64 d, .slice A n c] 24) (o' := .cells #[.int .i64 b, .int .i64 q, .slice B m f] 24) (o'' := .cells #[.int .i64 0, .int .i64 0, .slice none 0 0] 24) (Below.refl _ _)
    obtain ⟨⟨y0, y1, y2⟩, f0, f1, f2⟩ := box3 g2
    refine bodyPost_ret (v := .tuple #[.agg #[.int .i64 0, .int .i64 0, .slice none 0 0], .bool false]) (by simp [results, Try.results26, go_sem, y0, y1, y2]) rfl ⟨none, 0, 0, rfl, Sl.nil _ _, ?_⟩
    exact t1
  · have H := Lib.hid h4
    have w1 : IntKind.i64.wrap (b - a) = b - a := IntWalk.i64_in _ (by omega)
    have HW : Hid ((Lit.int .i64 (b - a)).wf = true) := Lib.hid (by
      have h1 : IntKind.i64.min = -9223372036854775808 := rfl
      have h2 : IntKind.i64.max = 9223372036854775807 := rfl
      simp only [Lit.wf, Bool.and_eq_true, decide_eq_true_eq]
      omega)
    clear h4
    go_enter Try.func26, Try.ntmps26
    go_wp2_with fail
    refine (ref_check_x H.out HW.out (nat_wf n hn) _).mono ?_
    rintro e w2 ⟨rfl, k1⟩
    obtain ⟨_, _, g2, t1, hsz⟩ := boxed3 k1
    obtain ⟨⟨y0, y1, y2⟩, f0, f1, f2⟩ := box3 g2
    clear k1 g2
    go_wp2_with fail
    refine bodyPost_ret (v := .tuple #[.agg #[.int .i64 0, .int .i64 0, .slice none 0 0], .bool false]) (by simp [results, Try.results26, go_sem, y0, y1, y2]) rfl ⟨none, 0, 0, rfl, Sl.nil _ _, ?_⟩
    exact ((t1.setCell (by simp; omega) _).setCell (by simp; omega) _).setCell (by simp; omega) _

set_option maxHeartbeats 2000000 in
theorem ref_merge_yes (a d k q n m c f : Nat) (A B : Option Addr) (xs ys : List Int) (h : k + q ≤ n) (hw : a + k ≤ 9223372036854775807) (w : World) (hx : Sl w A n c 1 (ints xs)) (hy : Sl w B m f 1 (ints ys)) (hs : n + m ≤ 100000) :
    Calls Try.prog 26 #[.agg #[.int .i64 (a : Int), .int .i64 (d : Int), .slice A n c], .agg #[.int .i64 ((a : Int) + (k : Int)), .int .i64 (q : Int), .slice B m f]] w (EditOk a d (xs.take k ++ ys ++ xs.drop (k + q)) true w) := by
  have H := Lib.hid ((chk_zero (a := (k : Int)) (d := (q : Int)) (s := (n : Int))).2 (by omega))
  have hcap := hx.cap
  have hmax := hx.max
  have w1 : IntKind.i64.wrap ((a : Int) + (k : Int) - (a : Int)) = (k : Int) := by rw [show (a : Int) + (k : Int) - (a : Int) = (k : Int) by omega]; exact IntWalk.i64_in _ (by omega)
  have w2 : IntKind.i64.wrap (k : Int) = (k : Int) := IntWalk.i64_in _ (by omega)
  have j0 : (a : Int) ≤ (a : Int) + (k : Int) := by omega
  have j1 : ((a : Int) + (k : Int) - (a : Int)) = (k : Int) := by omega
  go_enter Try.func26, Try.ntmps26
  go_wp2_with fail
  refine (ref_check_x H.out (nat_wf k (by omega)) (nat_wf n (by omega)) _).mono ?_
  rintro e w3 ⟨rfl, k1⟩
  obtain ⟨g0, g1, g2, t1, hsz⟩ := boxed3 k1
  obtain ⟨⟨x0, x1, x2⟩, _, _, _⟩ := box3 g0
  obtain ⟨⟨z0, z1, z2⟩, _, _, _⟩ := box3 g1
  have hs0 : w.heap.size < w3.heap.size := by omega
  have hs1 : w.heap.size + 1 < w3.heap.size := by omega
  have hx1 := hx.keep t1
  have hy1 := hy.keep t1
  have hd := hx1.head1 (k := k) (by omega)
  have tl := hx1.tail1 (k := k + q) (by omega)
  have hq : n - (k + q) ≤ 100000 := by omega
  have ne1 : w.heap.size ≠ w.heap.size + 1 + 1 := by omega
  have ne2 : w.heap.size + 1 + 1 ≠ w.heap.size := by omega
  have ne3 : w.heap.size + 1 ≠ w.heap.size + 1 + 1 := by omega
  clear k1 g0 g1
  have i1 : (0 : Int) ≤ (k : Int) := by omega
  have i2 : (k : Int) ≤ (c : Int) := by omega
  have i3 : (n : Int) ≤ (c : Int) := by omega
  have i5 : IntKind.i64.wrap ((k : Int) + (q : Int)) = (k : Int) + (q : Int) := IntWalk.i64_in _ (by omega)
  have i6 : (0 : Int) ≤ (k : Int) + (q : Int) := by omega
  have i7 : (k : Int) + (q : Int) ≤ (n : Int) := by omega
  have i8 : ((k : Int) + (q : Int)).toNat = k + q := by omega
  have i9 : (k : Int) + (q : Int) ≤ (c : Int) := by omega
  rcases Nat.lt_or_ge (k + q) c with hlt | hge
  · have hne : ¬ c = k + q := by omega
    rw [if_neg hne] at tl
    go_wp2_with fail
    go_region_held3 (fun W => W.cell? ⟨w.heap.size, 0, none⟩ = some (.int .i64 (a : Int)) ∧ W.cell? ⟨w.heap.size, 1, none⟩ = some (.int .i64 (d : Int)) ∧ W.cell? ⟨w.heap.size, 2, none⟩ = some (.slice A n c) ∧ W.cell? ⟨w.heap.size + 1, 1, none⟩ = some (.int .i64 (q : Int)) ∧ W.cell? ⟨w.heap.size + 1, 2, none⟩ = some (.slice B m f)) (first | exact ⟨x0, x1, x2, z1, z2⟩ | exact ⟨v0, v1, v2, v3, v4⟩ | go_keep)
      (first | (go_at_call 30; go_loud (refine (ref_join_any _ _ _ _ _ _ _ _ _ (xs.take k) ys (xs.drop (k + q)) _ (by exact hd) (by exact hy1) (by exact tl) (by omega)).mono ?_); rintro e w4 ⟨D, r, g, rfl, hl, hb, hf⟩; have v0 := (hb.cell (p := ⟨w.heap.size, 0, none⟩) hs0).trans x0; have v1 := (hb.cell (p := ⟨w.heap.size, 1, none⟩) hs0).trans x1; have v2 := (hb.cell (p := ⟨w.heap.size, 2, none⟩) hs0).trans x2; have v3 := (hb.cell (p := ⟨w.heap.size + 1, 1, none⟩) hs1).trans z1; have v4 := (hb.cell (p := ⟨w.heap.size + 1, 2, none⟩) hs1).trans z2; have g3 := (hb.block (w.heap.size + 1 + 1) hsz).trans g2; obtain ⟨⟨y0, y1, y2⟩, f0, f1, f2⟩ := box3 g3))
    go_wp2_with fail
    refine bodyPost_ret (v := .tuple #[.agg #[.int .i64 a, .int .i64 d, .slice D r g], .bool true]) (by simp [results, Try.results26, go_sem, y0, y1, y2]) rfl ⟨D, r, g, rfl, ?_, ?_⟩
    · exact ((hl.setCell hf hsz _).setCell hf hsz _).setCell hf hsz _
    · exact (((t1.trans ((undrew hb).mono t1.size)).setCell (by simp; omega) _).setCell (by simp; omega) _).setCell (by simp; omega) _
  · have e : c = k + q := by omega
    have e2 : n = k + q := by omega
    subst e2
    subst e
    rw [if_pos rfl, Nat.sub_self] at tl
    have i10 : (k : Int) ≤ (k : Int) + (q : Int) := by omega
    have i11 : k ≤ k + q := by omega
    clear i2 i3 i7 i9
    go_wp2_with fail
    go_region_held3 (fun W => W.cell? ⟨w.heap.size, 0, none⟩ = some (.int .i64 (a : Int)) ∧ W.cell? ⟨w.heap.size, 1, none⟩ = some (.int .i64 (d : Int)) ∧ W.cell? ⟨w.heap.size, 2, none⟩ = some (.slice A (k + q) (k + q)) ∧ W.cell? ⟨w.heap.size + 1, 1, none⟩ = some (.int .i64 (q : Int)) ∧ W.cell? ⟨w.heap.size + 1, 2, none⟩ = some (.slice B m f)) (first | exact ⟨x0, x1, x2, z1, z2⟩ | exact ⟨v0, v1, v2, v3, v4⟩ | go_keep)
      (first | (go_at_call 30; go_loud (refine (ref_join_any _ _ _ _ _ _ _ _ _ (xs.take k) ys (xs.drop (k + q)) _ (by exact hd) (by exact hy1) (by exact tl) (by omega)).mono ?_); rintro e w4 ⟨D, r, g, rfl, hl, hb, hf⟩; have v0 := (hb.cell (p := ⟨w.heap.size, 0, none⟩) hs0).trans x0; have v1 := (hb.cell (p := ⟨w.heap.size, 1, none⟩) hs0).trans x1; have v2 := (hb.cell (p := ⟨w.heap.size, 2, none⟩) hs0).trans x2; have v3 := (hb.cell (p := ⟨w.heap.size + 1, 1, none⟩) hs1).trans z1; have v4 := (hb.cell (p := ⟨w.heap.size + 1, 2, none⟩) hs1).trans z2; have g3 := (hb.block (w.heap.size + 1 + 1) hsz).trans g2; obtain ⟨⟨y0, y1, y2⟩, f0, f1, f2⟩ := box3 g3))
    go_wp2_with fail
    refine bodyPost_ret (v := .tuple #[.agg #[.int .i64 a, .int .i64 d, .slice D r g], .bool true]) (by simp [results, Try.results26, go_sem, y0, y1, y2]) rfl ⟨D, r, g, rfl, ?_, ?_⟩
    · exact ((hl.setCell hf hsz _).setCell hf hsz _).setCell hf hsz _
    · exact (((t1.trans ((undrew hb).mono t1.size)).setCell (by simp; omega) _).setCell (by simp; omega) _).setCell (by simp; omega) _
end Go.Proofs.Ytlgbdigpjobpoaa.Ed
