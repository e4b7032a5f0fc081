/-
  The contracts of the reference's Apply and Invert of layer 53.
-/
import Derived.Test.YtlgbdigpjobpoaaEdRef
import Derived.Deep.RegionHeld3
namespace Go.Proofs.Ytlgbdigpjobpoaa.Ed
open Go.RowKit
set_option linter.unusedVariables false

/-- The call returns a list of ints in memory and an error's number, all old memory as it was. -/
def ListErr (zs : List Int) (r : Int) (w : World) (e : Ending) (w' : World) : Prop := ∃ A n c, e = .returned (.tuple #[.slice A n c, .int .i64 r]) ∧ Sl w' A n c 1 (ints zs) ∧ Below w.heap.size w w'

theorem nat_wf (n : Nat) (h : n ≤ 9223372036854775807) : (Lit.int .i64 (n : Int)).wf = true := by
  have h1 : IntKind.i64.min = -9223372036854775808 := rfl
  have h2 : IntKind.i64.max = 9223372036854775807 := rfl
  simp only [Lit.wf, Bool.and_eq_true, decide_eq_true_eq]
  omega

set_option maxHeartbeats 1000000 in
theorem ref_apply_no (a d : Int) (A B : Option Addr) (n m c f : Nat) (h : chk a d m = 1) (ha : (Lit.int .i64 a).wf = true) (hm : m ≤ 9223372036854775807) (w : World) :
    Calls Try.prog 18 #[.agg #[.int .i64 a, .int .i64 d, .slice A n c], .slice B m f] w (ListErr [] 1 w) := by
  have H := Lib.hid h
  have HA := Lib.hid ha
  clear h ha
  go_enter Try.func18, Try.ntmps18
  go_wp2_with fail
  refine (ref_check_x H.out HA.out (nat_wf m hm) _).mono ?_
  rintro e w1 ⟨rfl, b1⟩
  go_wp2_with fail
  go_ret2
  exact ⟨none, 0, 0, rfl, Sl.nil _ _, ((Below.refl _ _).alloc (Nat.le_refl _) _).trans (b1.mono (by simp))⟩

set_option maxHeartbeats 1000000 in
theorem ref_apply_yes (a d n m c f : Nat) (A B : Option Addr) (ins zs : List Int) (h : a + d ≤ m) (w : World) (hi : Sl w A n c 1 (ints ins)) (hz : Sl w B m f 1 (ints zs)) (hs : n + m ≤ 100000) :
    Calls Try.prog 18 #[.agg #[.int .i64 (a : Int), .int .i64 (d : Int), .slice A n c], .slice B m f] w (ListErr (zs.take a ++ ins ++ zs.drop (a + d)) 0 w) := by
  have H := Lib.hid ((chk_zero (a := (a : Int)) (d := (d : Int)) (s := (m : Int))).2 (by omega))
  have hcap := hz.cap
  have hmax := hz.max
  have hm : m ≤ 9223372036854775807 := by omega
  have ha : a ≤ 9223372036854775807 := by omega
  go_enter Try.func18, Try.ntmps18
  go_wp2_with fail
  refine (ref_check_x H.out (nat_wf a ha) (nat_wf m hm) _).mono ?_
  rintro e w1 ⟨rfl, b1⟩
  have t1 := boxed_below b1
  have hsz : w.heap.size < w1.heap.size := by have := b1.size; simp at this; omega
  have x0 : w1.cell? ⟨w.heap.size, 0, none⟩ = some (.int .i64 (a : Int)) := boxed b1 0
  have x1 : w1.cell? ⟨w.heap.size, 1, none⟩ = some (.int .i64 (d : Int)) := boxed b1 1
  have x2 : w1.cell? ⟨w.heap.size, 2, none⟩ = some (.slice A n c) := boxed b1 2
  have hi1 := hi.keep t1
  have hz1 := hz.keep t1
  have hd1 := hz1.head1 (k := a) (by omega)
  have tl1 := hz1.tail1 (k := a + d) (by omega)
  clear b1
  have i1 : (0 : Int) ≤ (a : Int) := by omega
  have i2 : (a : Int) ≤ (m : Int) := by omega
  have i4 : (a : Int) ≤ (f : Int) := by omega
  have i3 : (m : Int) ≤ (f : Int) := by omega
  have i5 : IntKind.i64.wrap ((a : Int) + (d : Int)) = (a : Int) + (d : Int) := IntWalk.i64_in _ (by omega)
  have i6 : (0 : Int) ≤ (a : Int) + (d : Int) := by omega
  have i7 : (a : Int) + (d : Int) ≤ (m : Int) := by omega
  have i8 : ((a : Int) + (d : Int)).toNat = a + d := by omega
  rcases Nat.lt_or_ge (a + d) f with hlt | hge
  · have hne : ¬ f = a + d := by omega
    rw [if_neg hne] at tl1
    go_wp2_with fail
    go_region_held3 (fun W => W.cell? ⟨w.heap.size, 0, none⟩ = some (.int .i64 (a : Int)) ∧ W.cell? ⟨w.heap.size, 1, none⟩ = some (.int .i64 (d : Int)) ∧ W.cell? ⟨w.heap.size, 2, none⟩ = some (.slice A n c)) (first | exact ⟨x0, x1, x2⟩ | exact ⟨(hb.cell (p := ⟨w.heap.size, 0, none⟩) hsz).trans x0, (hb.cell (p := ⟨w.heap.size, 1, none⟩) hsz).trans x1, (hb.cell (p := ⟨w.heap.size, 2, none⟩) hsz).trans x2⟩)
      (first | (go_at_call 30; go_loud (refine (ref_join_any _ _ _ _ _ _ _ _ _ _ _ _ _ (by exact hd1) (by exact hi1) (by exact tl1) (by omega)).mono ?_); rintro e w2 ⟨D, k, g, rfl, hl, hb, hf⟩))
    go_wp2_with fail
    go_ret2
    exact ⟨D, k, g, rfl, hl, t1.trans ((undrew hb).mono t1.size)⟩
  · obtain rfl : f = a + d := by omega
    rw [if_pos rfl, Nat.sub_self, show m - (a + d) = 0 by omega] at tl1
    have i9 : (a : Int) ≤ (a : Int) + (d : Int) := by omega
    have i10 : (m : Int) ≤ (a : Int) + (d : Int) := by omega
    go_wp2_with fail
    go_region_held3 (fun W => W.cell? ⟨w.heap.size, 0, none⟩ = some (.int .i64 (a : Int)) ∧ W.cell? ⟨w.heap.size, 1, none⟩ = some (.int .i64 (d : Int)) ∧ W.cell? ⟨w.heap.size, 2, none⟩ = some (.slice A n c)) (first | exact ⟨x0, x1, x2⟩ | exact ⟨(hb.cell (p := ⟨w.heap.size, 0, none⟩) hsz).trans x0, (hb.cell (p := ⟨w.heap.size, 1, none⟩) hsz).trans x1, (hb.cell (p := ⟨w.heap.size, 2, none⟩) hsz).trans x2⟩)
      (first | (go_at_call 30; go_loud (refine (ref_join_any _ _ _ _ _ _ _ _ _ _ _ _ _ (by exact hd1) (by exact hi1) (by exact tl1) (by omega)).mono ?_); rintro e w2 ⟨D, k, g, rfl, hl, hb, hf⟩))
    go_wp2_with fail
    go_ret2
    exact ⟨D, k, g, rfl, hl, t1.trans ((undrew hb).mono t1.size)⟩
end Go.Proofs.Ytlgbdigpjobpoaa.Ed
