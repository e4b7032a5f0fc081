/-
  The contracts of the reference's Invert, Same and Shift of layer 53.
-/
import Derived.Test.YtlgbdigpjobpoaaEdRef2
namespace Go.Proofs.Ytlgbdigpjobpoaa.Ed
open Go.RowKit
set_option linter.unusedVariables false

/-- The call returns an edit (its list in memory) and an error's number, all old memory as it was. -/
def EditErr (a d : Int) (ins : List Int) (r : Int) (w : World) (e : Ending) (w' : World) : Prop :=
  ∃ A n c, e = .returned (.tuple #[.agg #[.int .i64 a, .int .i64 d, .slice A n c], .int .i64 r]) ∧ Sl w' A n c 1 (ints ins) ∧ Below w.heap.size w w'

set_option maxHeartbeats 1000000 in
theorem ref_invert_no (a d : Int) (A B : Option Addr) (n m c f : Nat) (h : chk a d m = 1) (ha : (Lit.int .i64 a).wf = true) (hm : m ≤ 9223372036854775807) (w : World) :
    Calls Try.prog 21 #[.agg #[.int .i64 a, .int .i64 d, .slice A n c], .slice B m f] w (EditErr 0 0 [] 1 w) := by
  have H := Lib.hid h
  have HA := Lib.hid ha
  clear h ha
  go_enter Try.func21, Try.ntmps21
  go_wp2_with fail
  refine (ref_check_x H.out HA.out (nat_wf m hm) _).mono ?_
  rintro e w1 ⟨rfl, b1⟩
  obtain ⟨_, g1, t1, hsz⟩ := boxed2 b1
  obtain ⟨⟨y0, y1, y2⟩, f0, f1, f2⟩ := box3 g1
  clear b1 g1
  go_wp2_with fail
  refine bodyPost_ret (v := .tuple #[.agg #[.int .i64 0, .int .i64 0, .slice none 0 0], .int .i64 1]) (by simp [results, Try.results21, go_sem, y0, y1, y2]) rfl ⟨none, 0, 0, rfl, Sl.nil _ _, ?_⟩
  exact ((t1.setCell (by simp) _).setCell (by simp) _).setCell (by simp) _

set_option maxHeartbeats 1000000 in
theorem ref_invert_yes (a d n m c f : Nat) (A B : Option Addr) (ins zs : List Int) (h : a + d ≤ m) (w : World) (hi : Sl w A n c 1 (ints ins)) (hz : Sl w B m f 1 (ints zs)) (hs : n + m ≤ 100000) :
    Calls Try.prog 21 #[.agg #[.int .i64 (a : Int), .int .i64 (d : Int), .slice A n c], .slice B m f] w (EditErr a n ((zs.drop a).take d) 0 w) := by
  have H := Lib.hid ((chk_zero (a := (a : Int)) (d := (d : Int)) (s := (m : Int))).2 (by omega))
  have hcap := hz.cap
  have hmax := hz.max
  have hm : m ≤ 9223372036854775807 := by omega
  have ha : a ≤ 9223372036854775807 := by omega
  go_enter Try.func21, Try.ntmps21
  go_wp2_with fail
  refine (ref_check_x H.out (nat_wf a ha) (nat_wf m hm) _).mono ?_
  rintro e w1 ⟨rfl, b1⟩
  obtain ⟨g0, g1, t1, hsz⟩ := boxed2 b1
  obtain ⟨⟨x0, x1, x2⟩, _, _, _⟩ := box3 g0
  have hs1 : w.heap.size < w1.heap.size := by omega
  have hz1 := hz.keep t1
  have tl1 := (hz1.tail1 (k := a) (by omega)).head1 (k := d) (by omega)
  clear b1
  have i1 : (0 : Int) ≤ (a : Int) := by omega
  have i2 : (a : Int) ≤ (m : Int) := by omega
  have i4 : (a : Int) ≤ (f : Int) := by omega
  have i3 : (m : Int) ≤ (f : Int) := by omega
  have i5 : IntKind.i64.wrap ((a : Int) + (d : Int)) = (a : Int) + (d : Int) := IntWalk.i64_in _ (by omega)
  have i6 : (0 : Int) ≤ (a : Int) + (d : Int) := by omega
  have i7 : (a : Int) + (d : Int) ≤ (m : Int) := by omega
  have i11 : (a : Int) + (d : Int) ≤ (f : Int) := by omega
  have i12 : (a : Int) ≤ (a : Int) + (d : Int) := by omega
  have i8 : ((a : Int) + (d : Int)).toNat = a + d := by omega
  rcases Nat.lt_or_ge a f with hlt | hge
  · have hne : ¬ f = a := by omega
    rw [if_neg hne] at tl1
    go_wp2_with fail
    go_region_held3 (fun W => W.cell? ⟨w.heap.size, 0, none⟩ = some (.int .i64 (a : Int)) ∧ W.cell? ⟨w.heap.size, 1, none⟩ = some (.int .i64 (d : Int)) ∧ W.cell? ⟨w.heap.size, 2, none⟩ = some (.slice A n c)) (first | exact ⟨x0, x1, x2⟩ | exact ⟨z0, z1, z2⟩ | go_keep)
      (first | (go_at_call 30; go_loud (refine (ref_join_any _ _ _ _ _ _ _ _ _ [] ((zs.drop a).take d) [] _ (Sl.nil _ _) (by exact tl1) (Sl.nil _ _) (by omega)).mono ?_); rintro e w2 ⟨D, k, g, rfl, hl, hb, hf⟩; have z0 := (hb.cell (p := ⟨w.heap.size, 0, none⟩) hs1).trans x0; have z1 := (hb.cell (p := ⟨w.heap.size, 1, none⟩) hs1).trans x1; have z2 := (hb.cell (p := ⟨w.heap.size, 2, none⟩) hs1).trans x2; have g2 := (hb.block (w.heap.size + 1) hsz).trans g1; obtain ⟨⟨y0, y1, y2⟩, f0, f1, f2⟩ := box3 g2))
    go_wp2_with fail
    refine bodyPost_ret (v := .tuple #[.agg #[.int .i64 a, .int .i64 n, .slice D k g], .int .i64 0]) (by simp [results, Try.results21, go_sem, y0, y1, y2]) rfl ⟨D, k, g, rfl, ?_, ?_⟩
    · rw [List.nil_append, List.append_nil] at hl
      exact ((hl.setCell hf hsz _).setCell hf hsz _).setCell hf hsz _
    · exact (((t1.trans ((undrew hb).mono t1.size)).setCell (by simp) _).setCell (by simp) _).setCell (by simp) _
  · have e : a = f := by omega
    subst e
    rw [if_pos rfl, Nat.sub_self] at tl1
    go_wp2_with fail
    go_region_held3 (fun W => W.cell? ⟨w.heap.size, 0, none⟩ = some (.int .i64 (a : Int)) ∧ W.cell? ⟨w.heap.size, 1, none⟩ = some (.int .i64 (d : Int)) ∧ W.cell? ⟨w.heap.size, 2, none⟩ = some (.slice A n c)) (first | exact ⟨x0, x1, x2⟩ | exact ⟨z0, z1, z2⟩ | go_keep)
      (first | (go_at_call 30; go_loud (refine (ref_join_any _ _ _ _ _ _ _ _ _ [] ((zs.drop a).take d) [] _ (Sl.nil _ _) (by exact tl1) (Sl.nil _ _) (by omega)).mono ?_); rintro e w2 ⟨D, k, g, rfl, hl, hb, hf⟩; have z0 := (hb.cell (p := ⟨w.heap.size, 0, none⟩) hs1).trans x0; have z1 := (hb.cell (p := ⟨w.heap.size, 1, none⟩) hs1).trans x1; have z2 := (hb.cell (p := ⟨w.heap.size, 2, none⟩) hs1).trans x2; have g2 := (hb.block (w.heap.size + 1) hsz).trans g1; obtain ⟨⟨y0, y1, y2⟩, f0, f1, f2⟩ := box3 g2))
    go_wp2_with fail
    refine bodyPost_ret (v := .tuple #[.agg #[.int .i64 a, .int .i64 n, .slice D k g], .int .i64 0]) (by simp [results, Try.results21, go_sem, y0, y1, y2]) rfl ⟨D, k, g, rfl, ?_, ?_⟩
    · rw [List.nil_append, List.append_nil] at hl
      exact ((hl.setCell hf hsz _).setCell hf hsz _).setCell hf hsz _
    · exact (((t1.trans ((undrew hb).mono t1.size)).setCell (by simp) _).setCell (by simp) _).setCell (by simp) _
end Go.Proofs.Ytlgbdigpjobpoaa.Ed
