/-
  The contract of Merge of package edits (and with it the whole package's).
-/
import Derived.Test.YtlgbdigpjobpoaaEdProgD
namespace Go.Proofs.Ytlgbdigpjobpoaa.Ed
open Go.RowKit
set_option linter.unusedVariables false

set_option maxHeartbeats 1000000 in
theorem pmerge_y0 {a d k q n m c f : Nat} {A B : Option Addr} {xs ys : List Int} (h : k + q ≤ n) (hw : a + k ≤ 9223372036854775807) (hd : d ≤ 9223372036854775807) (hn : n ≤ 100) (hm : m ≤ 100) {zs : List Int} (hz : xs.take k ++ ys ++ xs.drop (k + q) = zs) (w : World) (hx : Sl w A n c 1 (ints xs)) (hy : Sl w B m f 1 (ints ys)) :
    Calls Try.prog 25 #[.agg #[.int .i64 (a : Int), .int .i64 (d : Int), .slice A n c], .agg #[.int .i64 ((a : Int) + (k : Int)), .int .i64 (q : Int), .slice B m f]] w (EditOk a d zs true w) := by
  have HZ := Lib.hid hz
  have HF : Hid (decide (0 ≤ (a : Int) ∧ 0 ≤ (d : Int)) = true) := Lib.hid (by rw [decide_eq_true_iff]; omega)
  have HG : Hid (decide (0 ≤ (a : Int) + (k : Int) ∧ 0 ≤ (q : Int)) = true) := Lib.hid (by rw [decide_eq_true_iff]; omega)
  have H := Lib.hid ((chk_zero (a := (k : Int)) (d := (q : Int)) (s := (n : Int))).2 (by omega))
  have hak : (a : Int) + (k : Int) - (a : Int) = (k : Int) := by omega
  have i1 : (a : Int) ≤ (a : Int) + (k : Int) := by omega
  have i2 : decide ((a : Int) + (k : Int) < (a : Int)) = false := by simp; omega
  clear hz
  have k0 := B3.new w (.cells #[.int .i64 (a : Int), .int .i64 (d : Int), .slice A n c] 24) (.cells #[.int .i64 ((a : Int) + (k : Int)), .int .i64 (q : Int), .slice B m f] 24) (.cells #[.int .i64 0, .int .i64 0, .slice none 0 0] 24)
  go_enter Try.func25, Try.ntmps25
  go_wp2_with fail
  refine (pforward_x HF.out _).mono ?_
  rintro e w1 ⟨rfl, b1⟩
  have k1 := k0.step b1
  obtain ⟨⟨x0, x1, x2⟩, _, _, _⟩ := box3 k1.h1
  clear b1
  go_wp2_with fail
  refine (pforward_x HG.out _).mono ?_
  rintro e w2 ⟨rfl, b2⟩
  have k2 := k1.step b2
  clear x0 x1 x2 b2
  obtain ⟨⟨x0, x1, x2⟩, _, _, _⟩ := box3 k2.h1
  obtain ⟨⟨z0, z1, z2⟩, _, _, _⟩ := box3 k2.h0
  have s2 := k2.size
  have s2a : w.heap.size < w2.heap.size := by omega
  have s2b : w.heap.size + 1 < w2.heap.size := by omega
  have A2 : (w2.alloc (.cells #[.int .i64 (k : Int), .int .i64 (q : Int), .slice none 0 0] 24)).cell? ⟨w.heap.size, 2, none⟩ = some (.slice A n c) := (((Below.refl w2.heap.size w2).alloc (Nat.le_refl _) _).cell (p := ⟨w.heap.size, 2, none⟩) s2a).trans z2
  go_wp2_with fail
  refine (pcheck_y H.out (nat_wf k (by omega)) (nat_wf q (by omega)) (nat_wf n (by omega)) (by omega) _).mono ?_
  rintro e w3 ⟨rfl, b3⟩
  have kk := k2.step (((Below.refl _ _).alloc (Nat.le_refl _) (.cells #[.int .i64 (k : Int), .int .i64 (q : Int), .slice none 0 0] 24)).trans (b3.mono (by simp)))
  have gi := (b3.block w2.heap.size (by simp)).trans (heap_alloc_new w2 _)
  have si : w2.heap.size < w3.heap.size := by have := b3.size; simp at this; omega
  have hx3 := hx.keep kk.below
  have hy3 := hy.keep kk.below
  clear x0 x1 x2 z0 z1 z2 b3 A2 s2 s2a s2b
  obtain ⟨⟨p0, p1, p2⟩, _, _, _⟩ := box3 gi
  obtain ⟨⟨x0, x1, x2⟩, _, _, _⟩ := box3 kk.h1
  obtain ⟨⟨z0, z1, z2⟩, _, _, _⟩ := box3 kk.h0
  have sk := kk.size
  have ne1 : ¬ w.heap.size = w.heap.size + 1 + 1 := by omega
  have ne2 : ¬ w.heap.size + 1 + 1 = w.heap.size := by omega
  have ne3 : ¬ w2.heap.size = w.heap.size + 1 + 1 := by have := k2.size; omega
  have ne4 : ¬ w.heap.size + 1 + 1 = w2.heap.size := by have := k2.size; omega
  clear i2
  go_wp2_with fail
  go_region_held3 (fun W => W.cell? ⟨w.heap.size, 0, none⟩ = some (.int .i64 (a : Int)) ∧ W.cell? ⟨w.heap.size, 1, none⟩ = some (.int .i64 (d : Int)) ∧ W.cell? ⟨w.heap.size, 2, none⟩ = some (.slice A n c) ∧ W.cell? ⟨w.heap.size + 1, 2, none⟩ = some (.slice B m f) ∧ W.cell? ⟨w2.heap.size, 0, none⟩ = some (.int .i64 (k : Int)) ∧ W.cell? ⟨w2.heap.size, 1, none⟩ = some (.int .i64 (q : Int))) (first | exact ⟨z0, z1, z2, x2, p0, p1⟩ | exact ⟨Z0, Z1, Z2, X2, P0, P1⟩ | go_keep)
    (first | (go_at_call 29; go_loud (refine (psplice_any h hm hn HZ.out _ (by exact hy3) (by exact hx3)).mono ?_); rintro e w4 ⟨D, r, g, rfl, hl, hb, hf⟩; have Z0 := (hb.cell (p := ⟨w.heap.size, 0, none⟩) (by show w.heap.size < w3.heap.size; omega)).trans z0; have Z1 := (hb.cell (p := ⟨w.heap.size, 1, none⟩) (by show w.heap.size < w3.heap.size; omega)).trans z1; have Z2 := (hb.cell (p := ⟨w.heap.size, 2, none⟩) (by show w.heap.size < w3.heap.size; omega)).trans z2; have X2 := (hb.cell (p := ⟨w.heap.size + 1, 2, none⟩) (by show w.heap.size + 1 < w3.heap.size; omega)).trans x2; have P0 := (hb.cell (p := ⟨w2.heap.size, 0, none⟩) si).trans p0; have P1 := (hb.cell (p := ⟨w2.heap.size, 1, none⟩) si).trans p1; have g2 := (hb.block (w.heap.size + 1 + 1) (by show w.heap.size + 1 + 1 < w3.heap.size; omega)).trans kk.h2; obtain ⟨⟨y0, y1, y2⟩, f0, f1, f2⟩ := box3 g2))
  go_wp2_with fail
  refine bodyPost_ret (v := .tuple #[.agg #[.int .i64 a, .int .i64 d, .slice D r g], .bool true]) (by simp [results, Try.results25, go_sem, y0, y1, y2]) rfl ⟨D, r, g, rfl, ?_, ?_⟩
  · exact ((hl.setCell hf sk _).setCell hf sk _).setCell hf sk _
  · exact (((kk.below.trans ((undrew hb).mono kk.below.size)).setCell (by simp; omega) _).setCell (by simp; omega) _).setCell (by simp; omega) _

theorem pcheck_x {a d s r : Int} (h : chk a d s = r) {A : Option Addr} {n c : Nat} (ha : (Lit.int .i64 a).wf = true) (hd : (Lit.int .i64 d).wf = true) (hs : (Lit.int .i64 s).wf = true) (hn : n ≤ 40) (w : World) :
    Calls Try.prog 13 #[.agg #[.int .i64 a, .int .i64 d, .slice A n c], .int .i64 s] w (Makes (.int .i64 r) w) := by
  exact pcheck_y h ha hd hs (by omega) w

theorem papply_no {a d : Int} {A B : Option Addr} {n m c f : Nat} {xs ys : List Int} (h : chk a d m = 1) (ha : (Lit.int .i64 a).wf = true) (hd : (Lit.int .i64 d).wf = true) (hn : n ≤ 40) (hm : m ≤ 100) (w : World) (hx : Sl w A n c 1 (ints xs)) (hy : Sl w B m f 1 (ints ys)) :
    Calls Try.prog 17 #[.agg #[.int .i64 a, .int .i64 d, .slice A n c], .slice B m f] w (ListErr [] 1 w) := by
  exact papply_n0 h ha hd (by omega) hm w hx hy

theorem pinvert_no {a d : Int} {A B : Option Addr} {n m c f : Nat} {xs ys : List Int} (h : chk a d m = 1) (ha : (Lit.int .i64 a).wf = true) (hd : (Lit.int .i64 d).wf = true) (hn : n ≤ 40) (hm : m ≤ 100) (w : World) (hx : Sl w A n c 1 (ints xs)) (hy : Sl w B m f 1 (ints ys)) :
    Calls Try.prog 20 #[.agg #[.int .i64 a, .int .i64 d, .slice A n c], .slice B m f] w (EditErr 0 0 [] 1 w) := by
  exact pinvert_n0 h ha hd (by omega) hm w hx hy

theorem pshift_x {a d p r : Int} {A : Option Addr} {n c : Nat} (hr : shf a d n p = r) (hn : n ≤ 40) (ha : (Lit.int .i64 a).wf = true) (hd : (Lit.int .i64 d).wf = true) (hp0 : -9223372036854775808 ≤ p) (hp : p ≤ 4611686018427387904) (w : World) :
    Calls Try.prog 27 #[.agg #[.int .i64 a, .int .i64 d, .slice A n c], .int .i64 p] w (Makes (.int .i64 r) w) := by
  exact pshift_y hr (by omega) ha hd hp0 hp w

theorem pmerge_no {a d b q : Int} {A B : Option Addr} {n m c f : Nat} {xs ys : List Int} (h : ¬ mrg a d n b q) (ha : (Lit.int .i64 a).wf = true) (hd : (Lit.int .i64 d).wf = true) (hb : (Lit.int .i64 b).wf = true) (hq : (Lit.int .i64 q).wf = true) (hn : n ≤ 40) (hm : m ≤ 40) (w : World) (hx : Sl w A n c 1 (ints xs)) (hy : Sl w B m f 1 (ints ys)) :
    Calls Try.prog 25 #[.agg #[.int .i64 a, .int .i64 d, .slice A n c], .agg #[.int .i64 b, .int .i64 q, .slice B m f]] w (EditOk 0 0 [] false w) := by
  exact pmerge_n0 h ha hd hb hq (by omega) (by omega) w hx hy

theorem pmerge_yes {a d k q n m c f : Nat} {A B : Option Addr} {xs ys : List Int} (h : k + q ≤ n) (hw : a + k ≤ 9223372036854775807) (hd : d ≤ 9223372036854775807) (hn : n ≤ 40) (hm : m ≤ 40) {zs : List Int} (hz : xs.take k ++ ys ++ xs.drop (k + q) = zs) (w : World) (hx : Sl w A n c 1 (ints xs)) (hy : Sl w B m f 1 (ints ys)) :
    Calls Try.prog 25 #[.agg #[.int .i64 (a : Int), .int .i64 (d : Int), .slice A n c], .agg #[.int .i64 ((a : Int) + (k : Int)), .int .i64 (q : Int), .slice B m f]] w (EditOk a d zs true w) := by
  exact pmerge_y0 h hw hd (by omega) (by omega) hz w hx hy
end Go.Proofs.Ytlgbdigpjobpoaa.Ed
