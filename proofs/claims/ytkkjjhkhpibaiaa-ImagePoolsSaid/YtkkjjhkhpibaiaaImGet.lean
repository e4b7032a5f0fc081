/-
  The contracts by which ReadPool of package image reads a pool's bytes, where it is not stopped.
-/
import Derived.Test.YtkkjjhkhpibaiaaImRun
import Derived.Test.YtkkjjhkhpibaiaaImSeal
namespace Go.Proofs.Ytkkjjhkhpibaiaa.Im
open Go.RowKit
set_option linter.unusedVariables false

set_option maxHeartbeats 1000000 in
theorem end_ok {b : Nat} (w : World) (h : Rd w b []) : Calls Try.prog 61 #[.pointer (some ⟨b, 0, none⟩)] w (fun e w' => e = .returned (.tuple #[]) ∧ w' = w) := by
  obtain ⟨r, hc, hr⟩ := h
  have hcell : w.cell? ⟨b, 0, none⟩ = some (.string r) := by rw [cell_of_row _ _ _ _ _ _ hc]; rfl
  have he := str_none (s := r) (by rw [← strInts_len, hr]; rfl)
  clear hr hc
  go_enter Try.func61, Try.ntmps61
  go_wp2_with fail
  go_end0
  exact ⟨rfl, rfl⟩

/-- The state while a pool is read: the reader, the pool's variable, all else as it was. -/
structure Pst (w W : World) (b P : Nat) (u v x : Value) (l : List Int) : Prop where
  rd : Rd W b l
  box : W.heap[P]? = some (.cells #[u, v, x] 51 (0, 0))
  bel : Below P w W
  off : ∀ k, k ≠ b → k ≠ P → k < w.heap.size → W.heap[k]? = w.heap[k]?
theorem Pst.boxAt {w W W1 : World} {b P : Nat} {u v x : Value} {l : List Int} (h : Pst w W b P u v x l) (hP : P < b) (o : Only b W W1) : W1.heap[P]? = some (.cells #[u, v, x] 51 (0, 0)) := (o.off P (by omega) (heap_lt h.box)).trans h.box
theorem Pst.facts {w W W1 : World} {b P : Nat} {u v x : Value} {l : List Int} (h : Pst w W b P u v x l) (hP : P < b) (o : Only b W W1) :
    (W1.cell? ⟨P, 0, none⟩ = some u ∧ W1.cell? ⟨P, 1, none⟩ = some v ∧ W1.cell? ⟨P, 2, none⟩ = some x) ∧ (∀ i, W1.frozen? ⟨P, i, none⟩ = false) := by
  have h1 := h.boxAt hP o
  refine ⟨⟨?_, ?_, ?_⟩, fun i => by simp [World.frozen?, h1]⟩ <;> rw [cell_of_row _ _ _ _ _ _ h1] <;> rfl
theorem set_box {W : World} {P i : Nat} {cs ds : Array Value} {T : TypeId} (h : W.heap[P]? = some (.cells cs T (0, 0))) (y : Value) (hd : cs.setIfInBounds i y = ds) : (W.setCell ⟨P, i, none⟩ y).heap[P]? = some (.cells ds T (0, 0)) := by
  simp only [World.setCell, Array.getElem?_modify, h]
  simp [hd]
theorem Pst.next {w W W1 : World} {b P i : Nat} {u v x u' v' x' y : Value} {l l1 : List Int} (h : Pst w W b P u v x l) (hP : P < b) (o : Only b W W1) (r : Rd W1 b l1) (hd : #[u, v, x].setIfInBounds i y = #[u', v', x']) : Pst w (W1.setCell ⟨P, i, none⟩ y) b P u' v' x' l1 :=
  ⟨r.set (by omega) _ _, set_box (h.boxAt hP o) y hd, (h.bel.trans (o.below.mono (by omega))).setCell (p := ⟨P, i, none⟩) (Nat.le_refl _) _,
    fun k k1 k2 k3 => (Below.heap_setCell _ _ _ _ k2).trans ((o.off k k1 (Nat.lt_of_lt_of_le k3 h.bel.size)).trans (h.off k k1 k2 k3))⟩
theorem blk_next {W W1 : World} {b P i g : Nat} {zs : List Int} {y : Value} (h : Blk W g zs) (o : Only b W W1) (hb : g ≠ b) (hP : g ≠ P) : Blk (W1.setCell ⟨P, i, none⟩ y) g zs :=
  (Below.heap_setCell _ _ _ _ hP).trans ((o.off g hb h.lt).trans h)

/-- A pool stands in its variable. -/
def PoolAt (w W : World) (b P : Nat) (xs ys zs l : List Int) : Prop := ∃ g1 g2 g3, Pst w W b P (.slice (some ⟨g1, 0, none⟩) xs.length xs.length) (.slice (some ⟨g2, 0, none⟩) ys.length ys.length) (.slice (some ⟨g3, 0, none⟩) zs.length zs.length) l ∧ Blk W g1 xs ∧ Blk W g2 ys ∧ Blk W g3 zs ∧ w.heap.size ≤ g1 ∧ w.heap.size ≤ g2 ∧ w.heap.size ≤ g3

set_option maxHeartbeats 2000000 in
theorem lists_ok {b P : Nat} {u v x : Value} {l l1 l2 l3 xs ys zs : List Int} (w : World) (h : Pst w w b P u v x l) (hP : P < b) (hb : b < w.heap.size) (hl : l.length ≤ 1000000) (e1 : rdList l = .ok (xs, l1)) (e2 : rdList l1 = .ok (ys, l2)) (e3 : rdList l2 = .ok (zs, l3)) :
    Calls Try.prog 49 #[.pointer (some ⟨b, 0, none⟩), .pointer (some ⟨P, 0, none⟩)] w (fun e w' => e = .returned (.tuple #[]) ∧ PoolAt w w' b P xs ys zs l3) := by
  have n1 := rdList_len e1
  have n2 := rdList_len e2
  have E1 := Lib.hid e1
  have E2 := Lib.hid e2
  have E3 := Lib.hid e3
  have HH := Lib.hid h
  clear e1 e2 e3 h
  go_enter Try.func49, Try.ntmps49
  go_wp2_with fail
  refine (list_any _ HH.out.rd hl E1.out).mono ?_
  rintro e w1 ⟨⟨g1, rfl, hg1, hz1⟩, r1, o1⟩
  obtain ⟨⟨c0, c1, c2⟩, cf⟩ := HH.out.facts hP o1
  have H1 := Lib.hid (HH.out.next hP o1 r1 (i := 0) (y := .slice (some ⟨g1, 0, none⟩) xs.length xs.length) rfl)
  have B1 : Hid (Blk (w1.setCell ⟨P, 0, none⟩ (.slice (some ⟨g1, 0, none⟩) xs.length xs.length)) g1 xs) := Lib.hid ((Below.heap_setCell _ _ _ _ (by show g1 ≠ P; omega)).trans hz1)
  have s1 : w.heap.size ≤ w1.heap.size := o1.below.size
  clear hz1 r1 o1
  go_wp2_with fail
  refine (list_any _ H1.out.rd (by omega) E2.out).mono ?_
  rintro e w2 ⟨⟨g2, rfl, hg2, hz2⟩, r2, o2⟩
  have hg2' : w.heap.size ≤ g2 := by have := hg2; rw [World.size_setCell] at this; omega
  have H2 := Lib.hid (H1.out.next hP o2 r2 (i := 1) (y := .slice (some ⟨g2, 0, none⟩) ys.length ys.length) rfl)
  have B2 : Hid (Blk (w2.setCell ⟨P, 1, none⟩ (.slice (some ⟨g2, 0, none⟩) ys.length ys.length)) g2 ys) := Lib.hid ((Below.heap_setCell _ _ _ _ (by show g2 ≠ P; omega)).trans hz2)
  have B12 := Lib.hid (blk_next (P := P) (i := 1) (y := .slice (some ⟨g2, 0, none⟩) ys.length ys.length) B1.out o2 (by omega) (by omega))
  obtain ⟨⟨d0, d1, d2⟩, df⟩ := H1.out.facts hP o2
  have s2 : w.heap.size ≤ w2.heap.size := by have := o2.below.size; rw [World.size_setCell] at this; omega
  clear hz2 r2 o2 c0 c1 c2 cf
  go_wp2_with fail
  refine (list_any _ H2.out.rd (by omega) E3.out).mono ?_
  rintro e w3 ⟨⟨g3, rfl, hg3, hz3⟩, r3, o3⟩
  have hg3' : w.heap.size ≤ g3 := by have := hg3; rw [World.size_setCell] at this; omega
  have H3 := Lib.hid (H2.out.next hP o3 r3 (i := 2) (y := .slice (some ⟨g3, 0, none⟩) zs.length zs.length) rfl)
  have B3 : Hid (Blk (w3.setCell ⟨P, 2, none⟩ (.slice (some ⟨g3, 0, none⟩) zs.length zs.length)) g3 zs) := Lib.hid ((Below.heap_setCell _ _ _ _ (by show g3 ≠ P; omega)).trans hz3)
  have B13 := Lib.hid (blk_next (P := P) (i := 2) (y := .slice (some ⟨g3, 0, none⟩) zs.length zs.length) B12.out o3 (by omega) (by omega))
  have B23 := Lib.hid (blk_next (P := P) (i := 2) (y := .slice (some ⟨g3, 0, none⟩) zs.length zs.length) B2.out o3 (by omega) (by omega))
  obtain ⟨⟨f0, f1, f2⟩, ff⟩ := H2.out.facts hP o3
  clear hz3 r3 o3 d0 d1 d2 df
  go_wp2_with fail
  go_end0
  exact ⟨rfl, g1, g2, g3, H3.out, B13.out, B23.out, B3.out, hg1, hg2', hg3'⟩
end Go.Proofs.Ytkkjjhkhpibaiaa.Im
