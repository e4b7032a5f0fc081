/-
  The contracts of readSealed and ReadPool of package image, where nothing is stopped; of small and SamePools.
-/
import Derived.Test.YtkkjjhkhpibaiaaImSealed
namespace Go.Proofs.Ytkkjjhkhpibaiaa.Im
open Go.RowKit Sp
set_option linter.unusedVariables false

/-- The world in which the reader of a sealed string is made. -/
theorem sealed_pst {w w2 : World} {P F : Nat} {u v x : Value} {s : ByteArray} (T : TypeId) (hbox : w2.heap[P]? = some (.cells #[u, v, x] 51 (0, 0))) :
    Pst ((w2.alloc (.cells #[.string s] 61)).alloc (.cells #[.pointer (some ⟨w2.heap.size, 0, none⟩)] T)) ((w2.alloc (.cells #[.string s] 61)).alloc (.cells #[.pointer (some ⟨w2.heap.size, 0, none⟩)] T)) w2.heap.size P u v x (strInts s) := by
  have hP := heap_lt hbox
  refine ⟨⟨s, ?_, rfl⟩, ?_, Below.refl _ _, fun _ _ _ _ => rfl⟩
  · rw [Below.heap_alloc _ _ _ (by simp)]; exact heap_alloc_new w2 _
  · rw [Below.heap_alloc _ _ _ (by simp; omega), Below.heap_alloc _ _ _ hP]; exact hbox

set_option maxHeartbeats 1000000 in
theorem sealed_ok {P : Nat} {u v x : Value} {s body : ByteArray} {l1 l2 xs ys zs : List Int} (w : World) (hbox : w.heap[P]? = some (.cells #[u, v, x] 51 (0, 0))) (hs : s.size ≤ 1000000) (ho : openS s = (body, 0)) (hb : body.size ≤ 1000000)
    (e1 : rdList (strInts body) = .ok (xs, l1)) (e2 : rdList l1 = .ok (ys, l2)) (e3 : rdList l2 = .ok (zs, [])) :
    Calls Try.prog 44 #[.string s, .func (.func 49) #[] #[.pointer (some ⟨P, 0, none⟩)]] w (fun e w' => e = .returned (.int .i64 0) ∧ PoolIn w w' P xs ys zs) := by
  have hmf : ∀ (fn : Fn) (first cap : Array Value) (w : World), (Instr.makeFunc fn first cap).run Try.prog w = .ok (.func fn first cap) w := fun _ _ _ _ => rfl
  have HO := Lib.hid ho
  have E1 := Lib.hid e1
  have E2 := Lib.hid e2
  have E3 := Lib.hid e3
  have HB := Lib.hid hbox
  have hP := heap_lt hbox
  have HL : Hid ((strInts body).length ≤ 1000000) := Lib.hid (by rw [strInts_len]; exact hb)
  clear ho e1 e2 e3 hbox
  go_enter Try.func44, Try.ntmps44
  go_wp2_with (first | (go_at_call 21; refine (open_any s _ hs HO.out).mono ?_; rintro e w2 ⟨rfl, b2⟩))
  have hF0 : (w.alloc (.cells #[.func (.func 49) #[] #[.pointer (some ⟨P, 0, none⟩)]] 66)).heap[w.heap.size]? = some (.cells #[.func (.func 49) #[] #[.pointer (some ⟨P, 0, none⟩)]] 66 (0, 0)) := heap_alloc_new w _
  have hF1 := (b2.block w.heap.size (by simp)).trans hF0
  have hF2 := heap_lt hF1
  have hP2 : w2.heap[P]? = some (.cells #[u, v, x] 51 (0, 0)) := (b2.block P (by simp; omega)).trans ((Below.heap_alloc _ _ _ hP).trans HB.out)
  have hP3 := heap_lt hP2
  have hp : ∀ T, ((w2.alloc (.cells #[.string body] 61)).alloc (.cells #[.pointer (some ⟨w2.heap.size, 0, none⟩)] T)).heap[w2.heap.size + 1]? = some (.cells #[.pointer (some ⟨w2.heap.size, 0, none⟩)] T (0, 0)) := fun T => by
    have := heap_alloc_new (w2.alloc (.cells #[.string body] 61)) (.cells #[.pointer (some ⟨w2.heap.size, 0, none⟩)] T)
    simpa using this
  refine (outer_ok (F := w.heap.size) (p := w2.heap.size + 1) _ (sealed_pst (w := w2) (F := 0) _ hP2) hP3 (by simp; omega) HL.out E1.out E2.out E3.out ((Below.heap_alloc _ _ _ (by simp; omega)).trans ((Below.heap_alloc _ _ _ hF2).trans hF1)) (hp _) (by omega) (by omega)).mono ?_
  rintro e w4 ⟨rfl, hb4, hin⟩
  have t2 : Below P w w2 := ((Below.refl P w).alloc (by omega) _).trans (b2.mono (by simp; omega))
  have t4 := ((t2.alloc (by omega) (.cells #[.string body] 61)).alloc (by simp; omega) _).trans hb4
  clear hp hF0 hF1
  go_wp2_with fail
  go_ret
  exact ⟨rfl, t4, hin⟩

set_option maxRecDepth 100000 in
set_option maxHeartbeats 1000000 in
theorem readPool_ok {s body : ByteArray} {l1 l2 xs ys zs : List Int} (w : World) (hs : s.size ≤ 1000000) (ho : openS s = (body, 0)) (hb : body.size ≤ 1000000)
    (e1 : rdList (strInts body) = .ok (xs, l1)) (e2 : rdList l1 = .ok (ys, l2)) (e3 : rdList l2 = .ok (zs, [])) (hv : validL xs.length ys zs = true) (n1 : xs.length ≤ 1000) (n2 : ys.length ≤ 1000) (n3 : zs.length ≤ 1000) :
    Calls Try.prog 33 #[.string s] w (fun e w' => ∃ g1 g2 g3, e = .returned (.tuple #[.agg #[.slice (some ⟨g1, 0, none⟩) xs.length xs.length, .slice (some ⟨g2, 0, none⟩) ys.length ys.length, .slice (some ⟨g3, 0, none⟩) zs.length zs.length], .int .i64 0]) ∧
      PoolIs w' (some ⟨g1, 0, none⟩) xs.length xs.length (some ⟨g2, 0, none⟩) ys.length ys.length (some ⟨g3, 0, none⟩) zs.length zs.length xs ys zs ∧ Below w.heap.size w w') := by
  have hmf : ∀ (fn : Fn) (first cap : Array Value) (w : World), (Instr.makeFunc fn first cap).run Try.prog w = .ok (.func fn first cap) w := fun _ _ _ _ => rfl
  have hR0 : (w.alloc (.cells #[.slice none 0 0, .slice none 0 0, .slice none 0 0] 51)).heap[w.heap.size]? = some (.cells #[.slice none 0 0, .slice none 0 0, .slice none 0 0] 51 (0, 0)) := heap_alloc_new w _
  have hR1 : ((w.alloc (.cells #[.slice none 0 0, .slice none 0 0, .slice none 0 0] 51)).alloc (.cells #[.slice none 0 0, .slice none 0 0, .slice none 0 0] 51)).heap[w.heap.size]? = _ := (Below.heap_alloc _ _ _ (by simp)).trans hR0
  have hP1 : ((w.alloc (.cells #[.slice none 0 0, .slice none 0 0, .slice none 0 0] 51)).alloc (.cells #[.slice none 0 0, .slice none 0 0, .slice none 0 0] 51)).heap[w.heap.size + 1]? = some (.cells #[.slice none 0 0, .slice none 0 0, .slice none 0 0] 51 (0, 0)) := by
    have := heap_alloc_new (w.alloc (.cells #[.slice none 0 0, .slice none 0 0, .slice none 0 0] 51)) (.cells #[.slice none 0 0, .slice none 0 0, .slice none 0 0] 51)
    simpa using this
  have HA := Lib.hid (sealed_ok _ hP1 hs ho hb e1 e2 e3)
  have HV := Lib.hid hv
  have HR1 := Lib.hid hR1
  have HN := Lib.hid (And.intro n1 (And.intro n2 n3))
  have b0 : Below w.heap.size w ((w.alloc (.cells #[.slice none 0 0, .slice none 0 0, .slice none 0 0] 51)).alloc (.cells #[.slice none 0 0, .slice none 0 0, .slice none 0 0] 51)) := ((Below.refl _ _).alloc (Nat.le_refl _) _).alloc (by simp) _
  clear hR0 hR1 hP1 hs ho hb e1 e2 e3 hv n1 n2 n3
  go_enter Try.func33, Try.ntmps33
  go_wp2_with fail
  refine HA.out.mono ?_
  rintro e w3 ⟨rfl, b3, g1, g2, g3, hbox, z1, z2, z3⟩
  have hR3 := (b3.block w.heap.size (by omega)).trans HR1.out
  have t3 := b0.trans (b3.mono (by omega))
  have hpool : PoolIs w3 (some ⟨g1, 0, none⟩) xs.length xs.length (some ⟨g2, 0, none⟩) ys.length ys.length (some ⟨g3, 0, none⟩) zs.length zs.length xs ys zs :=
    ⟨z1.sl rfl (by have := HN.out; unfold maxLen; omega), z2.sl rfl (by have := HN.out; unfold maxLen; omega), z3.sl rfl (by have := HN.out; unfold maxLen; omega), HN.out.1, HN.out.2.1, HN.out.2.2⟩
  have HB := Lib.hid hbox
  have HR3 := Lib.hid hR3
  have c0 : w3.cell? ⟨w.heap.size + 1, 0, none⟩ = some (.slice (some ⟨g1, 0, none⟩) xs.length xs.length) := by rw [cell_of_row _ _ _ _ _ _ hbox]; rfl
  have c1 : w3.cell? ⟨w.heap.size + 1, 1, none⟩ = some (.slice (some ⟨g2, 0, none⟩) ys.length ys.length) := by rw [cell_of_row _ _ _ _ _ _ hbox]; rfl
  have c2 : w3.cell? ⟨w.heap.size + 1, 2, none⟩ = some (.slice (some ⟨g3, 0, none⟩) zs.length zs.length) := by rw [cell_of_row _ _ _ _ _ _ hbox]; rfl
  clear hbox hR3
  go_wp2_with fail
  refine (valid_any w3 hpool HV.out).mono ?_
  rintro e w4 ⟨rfl, b4⟩
  have hB4 := (b4.block _ (heap_lt HB.out)).trans HB.out
  have hR4 := (b4.block _ (heap_lt HR3.out)).trans HR3.out
  have d0 : w4.cell? ⟨w.heap.size + 1, 0, none⟩ = some (.slice (some ⟨g1, 0, none⟩) xs.length xs.length) := by rw [cell_of_row _ _ _ _ _ _ hB4]; rfl
  have d1 : w4.cell? ⟨w.heap.size + 1, 1, none⟩ = some (.slice (some ⟨g2, 0, none⟩) ys.length ys.length) := by rw [cell_of_row _ _ _ _ _ _ hB4]; rfl
  have d2 : w4.cell? ⟨w.heap.size + 1, 2, none⟩ = some (.slice (some ⟨g3, 0, none⟩) zs.length zs.length) := by rw [cell_of_row _ _ _ _ _ _ hB4]; rfl
  have f0 : w4.cell? ⟨w.heap.size, 0, none⟩ = some (.slice none 0 0) := by rw [cell_of_row _ _ _ _ _ _ hR4]; rfl
  have f1 : w4.cell? ⟨w.heap.size, 1, none⟩ = some (.slice none 0 0) := by rw [cell_of_row _ _ _ _ _ _ hR4]; rfl
  have f2 : w4.cell? ⟨w.heap.size, 2, none⟩ = some (.slice none 0 0) := by rw [cell_of_row _ _ _ _ _ _ hR4]; rfl
  have ff : ∀ i, w4.frozen? ⟨w.heap.size, i, none⟩ = false := fun i => frozen_of_row _ _ _ _ _ hR4
  have h4 := hpool.keep b4
  have t4 := t3.trans (b4.mono t3.size)
  have HR4 := Lib.hid hR4
  have Z1 := Lib.hid (z1.keep b4 z1.lt)
  have Z2 := Lib.hid (z2.keep b4 z2.lt)
  have Z3 := Lib.hid (z3.keep b4 z3.lt)
  have hne : ∀ (g : Nat) (l : List Int), Blk w4 g l → g ≠ w.heap.size := fun g l hz e => by
    have h1 := HR4.out
    rw [← e] at h1
    unfold Blk at hz
    rw [hz] at h1
    simp at h1
  have HNE := Lib.hid hne
  clear c0 c1 c2 hB4 hR4 hne
  go_wp2_with fail
  have hbox := set_box (i := 2) (set_box (i := 1) (set_box (i := 0) HR4.out (.slice (some ⟨g1, 0, none⟩) xs.length xs.length) rfl) (.slice (some ⟨g2, 0, none⟩) ys.length ys.length) rfl) (.slice (some ⟨g3, 0, none⟩) zs.length zs.length) rfl
  have zz : ∀ (g : Nat) (l : List Int), Blk w4 g l → Blk (((w4.setCell ⟨w.heap.size, 0, none⟩ (.slice (some ⟨g1, 0, none⟩) xs.length xs.length)).setCell ⟨w.heap.size, 1, none⟩ (.slice (some ⟨g2, 0, none⟩) ys.length ys.length)).setCell ⟨w.heap.size, 2, none⟩ (.slice (some ⟨g3, 0, none⟩) zs.length zs.length)) g l := fun g l hz =>
    (Below.heap_setCell _ _ _ _ (HNE.out g l hz)).trans ((Below.heap_setCell _ _ _ _ (HNE.out g l hz)).trans ((Below.heap_setCell _ _ _ _ (HNE.out g l hz)).trans hz))
  have bb := ((t4.setCell (p := ⟨w.heap.size, 0, none⟩) (Nat.le_refl _) (.slice (some ⟨g1, 0, none⟩) xs.length xs.length)).setCell (p := ⟨w.heap.size, 1, none⟩) (Nat.le_refl _) (.slice (some ⟨g2, 0, none⟩) ys.length ys.length)).setCell (p := ⟨w.heap.size, 2, none⟩) (Nat.le_refl _) (.slice (some ⟨g3, 0, none⟩) zs.length zs.length)
  have q1 := zz _ _ Z1.out
  have q2 := zz _ _ Z2.out
  have q3 := zz _ _ Z3.out
  clear zz f0 f1 f2 d0 d1 d2 ff t4 h4
  generalize (((w4.setCell ⟨w.heap.size, 0, none⟩ (.slice (some ⟨g1, 0, none⟩) xs.length xs.length)).setCell ⟨w.heap.size, 1, none⟩ (.slice (some ⟨g2, 0, none⟩) ys.length ys.length)).setCell ⟨w.heap.size, 2, none⟩ (.slice (some ⟨g3, 0, none⟩) zs.length zs.length)) = w5 at hbox bb q1 q2 q3 ⊢
  have y0 : w5.cell? ⟨w.heap.size, 0, none⟩ = some (.slice (some ⟨g1, 0, none⟩) xs.length xs.length) := by rw [cell_of_row _ _ _ _ _ _ hbox]; rfl
  have y1 : w5.cell? ⟨w.heap.size, 1, none⟩ = some (.slice (some ⟨g2, 0, none⟩) ys.length ys.length) := by rw [cell_of_row _ _ _ _ _ _ hbox]; rfl
  have y2 : w5.cell? ⟨w.heap.size, 2, none⟩ = some (.slice (some ⟨g3, 0, none⟩) zs.length zs.length) := by rw [cell_of_row _ _ _ _ _ _ hbox]; rfl
  exact bodyPost_ret (v := .tuple #[.agg #[.slice (some ⟨g1, 0, none⟩) xs.length xs.length, .slice (some ⟨g2, 0, none⟩) ys.length ys.length, .slice (some ⟨g3, 0, none⟩) zs.length zs.length], .int .i64 0])
    (by simp [results, Try.results33, go_sem, y0, y1, y2]) rfl
    ⟨g1, g2, g3, rfl, ⟨q1.sl rfl (by have := HN.out; unfold maxLen; omega), q2.sl rfl (by have := HN.out; unfold maxLen; omega), q3.sl rfl (by have := HN.out; unfold maxLen; omega), HN.out.1, HN.out.2.1, HN.out.2.2⟩, bb⟩
end Go.Proofs.Ytkkjjhkhpibaiaa.Im
