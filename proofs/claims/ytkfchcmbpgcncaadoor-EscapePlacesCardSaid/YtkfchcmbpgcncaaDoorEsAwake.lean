/-
  The examples with which each statement on package escape ends; the contracts with their results as variables.
-/
import Derived.Test.YtkfchcmbpgcncaaDoorEsRefC
import Derived.Test.YtkfchcmbpgcncaaDoorR01Compare
import Derived.Test.YtkfchcmbpgcncaaDoorBox
namespace Go.Proofs.YtkfchcmbpgcncaaDoor.Es
open Go.RowKit
set_option linter.unusedVariables false

theorem text_x {A : Option Addr} {n c : Nat} {zs : List Int} {s : ByteArray} {r : Int} (h : textR zs = (s, r)) (w : World) (ht : Tab w) (hl : Sl w A n c 1 (ints zs)) (hn : n ≤ 1000) :
    Calls Tryd.prog 13 #[.slice A n c] w fun e w' => e = .returned (.tuple #[.string s, .int .i64 r]) ∧ Below w.heap.size w w' := by
  have := text_any A n c zs w hl hn ht
  rw [h] at this
  exact this
theorem codes_x {A : Option Addr} {n c : Nat} {zs : List Int} {s : ByteArray} {r : Int} (h : codesR zs = (s, r)) (w : World) (ht : Tab w) (hl : Sl w A n c 1 (ints zs)) (hn : n ≤ 1000) :
    Calls Tryd.prog 15 #[.slice A n c] w fun e w' => e = .returned (.tuple #[.string s, .int .i64 r]) ∧ Below w.heap.size w w' := by
  have := codes_any A n c zs w hl hn ht
  rw [h] at this
  exact this
theorem lit_x {s : ByteArray} {t : List Int} {e0 : Int} {k : Nat} (h : litR s.data.toList = ⟨t, e0, k⟩) (w : World) (hs : s.size ≤ 60000) : Calls Tryd.prog 20 #[.string s] w (ListFault t e0 (k : Int) w) := by
  have := lit_any s hs w
  unfold LitRes at this
  rw [h] at this
  exact this
theorem pcodes_x {s : ByteArray} {t : List Int} {r : Int} (h : pcR s.data.toList = (t, r)) (w : World) (he : Env w) (hs : s.size ≤ 50000) : Calls Tryd.prog 17 #[.string s] w (ListErr (t, r) w) := by
  have := pcodes_any s hs w he
  rw [h] at this
  exact this
theorem new_at (w : World) (t : TypeId) (n : Nat) (zs : List Int) (h : zs.length = n) (hm : n ≤ 1000) {g : Nat} (hg : g = w.heap.size) : Sl (w.alloc (.cells (ints zs).toArray t)) (some ⟨g, 0, none⟩) n n 1 (ints zs) := by
  rw [hg]
  exact Sl.built w t 1 n (ints zs) (by simp [ints, h]) (by unfold maxLen; omega)
theorem aw1 : textR [65, 34, 769] = (⟨#[34, 65, 92, 34, 92, 117, 123, 51, 48, 49, 125, 34]⟩, 0) := by decide +kernel
theorem aw2 : litR [34, 97] = ⟨[], 3, 2⟩ := by rfl
theorem aw3 : litR [34, 92, 110, 34] = ⟨[], 3, 1⟩ := by rfl
theorem aw4 : pcR [48, 48, 52, 49, 32, 48, 51, 48, 65] = ([65, 778], 0) := by decide +kernel

set_option maxRecDepth 100000 in
set_option maxHeartbeats 2000000 in
theorem alive_any (w : World) (he : Env w) : Calls Tryd.prog 12 #[] w (Makes (.bool true) w) := by
  go_enter Tryd.func12, Tryd.ntmps12
  go_wp2_with fail
  refine (text_x aw1 _ (he.alloc _).tab (new_at w 3 3 [65, 34, 769] rfl (by omega) rfl) (by omega)).mono ?_
  rintro e w1 ⟨rfl, b1⟩
  have t1 := Below.past b1
  have he1 := he.next t1
  clear b1
  go_wp2_with fail
  refine (lit_x (s := ⟨#[34, 97]⟩) aw2 _ (by decide)).mono ?_
  rintro e w2 ⟨A2, n2, c2, rfl, l2, b2⟩
  have t2 := Below.then t1 b2
  have he2 := he1.next b2
  clear b2 l2
  go_wp2_with fail
  refine (lit_x (s := ⟨#[34, 92, 110, 34]⟩) aw3 _ (by decide)).mono ?_
  rintro e w3 ⟨A3, n3, c3, rfl, l3, b3⟩
  have k1 := (Bk.fresh t2 #[.int .i64 3, .int .i64 2] 33).step b3
  have he3 := (he2.alloc _).next b3
  clear b3 l3
  go_wp2_with fail
  refine (pcodes_x (s := ⟨#[48, 48, 52, 49, 32, 48, 51, 48, 65]⟩) aw4 _ (he3.alloc _) (by decide)).mono ?_
  rintro e w4 ⟨A4, n4, c4, rfl, l4, b4⟩
  have k2 := (Bk.fresh k1.below #[.int .i64 3, .int .i64 1] 33).step b4
  have k3 := (k1.alloc (.cells #[.int .i64 3, .int .i64 1] 33)).step b4
  clear b4 k1
  obtain ⟨x0, x1⟩ := k2.two
  obtain ⟨y0, y1⟩ := k3.two
  have f1 := fault_same 3 1
  have f2 := fault_same 3 2
  go_wp2_with fail
  refine (ref_equal_x (b := true) (by decide) (l4.keep ((Below.refl _ _).alloc (Nat.le_refl _) _)) (new_at w4 3 2 [65, 778] rfl (by omega) rfl)).mono ?_
  rintro e w5 ⟨rfl, d5⟩
  go_wp2_with fail
  go_ret
  exact ⟨rfl, ((k2.alloc _).drawn d5).below⟩
end Go.Proofs.YtkfchcmbpgcncaaDoor.Es
