/-
  What '==' says of faults; the contract of the examples with which each statement on UTF-16 ends.
-/
import Derived.Test.YtjfhhcaikapfiaaDoorUxRefC
import Derived.Test.YtjfhhcaikapfiaaDoorUxRefD
import Derived.Test.YtjfhhcaikapfiaaDoorBox
import Derived.Test.YtjfhhcaikapfiaaDoorR01Compare
namespace Go.Proofs.YtjfhhcaikapfiaaDoor.Ux
open Go.RowKit
set_option linter.unusedVariables false

theorem fields_fault : (Tryd.prog.fieldsOf 26).toList = [{ name := "Errno", type := 24, offset := 0, embedded := false, tag := "", pkgPath := "", byteOffset := 0 }, { name := "At", type := 3, offset := 1, embedded := false, tag := "", pkgPath := "", byteOffset := 8 }] := by kernel_rfl
theorem eq_fault (a b c d : Int) (w : World) : (Op.equalIn 10000 26 (.agg #[.int .i64 a, .int .i64 b]) (.agg #[.int .i64 c, .int .i64 d])).run Tryd.prog w = .ok (a == c && b == d) w := by
  have u3 := Tryd.underlying3
  have a3 := Tryd.isAgg3
  have z3 := Tryd.sizeOf3
  have u4 := Tryd.underlying24
  have a4 := Tryd.isAgg24
  have z4 := Tryd.sizeOf24
  rw [show (10000 : Nat) = 9999 + 1 from rfl, run_equalIn_struct _ _ _ _ _ (by kernel_rfl) (by kernel_rfl), fields_fault]
  simp only [Op.eqFields]
  go_simp
  by_cases h1 : a = c <;> by_cases h2 : b = d <;> simp [h1, h2]
theorem fault_same (a b : Int) (w : World) : (Op.equalIn 10000 26 (.agg #[.int .i64 a, .int .i64 b]) (.agg #[.int .i64 a, .int .i64 b])).run Tryd.prog w = .ok true w := by
  rw [eq_fault]
  simp

theorem encode_x {A : Option Addr} {n c : Nat} {zs us : List Int} {p r a : Int} (he : encR p zs = (us, r, a)) (w : World) (ht : Tab w) (h : Sl w A n c 1 (ints zs)) (hn : n ≤ 5000) :
    Calls Tryd.prog 11 #[.slice A n c, .int .i64 p] w (ListFault us r a w) := by
  have := encode_any A n c zs p w ht h hn
  rw [he] at this
  exact this
theorem decode_x {A : Option Addr} {n c : Nat} {zs us : List Int} {p r a : Int} (he : decR p zs = (us, r, a)) (w : World) (ht : Tab w) (h : Sl w A n c 1 (ints zs)) (hn : n ≤ 5000) :
    Calls Tryd.prog 14 #[.slice A n c, .int .i64 p] w (ListFault us r a w) := by
  have := decode_any A n c zs p w ht h hn
  rw [he] at this
  exact this
theorem bytes_x {A : Option Addr} {n c : Nat} {zs : List Int} {big mark : Bool} {s : ByteArray} {us : List Int} {r a : Int} (he : bytesR zs big mark = (us, r, a)) (hs : strOfNums us = s) (w : World) (h : Sl w A n c 1 (ints zs)) (hn : n ≤ 5000) :
    Calls Tryd.prog 16 #[.slice A n c, .bool big, .bool mark] w (StrFault s r a w) := by
  have := bytes_any A n c zs big mark w h hn
  rw [he, hs] at this
  exact this
theorem units_x {s : ByteArray} {big b : Bool} {zs : List Int} {r a : Int} (he : unitsR (strInts s) big = (zs, b, r, a)) (w : World) (hn : s.size ≤ 10000) :
    Calls Tryd.prog 18 #[.string s, .bool big] w (UnitsRes zs b r a w) := by
  have := units_any s big w hn
  rw [he] at this
  exact this
theorem Tab.alloc {w : World} (h : Tab w) (o : Obj) : Tab (w.alloc o) := h.below h.lt ((Below.refl _ w).alloc (Nat.le_refl _) o)
theorem Tab.next {w w1 : World} (h : Tab w) (hb : Below w.heap.size w w1) : Tab w1 := h.below h.lt hb
theorem Sl.alloc {w : World} {A : Option Addr} {n c size : Nat} {cs : List Value} (h : Sl w A n c size cs) (o : Obj) : Sl (w.alloc o) A n c size cs := h.keep ((Below.refl _ w).alloc (Nat.le_refl _) o)
theorem Below.past {w : World} {o : Obj} {w1 : World} (hb : Below (w.alloc o).heap.size (w.alloc o) w1) : Below w.heap.size w w1 := ((Below.refl _ _).alloc (Nat.le_refl _) _).trans (hb.mono (by simp))
theorem Below.then {w w1 w2 : World} (h : Below w.heap.size w w1) (h2 : Below w1.heap.size w1 w2) : Below w.heap.size w w2 := h.trans (h2.mono h.size)

theorem ml (n : Nat) (h : n ≤ 1000) : n ≤ maxLen := by unfold maxLen; omega
theorem aw1 : encR 1 [128512] = ([55357, 56832], 0, 0) := by decide +kernel
theorem aw2 : decR 2 [55357, 56832, 56832] = ([128512, 65533], 0, 0) := by decide +kernel
theorem aw3 : bytesR [65] true true = ([254, 255, 0, 65], 0, 0) := by decide +kernel
theorem aw4 : unitsR (strInts ⟨#[255, 254, 65, 0]⟩) true = ([65], false, 0, 0) := by decide +kernel

set_option maxRecDepth 100000 in
set_option maxHeartbeats 2000000 in
theorem awake_any (w : World) (ht : Tab w) : Calls Tryd.prog 10 #[] w (Makes (.bool true) w) := by
  go_enter Tryd.func10, Tryd.ntmps10
  go_wp2_with fail
  refine (encode_x aw1 _ (Tab.alloc ht _) (Sl.built w 3 1 1 _ rfl (ml 1 (by omega))) (by omega)).mono ?_
  rintro e w1 ⟨A1, n1, c1, rfl, l1, b1⟩
  have t1 := Below.past b1
  have ht1 := Tab.next ht t1
  clear b1
  go_wp2_with fail
  refine (decode_x aw2 _ (Tab.alloc (Tab.alloc ht1 _) _) (Sl.built_at (w1.alloc _) 3 1 3 (ints [55357, 56832, 56832]) rfl (ml 3 (by omega)) (by simp)) (by omega)).mono ?_
  rintro e w2 ⟨A2, n2, c2, rfl, l2, b2⟩
  have p2 := Below.past b2
  have k1 := (Bk.fresh t1 #[.int .i64 0, .int .i64 0] 26).step p2
  have m1 := (Sl.alloc l1 _).keep p2
  have t2 := k1.below
  have ht2 := Tab.next ht t2
  clear b2 l1 p2 ht1 t1
  go_wp2_with fail
  refine (bytes_x aw3 (s := ⟨#[254, 255, 0, 65]⟩) rfl _ (Sl.built_at (w2.alloc _) 3 1 1 (ints [65]) rfl (ml 1 (by omega)) (by simp)) (by omega)).mono ?_
  rintro e w3 ⟨rfl, b3⟩
  have p3 := Below.past b3
  have k1' := (k1.alloc _).step p3
  have m1' := (Sl.alloc m1 _).keep p3
  have k2 := (Bk.fresh t2 #[.int .i64 0, .int .i64 0] 26).step p3
  have m2 := (Sl.alloc l2 _).keep p3
  have t3 := k1'.below
  have ht3 := Tab.next ht t3
  clear b3 p3 k1 m1 l2 t2 ht2
  go_wp2_with fail
  refine (units_x aw4 _ (by decide)).mono ?_
  rintro e w4 ⟨A4, n4, c4, rfl, l4, b4⟩
  have p4 := b4
  have k1 := (k1'.alloc _).step p4
  have m1 := (Sl.alloc m1' _).keep p4
  have k2' := (k2.alloc _).step p4
  have m2' := (Sl.alloc m2 _).keep p4
  have k3 := (Bk.fresh t3 #[.int .i64 0, .int .i64 0] 26).step p4
  have t4 := k1.below
  clear b4 p4 k1' m1' k2 m2 t3 ht3
  have k4 := Bk.fresh t4 #[.int .i64 0, .int .i64 0] 26
  go_wp2_with fail
  refine (ref_equal_x (b := true) (by decide) (Sl.alloc (Sl.alloc m1 _) _) (Sl.built_at (w4.alloc _) 3 1 2 (ints [55357, 56832]) rfl (ml 2 (by omega)) (by simp))).mono ?_
  rintro e w5 ⟨rfl, d5⟩
  have p5 := Below.past (d5.below _)
  have q1 := (k1.alloc _).step p5
  have q2 := (k2'.alloc _).step p5
  have q3 := (k3.alloc _).step p5
  have q4 := k4.step p5
  have n2 := (Sl.alloc m2' _).keep p5
  have n4 := (Sl.alloc l4 _).keep p5
  clear d5 p5 k1 k2' k3 k4 m1 m2' l4 t4
  obtain ⟨x0, x1⟩ := q1.two
  have t5 := q1.below
  clear q1
  go_wp2_with fail
  refine (ref_equal_x (b := true) (by decide) (Sl.alloc n2 _) (Sl.built_at w5 3 1 2 (ints [128512, 65533]) rfl (ml 2 (by omega)) rfl)).mono ?_
  rintro e w6 ⟨rfl, d6⟩
  have p6 := Below.past (d6.below _)
  have k2 := q2.step p6
  have k3 := q3.step p6
  have k4 := q4.step p6
  have m4 := n4.keep p6
  clear d6 p6 q2 q3 q4 n2 n4 x0 x1 t5
  obtain ⟨x0, x1⟩ := k2.two
  obtain ⟨y0, y1⟩ := k3.two
  go_wp2_with fail
  refine (ref_equal_x (b := true) (by decide) (Sl.alloc m4 _) (Sl.built_at w6 3 1 1 (ints [65]) rfl (ml 1 (by omega)) rfl)).mono ?_
  rintro e w7 ⟨rfl, d7⟩
  have q4 := k4.step (Below.past (d7.below _))
  obtain ⟨z0, z1⟩ := q4.two
  clear d7 x0 x1 y0 y1 k2 k3 k4 m4
  have t7 := q4.below
  go_wp2_with fail
  go_ret
  exact ⟨rfl, t7⟩
end Go.Proofs.YtjfhhcaikapfiaaDoor.Ux
