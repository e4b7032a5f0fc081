/-
  The contract of the examples with which each statement on UTF-8 ends.
-/
import Derived.Test.YtpckedihdmibmaaDoorU8RefC
import Derived.Test.YtpckedihdmibmaaDoorU8Math2
import Derived.Test.YtpckedihdmibmaaDoorBox
import Derived.Test.YtpckedihdmibmaaDoorR01Compare
namespace Go.Proofs.YtpckedihdmibmaaDoor.U8
open Go.RowKit
set_option linter.unusedVariables false

theorem encode_x {A : Option Addr} {n c : Nat} {zs us : List Int} {p r a : Int} {t : ByteArray} (he : encR p zs = (us, r, a)) (hs : strOfNums us = t) (w : World) (ht : Tab w) (h : Sl w A n c 1 (ints zs)) (hn : n ≤ 5000) :
    Calls Tryd.prog 11 #[.slice A n c, .int .i64 p] w (StrFault t r a w) := by
  have := encode_any A n c zs p w ht h hn
  rw [he, hs] at this
  exact this
theorem decode_x {s : ByteArray} {us : List Int} {p r a : Int} (he : decR p (strInts s) = (us, r, a)) (w : World) (ht : Tab2 w) (hn : s.size ≤ 5000) :
    Calls Tryd.prog 20 #[.string s, .int .i64 p] w (ListFault us r a w) := by
  have := decode_any s p w ht hn
  rw [he] at this
  exact this
/-- Both tables lie in their blocks. -/
def Tabs (w : World) : Prop := Tab w ∧ Tab2 w
theorem Tabs.next {w w1 : World} (h : Tabs w) (hb : Below w.heap.size w w1) : Tabs w1 := ⟨Tab.next h.1 hb, h.2.next hb⟩
theorem Tabs.alloc {w : World} (h : Tabs w) (o : Obj) : Tabs (w.alloc o) := ⟨Tab.alloc h.1 o, h.2.alloc o⟩
theorem al1 : encR 4 [65, 233, 55296] = ([65, 195, 169, 92, 117, 123, 68, 56, 48, 48, 125], 0, 0) := by decide +kernel
theorem al2 : decR 2 (strInts ⟨#[226, 130, 65]⟩) = ([65533, 65], 0, 0) := by decide +kernel
theorem al3 : good (strInts ⟨#[65]⟩) = true := by decide +kernel
theorem al4 : len8 8364 = 3 := by decide +kernel

set_option maxRecDepth 100000 in
set_option maxHeartbeats 2000000 in
theorem alive_any (w : World) (ht : Tabs w) : Calls Tryd.prog 16 #[] w (Makes (.bool true) w) := by
  have hg := Tryd.eqGuardType24
  have hq := fault_same 0 0
  go_enter Tryd.func16, Tryd.ntmps16
  go_wp2_with fail
  refine (encode_x al1 (t := ⟨#[65, 195, 169, 92, 117, 123, 68, 56, 48, 48, 125]⟩) rfl _ (Tab.alloc ht.1 _) (Sl.built w 3 1 3 _ rfl (ml 3 (by omega))) (by omega)).mono ?_
  rintro e w1 ⟨rfl, b1⟩
  have t1 := Below.past b1
  have k1 := Bk.fresh t1 #[.int .i64 0, .int .i64 0] 24
  clear b1
  go_wp2_with fail
  refine (decode_x al2 _ (Tabs.next ht k1.below).2 (by decide)).mono ?_
  rintro e w2 ⟨A2, n2, c2, rfl, l2, b2⟩
  have q1 := (k1.step b2).alloc (.cells #[.int .i64 0, .int .i64 0] 24)
  have q2 := Bk.fresh (k1.step b2).below #[.int .i64 0, .int .i64 0] 24
  have m2 := Sl.alloc l2 (.cells #[.int .i64 0, .int .i64 0] 24)
  obtain ⟨x0, x1⟩ := q1.two
  clear b2 k1 t1 l2
  go_wp2_with fail
  refine (ref_equal_x (b := true) (by decide) (Sl.alloc m2 _) (Sl.built_at (w2.alloc _) 3 1 2 (ints [65533, 65]) rfl (ml 2 (by omega)) (by simp))).mono ?_
  rintro e w3 ⟨rfl, d3⟩
  have p3 := Below.past (d3.below _)
  have q3 := q2.step p3
  obtain ⟨y0, y1⟩ := q3.two
  have t3 := q3.below
  clear d3 p3 q1 q2 m2 x0 x1 q3
  go_wp2_with fail
  refine (length_x al4 _).mono ?_
  rintro e w' ⟨rfl, rfl⟩
  go_wp2_with fail
  refine (valid8_x al3 (by decide) _).mono ?_
  rintro e w4 ⟨rfl, d4⟩
  go_wp2_with fail
  go_ret
  exact ⟨rfl, Below.then t3 (d4.below _)⟩
end Go.Proofs.YtpckedihdmibmaaDoor.U8
