/-
  The walks of Utf8textForms, Utf8textEncodes, Utf8textSteps and Utf8textDecodes.
-/
import Derived.Test.YtpckedihdmibmaaDoorU8Alive
namespace Go.Proofs.YtpckedihdmibmaaDoor.U8
open Go.RowKit
set_option linter.unusedVariables false

theorem ref_encode_x {A : Option Addr} {n c : Nat} {zs us : List Int} {p r a : Int} {t : ByteArray} (he : encR p zs = (us, r, a)) (hs : strOfNums us = t) (w : World) (h : Sl w A n c 1 (ints zs)) (hn : n ≤ 5000) :
    Calls Tryd.prog 17 #[.slice A n c, .int .i64 p] w (StrFault t r a w) := by
  have := ref_encode_any A n c zs p w h hn
  rw [he, hs] at this
  exact this
theorem ref_decode_x {s : ByteArray} {us : List Int} {p r a : Int} (he : decR p (strInts s) = (us, r, a)) (w : World) (hn : s.size ≤ 5000) :
    Calls Tryd.prog 21 #[.string s, .int .i64 p] w (ListFault us r a w) := by
  have := ref_decode_any s p w hn
  rw [he] at this
  exact this

set_option maxRecDepth 100000 in
set_option maxHeartbeats 1000000 in
theorem encodes_walk (A : Option Addr) (n c : Nat) (zs : List Int) (p : Int) (w : World) (ht : Tabs w) (hx : Sl w A n c 1 (ints zs)) :
    Calls Tryd.prog 4 #[.slice A n c, .int .i64 p] w (Makes (.bool true) w) := by
  have hcap := hx.cap
  have hmax := hx.max
  rcases Nat.lt_or_ge 40 n with hn | hn
  · go_enter Tryd.func4, Tryd.ntmps4
    go_wp2_with fail
    refine (alive_any _ ht).mono ?_
    rintro e w1 ⟨rfl, b1⟩
    go_wp2_with fail
    go_ret
    exact ⟨rfl, b1⟩
  · obtain ⟨⟨us, r, a⟩, he⟩ : ∃ x, encR p zs = x := ⟨_, rfl⟩
    obtain ⟨t, hst⟩ : ∃ t, strOfNums us = t := ⟨_, rfl⟩
    have HE := Lib.hid he
    have HS := Lib.hid hst
    have htt : (t.toList == t.toList) = true := beq_self_eq_true _
    clear he hst
    go_enter Tryd.func4, Tryd.ntmps4
    go_wp2_with fail
    refine (encode_x HE.out HS.out _ ht.1 hx (by omega)).mono ?_
    rintro e w1 ⟨rfl, b1⟩
    go_wp2_with fail
    refine (ref_encode_x HE.out HS.out _ (Sl.alloc (hx.keep b1) _) (by omega)).mono ?_
    rintro e w2 ⟨rfl, b2⟩
    have q1 := ((Bk.fresh b1 #[.int .i64 r, .int .i64 a] 24).step b2).alloc (.cells #[.int .i64 r, .int .i64 a] 24)
    have q2 := Bk.fresh ((Bk.fresh b1 #[.int .i64 r, .int .i64 a] 24).step b2).below #[.int .i64 r, .int .i64 a] 24
    obtain ⟨x0, x1⟩ := q1.two
    obtain ⟨y0, y1⟩ := q2.two
    have t3 := q1.below
    have hq := fault_same r a
    have hg := Tryd.eqGuardType24
    clear q1 q2 b1 b2
    go_wp2_with fail
    refine (alive_any _ (ht.next t3)).mono ?_
    rintro e w4 ⟨rfl, b4⟩
    go_wp2_with fail
    go_ret
    exact ⟨rfl, Below.then t3 b4⟩

set_option maxRecDepth 100000 in
set_option maxHeartbeats 1000000 in
theorem steps_walk (s : ByteArray) (w : World) (ht : Tabs w) (hsz : s.size ≤ 9223372036854775807) :
    Calls Tryd.prog 5 #[.string s] w (Makes (.bool true) w) := by
  rcases Nat.lt_or_ge 200 s.size with hn | hn
  · go_enter Tryd.func5, Tryd.ntmps5
    go_wp2_with fail
    refine (alive_any _ ht).mono ?_
    rintro e w1 ⟨rfl, b1⟩
    go_wp2_with fail
    go_ret
    exact ⟨rfl, b1⟩
  · obtain ⟨⟨c, n, ok⟩, he⟩ : ∃ x, step (strInts s) = x := ⟨_, rfl⟩
    have HE := Lib.hid he
    have h1 : (c == c) = true := beq_self_eq_true _
    have h2 : (ok == ok) = true := beq_self_eq_true _
    clear he
    go_enter Tryd.func5, Tryd.ntmps5
    go_wp2_with fail
    refine (pstep_x HE.out (by omega) _).mono ?_
    rintro e w1 ⟨rfl, d1⟩
    go_wp2_with fail
    refine (rstep_x HE.out (by omega) _).mono ?_
    rintro e w2 ⟨rfl, d2⟩
    have t2 := (d1.trans d2).below w.heap.size
    clear d1 d2
    go_wp2_with fail
    refine (alive_any _ (ht.next t2)).mono ?_
    rintro e w4 ⟨rfl, b4⟩
    go_wp2_with fail
    go_ret
    exact ⟨rfl, Below.then t2 b4⟩

set_option maxRecDepth 100000 in
set_option maxHeartbeats 1000000 in
theorem decodes_walk (s : ByteArray) (p : Int) (w : World) (ht : Tabs w) (hsz : s.size ≤ 9223372036854775807) :
    Calls Tryd.prog 6 #[.string s, .int .i64 p] w (Makes (.bool true) w) := by
  rcases Nat.lt_or_ge 200 s.size with hn | hn
  · go_enter Tryd.func6, Tryd.ntmps6
    go_wp2_with fail
    refine (alive_any _ ht).mono ?_
    rintro e w1 ⟨rfl, b1⟩
    go_wp2_with fail
    go_ret
    exact ⟨rfl, b1⟩
  · obtain ⟨⟨us, r, a⟩, he⟩ : ∃ x, decR p (strInts s) = x := ⟨_, rfl⟩
    obtain ⟨v, hv⟩ : ∃ v, good (strInts s) = v := ⟨_, rfl⟩
    have HE := Lib.hid he
    have HV := Lib.hid hv
    have h2 : (v == v) = true := beq_self_eq_true _
    have hq := fault_same r a
    have hg := Tryd.eqGuardType24
    clear he hv
    go_enter Tryd.func6, Tryd.ntmps6
    go_wp2_with fail
    refine (decode_x HE.out _ ht.2 (by omega)).mono ?_
    rintro e w1 ⟨A1, n1, c1, rfl, l1, b1⟩
    go_wp2_with fail
    refine (ref_decode_x HE.out _ (by omega)).mono ?_
    rintro e w2 ⟨A2, n2, c2, rfl, l2, b2⟩
    have k1 := (Bk.fresh b1 #[.int .i64 r, .int .i64 a] 24).step b2
    have m1 := (Sl.alloc l1 _).keep b2
    clear b1 b2 l1
    go_wp2_with fail
    refine (ref_equal_x (b := true) (by simp) (Sl.alloc m1 _) (Sl.alloc l2 _)).mono ?_
    rintro e w3 ⟨rfl, d3⟩
    have q1 := (k1.alloc _).drawn d3
    have q2 := (Bk.fresh k1.below #[.int .i64 r, .int .i64 a] 24).drawn d3
    obtain ⟨x0, x1⟩ := q1.two
    obtain ⟨y0, y1⟩ := q2.two
    have t3 := q1.below
    clear d3 k1 m1 l2 q1 q2
    go_wp2_with fail
    refine (valid8_x HV.out (by omega) _).mono ?_
    rintro e w4 ⟨rfl, d4⟩
    have t4 := Below.then t3 (d4.below _)
    clear d4 t3 x0 x1 y0 y1
    go_wp2_with fail
    refine (ref_valid8_x HV.out (by omega) _).mono ?_
    rintro e w5 ⟨rfl, b5⟩
    have t5 := Below.then t4 b5
    clear b5 t4
    go_wp2_with fail
    refine (alive_any _ (ht.next t5)).mono ?_
    rintro e w6 ⟨rfl, b6⟩
    go_wp2_with fail
    go_ret
    exact ⟨rfl, Below.then t5 b6⟩
end Go.Proofs.YtpckedihdmibmaaDoor.U8
