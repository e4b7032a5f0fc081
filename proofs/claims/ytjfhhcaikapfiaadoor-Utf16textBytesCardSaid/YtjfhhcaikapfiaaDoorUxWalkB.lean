/-
  The walks of Utf16textWhole and Utf16textBytes.
-/
import Derived.Test.YtjfhhcaikapfiaaDoorUxWalkA
namespace Go.Proofs.YtjfhhcaikapfiaaDoor.Ux
open Go.RowKit
set_option linter.unusedVariables false

set_option maxRecDepth 100000 in
set_option maxHeartbeats 1000000 in
theorem whole_walk (A : Option Addr) (n c : Nat) (zs : List Int) (w : World) (ht : Tab w) (hx : Sl w A n c 1 (ints zs)) :
    Calls Tryd.prog 9 #[.slice A n c] w (Makes (.bool true) w) := by
  have hcap := hx.cap
  have hmax := hx.max
  have hcnt := hx.count
  rcases Nat.lt_or_ge 300 n with hn | hn
  · go_enter Tryd.func9, Tryd.ntmps9
    go_wp2_with fail
    refine (awake_any _ ht).mono ?_
    rintro e w1 ⟨rfl, b1⟩
    go_wp2_with fail
    go_ret
    exact ⟨rfl, b1⟩
  · have H2 := Lib.hid (decR_skip (zs := zs) (p := 2) (by decide) (by decide))
    have HR := Lib.hid (encR_replace zs)
    have hl2 := decL_len 2 zs
    have hl1 := decL_len 1 zs
    have HL2 : Hid ((decL 2 zs).length ≤ 5000) := Lib.hid (by omega)
    have HL1 : Hid ((decL 1 zs).length ≤ 5000) := Lib.hid (by omega)
    have hle := badD_le zs
    have HCN := Lib.hid hcnt
    clear hl2 hl1 hcnt
    rcases Nat.lt_or_ge (badD zs) zs.length with hb | hb
    · have HE := Lib.hid (decR_fail hb)
      obtain ⟨d, hd⟩ : ∃ d, badD zs = d := ⟨_, rfl⟩
      rw [hd] at HE hb
      have hdi : (d : Int) < (n : Int) := by have := HCN.out; omega
      have hd0 : (0 : Int) ≤ (d : Int) := by omega
      clear hb hle hd
      go_enter Tryd.func9, Tryd.ntmps9
      go_wp2_with fail
      refine (decode_x H2.out _ ht hx (by omega)).mono ?_
      rintro e w1 ⟨A1, n1, c1, rfl, l1, b1⟩
      have hn1 : n1 ≤ 5000 := by rw [l1.count]; exact HL2.out
      have k1 := Bk.fresh b1 #[.int .i64 0, .int .i64 0] 26
      have m1 := Sl.alloc l1 (.cells #[.int .i64 0, .int .i64 0] 26)
      have mx := Sl.alloc (hx.keep b1) (.cells #[.int .i64 0, .int .i64 0] 26)
      clear b1 l1
      go_wp2_with fail
      refine (encode_x HR.out _ (Tab.next ht k1.below) m1 hn1).mono ?_
      rintro e w2 ⟨A2, n2, c2, rfl, l2, b2⟩
      have k1' := (k1.step b2).alloc (.cells #[.int .i64 0, .int .i64 0] 26)
      have mx' := Sl.alloc (mx.keep b2) (.cells #[.int .i64 0, .int .i64 0] 26)
      obtain ⟨x0, x1⟩ := k1'.two
      have t2 := k1'.below
      clear k1 m1 mx b2 l2 k1'
      go_wp2_with fail
      refine (decode_x HE.out _ (Tab.next ht t2) mx' (by omega)).mono ?_
      rintro e w3 ⟨A3, n3, c3, rfl, l3, b3⟩
      obtain rfl : n3 = 0 := l3.count
      have k3 := Bk.fresh (Below.then t2 b3) #[.int .i64 9, .int .i64 (d : Int)] 26
      have t3 := k3.below
      clear x0 x1 l3 mx' b3 k3
      go_wp2_with fail
      refine (awake_any _ (Tab.next ht t3)).mono ?_
      rintro e w4 ⟨rfl, b4⟩
      go_wp2_with fail
      go_ret
      exact ⟨rfl, Below.then t3 b4⟩
    · have HB : Hid (badD zs = zs.length) := Lib.hid (by omega)
      have HE := Lib.hid (decR_good (p := 1) (by decide) HB.out)
      have HK := Lib.hid (encR_dec (p := 1) HB.out)
      have HSM := Lib.hid (dec_same 1 2 zs HB.out)
      clear hb hle
      go_enter Tryd.func9, Tryd.ntmps9
      go_wp2_with fail
      refine (decode_x H2.out _ ht hx (by omega)).mono ?_
      rintro e w1 ⟨A1, n1, c1, rfl, l1, b1⟩
      have hn1 : n1 ≤ 5000 := by rw [l1.count]; exact HL2.out
      have k1 := Bk.fresh b1 #[.int .i64 0, .int .i64 0] 26
      have m1 := Sl.alloc l1 (.cells #[.int .i64 0, .int .i64 0] 26)
      have mx := Sl.alloc (hx.keep b1) (.cells #[.int .i64 0, .int .i64 0] 26)
      clear b1 l1
      go_wp2_with fail
      refine (encode_x HR.out _ (Tab.next ht k1.below) m1 hn1).mono ?_
      rintro e w2 ⟨A2, n2, c2, rfl, l2, b2⟩
      have k1' := (k1.step b2).alloc (.cells #[.int .i64 0, .int .i64 0] 26)
      have m1' := Sl.alloc (m1.keep b2) (.cells #[.int .i64 0, .int .i64 0] 26)
      have mx' := Sl.alloc (mx.keep b2) (.cells #[.int .i64 0, .int .i64 0] 26)
      obtain ⟨x0, x1⟩ := k1'.two
      have t2 := k1'.below
      clear k1 m1 mx b2 l2 k1' hn1
      go_wp2_with fail
      refine (decode_x HE.out _ (Tab.next ht t2) mx' (by omega)).mono ?_
      rintro e w3 ⟨A3, n3, c3, rfl, l3, b3⟩
      have hn3 : n3 ≤ 5000 := by rw [l3.count]; exact HL1.out
      have k3 := Bk.fresh (Below.then t2 b3) #[.int .i64 0, .int .i64 0] 26
      have t3 := k3.below
      have m3 := Sl.alloc l3 (.cells #[.int .i64 0, .int .i64 0] 26)
      have m1 := Sl.alloc (m1'.keep b3) (.cells #[.int .i64 0, .int .i64 0] 26)
      have mx := Sl.alloc (mx'.keep b3) (.cells #[.int .i64 0, .int .i64 0] 26)
      clear x0 x1 l3 mx' b3 m1' k3 t2
      go_wp2_with fail
      refine (encode_x HK.out _ (Tab.next ht t3) m3 hn3).mono ?_
      rintro e w4 ⟨A4, n4, c4, rfl, l4, b4⟩
      have k4 := Bk.fresh (Below.then t3 b4) #[.int .i64 0, .int .i64 0] 26
      have m4 := Sl.alloc l4 (.cells #[.int .i64 0, .int .i64 0] 26)
      have m3' := Sl.alloc (m3.keep b4) (.cells #[.int .i64 0, .int .i64 0] 26)
      have m1' := Sl.alloc (m1.keep b4) (.cells #[.int .i64 0, .int .i64 0] 26)
      have mx' := Sl.alloc (mx.keep b4) (.cells #[.int .i64 0, .int .i64 0] 26)
      have t4 := k4.below
      clear m3 m1 mx b4 l4 t3 k4
      go_wp2_with fail
      refine (ref_equal_x (b := true) (by simp) m4 mx').mono ?_
      rintro e w5 ⟨rfl, d5⟩
      have n3' := m3'.drawn d5
      have n1' := m1'.drawn d5
      have t5 := Below.then t4 (d5.below _)
      clear m4 mx' m3' m1' d5 t4
      go_wp2_with fail
      refine (ref_equal_x (b := true) (by rw [HSM.out]; simp) n3' n1').mono ?_
      rintro e w6 ⟨rfl, d6⟩
      have t6 := Below.then t5 (d6.below _)
      clear n3' n1' d6 t5
      go_wp2_with fail
      refine (awake_any _ (Tab.next ht t6)).mono ?_
      rintro e w7 ⟨rfl, b7⟩
      go_wp2_with fail
      go_ret
      exact ⟨rfl, Below.then t6 b7⟩

set_option maxRecDepth 100000 in
set_option maxHeartbeats 1000000 in
theorem bytes_walk (A : Option Addr) (n c : Nat) (zs : List Int) (s : ByteArray) (f0 f1 : Bool) (w : World) (ht : Tab w) (hx : Sl w A n c 1 (ints zs)) (hs : s.size ≤ 9223372036854775807) :
    Calls Tryd.prog 5 #[.slice A n c, .string s, .agg #[.bool f0, .bool f1]] w (Makes (.bool true) w) := by
  have hcap := hx.cap
  have hmax := hx.max
  have k0 := Bk.fresh (Below.refl w.heap.size w) #[.bool f0, .bool f1] 31
  rcases Nat.lt_or_ge 300 n with hn | hn
  · go_enter Tryd.func5, Tryd.ntmps5
    go_wp2_with fail
    refine (awake_any _ (Tab.next ht k0.below)).mono ?_
    rintro e w1 ⟨rfl, b1⟩
    go_wp2_with fail
    go_ret
    exact ⟨rfl, Below.then k0.below b1⟩
  · rcases Nat.lt_or_ge 600 s.size with hz | hz
    · go_enter Tryd.func5, Tryd.ntmps5
      go_wp2_with fail
      refine (awake_any _ (Tab.next ht k0.below)).mono ?_
      rintro e w1 ⟨rfl, b1⟩
      go_wp2_with fail
      go_ret
      exact ⟨rfl, Below.then k0.below b1⟩
    · obtain ⟨⟨us, r, a⟩, he⟩ : ∃ x, bytesR zs f0 f1 = x := ⟨_, rfl⟩
      obtain ⟨⟨vs, b, r2, a2⟩, hu⟩ : ∃ x, unitsR (strInts s) f0 = x := ⟨_, rfl⟩
      obtain ⟨t, hst⟩ : ∃ t, strOfNums us = t := ⟨_, rfl⟩
      have HE := Lib.hid he
      have HU := Lib.hid hu
      have HS := Lib.hid hst
      have htt : (t.toList == t.toList) = true := beq_self_eq_true _
      have hbb : (b == b) = true := beq_self_eq_true _
      have hg := Tryd.eqGuardType26
      have hq := fault_same r a
      have hq2 := fault_same r2 a2
      have hx0 := Sl.alloc hx (.cells #[.bool f0, .bool f1] 31)
      clear he hu hst
      go_enter Tryd.func5, Tryd.ntmps5
      go_wp2_with fail
      refine (bytes_x HE.out HS.out _ hx0 (by omega)).mono ?_
      rintro e w1 ⟨rfl, b1⟩
      have k1 := (k0.step b1).alloc (.cells #[.int .i64 r, .int .i64 a] 26)
      have f1' := Bk.fresh (k0.step b1).below #[.int .i64 r, .int .i64 a] 26
      have hx1 := Sl.alloc (hx0.keep b1) (.cells #[.int .i64 r, .int .i64 a] 26)
      obtain ⟨z0, z1⟩ := k1.two
      clear k0 hx0 b1
      go_wp2_with fail
      refine (ref_bytes_x HE.out HS.out _ hx1 (by omega)).mono ?_
      rintro e w2 ⟨rfl, b2⟩
      have k2 := (k1.step b2).alloc (.cells #[.int .i64 r, .int .i64 a] 26)
      have f2' := (f1'.step b2).alloc (.cells #[.int .i64 r, .int .i64 a] 26)
      clear z0 z1 k1 f1' hx1 b2
      obtain ⟨z0, z1⟩ := k2.two
      obtain ⟨x0, x1⟩ := f2'.two
      go_wp2_with fail
      refine (units_x HU.out _ (by omega)).mono ?_
      rintro e w3 ⟨A3, n3, c3, rfl, l3, b3⟩
      have k3 := (k2.step b3).alloc (.cells #[.int .i64 r2, .int .i64 a2] 26)
      have f3 := Bk.fresh (k2.step b3).below #[.int .i64 r2, .int .i64 a2] 26
      have l3' := Sl.alloc l3 (.cells #[.int .i64 r2, .int .i64 a2] 26)
      clear z0 z1 x0 x1 k2 f2' b3 l3
      obtain ⟨z0, z1⟩ := k3.two
      go_wp2_with fail
      refine (ref_units_x HU.out _ (by omega)).mono ?_
      rintro e w4 ⟨A4, n4, c4, rfl, l4, b4⟩
      have f4 := (f3.step b4).alloc (.cells #[.int .i64 r2, .int .i64 a2] 26)
      have g4 := Bk.fresh (f3.step b4).below #[.int .i64 r2, .int .i64 a2] 26
      have m3 := Sl.alloc (l3'.keep b4) (.cells #[.int .i64 r2, .int .i64 a2] 26)
      have m4 := Sl.alloc l4 (.cells #[.int .i64 r2, .int .i64 a2] 26)
      clear z0 z1 k3 f3 b4 l3' l4
      go_wp2_with fail
      refine (ref_equal_x (b := true) (by simp) m3 m4).mono ?_
      rintro e w5 ⟨rfl, d5⟩
      have f5 := f4.drawn d5
      have g5 := g4.drawn d5
      obtain ⟨x0, x1⟩ := f5.two
      obtain ⟨y0, y1⟩ := g5.two
      have t5 := f5.below
      clear f4 g4 m3 m4 d5 f5 g5
      go_wp2_with fail
      refine (awake_any _ (Tab.next ht t5)).mono ?_
      rintro e w7 ⟨rfl, b7⟩
      go_wp2_with fail
      go_ret
      exact ⟨rfl, Below.then t5 b7⟩
end Go.Proofs.YtjfhhcaikapfiaaDoor.Ux
