/-
  The walk of Utf8textPieces.
-/
import Derived.Test.YtpckedihdmibmaaDoorU8WalkB
import Derived.Test.YtpckedihdmibmaaDoorMemGuard
namespace Go.Proofs.YtpckedihdmibmaaDoor.U8
open Go.RowKit
set_option linter.unusedVariables false

theorem strInts_head (s : ByteArray) (k : Nat) : strInts (s.extract 0 k) = (strInts s).take k := by
  have := strInts_part s 0 k
  rw [Nat.zero_add, List.drop_zero] at this
  exact this

set_option maxRecDepth 100000 in
set_option maxHeartbeats 1000000 in
theorem pieces_long (s : ByteArray) (a b : Int) (w : World) (ht : Tabs w) (hsz : s.size ≤ 9223372036854775807) (hn : 300 < s.size) :
    Calls Tryd.prog 9 #[.string s, .int .u8 a, .int .u8 b] w (Makes (.bool true) w) := by
  go_enter Tryd.func9, Tryd.ntmps9
  go_wp2_with fail
  refine (alive_any _ ht).mono ?_
  rintro e w1 ⟨rfl, b1⟩
  go_wp2_with fail
  go_ret
  exact ⟨rfl, b1⟩
set_option maxRecDepth 100000 in
set_option maxHeartbeats 2000000 in
theorem pieces_main (s : ByteArray) (a b p : Int) (ha0 : 0 ≤ a) (ha1 : a ≤ 255) (hb0 : 0 ≤ b) (hb1 : b ≤ 255) (hp : 2 + b % 3 = p) (w : World) (ht : Tabs w) (hn : s.size ≤ 300) :
    Calls Tryd.prog 9 #[.string s, .int .u8 a, .int .u8 b] w (Makes (.bool true) w) := by
  have hp1 : 2 ≤ p := by omega
  have hp4 : p ≤ 4 := by omega
  have HK := Lib.hid (known_ok (p := p) (by omega) hp4)
  have HC := Lib.hid (strInts_len s)
  have hq := fault_same 0 0
  have hg := Tryd.eqGuardType24
  go_enter Tryd.func9, Tryd.ntmps9
  go_wp2_with fail
  go_loopw [8, 9] (fun av iv wr => ∃ (k j : Nat) (d : List Int), k ≤ s.size ∧ j ≤ 255 ∧ av = .int .i64 k ∧ iv = .int .i64 j ∧ Drawn w wr ∧ Hid (Cut p (strInts s) k d)) (fun _ iv _ => 256 - (intOf iv).toNat)
  case atStart => exact ⟨0, 0, [], by omega, by omega, rfl, rfl, Drawn.refl _, Lib.hid (Cut.zero _ _)⟩
  case round =>
    obtain ⟨k, j, d, hks, hj, rfl, rfl, hd, HCUT⟩ := hrel
    have i0 : (k : Int) ≤ (s.size : Int) := by omega
    by_cases hgo : (j : Int) < a ∧ k < s.size
    · obtain ⟨hja, hlt⟩ := hgo
      have i1 : (k : Int) < (s.size : Int) := by omega
      obtain ⟨⟨c, n, ok⟩, hst⟩ : ∃ x, step ((strInts s).drop k) = x := ⟨_, rfl⟩
      obtain ⟨_, _, hn1, hn2, hn4⟩ := dec_at (p := p) (by rw [HC.out]; exact hlt) hst
      rw [HC.out] at hn2
      have HST : Hid (step (strInts (s.extract k s.size)) = (c, n, ok)) := Lib.hid (by rw [strInts_drop, hst])
      have HSZ : Hid ((s.extract k s.size).size ≤ 100000) := Lib.hid (by rw [ByteArray.size_extract]; omega)
      have HN := Lib.hid (HCUT.out.step (by rw [HC.out]; exact hlt) hst)
      have i2 : (n : Int) ≤ (s.size : Int) - (k : Int) := by omega
      have i3 : (1 : Int) ≤ (n : Int) := by omega
      clear hst
      go_wp2_with fail
      refine (pstep_x HST.out HSZ.out _).mono ?_
      rintro e w1 ⟨rfl, d1⟩
      go_wp2_with fail
      go_roundw
      case rel => exact ⟨k + n, j + 1, _, by omega, by omega, vint (by omega), by go_num, hd.trans d1, HN⟩
      case measure => simp [intOf]; omega
    · have htw : Hid (decL p ((strInts s).take k) ++ decL p ((strInts s).drop k) = decL p (strInts s)) := Lib.hid (HCUT.out.whole (by rw [HC.out]; exact hks))
      have tw := hd.below w.heap.size
      have ht' := ht.next tw
      have H1 : Hid (decR p (strInts (s.extract 0 k)) = (decL p ((strInts s).take k), 0, 0)) := Lib.hid (by rw [strInts_head]; exact decR_skip HK.out (by omega))
      have H2 : Hid (decR p (strInts (s.extract k s.size)) = (decL p ((strInts s).drop k), 0, 0)) := Lib.hid (by rw [strInts_drop]; exact decR_skip HK.out (by omega))
      have H3 := Lib.hid (decR_skip (l := strInts s) HK.out (by omega))
      have Z1 : Hid ((s.extract 0 k).size = k) := Lib.hid (by rw [ByteArray.size_extract]; omega)
      have Z2 : Hid ((s.extract k s.size).size = s.size - k) := Lib.hid (by rw [ByteArray.size_extract]; omega)
      have L1 : Hid ((decL p ((strInts s).take k)).length ≤ 1200) := Lib.hid (by have := decL_len p _ _ (Nat.le_refl ((strInts s).take k).length); rw [List.length_take, HC.out] at this; omega)
      have L2 : Hid ((decL p ((strInts s).drop k)).length ≤ 1200) := Lib.hid (by have := decL_len p _ _ (Nat.le_refl ((strInts s).drop k).length); rw [List.length_drop, HC.out] at this; omega)
      clear hd
      have hcase : ¬ (j : Int) < a ∨ ((j : Int) < a ∧ ¬ (k : Int) < (s.size : Int)) := by
        by_cases h : (j : Int) < a
        · exact .inr ⟨h, fun h2 => hgo ⟨h, by omega⟩⟩
        · exact .inl h
      clear hgo
      rcases hcase with h1 | ⟨h1, h2⟩
      all_goals
        go_wp2_with fail
        refine (decode_x H1.out _ ht'.2 (by rw [Z1.out]; omega)).mono ?_
        rintro e w1 ⟨A1, n1, c1, rfl, l1, b1⟩
        have hn1 : n1 ≤ 1200 := by rw [l1.count]; have := L1.out; omega
        have k1 := Bk.fresh (Below.then tw b1) #[.int .i64 0, .int .i64 0] 24
        have m1 := Sl.alloc l1 (.cells #[.int .i64 0, .int .i64 0] 24)
        clear l1 b1
        go_wp2_with fail
        refine (decode_x H2.out _ (ht.next k1.below).2 (by rw [Z2.out]; omega)).mono ?_
        rintro e w2 ⟨A2, n2, c2, rfl, l2, b2⟩
        have hn2 : n2 ≤ 1200 := by rw [l2.count]; have := L2.out; omega
        have k1' := (k1.step b2).alloc (.cells #[.int .i64 0, .int .i64 0] 24)
        have k2 := Bk.fresh (k1.step b2).below #[.int .i64 0, .int .i64 0] 24
        have m1' := Sl.alloc (m1.keep b2) (.cells #[.int .i64 0, .int .i64 0] 24)
        have m2 := Sl.alloc l2 (.cells #[.int .i64 0, .int .i64 0] 24)
        clear k1 m1 l2 b2
        go_wp2_with fail
        refine (decode_x H3.out _ (ht.next k2.below).2 (by omega)).mono ?_
        rintro e w3 ⟨A3, n3, c3, rfl, l3, b3⟩
        have q1 := (k1'.step b3).alloc (.cells #[.int .i64 0, .int .i64 0] 24)
        have q2 := (k2.step b3).alloc (.cells #[.int .i64 0, .int .i64 0] 24)
        have q3 := Bk.fresh (k2.step b3).below #[.int .i64 0, .int .i64 0] 24
        have m1 := Sl.alloc (m1'.keep b3) (.cells #[.int .i64 0, .int .i64 0] 24)
        have m2' := Sl.alloc (m2.keep b3) (.cells #[.int .i64 0, .int .i64 0] 24)
        have m3 := Sl.alloc l3 (.cells #[.int .i64 0, .int .i64 0] 24)
        obtain ⟨x0, x1⟩ := q1.two
        obtain ⟨y0, y1⟩ := q2.two
        obtain ⟨z0, z1⟩ := q3.two
        have t3 := q3.below
        obtain ⟨W3, hW3⟩ : ∃ W3, W3 = w3.alloc (.cells #[.int .i64 0, .int .i64 0] 24) := ⟨_, rfl⟩
        have HW3 := Lib.hid hW3
        have M1 := Lib.hid (Sl.alloc m1 (.cells #[] 3))
        have M2 := Lib.hid m2'
        have M3 := Lib.hid m3
        have T3' := Lib.hid t3
        have T3 : Hid (Below w.heap.size w ((w3.alloc (.cells #[.int .i64 0, .int .i64 0] 24)).alloc (.cells #[] 3))) := Lib.hid (t3.alloc t3.size _)
        have O3 : Hid (Own ((w3.alloc (.cells #[.int .i64 0, .int .i64 0] 24)).alloc (.cells #[] 3)) (w3.alloc (.cells #[.int .i64 0, .int .i64 0] 24)).heap.size 3 1 (.slice (some ⟨w3.heap.size + 1, 0, none⟩) 0 0) 0 (ints [])) :=
          Lib.hid (Own.built_at (w3.alloc (.cells #[.int .i64 0, .int .i64 0] 24)) _ 3 1 0 (ints []) (Nat.le_refl _) rfl (by unfold maxLen; omega) (by simp))
        have hz3 : (w3.alloc (.cells #[.int .i64 0, .int .i64 0] 24)).heap.size ≤ ((w3.alloc (.cells #[.int .i64 0, .int .i64 0] 24)).alloc (.cells #[] 3)).heap.size := by simp
        have HZ3 := Lib.hid hz3
        clear k1' k2 m1' m2 l3 b3 q1 q2 q3 m1 m2' m3 t3 hW3 hz3
        go_wp2_with (first
          | (at_builtin; refine wpList_append_ints_if (by rfl) (.tmp 96) (.tmp 97) rfl (w3.alloc (.cells #[.int .i64 0, .int .i64 0] 24)).heap.size _ 0 [] rfl O3.out A1 n1 c1 (decL p ((strInts s).take k)) rfl M1.out n1 (by omega) (decL p ((strInts s).take k)) rfl (by omega) HZ3.out ?_; intro v4 w4 o4 b4)
          | (at_builtin; refine wpList_append_ints_if (by rfl) (.tmp 98) (.tmp 99) rfl (w3.alloc (.cells #[.int .i64 0, .int .i64 0] 24)).heap.size v4 n1 (decL p ((strInts s).take k)) rfl o4 A2 n2 c2 (decL p ((strInts s).drop k)) rfl (M2.out.keep (((Below.refl _ _).alloc (Nat.le_refl _) _).trans b4)) (n1 + n2) rfl (decL p ((strInts s).take k) ++ decL p ((strInts s).drop k)) rfl (by omega) (Nat.le_trans HZ3.out b4.size) ?_; intro v5 w5 o5 b5))
        have b6 := ((Below.refl _ (w3.alloc (.cells #[.int .i64 0, .int .i64 0] 24))).alloc (Nat.le_refl _) (.cells #[] 3)).trans (b4.trans b5)
        have m3' := M3.out.keep b6
        have t5 := Below.then T3'.out b6
        obtain ⟨E, g, rfl, hl⟩ := o5.sl
        clear b4 b5 o4 b6 o5 x0 x1 y0 y1 z0 z1
        go_wp2_with fail
        refine (ref_equal_x (b := true) (by rw [htw.out]; simp) hl m3').mono ?_
        rintro e w6 ⟨rfl, d6⟩
        have t6 := Below.then t5 (d6.below _)
        clear hl m3' d6 t5
        go_wp2_with fail
        refine (alive_any _ (ht.next t6)).mono ?_
        rintro e w7 ⟨rfl, b7⟩
        go_wp2_with fail
        go_ret
        exact ⟨rfl, Below.then t6 b7⟩
theorem pieces_walk (s : ByteArray) (a b : Int) (ha0 : 0 ≤ a) (ha1 : a ≤ 255) (hb0 : 0 ≤ b) (hb1 : b ≤ 255) (w : World) (ht : Tabs w) (hsz : s.size ≤ 9223372036854775807) :
    Calls Tryd.prog 9 #[.string s, .int .u8 a, .int .u8 b] w (Makes (.bool true) w) := by
  rcases Nat.lt_or_ge 300 s.size with hn | hn
  · exact pieces_long s a b w ht hsz hn
  · exact pieces_main s a b _ ha0 ha1 hb0 hb1 rfl w ht hn
end Go.Proofs.YtpckedihdmibmaaDoor.U8
