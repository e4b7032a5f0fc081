/-
  The walk of EscapeForms.
-/
import Derived.Test.YtkfchcmbpgcncaaDoorEsWalkF
namespace Go.Proofs.YtkfchcmbpgcncaaDoor.Es
open Go.RowKit
set_option linter.unusedVariables false

set_option maxRecDepth 100000 in
set_option maxHeartbeats 4000000 in
theorem forms_tail_yes (u p : Int) (hu0 : 0 ≤ u) (hu1 : u ≤ 4294967295) (hp0 : 0 ≤ p) (hp1 : p ≤ 255) (w : World) (he : Env w) (c : Int) (hc0 : 0 ≤ c) (hc1 : c ≤ 1114111) (hm : (u.tmod 1114112) = c) (HC : Hid (isCode c = true)) : Calls Tryd.prog 10 #[.int .u32 u, .int .u8 p, .bool true] w (Makes (.bool true) w) := by
  have hcc : Hid (Dg (bytesOf (hexL c)).data.toList c) := Lib.hid (by rw [bytesOf_list]; exact Dg.first HC.out)
  obtain ⟨r0, hr0⟩ : ∃ r, bytesOf (hexL c) = r := ⟨_, rfl⟩
  have hr6 : r0.size ≤ 6 := by rw [← hr0, bytesOf_size]; exact hexL_le c
  rw [hr0] at hcc
  have HH : Hid (bytesOf (hexL c) = r0) := Lib.hid hr0
  clear hr0
  have f0 := fault_same 0 0
  have f1 := fault_same 3 1
  have f2 : ∀ n : Nat, _ := fun n => fault_same 3 ((n : Int) + 5)
  go_enter Tryd.func10, Tryd.ntmps10
  go_wp2_with (go_at_call 21; refine (ref_hex_any c _).mono ?_; rw [HH.out]; rintro e w' ⟨rfl, rfl⟩)
  go_loop [1, 8] (fun b v => ∃ (r : ByteArray) (y : Int), v = .string r ∧ b = .int .u8 y ∧ 0 ≤ y ∧ y ≤ 255 ∧ r.size ≤ 6 ∧ Hid (Dg r.data.toList c)) (fun _ v => 6 - strSize v)
  case atStart => exact ⟨_, _, rfl, rfl, hp0, hp1, hr6, hcc⟩
  case round =>
    obtain ⟨r, y, rfl, rfl, hy0, hy1, hr, HD⟩ := hrel
    by_cases hlt : r.size < 6 ∧ 0 < y
    · obtain ⟨h1, h2⟩ := hlt
      have HP := Lib.hid (HD.out.pad (by rw [length_of]; exact h1))
      go_wp2
      go_round
      case rel => exact ⟨_, _, rfl, rfl, by omega, by omega, by rw [pad_size]; omega, Lib.hid (by rw [pad_str]; exact HP.out)⟩
      case measure => show 6 - ((⟨#[48]⟩ : ByteArray) ++ r).size < 6 - r.size; rw [pad_size]; omega
    · have HW : Hid (∀ b ∈ r.data.toList, 0 ≤ dig b.toNat) := Lib.hid HD.out.dig
      have h2 := HD.out.low
      clear HD
      rcases Nat.lt_or_ge r.size 6 with h6 | h6
      · have hy : ¬ 0 < y := fun e => hlt ⟨h6, e⟩
        clear hlt
        go_wp2_with fail
        go_loopw [9, 10] (fun v i wr => ∃ k : Nat, k ≤ r.size ∧ i = .int .i64 k ∧ Own wr w.heap.size 5 1 v k (bys (lowN r k)) ∧ Below w.heap.size w wr) (fun _ i _ => r.size - (intOf i).toNat)
        case atStart => exact ⟨0, Nat.zero_le _, rfl, Own.nil _ _ _ _, Below.refl _ _⟩
        case round =>
          obtain ⟨k, hk, rfl, hown, hb⟩ := hrel
          by_cases hkt : k < r.size
          · have hdg := dig_small (HW.out (r.data.toList.getD k 0) (by rw [List.getD, List.getElem?_eq_getElem (by rw [length_of]; exact hkt)]; exact List.getElem_mem _))
            have hbt := byte_at r k hkt
            rw [← hbt] at hdg
            obtain ⟨x, hx⟩ : ∃ x : Int, ((r[k]'hkt).toNat : Int) = x := ⟨_, rfl⟩
            have HS := Lib.hid (lowN_step hkt)
            rw [hx] at HS hdg
            have hx0 : 0 ≤ x := by omega
            clear hbt
            rcases Int.lt_or_le x 65 with h65 | h65
            · have HL := Lib.hid (lowI_small (b := x) (by omega))
              go_wp2_with (at_builtin; refine wpList_append_bytes rfl (.tmp 48) (.tmp 50) rfl w.heap.size _ k (lowN r k) rfl (hown.alloc _) _ 1 1 [x] rfl (Sl.built_at _ 5 1 1 (bys [x]) rfl (ml 1 (by omega)) (by simp)) (k + 1) rfl (lowN r (k + 1)) (by rw [HS.out, HL.out]) (by omega) (by have := hb.size; simp; omega) ?_; intro v2 w2 o2 b2)
              go_round
              case rel => exact ⟨k + 1, by omega, by go_num, o2, Below.trans (Below.alloc hb hb.size _) b2⟩
              case measure => simp [intOf]; omega
            · have HL := Lib.hid (lowI_big (b := x) (by omega))
              go_wp2_with (at_builtin; refine wpList_append_bytes rfl (.tmp 48) (.tmp 50) rfl w.heap.size _ k (lowN r k) rfl (hown.alloc _) _ 1 1 [x + 32] rfl (Sl.built_at _ 5 1 1 (bys [x + 32]) rfl (ml 1 (by omega)) (by simp)) (k + 1) rfl (lowN r (k + 1)) (by rw [HS.out, HL.out]) (by omega) (by have := hb.size; simp; omega) ?_; intro v2 w2 o2 b2)
              go_round
              case rel => exact ⟨k + 1, by omega, by go_num, o2, Below.trans (Below.alloc hb hb.size _) b2⟩
              case measure => simp [intOf]; omega
          · obtain ⟨A1, c1, rfl, l1⟩ := hown.sl
            have HQ : Hid (strOfNums (lowN r k) = bytesOf (lowL r.data.toList)) := Lib.hid (lowN_all (by omega))
            obtain ⟨q, hq⟩ : ∃ q, bytesOf (lowL r.data.toList) = q := ⟨_, rfl⟩
            have hq6 : q.size ≤ 6 := by rw [← hq, bytesOf_size]; exact h2.le
            have h3 : Dg2 q.data.toList c := by rw [← hq, bytesOf_list]; exact h2
            have hcv := conv_bytes l1
            rw [HQ.out, hq] at hcv
            obtain ⟨L1, L2, L3⟩ := h3.lits HC.out
            have hew := he.next hb
            clear HQ hq h2 h3 l1 HW
            go_wp2_with fail
            refine (lit_at L1.out rfl _ (by rw [brace_size]; have : (⟨#[125, 34]⟩ : ByteArray).size = 2 := rfl; omega)).mono ?_
            rintro e w2 ⟨A2, n2, c2, rfl, l2, b2⟩
            have t2 := Below.then hb b2
            have k2 := Bk.fresh t2 #[.int .i64 0, .int .i64 0] 33
            have he2 := (hew.next b2).alloc (.cells #[.int .i64 0, .int .i64 0] 33)
            have m2 := Sl.alloc l2 (.cells #[.int .i64 0, .int .i64 0] 33)
            clear b2 l2 t2
            go_wp2_with fail
            refine (lit_at L2.out (z := (q.size : Int) + 5) (by omega) _ (by rw [brace_size]; have : (⟨#[125]⟩ : ByteArray).size = 1 := rfl; omega)).mono ?_
            rintro e w3 ⟨A3, n3, c3, rfl, l3, b3⟩
            have k3 := Bk.step k2 b3
            have j3 := Bk.fresh k3.below #[.int .i64 3, .int .i64 ((q.size : Int) + 5)] 33
            have k3' := k3.alloc (.cells #[.int .i64 3, .int .i64 ((q.size : Int) + 5)] 33)
            have he3 := (he2.next b3).alloc (.cells #[.int .i64 3, .int .i64 ((q.size : Int) + 5)] 33)
            have m3 := Sl.alloc (m2.keep b3) (.cells #[.int .i64 3, .int .i64 ((q.size : Int) + 5)] 33)
            clear b3 l3 k2 k3 m2
            go_wp2_with fail
            refine (lit_at L3.out (z := 1) rfl _ (by rw [brace_size]; have : (⟨#[59, 125, 34]⟩ : ByteArray).size = 3 := rfl; omega)).mono ?_
            rintro e w4 ⟨A4, n4, c4, rfl, l4, b4⟩
            have k4 := (k3'.step b4).alloc (.cells #[.int .i64 3, .int .i64 1] 33)
            have j4 := (j3.step b4).alloc (.cells #[.int .i64 3, .int .i64 1] 33)
            have i4 := Bk.fresh (j3.step b4).below #[.int .i64 3, .int .i64 1] 33
            have he4 := (he3.next b4).alloc (.cells #[.int .i64 3, .int .i64 1] 33)
            have m4 := Sl.alloc (m3.keep b4) (.cells #[.int .i64 3, .int .i64 1] 33)
            clear b4 l4 k3' j3 m3
            obtain ⟨x0, x1⟩ := k4.two
            obtain ⟨y0, y1⟩ := j4.two
            obtain ⟨z0, z1⟩ := i4.two
            go_wp2_with fail
            refine (ref_equal_x (b := true) (by simp) (Sl.alloc m4 _) (Sl.built_at _ 3 1 1 (ints [c]) rfl (ml 1 (by omega)) (by simp))).mono ?_
            rintro e w5 ⟨rfl, d5⟩
            have k5 := (k4.alloc (.cells #[.int .i64 c] 3)).drawn d5
            have j5 := (j4.alloc (.cells #[.int .i64 c] 3)).drawn d5
            have i5 := (i4.alloc (.cells #[.int .i64 c] 3)).drawn d5
            have he5 := (he4.alloc (.cells #[.int .i64 c] 3)).next (d5.below _)
            clear x0 x1 y0 y1 z0 z1 k4 j4 i4 m4
            obtain ⟨x0, x1⟩ := k5.two
            obtain ⟨y0, y1⟩ := j5.two
            obtain ⟨z0, z1⟩ := i5.two
            go_wp2_with (go_at_call 12; refine (alive_any _ he5).mono ?_; rintro e w6 ⟨rfl, b6⟩)
            go_ret
            exact ⟨rfl, (k5.step b6).below⟩
      · clear hlt
        go_wp2_with fail
        go_loopw [9, 10] (fun v i wr => ∃ k : Nat, k ≤ r.size ∧ i = .int .i64 k ∧ Own wr w.heap.size 5 1 v k (bys (lowN r k)) ∧ Below w.heap.size w wr) (fun _ i _ => r.size - (intOf i).toNat)
        case atStart => exact ⟨0, Nat.zero_le _, rfl, Own.nil _ _ _ _, Below.refl _ _⟩
        case round =>
          obtain ⟨k, hk, rfl, hown, hb⟩ := hrel
          by_cases hkt : k < r.size
          · have hdg := dig_small (HW.out (r.data.toList.getD k 0) (by rw [List.getD, List.getElem?_eq_getElem (by rw [length_of]; exact hkt)]; exact List.getElem_mem _))
            have hbt := byte_at r k hkt
            rw [← hbt] at hdg
            obtain ⟨x, hx⟩ : ∃ x : Int, ((r[k]'hkt).toNat : Int) = x := ⟨_, rfl⟩
            have HS := Lib.hid (lowN_step hkt)
            rw [hx] at HS hdg
            have hx0 : 0 ≤ x := by omega
            clear hbt
            rcases Int.lt_or_le x 65 with h65 | h65
            · have HL := Lib.hid (lowI_small (b := x) (by omega))
              go_wp2_with (at_builtin; refine wpList_append_bytes rfl (.tmp 48) (.tmp 50) rfl w.heap.size _ k (lowN r k) rfl (hown.alloc _) _ 1 1 [x] rfl (Sl.built_at _ 5 1 1 (bys [x]) rfl (ml 1 (by omega)) (by simp)) (k + 1) rfl (lowN r (k + 1)) (by rw [HS.out, HL.out]) (by omega) (by have := hb.size; simp; omega) ?_; intro v2 w2 o2 b2)
              go_round
              case rel => exact ⟨k + 1, by omega, by go_num, o2, Below.trans (Below.alloc hb hb.size _) b2⟩
              case measure => simp [intOf]; omega
            · have HL := Lib.hid (lowI_big (b := x) (by omega))
              go_wp2_with (at_builtin; refine wpList_append_bytes rfl (.tmp 48) (.tmp 50) rfl w.heap.size _ k (lowN r k) rfl (hown.alloc _) _ 1 1 [x + 32] rfl (Sl.built_at _ 5 1 1 (bys [x + 32]) rfl (ml 1 (by omega)) (by simp)) (k + 1) rfl (lowN r (k + 1)) (by rw [HS.out, HL.out]) (by omega) (by have := hb.size; simp; omega) ?_; intro v2 w2 o2 b2)
              go_round
              case rel => exact ⟨k + 1, by omega, by go_num, o2, Below.trans (Below.alloc hb hb.size _) b2⟩
              case measure => simp [intOf]; omega
          · obtain ⟨A1, c1, rfl, l1⟩ := hown.sl
            have HQ : Hid (strOfNums (lowN r k) = bytesOf (lowL r.data.toList)) := Lib.hid (lowN_all (by omega))
            obtain ⟨q, hq⟩ : ∃ q, bytesOf (lowL r.data.toList) = q := ⟨_, rfl⟩
            have hq6 : q.size ≤ 6 := by rw [← hq, bytesOf_size]; exact h2.le
            have h3 : Dg2 q.data.toList c := by rw [← hq, bytesOf_list]; exact h2
            have hcv := conv_bytes l1
            rw [HQ.out, hq] at hcv
            obtain ⟨L1, L2, L3⟩ := h3.lits HC.out
            have hew := he.next hb
            clear HQ hq h2 h3 l1 HW
            go_wp2_with fail
            refine (lit_at L1.out rfl _ (by rw [brace_size]; have : (⟨#[125, 34]⟩ : ByteArray).size = 2 := rfl; omega)).mono ?_
            rintro e w2 ⟨A2, n2, c2, rfl, l2, b2⟩
            have t2 := Below.then hb b2
            have k2 := Bk.fresh t2 #[.int .i64 0, .int .i64 0] 33
            have he2 := (hew.next b2).alloc (.cells #[.int .i64 0, .int .i64 0] 33)
            have m2 := Sl.alloc l2 (.cells #[.int .i64 0, .int .i64 0] 33)
            clear b2 l2 t2
            go_wp2_with fail
            refine (lit_at L2.out (z := (q.size : Int) + 5) (by omega) _ (by rw [brace_size]; have : (⟨#[125]⟩ : ByteArray).size = 1 := rfl; omega)).mono ?_
            rintro e w3 ⟨A3, n3, c3, rfl, l3, b3⟩
            have k3 := Bk.step k2 b3
            have j3 := Bk.fresh k3.below #[.int .i64 3, .int .i64 ((q.size : Int) + 5)] 33
            have k3' := k3.alloc (.cells #[.int .i64 3, .int .i64 ((q.size : Int) + 5)] 33)
            have he3 := (he2.next b3).alloc (.cells #[.int .i64 3, .int .i64 ((q.size : Int) + 5)] 33)
            have m3 := Sl.alloc (m2.keep b3) (.cells #[.int .i64 3, .int .i64 ((q.size : Int) + 5)] 33)
            clear b3 l3 k2 k3 m2
            go_wp2_with fail
            refine (lit_at L3.out (z := 1) rfl _ (by rw [brace_size]; have : (⟨#[59, 125, 34]⟩ : ByteArray).size = 3 := rfl; omega)).mono ?_
            rintro e w4 ⟨A4, n4, c4, rfl, l4, b4⟩
            have k4 := (k3'.step b4).alloc (.cells #[.int .i64 3, .int .i64 1] 33)
            have j4 := (j3.step b4).alloc (.cells #[.int .i64 3, .int .i64 1] 33)
            have i4 := Bk.fresh (j3.step b4).below #[.int .i64 3, .int .i64 1] 33
            have he4 := (he3.next b4).alloc (.cells #[.int .i64 3, .int .i64 1] 33)
            have m4 := Sl.alloc (m3.keep b4) (.cells #[.int .i64 3, .int .i64 1] 33)
            clear b4 l4 k3' j3 m3
            obtain ⟨x0, x1⟩ := k4.two
            obtain ⟨y0, y1⟩ := j4.two
            obtain ⟨z0, z1⟩ := i4.two
            go_wp2_with fail
            refine (ref_equal_x (b := true) (by simp) (Sl.alloc m4 _) (Sl.built_at _ 3 1 1 (ints [c]) rfl (ml 1 (by omega)) (by simp))).mono ?_
            rintro e w5 ⟨rfl, d5⟩
            have k5 := (k4.alloc (.cells #[.int .i64 c] 3)).drawn d5
            have j5 := (j4.alloc (.cells #[.int .i64 c] 3)).drawn d5
            have i5 := (i4.alloc (.cells #[.int .i64 c] 3)).drawn d5
            have he5 := (he4.alloc (.cells #[.int .i64 c] 3)).next (d5.below _)
            clear x0 x1 y0 y1 z0 z1 k4 j4 i4 m4
            obtain ⟨x0, x1⟩ := k5.two
            obtain ⟨y0, y1⟩ := j5.two
            obtain ⟨z0, z1⟩ := i5.two
            go_wp2_with (go_at_call 12; refine (alive_any _ he5).mono ?_; rintro e w6 ⟨rfl, b6⟩)
            go_ret
            exact ⟨rfl, (k5.step b6).below⟩
theorem forms_walk (u p : Int) (l : Bool) (hu0 : 0 ≤ u) (hu1 : u ≤ 4294967295) (hp0 : 0 ≤ p) (hp1 : p ≤ 255) (w : World) (he : Env w) : Calls Tryd.prog 10 #[.int .u32 u, .int .u8 p, .bool l] w (Makes (.bool true) w) := by
  have h0 : 0 ≤ u.tmod 1114112 := Int.tmod_nonneg _ hu0
  have h1 : u.tmod 1114112 < 1114112 := Int.tmod_lt_of_pos _ (by omega)
  have hc : isCode (u.tmod 1114112) = true := by
    unfold isCode
    simp
    omega
  cases l
  · exact forms_tail_no u p hu0 hu1 hp0 hp1 w he _ h0 (by omega) rfl (Lib.hid hc)
  · exact forms_tail_yes u p hu0 hu1 hp0 hp1 w he _ h0 (by omega) rfl (Lib.hid hc)
end Go.Proofs.YtkfchcmbpgcncaaDoor.Es
