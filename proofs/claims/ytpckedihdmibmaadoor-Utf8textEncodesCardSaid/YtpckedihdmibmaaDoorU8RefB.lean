/-
  The contracts of the reference's Bytes and Written of layer 3.
-/
import Derived.Test.YtpckedihdmibmaaDoorU8Math
import Derived.Test.YtpckedihdmibmaaDoorStr
import Derived.Test.YtpckedihdmibmaaDoorU8ProgD
import Derived.Test.YtpckedihdmibmaaDoorCpRefHex
import Derived.Test.YtpckedihdmibmaaDoorMemStep
import Derived.Deep.RegionHeld3
namespace Go.Proofs.YtpckedihdmibmaaDoor.U8
open Go.RowKit
set_option linter.unusedVariables false

theorem dig_fin : ∀ a : Fin 16, ((((⟨#[48, 49, 50, 51, 52, 53, 54, 55, 56, 57, 65, 66, 67, 68, 69, 70]⟩ : ByteArray)[a.val]'(show a.val < 16 from a.2)).toNat : Nat) : Int) = hexd (a.val : Int) := by decide +kernel
theorem dig_at {a : Nat} (h : a < 16) : ((((⟨#[48, 49, 50, 51, 52, 53, 54, 55, 56, 57, 65, 66, 67, 68, 69, 70]⟩ : ByteArray)[a]'(show a < 16 from h)).toNat : Nat) : Int) = hexd (a : Int) := dig_fin ⟨a, h⟩

set_option maxHeartbeats 1000000 in
theorem ref_bytes_any (s : ByteArray) (hs : s.size ≤ 1000) (w : World) : Calls Tryd.prog 38 #[.string s] w (Lists (escB (strInts s)) w) := by
  go_enter Tryd.func38, Tryd.ntmps38
  go_wp2_with fail
  go_loopw [3, 4] (fun v i wr => ∃ (k m : Nat), k ≤ s.size ∧ Hid (m = 4 * k) ∧ m ≤ 4000 ∧ i = .int .i64 k ∧ Own wr w.heap.size 3 1 v m (ints (escB ((strInts s).take k))) ∧ Below w.heap.size w wr) (fun _ i _ => s.size - (intOf i).toNat)
  case atStart => exact ⟨0, 0, by omega, Lib.hid rfl, by omega, rfl, Own.nil _ _ _ _, Below.refl _ _⟩
  case round =>
    obtain ⟨k, m, hks, HM, hmb, rfl, ho, hb⟩ := hrel
    have hbs := hb.size
    by_cases hlt : k < s.size
    · obtain ⟨c, hc, ec, gc⟩ := strInts_byte hlt
      obtain ⟨y, hy⟩ : ∃ y : Int, ((s[k]'hlt).toNat : Int) = y := ⟨_, rfl⟩
      have HT := Lib.hid (escB_take (l := strInts s) (by rw [strInts_len]; exact hlt))
      have HG : Hid ((strInts s).getD k 0 = y) := Lib.hid (by rw [gc, ← ec, hy])
      have hy0 : 0 ≤ y := by omega
      have hy1 : y ≤ 255 := by rw [← hy, ec]; omega
      obtain ⟨a, ha⟩ : ∃ a : Nat, (a : Int) = y / 16 := ⟨(y / 16).toNat, by omega⟩
      obtain ⟨b, hb2⟩ : ∃ b : Nat, (b : Int) = y % 16 := ⟨(y % 16).toNat, by omega⟩
      have a1 : (a : Int) < 16 := by omega
      have b1 : (b : Int) < 16 := by omega
      obtain ⟨p, hp⟩ : ∃ p, hexd (a : Int) = p := ⟨_, rfl⟩
      obtain ⟨q, hq⟩ : ∃ q, hexd (b : Int) = q := ⟨_, rfl⟩
      have an : a < 16 := by omega
      have bn : b < 16 := by omega
      have e1 := dig_at an
      have e2 := dig_at bn
      have r1 := hexd_range (x := (a : Int)) (by omega) (by omega)
      have r2 := hexd_range (x := (b : Int)) (by omega) (by omega)
      rw [hp] at e1 r1
      rw [hq] at e2 r2
      have HP : Hid (hexd (y / 16) = p) := Lib.hid (by rw [← ha]; exact hp)
      have HQ : Hid (hexd (y % 16) = q) := Lib.hid (by rw [← hb2]; exact hq)
      have f1 : IntKind.u8.wrap (((s[k]'hlt).toNat : Int) / 16) = (a : Int) := by rw [hy, ← ha]; exact IntWalk.u8_in _ (by omega)
      have f2 : ((s[k]'hlt).toNat : Int).tmod 16 = (b : Int) := by rw [hy, Int.tmod_eq_emod_of_nonneg hy0, hb2]
      have p2 : IntKind.i64.wrap p = p := IntWalk.i64_in _ (by omega)
      have q2 : IntKind.i64.wrap q = q := IntWalk.i64_in _ (by omega)
      have i2 : (k : Int) < (s.size : Int) := by omega
      have HY := Lib.hid hy
      clear hc ec gc hp hq r1 r2 hy ha hb2
      go_wp2_with fail
      go_region_held3? (fun W => True) (first | trivial) (first | (refine step_append_ints (by rfl) (.tmp 11) (.tmp 24) (by rfl) w.heap.size u3 m (escB ((strInts s).take k)) (by rfl) (ho.drew.alloc _) _ 4 4 [92, 120, p, q] (by rfl) (Sl.built wr.drew 3 1 4 (ints [92, 120, p, q]) rfl (by unfold maxLen; omega)) (m + 4) rfl (escB ((strInts s).take (k + 1))) (by rw [HT.out, HG.out, HP.out, HQ.out]) (by omega) (by simp; omega) ?_; intro v2 w2 o2 b2))
      all_goals
        go_wp2_with fail
        exact ⟨⟨k + 1, m + 4, hlt, Lib.hid (by have := HM.out; omega), by have := HM.out; omega, by go_num, o2, (hb.drew.alloc hbs _).trans b2⟩, by simp [intOf]; omega⟩
    · obtain rfl : k = s.size := by omega
      obtain ⟨E, g, rfl, hl⟩ := ho.sl
      go_wp2_with fail
      go_ret
      refine ⟨E, _, g, rfl, ?_, hb⟩
      rw [List.take_of_length_le (by rw [strInts_len]; exact Nat.le_refl _)] at hl
      exact hl
end Go.Proofs.YtpckedihdmibmaaDoor.U8
