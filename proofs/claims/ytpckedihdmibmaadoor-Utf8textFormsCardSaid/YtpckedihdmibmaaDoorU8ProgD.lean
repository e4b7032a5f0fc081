/-
  The contract of appendEscapes of package utf8text.
-/
import Derived.Test.YtpckedihdmibmaaDoorU8Tab
import Derived.Test.YtpckedihdmibmaaDoorStr
import Derived.Test.YtpckedihdmibmaaDoorMemStep
import Derived.Deep.RegionHeld3
namespace Go.Proofs.YtpckedihdmibmaaDoor.U8
open Go.RowKit
set_option linter.unusedVariables false

/-- The call returns a list of ints that the call's own memory holds, from 'base' on. -/
def GrowsInts (base n : Nat) (xs : List Int) (w : World) (e : Ending) (w' : World) : Prop := ∃ v, e = .returned v ∧ Own w' base 3 1 v n (ints xs) ∧ Below base w w'
theorem escB_take {l : List Int} {k : Nat} (h : k < l.length) : escB (l.take (k + 1)) = escB (l.take k) ++ [92, 120, hexd (l.getD k 0 / 16), hexd (l.getD k 0 % 16)] := by
  rw [List.take_succ_eq_append_getElem h, escB_append]
  congr 1
  simp [escB, List.getD, List.getElem?_eq_getElem h]

theorem b_and15 : ∀ n : Fin 256, bits BinOp.and IntKind.u8 (n.val : Int) 15 = (n.val : Int) % 16 := by decide +kernel
theorem and15 {a : Int} (h0 : 0 ≤ a) (h1 : a < 256) : bits BinOp.and IntKind.u8 a 15 = a % 16 := by
  have e : ((⟨a.toNat, by omega⟩ : Fin 256).val : Int) = a := by show ((a.toNat : Nat) : Int) = a; omega
  have := b_and15 ⟨a.toNat, by omega⟩
  rw [e] at this
  exact this

set_option maxHeartbeats 1000000 in
theorem escapes_any {s : ByteArray} {base n k0 : Nat} {xs zs : List Int} {v : Value} (hz : xs ++ escB (strInts s) = zs) (hk : n + 4 * s.size = k0) (hs : s.size ≤ 100) (hn : n ≤ 100000) (w : World) (ht : Tab2 w) (hg : 1 < base) (ho : Own w base 3 1 v n (ints xs)) (hb : base ≤ w.heap.size) :
    Calls Tryd.prog 37 #[v, .string s] w (GrowsInts base k0 zs w) := by
  have HZ := Lib.hid hz
  have HK := Lib.hid hk
  obtain ⟨A0, c0, rfl, _⟩ := ho.sl
  clear hz hk
  go_enter Tryd.func37, Tryd.ntmps37
  go_wp2_with fail
  go_loopw [0, 9] (fun v i wr => ∃ (k m : Nat), k ≤ s.size ∧ Hid (m = n + 4 * k) ∧ m ≤ 100400 ∧ i = .int .i64 k ∧ Own wr base 3 1 v m (ints (xs ++ escB ((strInts s).take k))) ∧ Below base w wr) (fun _ i _ => s.size - (intOf i).toNat)
  case atStart => exact ⟨0, n, by omega, Lib.hid (by omega), by omega, rfl, by simpa [escB] using ho, Below.refl _ _⟩
  case round =>
    obtain ⟨k, m, hks, HM, hmb, rfl, ho, hb'⟩ := hrel
    have hbs := Nat.le_trans hb hb'.size
    have tr : Tab2 wr := by
      obtain ⟨t, fr, h⟩ := ht
      exact ⟨t, fr, (hb'.block _ hg).trans h⟩
    by_cases hlt : k < s.size
    · obtain ⟨c, hc, ec, gc⟩ := strInts_byte hlt
      obtain ⟨y, hy⟩ : ∃ y : Int, ((s[k]'hlt).toNat : Int) = y := ⟨_, rfl⟩
      have HT := Lib.hid (escB_take (l := strInts s) (by rw [strInts_len]; exact hlt))
      have HG : Hid ((strInts s).getD k 0 = y) := Lib.hid (by rw [gc, ← ec, hy])
      have hy0 : 0 ≤ y := by omega
      have hy1 : y ≤ 255 := by rw [← hy, ec]; omega
      obtain ⟨hi, hhi⟩ : ∃ hi, y / 16 = hi := ⟨_, rfl⟩
      obtain ⟨lo, hlo⟩ : ∃ lo, y % 16 = lo := ⟨_, rfl⟩
      have a0 : 0 ≤ hi := by omega
      have a1 : hi < 16 := by omega
      have b0 : 0 ≤ lo := by omega
      have b1 : lo < 16 := by omega
      have hA : bits BinOp.and IntKind.u8 y 15 = lo := by rw [and15 hy0 (by omega), hlo]
      have HHI := Lib.hid hhi
      have HLO := Lib.hid hlo
      have e1 := tr.cell a0 a1
      have e2 := tr.cell b0 b1
      have r1 := hexd_range a0 a1
      have r2 := hexd_range b0 b1
      obtain ⟨p, hp⟩ : ∃ p, hexd hi = p := ⟨_, rfl⟩
      obtain ⟨q, hq⟩ : ∃ q, hexd lo = q := ⟨_, rfl⟩
      rw [hp] at e1 r1
      rw [hq] at e2 r2
      have HP := Lib.hid hp
      have HQ := Lib.hid hq
      have HY := Lib.hid hy
      have p0 : 0 ≤ p := by omega
      have p1 : p ≤ 255 := by omega
      have q0 : 0 ≤ q := by omega
      have q1 : q ≤ 255 := by omega
      have p2 : IntKind.i64.wrap p = p := IntWalk.i64_in _ (by omega)
      have q2 : IntKind.i64.wrap q = q := IntWalk.i64_in _ (by omega)
      clear hc ec gc hy hp hq r1 r2
      go_wp2_with fail
      rw [HY.out]
      go_region_held3 (fun W => W.cell? ⟨1, hi.toNat, none⟩ = some (.int .u8 p) ∧ W.cell? ⟨1, lo.toNat, none⟩ = some (.int .u8 q)) (first | exact ⟨e1, e2⟩ | exact ⟨e3, e4⟩ | go_keep)
        (first | (refine step_append_ints (by rfl) (.tmp 15) (.tmp 26) (by rfl) base u0 m (xs ++ escB ((strInts s).take k)) (by rfl) (ho.drew.alloc _) _ 4 4 [92, 120, p, q] (by rfl) (Sl.built wr.drew 3 1 4 (ints [92, 120, p, q]) rfl (by unfold maxLen; omega)) (m + 4) rfl (xs ++ escB ((strInts s).take (k + 1))) (by rw [HT.out, HG.out, HHI.out, HLO.out, HP.out, HQ.out, List.append_assoc]) (by omega) (by simp; omega) ?_; intro v2 w2 o2 b2; have b3 := ((Below.refl base wr).drew.alloc hbs _).trans b2; have e3 := (b3.cell (p := ⟨1, hi.toNat, none⟩) hg).trans e1; have e4 := (b3.cell (p := ⟨1, lo.toNat, none⟩) hg).trans e2))
      all_goals
        go_wp2_with fail
        exact ⟨⟨k + 1, m + 4, hlt, Lib.hid (by have := HM.out; omega), by have := HM.out; omega, by go_num, o2, hb'.trans b3⟩, by simp [intOf]; omega⟩
    · obtain rfl : k = s.size := by omega
      go_wp2_with fail
      go_ret
      refine ⟨_, rfl, ?_, hb'⟩
      have e : m = k0 := by have := HM.out; have := HK.out; omega
      rw [← e, ← HZ.out]
      rw [List.take_of_length_le (by rw [strInts_len]; exact Nat.le_refl _)] at ho
      exact ho
end Go.Proofs.YtpckedihdmibmaaDoor.U8
