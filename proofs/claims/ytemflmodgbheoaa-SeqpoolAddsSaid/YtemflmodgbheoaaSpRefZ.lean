/-
  The contract of the reference's Find (layer 14).
-/
import Derived.Test.YtemflmodgbheoaaSpRefY
import Derived.Test.YtemflmodgbheoaaSpFind
namespace Go.Proofs.Ytemflmodgbheoaa.Sp
open Go.RowKit
set_option linter.unusedVariables false

theorem rget_none {A B C : Option Addr} {n ca m cb k cc : Nat} {codes starts lens : List Int} {i : Int} (w : World) (hp : PoolIs w A n ca B m cb C k cc codes starts lens) (ho : getL codes starts lens i = none) :
    Calls Try.prog 20 #[.agg #[.slice A n ca, .slice B m cb, .slice C k cc], .int .i64 i] w (fun e w' => e = .returned (.tuple #[.slice none 0 0, .bool false]) ∧ Below w.heap.size w w') := rget_any w hp ho
theorem rget_some {A B C : Option Addr} {n ca m cb k cc : Nat} {codes starts lens zs : List Int} {i : Int} (w : World) (hp : PoolIs w A n ca B m cb C k cc codes starts lens) (ho : getL codes starts lens i = some zs) :
    Calls Try.prog 20 #[.agg #[.slice A n ca, .slice B m cb, .slice C k cc], .int .i64 i] w
      (fun e w' => ∃ A n c, e = .returned (.tuple #[.slice A n c, .bool true]) ∧ Sl w' A n c 1 (ints zs) ∧ Below w.heap.size w w' ∧ From w.heap.size A) := rget_any w hp ho

set_option maxRecDepth 100000 in
set_option maxHeartbeats 2000000 in
theorem rfind_any {A B C E : Option Addr} {n ca m cb k cc t ct : Nat} {codes starts lens seq : List Int} {r : Int × Bool} (w : World) (hp : PoolIs w A n ca B m cb C k cc codes starts lens) (hq : Sl w E t ct 1 (ints seq)) (hr : findL codes starts lens seq = r) :
    Calls Try.prog 25 #[.agg #[.slice A n ca, .slice B m cb, .slice C k cc], .slice E t ct] w (FindRes r w) := by
  have HA := Lib.hid hp.codes.count
  have HB := Lib.hid hp.starts.count
  have HC := Lib.hid hp.lens.count
  have hm := hp.m_le
  have k0 := Bk.fresh (Below.refl w.heap.size w) #[.slice A n ca, .slice B m cb, .slice C k cc] 27
  have hp0 := hp.keep k0.below
  obtain ⟨v, hv⟩ : ∃ v, validL n starts lens = v := ⟨_, rfl⟩
  have HV := Lib.hid hv
  rcases v with _ | _
  · have HR : Hid (r = (0, false)) := Lib.hid (by rw [← hr, findL, if_neg]; rw [← HA.out, hv]; simp)
    have HG : Hid (∀ i, getL codes starts lens i = none) := Lib.hid (fun i => by rw [getL, if_neg]; rw [← HA.out, hv]; simp)
    clear hr hv
    go_enter Try.func25, Try.ntmps25
    go_wp2_with fail
    go_loopw [6, 7, 8] (fun i x y wr => ∃ j : Nat, j ≤ m ∧ i = .int .i64 (j : Int) ∧ Hid (Bk w wr w.heap.size #[.slice A n ca, .slice B m cb, .slice C k cc])) (fun i _ _ _ => m - (intOf i).toNat)
    case atStart => exact ⟨0, Nat.zero_le _, rfl, Lib.hid k0⟩
    case round =>
      obtain ⟨j, hj, rfl, KB⟩ := hrel
      obtain ⟨x0, x1, x2⟩ := KB.out.three
      have kb := KB.out
      by_cases hlt : j < m
      · go_wp2_with (first
          | (go_at_call 20; refine (rget_none _ (hp.keep kb.below) (HG.out _)).mono ?_; rintro e w2 ⟨rfl, b2⟩; have k2 := kb.step b2; obtain ⟨x0, x1, x2⟩ := k2.three))
        go_roundw
        case rel => exact ⟨j + 1, by omega, by push_cast; rfl, Lib.hid k2⟩
        case measure => simp [intOf] <;> omega
      · have i9 : ¬ ((j : Int) < (m : Int)) := by omega
        go_wp2_with fail
        rw [HR.out]
        exact bodyPost_ret (v := .tuple #[.int .i64 0, .bool false]) (by simp [results, Try.results25, go_sem]) rfl ⟨rfl, kb.below⟩
  · have HMK : Hid (m = k) := Lib.hid (by rw [HB.out, HC.out]; exact valid_len_eq hv)
    have HR : Hid (r = findFrom codes starts lens seq (m - 0) 0) := Lib.hid (by rw [← hr, findL, if_pos (by rw [← HA.out]; exact hv), HB.out]; rfl)
    have HG : Hid (∀ j : Nat, j < m → getL codes starts lens (j : Int) = some (seqAt codes starts lens j)) := Lib.hid (fun j hj => by
      rw [getL, if_pos ⟨by rw [← HA.out]; exact hv, by omega, by rw [← HB.out]; omega⟩, Int.toNat_natCast])
    clear hr hv
    go_enter Try.func25, Try.ntmps25
    go_wp2_with fail
    go_loopw [6, 7, 8] (fun i x y wr => ∃ j : Nat, j ≤ m ∧ i = .int .i64 (j : Int) ∧ Hid (Bk w wr w.heap.size #[.slice A n ca, .slice B m cb, .slice C k cc]) ∧ Hid (r = findFrom codes starts lens seq (m - j) j)) (fun i _ _ _ => m - (intOf i).toNat)
    case atStart => exact ⟨0, Nat.zero_le _, rfl, Lib.hid k0, HR⟩
    case round =>
      obtain ⟨j, hj, rfl, KB, HF⟩ := hrel
      obtain ⟨x0, x1, x2⟩ := KB.out.three
      have kb := KB.out
      by_cases hlt : j < m
      · have HZ := Lib.hid (HG.out j hlt)
        obtain ⟨zs, hz⟩ : ∃ zs, seqAt codes starts lens j = zs := ⟨_, rfl⟩
        by_cases he : zs = seq
        · have HE : Hid (decide (zs = seq) = true) := Lib.hid (decide_eq_true he)
          have HR2 : Hid (r = ((j : Int), true)) := Lib.hid (by rw [HF.out]; exact find_hit hlt (by rw [hz]; exact he))
          rw [hz] at HZ
          clear hz he
          go_wp2_with (first
            | (go_at_call 20; refine (rget_some _ (hp.keep kb.below) HZ.out).mono ?_; rintro e w2 ⟨D, q, c, rfl, hd, b2, _⟩; have k2 := kb.step b2; obtain ⟨x0, x1, x2⟩ := k2.three)
            | (go_at_call 21; refine (ref_equal_x HE.out hd (hq.keep k2.below)).mono ?_; rintro e w3 ⟨rfl, d3⟩; have k3 := k2.drawn d3))
          rw [HR2.out]
          exact bodyPost_ret (v := .tuple #[.int .i64 (j : Int), .bool true]) (by simp [results, Try.results25, go_sem]) rfl ⟨rfl, k3.below⟩
        · have HE : Hid (decide (zs = seq) = false) := Lib.hid (decide_eq_false he)
          have HR2 : Hid (r = findFrom codes starts lens seq (m - (j + 1)) (j + 1)) := Lib.hid (by rw [HF.out]; exact find_miss hlt (by rw [hz]; exact he))
          rw [hz] at HZ
          clear hz he
          go_wp2_with (first
            | (go_at_call 20; refine (rget_some _ (hp.keep kb.below) HZ.out).mono ?_; rintro e w2 ⟨D, q, c, rfl, hd, b2, _⟩; have k2 := kb.step b2; obtain ⟨x0, x1, x2⟩ := k2.three)
            | (go_at_call 21; refine (ref_equal_x HE.out hd (hq.keep k2.below)).mono ?_; rintro e w3 ⟨rfl, d3⟩; have k3 := k2.drawn d3))
          go_roundw
          case rel => exact ⟨j + 1, by omega, by push_cast; rfl, Lib.hid k3, HR2⟩
          case measure => simp [intOf] <;> omega
      · have i9 : ¬ ((j : Int) < (m : Int)) := by omega
        have hjm : m - j = 0 := by omega
        have HR2 : Hid (r = (0, false)) := Lib.hid (by rw [HF.out, hjm]; rfl)
        clear hjm
        go_wp2_with fail
        rw [HR2.out]
        exact bodyPost_ret (v := .tuple #[.int .i64 0, .bool false]) (by simp [results, Try.results25, go_sem]) rfl ⟨rfl, kb.below⟩
end Go.Proofs.Ytemflmodgbheoaa.Sp
