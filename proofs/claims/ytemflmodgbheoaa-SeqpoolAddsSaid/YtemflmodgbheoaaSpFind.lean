/-
  The contract of Find of package seqpool.
-/
import Derived.Test.YtemflmodgbheoaaSpGet
namespace Go.Proofs.Ytemflmodgbheoaa.Sp
open Go.RowKit
set_option linter.unusedVariables false

def findFrom (codes starts lens seq : List Int) : Nat → Nat → Int × Bool
  | 0, _ => (0, false)
  | f + 1, k => if seqAt codes starts lens k = seq then ((k : Int), true) else findFrom codes starts lens seq f (k + 1)
/-- The first index of a sequence in a pool, and whether there is one. -/
def findL (codes starts lens seq : List Int) : Int × Bool := if validL codes.length starts lens = true then findFrom codes starts lens seq starts.length 0 else (0, false)
def FindRes (r : Int × Bool) (w : World) (e : Ending) (w' : World) : Prop := e = .returned (.tuple #[.int .i64 r.1, .bool r.2]) ∧ Below w.heap.size w w'
theorem find_hit {codes starts lens seq : List Int} {m j : Nat} (h : j < m) (e : seqAt codes starts lens j = seq) : findFrom codes starts lens seq (m - j) j = ((j : Int), true) := by
  obtain ⟨f, hf⟩ : ∃ f, m - j = f + 1 := ⟨m - j - 1, by omega⟩
  rw [hf, findFrom, if_pos e]
theorem find_miss {codes starts lens seq : List Int} {m j : Nat} (h : j < m) (e : seqAt codes starts lens j ≠ seq) : findFrom codes starts lens seq (m - j) j = findFrom codes starts lens seq (m - (j + 1)) (j + 1) := by
  obtain ⟨f, hf⟩ : ∃ f, m - j = f + 1 := ⟨m - j - 1, by omega⟩
  rw [hf, findFrom, if_neg e, show m - (j + 1) = f by omega]

set_option maxRecDepth 100000 in
set_option maxHeartbeats 2000000 in
theorem find_any {A B C E : Option Addr} {n ca m cb k cc t ct : Nat} {codes starts lens seq : List Int} {r : Int × Bool} (w : World) (hp : PoolIs w A n ca B m cb C k cc codes starts lens) (hq : Sl w E t ct 1 (ints seq)) (hr : findL codes starts lens seq = r) :
    Calls Try.prog 24 #[.agg #[.slice A n ca, .slice B m cb, .slice C k cc], .slice E t ct] w (FindRes r w) := by
  have HA := Lib.hid hp.codes.count
  have HB := Lib.hid hp.starts.count
  have HC := Lib.hid hp.lens.count
  have hm := hp.m_le
  have k0 := Bk.fresh (Below.refl w.heap.size w) #[.slice A n ca, .slice B m cb, .slice C k cc] 27
  have hp0 := hp.keep k0.below
  obtain ⟨v, hv⟩ : ∃ v, validL n starts lens = v := ⟨_, rfl⟩
  have HV := Lib.hid hv
  rcases v with _ | _
  · have HR : Hid (r = (0, false)) := Lib.hid (by rw [← hr, findL, if_neg]; rw [← HA.out, hv]; simp)
    clear hr
    go_enter Try.func24, Try.ntmps24
    go_wp2_with (first
      | (go_at_call 22; refine (valid_any _ hp0 HV.out).mono ?_; rintro e w1 ⟨rfl, b1⟩; have k1 := k0.step b1; obtain ⟨x0, x1, x2⟩ := k1.three))
    rw [HR.out]
    exact bodyPost_ret (v := .tuple #[.int .i64 0, .bool false]) (by simp [results, Try.results24, go_sem]) rfl ⟨rfl, k1.below⟩
  · have HMK : Hid (m = k) := Lib.hid (by rw [HB.out, HC.out]; exact valid_len_eq hv)
    have HR : Hid (r = findFrom codes starts lens seq (m - 0) 0) := Lib.hid (by rw [← hr, findL, if_pos (by rw [← HA.out]; exact hv), HB.out]; rfl)
    clear hr
    go_enter Try.func24, Try.ntmps24
    go_wp2_with (first
      | (go_at_call 22; refine (valid_any _ hp0 HV.out).mono ?_; rintro e w1 ⟨rfl, b1⟩; have k1 := k0.step b1; obtain ⟨x0, x1, x2⟩ := k1.three))
    go_loopw [13] (fun i wr => ∃ j : Nat, j ≤ m ∧ i = .int .i64 (j : Int) ∧ Hid (Bk w wr w.heap.size #[.slice A n ca, .slice B m cb, .slice C k cc]) ∧ Hid (r = findFrom codes starts lens seq (m - j) j)) (fun i _ => m - (intOf i).toNat)
    case atStart => exact ⟨0, Nat.zero_le _, rfl, Lib.hid k1, HR⟩
    case round =>
      obtain ⟨j, hj, rfl, KB, HF⟩ := hrel
      clear x0 x1 x2
      obtain ⟨x0, x1, x2⟩ := KB.out.three
      by_cases hlt : j < m
      · obtain ⟨s, l, hs, hl, hsl⟩ := valid_at HV.out (i := j) (by rw [← HB.out]; exact hlt)
        obtain ⟨zs, hz⟩ : ∃ zs, (codes.drop s).take l = zs := ⟨_, rfl⟩
        have hzs : seqAt codes starts lens j = zs := by rw [seqAt, hs, hl, Int.toNat_natCast, Int.toNat_natCast, hz]
        have HZ := Lib.hid hz
        have HSL := Lib.hid (And.intro hs hl)
        have hjk : j < k := by have := HMK.out; omega
        have kb := KB.out
        by_cases he : zs = seq
        · have HE : Hid (decide (zs = seq) = true) := Lib.hid (decide_eq_true he)
          have HR2 : Hid (r = ((j : Int), true)) := Lib.hid (by rw [HF.out]; exact find_hit hlt (by rw [hzs]; exact he))
          clear hz hs hl he hzs
          go_wp2_with (first
            | (go_at_call 28; refine (sequence_x _ (hp.keep kb.below) hlt hjk HSL.out.1 HSL.out.2 hsl HZ.out).mono ?_; rintro e w2 ⟨D, q, c, rfl, hd, b2⟩; have k2 := kb.step b2)
            | (go_at_call 30; refine (Code.equal_x HE.out hd (hq.keep k2.below)).mono ?_; rintro e w3 ⟨rfl, d3⟩; have k3 := k2.drawn d3))
          rw [HR2.out]
          exact bodyPost_ret (v := .tuple #[.int .i64 (j : Int), .bool true]) (by simp [results, Try.results24, go_sem]) rfl ⟨rfl, k3.below⟩
        · have HE : Hid (decide (zs = seq) = false) := Lib.hid (decide_eq_false he)
          have HR2 : Hid (r = findFrom codes starts lens seq (m - (j + 1)) (j + 1)) := Lib.hid (by rw [HF.out]; exact find_miss hlt (by rw [hzs]; exact he))
          clear hz hs hl he hzs
          go_wp2_with (first
            | (go_at_call 28; refine (sequence_x _ (hp.keep kb.below) hlt hjk HSL.out.1 HSL.out.2 hsl HZ.out).mono ?_; rintro e w2 ⟨D, q, c, rfl, hd, b2⟩; have k2 := kb.step b2)
            | (go_at_call 30; refine (Code.equal_x HE.out hd (hq.keep k2.below)).mono ?_; rintro e w3 ⟨rfl, d3⟩; have k3 := k2.drawn d3))
          go_roundw
          case rel => exact ⟨j + 1, by omega, by push_cast; rfl, Lib.hid k3, HR2⟩
          case measure => simp [intOf] <;> omega
      · have i9 : ¬ ((j : Int) < (m : Int)) := by omega
        have hjm : m - j = 0 := by omega
        have HR2 : Hid (r = (0, false)) := Lib.hid (by rw [HF.out, hjm]; rfl)
        have kb := KB.out
        go_wp2_with fail
        rw [HR2.out]
        exact bodyPost_ret (v := .tuple #[.int .i64 0, .bool false]) (by simp [results, Try.results24, go_sem]) rfl ⟨rfl, kb.below⟩
end Go.Proofs.Ytemflmodgbheoaa.Sp
