/-
  The walk of SeqpoolBack.
-/
import Derived.Test.YtemflmodgbheoaaSpWalkB
import Derived.Test.YtemflmodgbheoaaSpLaws
namespace Go.Proofs.Ytemflmodgbheoaa.Sp
open Go.RowKit
set_option linter.unusedVariables false

theorem few_true {n : Nat} {l : List (List Int)} (h : decide (n ≤ 12 ∧ ∀ x ∈ l, x.length ≤ 20) = true) : n ≤ 12 ∧ ∀ x ∈ l, x.length ≤ 20 := of_decide_eq_true h

set_option maxRecDepth 100000 in
set_option maxHeartbeats 4000000 in
theorem back_walk (A : Option Addr) (n c : Nat) (l : List (List Int)) (W : World) (hx : LL W A n c l) : Calls Try.prog 7 #[.slice A n c] W (Makes (.bool true) W) := by
  obtain ⟨r, hr⟩ : ∃ r, decide (n ≤ 12 ∧ ∀ x ∈ l, x.length ≤ 20) = r := ⟨_, rfl⟩
  have HR := Lib.hid hr
  clear hr
  rcases r with _ | _
  · go_enter Try.func7, Try.ntmps7
    go_wp2_with (first
      | (go_at_call 11; refine (few_any _ hx HR.out).mono ?_; rintro e w1 ⟨rfl, rfl⟩)
      | (go_at_call 15; refine (alive_any _).mono ?_; rintro e w2 ⟨rfl, b2⟩))
    go_ret
    exact ⟨rfl, b2⟩
  · have hn := (few_true HR.out).1
    have HS := Lib.hid (few_true HR.out).2
    have HN := Lib.hid hx.count
    have hcx := hx.cap
    have hmx := hx.max
    have HG := Lib.hid (fun i => get_pack (l := l) (i := i))
    have HE := Lib.hid (get_pack_end l)
    have HF := Lib.hid (fun i => find_pack (l := l) (i := i))
    have HV := Lib.hid (okP_all l)
    obtain ⟨p, hp⟩ : ∃ p, packP l = p := ⟨_, rfl⟩
    rw [hp] at HG HE HF HV
    have HP := Lib.hid hp
    clear hp
    go_enter Try.func7, Try.ntmps7
    go_wp2_with (first
      | (go_at_call 11; refine (few_any _ hx HR.out).mono ?_; rintro e w1 ⟨rfl, rfl⟩)
      | (go_at_call 13; refine (pack_x _ hx (by omega) HS.out HP.out).mono ?_; rintro e w1 ⟨A1, n1, a1, B1, m1, d1, C1, k1, c1, rfl, hP1, b1⟩))
    have K0 := Bk.fresh b1 #[.slice A1 n1 a1, .slice B1 m1 d1, .slice C1 k1 c1] 27
    have P0 := hP1.keep ((Below.refl w1.heap.size w1).alloc (Nat.le_refl _) (.cells #[.slice A1 n1 a1, .slice B1 m1 d1, .slice C1 k1 c1] 27))
    go_loopw [4, 5, 6, 7, 8] (fun i x y z u wr => ∃ j : Nat, j ≤ n ∧ i = .int .i64 (j : Int) ∧ Hid (Bk W wr w1.heap.size #[.slice A1 n1 a1, .slice B1 m1 d1, .slice C1 k1 c1]) ∧ Hid (PoolIs wr A1 n1 a1 B1 m1 d1 C1 k1 c1 p.1 p.2.1 p.2.2)) (fun i _ _ _ _ _ => n - (intOf i).toNat)
    case atStart => exact ⟨0, Nat.zero_le _, rfl, Lib.hid K0, Lib.hid P0⟩
    case round =>
      clear K0 P0
      obtain ⟨j, hj, rfl, HK, HPP⟩ := hrel
      have K := HK.out
      have P := HPP.out
      clear HK HPP
      obtain ⟨x0, x1, x2⟩ := K.three
      by_cases hlt : j < n
      · have hjl : j < l.length := by rw [← HN.out]; exact hlt
        have HGJ := Lib.hid (HG.out j hjl)
        obtain ⟨d, hd1, hd2, hd3⟩ := HF.out j hjl
        have hdl : d < n := by omega
        obtain ⟨b, off, D, q, r, rfl, hbl, hc, hsl⟩ := hx.at' j hlt
        obtain ⟨b', off', D', q', r', e', hbl', hc', hsl'⟩ := hx.at' d hdl
        cases e'
        have HFJ := Lib.hid hd2
        rw [hd3] at hsl'
        clear hd2 hd3
        obtain ⟨sq, hsq⟩ : ∃ sq, l.getD j [] = sq := ⟨_, rfl⟩
        rw [hsq] at hsl hsl' HFJ HGJ
        clear hsq
        have h1 : (j : Int) < (n : Int) := by omega
        have g1 : (d : Int) < (n : Int) := by omega
        have g2 : decide ((j : Int) < (d : Int)) = false := decide_eq_false (by omega)
        have g3 : decide ((d : Int) < 0) = false := decide_eq_false (by omega)
        have g4 : decide (j < d) = false := decide_eq_false (by omega)
        go_wp2_with (first
          | (go_at_call 19; refine (pget_some _ P HGJ.out).mono ?_; rintro e w2 ⟨D2, n2, c2, rfl, ha2, b2, _⟩; have K2 := K.step b2; obtain ⟨x0, x1, x2⟩ := K2.three))
        have P2 := P.keep b2
        have y0 := (K2.below.cell (p := ⟨b, off + j, none⟩) hbl).trans hc
        have hslw := hsl.keep K2.below
        go_region_held3 (fun X => X.cell? ⟨w1.heap.size, 0, none⟩ = some (.slice A1 n1 a1) ∧ X.cell? ⟨w1.heap.size, 1, none⟩ = some (.slice B1 m1 d1) ∧ X.cell? ⟨w1.heap.size, 2, none⟩ = some (.slice C1 k1 c1) ∧ X.cell? ⟨b, off + j, none⟩ = some (.slice D q r)) (first | exact ⟨x0, x1, x2, y0⟩ | go_keep)
          (first
            | (go_at_call 24; ((with_reducible refine (find_x _ P2 hslw HFJ.out).mono ?_); rintro e w3 ⟨rfl, b3⟩; have K3 := Bk.step K2 b3; obtain ⟨x0, x1, x2⟩ := K3.three; have y0 := (K3.below.cell (p := ⟨b, off + j, none⟩) hbl).trans hc))
            | (go_at_call 24; ((with_reducible refine (find_x _ (P2.keep (Below.refl _ _).drew) hslw.drew HFJ.out).mono ?_); rintro e w3 ⟨rfl, b3⟩; have K3 := Bk.step (Bk.drew' K2) b3; obtain ⟨x0, x1, x2⟩ := K3.three; have y0 := (K3.below.cell (p := ⟨b, off + j, none⟩) hbl).trans hc)))
        have z0 := (K3.below.cell (p := ⟨b, off + d, none⟩) hbl).trans hc'
        have hA := hsl.keep K3.below
        have hB := hsl'.keep K3.below
        have hC := ha2.keep (undrew b3)
        have hPe := P2.keep (undrew b3)
        go_wp2_with fail
        go_quiet ((first
          | (go_at_call 21; exact ref_equal_q (b := true) (decide_eq_true rfl) hC hA _)
          | (go_at_call 21; exact ref_equal_q (b := true) (decide_eq_true rfl) hB hA _)))
        go_wp2_with fail
        go_roundw
        case rel => exact ⟨j + 1, by omega, by push_cast; rfl, Lib.hid (K3.drawn ⟨_, rfl⟩), Lib.hid (hPe.keep (Drawn.below ⟨_, rfl⟩ _))⟩
        case measure => simp [intOf] <;> omega
      · have i9 : ¬ ((j : Int) < (n : Int)) := by omega
        have hEE : Hid (getL p.1 p.2.1 p.2.2 (n : Int) = none) := Lib.hid (by rw [HN.out]; exact HE.out)
        have hVV : Hid (validL n1 p.2.1 p.2.2 = true) := Lib.hid (by rw [P.codes.count]; exact HV.out)
        go_wp2_with (first
          | (go_at_call 19; refine (pget_none _ P hEE.out).mono ?_; rintro e w2 ⟨rfl, b2⟩; have K2 := K.step b2; obtain ⟨x0, x1, x2⟩ := K2.three)
          | (go_at_call 22; refine (valid_any _ (P.keep b2) hVV.out).mono ?_; rintro e w3 ⟨rfl, b3⟩; have K3 := K2.step b3)
          | (go_at_call 15; refine (alive_any _).mono ?_; rintro e w4 ⟨rfl, b4⟩))
        go_ret
        exact ⟨rfl, (K3.step b4).below⟩
end Go.Proofs.Ytemflmodgbheoaa.Sp
