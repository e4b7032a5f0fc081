/-
  The walk of SeqpoolKeeps.
-/
import Derived.Test.YtemflmodgbheoaaSpWalkB
import Derived.Test.YtemflmodgbheoaaSpLaws
namespace Go.Proofs.Ytemflmodgbheoaa.Sp
open Go.RowKit
set_option linter.unusedVariables false

set_option maxRecDepth 100000 in
set_option maxHeartbeats 4000000 in
theorem keeps_walk (A : Option Addr) (n ca : Nat) (B : Option Addr) (m cb : Nat) (C : Option Addr) (k cc : Nat) (E : Option Addr) (t ct : Nat) (codes starts lens seq : List Int) (W : World)
    (hA : Sl W A n ca 1 (ints codes)) (hB : Sl W B m cb 1 (ints starts)) (hC : Sl W C k cc 1 (ints lens)) (hq : Sl W E t ct 1 (ints seq)) :
    Calls Try.prog 9 #[.agg #[.slice A n ca, .slice B m cb, .slice C k cc], .slice E t ct] W (Makes (.bool true) W) := by
  have hct := hq.cap
  have hmt := hq.max
  have k0 := Bk.fresh (Below.refl W.heap.size W) #[.slice A n ca, .slice B m cb, .slice C k cc] 27
  obtain ⟨r, hr⟩ : ∃ r, decide (n ≤ 200 ∧ m ≤ 40 ∧ k ≤ 40) = r := ⟨_, rfl⟩
  have HR := Lib.hid hr
  clear hr
  rcases r with _ | _
  · go_enter Try.func9, Try.ntmps9
    go_wp2_with (first
      | (go_at_call 16; refine (small_any _ HR.out).mono ?_; rintro e w1 ⟨rfl, b1⟩; have k1 := k0.step b1)
      | (go_at_call 15; refine (alive_any _).mono ?_; rintro e w2 ⟨rfl, b2⟩))
    go_ret
    exact ⟨rfl, (k1.step b2).below⟩
  · rcases Nat.lt_or_ge 20 t with ht | ht
    · have i1 : (20 : Int) < (t : Int) := by omega
      go_enter Try.func9, Try.ntmps9
      go_wp2_with (first
        | (go_at_call 16; refine (small_any _ HR.out).mono ?_; rintro e w1 ⟨rfl, b1⟩; have k1 := k0.step b1)
        | (go_at_call 15; refine (alive_any _).mono ?_; rintro e w2 ⟨rfl, b2⟩))
      go_ret
      exact ⟨rfl, (k1.step b2).below⟩
    · have i1 : ¬ (20 : Int) < (t : Int) := by omega
      have hz := of_decide_eq_true HR.out
      have hn := hz.1
      have hm := hz.2.1
      have hk := hz.2.2
      clear hz
      have hp : PoolIs W A n ca B m cb C k cc codes starts lens := ⟨hA, hB, hC, by omega, by omega, by omega⟩
      obtain ⟨v, hv⟩ : ∃ v, validL n starts lens = v := ⟨_, rfl⟩
      have HV := Lib.hid hv
      clear hv
      rcases v with _ | _
      · go_enter Try.func9, Try.ntmps9
        go_wp2_with (first
          | (go_at_call 16; refine (small_any _ HR.out).mono ?_; rintro e w1 ⟨rfl, b1⟩; have k1 := k0.step b1; obtain ⟨x0, x1, x2⟩ := k1.three)
          | (go_at_call 22; refine (valid_any _ (hp.keep k1.below) HV.out).mono ?_; rintro e w2 ⟨rfl, b2⟩; have k2 := k1.step b2)
          | (go_at_call 15; refine (alive_any _).mono ?_; rintro e w3 ⟨rfl, b3⟩))
        go_ret
        exact ⟨rfl, (k2.step b3).below⟩
      · have hok : okP (codes, starts, lens) := by rw [okP]; have := HV.out; rwa [hp.codes.count] at this
        have hb : baseP codes starts lens = (codes, starts, lens) := baseP_ok hok
        obtain ⟨p, hpp⟩ : ∃ p, addP (codes, starts, lens) seq = p := ⟨_, rfl⟩
        have HP : Hid (addP (baseP codes starts lens) seq = p) := Lib.hid (by rw [hb, hpp])
        have HI : Hid (((baseP codes starts lens).2.1.length : Int) = (m : Int)) := Lib.hid (by rw [hb, hp.starts.count])
        have hsz := addP_size (codes, starts, lens) seq
        have e1 := hp.codes.count
        have e2 := hp.starts.count
        have e4 := hq.count
        have HQ : Hid (okP p) := Lib.hid (by rw [← hpp]; exact okP_add hok seq)
        have HOLD : Hid (∀ j : Nat, j < m → getL p.1 p.2.1 p.2.2 (j : Int) = getL codes starts lens (j : Int) ∧ getL codes starts lens (j : Int) = some (seqAt codes starts lens j)) := Lib.hid (fun j hj => by
          have h1 : validL p.1.length p.2.1 p.2.2 = true := by rw [← hpp]; exact okP_add hok seq
          have h2 : validL codes.length starts lens = true := hok
          have h3 : getL codes starts lens (j : Int) = some (seqAt codes starts lens j) := by rw [getL, if_pos ⟨h2, by omega, by omega⟩, Int.toNat_natCast]
          refine ⟨?_, h3⟩
          rw [h3, getL, if_pos ⟨h1, by omega, by rw [← hpp, hsz.2.1]; show (j : Int) < ((starts.length + 1 : Nat) : Int); omega⟩, Int.toNat_natCast, ← hpp, seqAt_old hok seq (by show j < starts.length; omega)])
        have HNEW : Hid (getL p.1 p.2.1 p.2.2 (m : Int) = some seq) := Lib.hid (by
          have h1 : validL p.1.length p.2.1 p.2.2 = true := by rw [← hpp]; exact okP_add hok seq
          have h4 := seqAt_new hok seq
          rw [getL, if_pos ⟨h1, by omega, by rw [← hpp, hsz.2.1]; show (m : Int) < ((starts.length + 1 : Nat) : Int); omega⟩, Int.toNat_natCast, ← hpp, e2]
          rw [h4])
        have HTK : Hid (p.1.take n = codes) := Lib.hid (by rw [← hpp, e1, addP]; simp)
        have HL1 : Hid (n ≤ p.1.length ∧ p.1.length ≤ n + t ∧ p.2.1.length = m + 1) := Lib.hid (by
          rw [← hpp]
          refine ⟨by rw [addP]; simp; omega, ?_, ?_⟩
          · have := hsz.1; show (addP (codes, starts, lens) seq).1.length ≤ n + t; simp only at this; omega
          · have := hsz.2.1; simp only at this; omega)
        clear hpp hb hsz e1 e2 e4
        go_enter Try.func9, Try.ntmps9
        go_wp2_with (first
          | (go_at_call 16; refine (small_any _ HR.out).mono ?_; rintro e w1 ⟨rfl, b1⟩; have k1 := k0.step b1; obtain ⟨x0, x1, x2⟩ := k1.three)
          | (go_at_call 22; refine (valid_any _ (hp.keep k1.below) HV.out).mono ?_; rintro e w2 ⟨rfl, b2⟩; have k2 := k1.step b2; obtain ⟨x0, x1, x2⟩ := k2.three)
          | (go_at_call 17; refine (add_x _ (hp.keep k2.below) (hq.keep k2.below) (by omega) (by omega) (by omega) (by omega) HP.out HI.out).mono ?_; rintro e w3 ⟨A1, n1, a1, B1, m1, d1, C1, k1', c1, rfl, hP1, b3⟩; have K := (k2.step b3).alloc (.cells #[.slice A1 n1 a1, .slice B1 m1 d1, .slice C1 k1' c1] 27); have J := Bk.fresh (k2.step b3).below #[.slice A1 n1 a1, .slice B1 m1 d1, .slice C1 k1' c1] 27; have P := hP1.keep ((Below.refl w3.heap.size w3).alloc (Nat.le_refl _) (.cells #[.slice A1 n1 a1, .slice B1 m1 d1, .slice C1 k1' c1] 27)); obtain ⟨x0, x1, x2⟩ := K.three; obtain ⟨y0, y1, y2⟩ := J.three))
        have hn1 : n ≤ n1 ∧ n1 ≤ n + t := by have := P.codes.count; have := HL1.out; omega
        have hm1 : m1 = m + 1 := by have := P.starts.count; have := HL1.out; omega
        obtain rfl : m1 = m + 1 := hm1
        have hca := P.codes.cap
        have g2 : ((m + 1 : Nat) : Int) = (m : Int) + 1 := by omega
        have g3 : decide (n1 < n) = false := decide_eq_false (by omega)
        have g5 : decide ((n : Int) + (t : Int) < (n1 : Int)) = false := decide_eq_false (by omega)
        have g6 : (n : Int) ≤ (a1 : Int) := by omega
        have g7 : IntKind.i64.wrap ((n : Int) + (t : Int)) = (n : Int) + (t : Int) := IntWalk.i64_in _ (by omega)
        have g8 : IntKind.i64.wrap ((m : Int) + 1) = (m : Int) + 1 := IntWalk.i64_in _ (by omega)
        have g9 : ((m : Int) != (m : Int)) = false := by simp
        have g10 : ((m : Int) + 1 != (m : Int) + 1) = false := by simp
        have S1 := P.codes.head1 (k := n) (by omega)
        rw [HTK.out] at S1
        have S2 := hp.codes.keep K.below
        go_quiet ((go_at_call 21; exact ref_equal_q (b := true) (decide_eq_true rfl) S1 S2 _))
        go_wp2_with fail
        have hdr : Drawn (w3.alloc (.cells #[.slice A1 n1 a1, .slice B1 (m + 1) d1, .slice C1 k1' c1] 27)) ((w3.alloc (.cells #[.slice A1 n1 a1, .slice B1 (m + 1) d1, .slice C1 k1' c1] 27)).drewN nq) := ⟨_, rfl⟩
        have KK := Lib.hid (K.drawn hdr)
        have JJ := Lib.hid (J.drawn hdr)
        have PP := Lib.hid (P.keep (hdr.below _))
        clear hdr x0 x1 x2 y0 y1 y2 K J S1 S2
        have PC := P.codes.count
        have HVQ : Hid (validL n1 p.2.1 p.2.2 = true) := Lib.hid (by rw [PC]; exact HQ.out)
        clear P PC
        go_loopw [7, 8, 9, 10, 11] (fun i x y z u wr => ∃ j : Nat, j ≤ m ∧ i = .int .i64 (j : Int) ∧ Hid (Bk W wr W.heap.size #[.slice A n ca, .slice B m cb, .slice C k cc]) ∧ Hid (Bk W wr w3.heap.size #[.slice A1 n1 a1, .slice B1 (m + 1) d1, .slice C1 k1' c1]) ∧ Hid (PoolIs wr A1 n1 a1 B1 (m + 1) d1 C1 k1' c1 p.1 p.2.1 p.2.2)) (fun i _ _ _ _ _ => m - (intOf i).toNat)
        case atStart => exact ⟨0, Nat.zero_le _, rfl, KK, JJ, PP⟩
        case round =>
          clear KK JJ PP
          obtain ⟨j, hj, rfl, HK, HJ, HPP⟩ := hrel
          have K := HK.out
          have J := HJ.out
          have P := HPP.out
          clear HK HJ HPP
          obtain ⟨x0, x1, x2⟩ := K.three
          obtain ⟨y0, y1, y2⟩ := J.three
          by_cases hlt : j < m
          · obtain ⟨zs, hz⟩ : ∃ zs, seqAt codes starts lens j = zs := ⟨_, rfl⟩
            have HO1 := Lib.hid (HOLD.out j hlt).1
            have HO2 := Lib.hid (HOLD.out j hlt).2
            rw [hz] at HO2
            have HO3 := Lib.hid (HO1.out.trans HO2.out)
            clear hz HO1
            go_wp2_with (first
              | (go_at_call 19; ((with_reducible refine (pget_some _ (hp.keep K.below) HO2.out).mono ?_); rintro e w4 ⟨D4, n4, c4, rfl, ha4, b4, _⟩; have K4 := K.step b4; have J4 := J.step b4; have P4 := P.keep b4; obtain ⟨x0, x1, x2⟩ := K4.three; obtain ⟨y0, y1, y2⟩ := J4.three))
              | (go_at_call 19; ((with_reducible refine (pget_some _ P4 HO3.out).mono ?_); rintro e w5 ⟨D5, n5, c5, rfl, ha5, b5, _⟩; have K5 := K4.step b5; have J5 := J4.step b5; have P5 := P4.keep b5; have ha6 := ha4.keep b5))
              | (go_at_call 21; refine (ref_equal_x (b := true) (decide_eq_true rfl) ha6 ha5).mono ?_; rintro e w6 ⟨rfl, d6⟩))
            go_roundw
            case rel => exact ⟨j + 1, by omega, by push_cast; rfl, Lib.hid (K5.drawn d6), Lib.hid (J5.drawn d6), Lib.hid (P5.keep (d6.below _))⟩
            case measure => simp [intOf] <;> omega
          · have i9 : ¬ ((j : Int) < (m : Int)) := by omega
            have i8 : ¬ (j < m) := hlt
            go_wp2_with (first
              | (go_at_call 19; refine (pget_some _ P HNEW.out).mono ?_; rintro e w4 ⟨D4, n4, c4, rfl, ha4, b4, _⟩; have K4 := K.step b4; have J4 := J.step b4; have P4 := P.keep b4; have hq4 := hq.keep K4.below; obtain ⟨y0, y1, y2⟩ := J4.three)
              | (go_at_call 21; refine (ref_equal_x (b := true) (decide_eq_true rfl) ha4 hq4).mono ?_; rintro e w6 ⟨rfl, d6⟩; have K6 := K4.drawn d6; have J6 := J4.drawn d6; have P6 := P4.keep (d6.below _); obtain ⟨y0, y1, y2⟩ := J6.three)
              | (go_at_call 22; refine (valid_any _ P6 HVQ.out).mono ?_; rintro e w7 ⟨rfl, b7⟩; have K7 := K6.step b7)
              | (go_at_call 15; refine (alive_any _).mono ?_; rintro e w8 ⟨rfl, b8⟩))
            go_ret
            exact ⟨rfl, (K7.step b8).below⟩
end Go.Proofs.Ytemflmodgbheoaa.Sp
