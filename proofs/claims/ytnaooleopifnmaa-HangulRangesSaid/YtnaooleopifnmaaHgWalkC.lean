/-
  The walk of HangulRanges.
-/
import Derived.Test.YtnaooleopifnmaaHgWalkB
namespace Go.Proofs.Ytnaooleopifnmaa.Hg
open Go.RowKit
set_option linter.unusedVariables false

set_option maxRecDepth 100000 in
set_option maxHeartbeats 4000000 in
theorem ranges_walk (A : Option Addr) (n c : Nat) (zs : List Int) (w : World) (h : Sl w A n c 1 (ints zs)) : Calls Try.prog 8 #[.slice A n c] w (Makes (.bool true) w) := by
  have hcap := h.cap
  have hmax := h.max
  rcases Nat.lt_or_ge 500 n with hn | hn
  · go_enter Try.func8, Try.ntmps8
    go_wp2_with (go_at_call 20; refine (awake_any _).mono ?_; rintro e w4 ⟨rfl, hb4⟩)
    go_ret
    exact ⟨rfl, hb4⟩
  · obtain ⟨rs, hrs⟩ : ∃ rs, spl zs 0 = rs := ⟨_, rfl⟩
    have hlen : rs.length ≤ 500 := by
      have := spl_length zs _ 0 (Nat.le_refl _)
      rw [hrs] at this
      have hc := h.count
      omega
    have HR := Lib.hid hrs
    have HN := Lib.hid h.count
    clear hrs
    go_enter Try.func8, Try.ntmps8
    go_wp2_with fail
    refine (psplit_x HR.out _ h hn).mono ?_
    rintro e w2 ⟨B, q, d, rfl, h1, b1⟩
    have hz := h.keep b1
    have HQ := Lib.hid h1.rcount
    have hq : q ≤ 500 := by rw [HQ.out]; exact hlen
    have c1 := h1.cap
    have m1 := h1.max
    clear hlen
    go_wp2_with fail
    go_loopw [4, 5] (fun t i wr => ∃ j a : Nat, j ≤ q ∧ a ≤ n ∧ t = .int .i64 a ∧ i = .int .i64 j ∧ Below w2.heap.size w2 wr ∧ Hid (rs.drop j = spl zs a)) (fun _ i _ => q - (intOf i).toNat)
    case atStart => exact ⟨0, 0, by omega, by omega, rfl, rfl, Below.refl _ _, Lib.hid (by rw [HR.out]; rfl)⟩
    case round =>
      obtain ⟨j, a, hj, han, rfl, rfl, hd, HS⟩ := hrel
      by_cases hlt : j < q
      · obtain ⟨b, off, rfl, _, x1, x2⟩ := (h1.keep hd).rng_at hlt
        obtain ⟨r, hr⟩ : ∃ r, rs.getD j (0, 0) = r := ⟨_, rfl⟩
        have hdrop : rs.drop j = r :: rs.drop (j + 1) := by
          rw [← hr, List.drop_eq_getElem_cons (by rw [← HQ.out]; exact hlt)]
          simp [List.getD, List.getElem?_eq_getElem (show j < rs.length by rw [← HQ.out]; exact hlt)]
        obtain ⟨lo, l1, l2, l3, l4, l5, l6⟩ := spl_cons _ a (Nat.le_refl _) (HS.out.symm.trans hdrop)
        obtain ⟨S, s1, s2, s3, s4⟩ := part_run l4
        have hfit := part_fits zs lo
        obtain ⟨p, hp⟩ : ∃ p, part (zs.drop lo) = p := ⟨_, rfl⟩
        rw [hp] at l4 l5 l6 s2 s3 s4 hfit
        rw [← HN.out] at l2 hfit s4
        have X1 : ∀ W : World, Below w2.heap.size w2 W → W.cell? ⟨b, off + j * 2, none⟩ = some (.int .i64 (lo : Int)) := fun W hW => by have := (h1.keep hW).rng_lo hlt; rw [hr, l5] at this; exact this
        obtain ⟨e, he⟩ : ∃ e, lo + p = e := ⟨_, rfl⟩
        have X2 : ∀ W : World, Below w2.heap.size w2 W → W.cell? ⟨b, off + j * 2 + 1, none⟩ = some (.int .i64 (e : Int)) := fun W hW => by have := (h1.keep hW).rng_hi hlt; rw [hr, l5, he] at this; exact this
        rw [hr, l5] at x1 x2
        have HREST := Lib.hid l6
        rw [he] at x2 s4
        have he1 : lo < e := by omega
        have he2 : e ≤ n := by omega
        have L3 := Lib.hid l3
        have S1 := Lib.hid s1
        have S2 := Lib.hid s2
        have S3 := Lib.hid s3
        have S4 := Lib.hid s4
        have HE := Lib.hid he
        have HX1 := Lib.hid X1
        have HX2 := Lib.hid X2
        clear hp hr hdrop l3 l5 l6 s1 s2 s3 s4 he HS X1 X2
        obtain ⟨tb, toff, rfl, _, _⟩ := hz.int_at (k := lo) l2
        have dlo : decide (lo < a) = false := by simp; omega
        have del : decide (e ≤ lo) = false := by simp; omega
        have dne : decide (n < e) = false := by simp; omega
        obtain ⟨wo, rfl⟩ : ∃ wo : World, wo = wr := ⟨_, rfl⟩
        go_wp2_with fail
        go_quiet (fail)
        go_wp2_with fail
        go_loopw [6] (fun k wr => ∃ m : Nat, a ≤ m ∧ m ≤ lo ∧ k = .int .i64 m ∧ Below w2.heap.size w2 wr) (fun k _ => lo - (intOf k).toNat)
        case atStart => exact ⟨a, by omega, l1, rfl, drewN_below hd _⟩
        case round =>
          obtain ⟨m, ha1, ha2, rfl, hd2⟩ := hrel
          have y1 := HX1.out _ hd2
          by_cases hml : m < lo
          · have t1 := (hz.keep hd2).int_cell (k := m) (by omega)
            obtain ⟨u, hu⟩ : ∃ u, zs.getD m 0 = u := ⟨_, rfl⟩
            rw [hu] at t1
            obtain ⟨ku, hku⟩ : ∃ ku, kind u = ku := ⟨_, rfl⟩
            have hk4 : ku < 4 := by rw [← hku, ← hu]; exact L3.out m ha1 hml
            have HKU := Lib.hid hku
            clear hu hku
            go_wp2_with (go_at_call 16; refine (ref_kind_x HKU.out _).mono ?_; rintro e w' ⟨rfl, rfl⟩)
            go_roundw
            case rel => exact ⟨m + 1, by omega, by omega, by go_num, hd2⟩
            case measure => simp [intOf]; omega
          · obtain rfl : m = lo := by omega
            clear hml ha2
            have t1 := (hz.keep hd2).int_cell (k := m) (by omega)
            rw [← S1.out] at t1
            obtain ⟨s0, hs0⟩ : ∃ s0, S 0 = s0 := ⟨_, rfl⟩
            rw [hs0] at t1
            have HS0 := Lib.hid hs0
            clear hs0
            go_wp2_with fail
            go_loopw [7, 8] (fun s k wr => ∃ t : Nat, t < p ∧ k = .int .i64 ((m + 1 + t : Nat) : Int) ∧ Hid (s = .int .i64 (S t)) ∧ Below w2.heap.size w2 wr) (fun _ k _ => e - (intOf k).toNat)
            case atStart => exact ⟨0, l4, by go_num, Lib.hid (by rw [HS0.out]), hd2⟩
            case round =>
              obtain ⟨t, htp, rfl, HT, hd3⟩ := hrel
              obtain ⟨st, hst⟩ : ∃ st, S t = st := ⟨_, rfl⟩
              have e7 := HT.out
              rw [hst] at e7
              have HST := Lib.hid hst
              subst e7
              clear hst
              have y2 := HX2.out _ hd3
              have hem : m + p ≤ e := by rw [HE.out]; exact Nat.le_refl _
              have hem2 : e ≤ m + p := by rw [HE.out]; exact Nat.le_refl _
              by_cases hte : t + 1 < p
              · have t2 := (hz.keep hd3).int_cell (k := m + 1 + t) (by omega)
                have HC := Lib.hid (S2.out t hte)
                obtain ⟨v, hv⟩ : ∃ v, zs.getD (m + 1 + t) 0 = v := ⟨_, rfl⟩
                obtain ⟨sn, hsn⟩ : ∃ sn, S (t + 1) = sn := ⟨_, rfl⟩
                rw [hv] at t2
                have HC' : Hid (comp st v = (sn, true)) := Lib.hid (by
                  have := HC.out
                  rw [HST.out, hsn, show m + t + 1 = m + 1 + t by omega, hv] at this
                  exact this)
                have HSN := Lib.hid hsn
                clear hv hsn
                go_wp2_with (go_at_call 21; refine (pcompose_x HC'.out _).mono ?_; rintro e w9 ⟨rfl, b9⟩)
                have hd4 := hd3.trans (b9.mono hd3.size)
                go_roundw
                case rel => exact ⟨t + 1, hte, by go_num, Lib.hid (by rw [HSN.out]), hd4⟩
                case measure => simp [intOf]; omega
              · obtain ⟨kk, hkk⟩ : ∃ kk, kind st = kk := ⟨_, rfl⟩
                have hk4 : 4 ≤ kk := by
                  have := S3.out
                  rw [show p - 1 = t by omega, HST.out, hkk] at this
                  exact this
                have HKK := Lib.hid hkk
                clear hkk
                rcases Nat.lt_or_ge e n with hen | hen
                · have t3 := (hz.keep hd3).int_cell (k := e) hen
                  obtain ⟨v, hv⟩ : ∃ v, zs.getD e 0 = v := ⟨_, rfl⟩
                  have HN0 : Hid (comp st v = (0, false)) := Lib.hid (by
                    have := S4.out hen
                    rw [show p - 1 = t by omega, HST.out, hv] at this
                    exact this)
                  rw [hv] at t3
                  clear hv
                  go_wp2_with (first
                    | (go_at_call 15; refine (pkind_x HKK.out _).mono ?_; rintro e w' ⟨rfl, rfl⟩)
                    | (go_at_call 21; refine (pcompose_x HN0.out _).mono ?_; rintro e w9 ⟨rfl, b9⟩))
                  have hd4 := hd3.trans (b9.mono hd3.size)
                  go_roundw
                  case rel => exact ⟨j + 1, e, by omega, by omega, rfl, by go_num, hd4, Lib.hid (by rw [HREST.out, HE.out])⟩
                  case measure => simp [intOf]; omega
                · go_wp2_with (go_at_call 15; refine (pkind_x HKK.out _).mono ?_; rintro e w' ⟨rfl, rfl⟩)
                  go_roundw
                  case rel => exact ⟨j + 1, e, by omega, by omega, rfl, by go_num, hd3, Lib.hid (by rw [HREST.out, HE.out])⟩
                  case measure => simp [intOf]; omega
      · have hrest : rs.drop j = [] := List.drop_eq_nil_of_le (by rw [← HQ.out]; omega)
        have hnone := spl_nil _ a (Nat.le_refl _) (HS.out.symm.trans hrest)
        rw [← HN.out] at hnone
        have HNO := Lib.hid hnone
        clear hnone hrest
        go_wp2_with fail
        obtain ⟨wo, rfl⟩ : ∃ wo : World, wo = wr := ⟨_, rfl⟩
        go_loopw [13] (fun k wr => ∃ m : Nat, a ≤ m ∧ m ≤ n ∧ k = .int .i64 m ∧ Below w2.heap.size w2 wr) (fun k _ => n - (intOf k).toNat)
        case atStart => exact ⟨a, by omega, han, rfl, hd⟩
        case round =>
          obtain ⟨m, ha1, ha2, rfl, hd2⟩ := hrel
          by_cases hml : m < n
          · obtain ⟨tb, toff, rfl, _, t1⟩ := (hz.keep hd2).int_at hml
            obtain ⟨u, hu⟩ : ∃ u, zs.getD m 0 = u := ⟨_, rfl⟩
            rw [hu] at t1
            obtain ⟨ku, hku⟩ : ∃ ku, kind u = ku := ⟨_, rfl⟩
            have hk4 : ku < 4 := by rw [← hku, ← hu]; exact HNO.out m ha1 hml
            have HKU := Lib.hid hku
            clear hu hku
            go_wp2_with (go_at_call 16; refine (ref_kind_x HKU.out _).mono ?_; rintro e w' ⟨rfl, rfl⟩)
            go_roundw
            case rel => exact ⟨m + 1, by omega, by omega, by go_num, hd2⟩
            case measure => simp [intOf]; omega
          · have b2 := b1.trans (hd2.mono b1.size)
            go_wp2_with (go_at_call 20; refine (awake_any _).mono ?_; rintro e w4 ⟨rfl, hb4⟩)
            go_ret
            exact ⟨rfl, b2.trans (hb4.mono b2.size)⟩
end Go.Proofs.Ytnaooleopifnmaa.Hg
