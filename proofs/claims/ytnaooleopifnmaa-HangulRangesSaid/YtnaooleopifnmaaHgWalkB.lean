/-
  The walk of HangulSplits.
-/
import Derived.Test.YtnaooleopifnmaaHgAwake
namespace Go.Proofs.Ytnaooleopifnmaa.Hg
open Go.RowKit
set_option linter.unusedVariables false

theorem ref_split_x {A : Option Addr} {n c : Nat} {zs : List Int} {l : List (Int × Int)} (hl : spl zs 0 = l) (w : World) (h : Sl w A n c 1 (ints zs)) (hn : n ≤ 500) : Calls Try.prog 24 #[.slice A n c] w (GivesRanges l w) := by
  rw [← hl]
  exact ref_split_any A n c zs w h hn

set_option maxHeartbeats 1000000 in
theorem splits_walk (A : Option Addr) (n c : Nat) (zs : List Int) (w : World) (h : Sl w A n c 1 (ints zs)) : Calls Try.prog 5 #[.slice A n c] w (Makes (.bool true) w) := by
  have hcap := h.cap
  have hmax := h.max
  rcases Nat.lt_or_ge 500 n with hn | hn
  · go_enter Try.func5, Try.ntmps5
    go_wp2_with (go_at_call 20; refine (awake_any _).mono ?_; rintro e w4 ⟨rfl, hb4⟩)
    go_ret
    exact ⟨rfl, hb4⟩
  · obtain ⟨rs, hrs⟩ : ∃ rs, spl zs 0 = rs := ⟨_, rfl⟩
    have hlen : rs.length ≤ 500 := by
      have := spl_length zs _ 0 (Nat.le_refl _)
      rw [hrs] at this
      have hc := h.count
      omega
    have HR := Lib.hid hrs
    clear hrs
    go_enter Try.func5, Try.ntmps5
    go_wp2_with fail
    refine (psplit_x HR.out _ h hn).mono ?_
    rintro e w1 ⟨B, p, d, rfl, h1, b1⟩
    go_wp2_with fail
    refine (ref_split_x HR.out _ (h.keep b1) hn).mono ?_
    rintro e w2 ⟨C, q, f, rfl, h2, b2⟩
    have h1' := h1.keep b2
    have t2 := b1.trans (b2.mono b1.size)
    obtain rfl : p = q := by rw [h1.rcount, h2.rcount]
    have hp : p ≤ 500 := by rw [h1.rcount]; exact hlen
    have c1 := h1'.cap
    have c2 := h2.cap
    have m1 := h1'.max
    have m2 := h2.max
    clear hlen
    go_wp2_with fail
    go_loopw [5] (fun i wr => ∃ k : Nat, k ≤ p ∧ i = .int .i64 k ∧ Drawn w2 wr) (fun i _ => p - (intOf i).toNat)
    case atStart => exact ⟨0, by omega, rfl, Drawn.refl _⟩
    case round =>
      obtain ⟨k, hk, rfl, hd⟩ := hrel
      by_cases hlt : k < p
      · obtain ⟨b, off, rfl, _, x1, x2⟩ := (h1'.drawn hd).rng_at hlt
        obtain ⟨b', off', rfl, _, y1, y2⟩ := (h2.drawn hd).rng_at hlt
        obtain ⟨lo, hlo⟩ : ∃ lo, (rs.getD k (0, 0)).1 = lo := ⟨_, rfl⟩
        obtain ⟨hi, hhi⟩ : ∃ hi, (rs.getD k (0, 0)).2 = hi := ⟨_, rfl⟩
        rw [hlo] at x1 y1
        rw [hhi] at x2 y2
        clear hlo hhi
        go_wp2_with fail
        go_quiet (fail)
        go_wp2_with fail
        go_roundw
        case rel => exact ⟨k + 1, by omega, by go_num, hd.more _⟩
        case measure => simp [intOf]; omega
      · have t3 := t2.trans (hd.below _)
        go_wp2_with (go_at_call 20; refine (awake_any _).mono ?_; rintro e w4 ⟨rfl, hb4⟩)
        go_ret
        exact ⟨rfl, t3.trans (hb4.mono t3.size)⟩
end Go.Proofs.Ytnaooleopifnmaa.Hg
