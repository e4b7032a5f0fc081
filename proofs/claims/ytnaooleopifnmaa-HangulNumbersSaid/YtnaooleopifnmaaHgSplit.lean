/-
  The contract of the reference's Split, for every slice of ints.
-/
import Derived.Test.YtnaooleopifnmaaHgPart
import Derived.Test.YtnaooleopifnmaaRanges
namespace Go.Proofs.Ytnaooleopifnmaa.Hg
open Go.RowKit
set_option linter.unusedVariables false

theorem ref_part_x {A : Option Addr} {n c : Nat} {zs : List Int} {p : Nat} (hp : part zs = p) (w : World) (h : Sl w A n c 1 (ints zs)) : Calls Try.prog 43 #[.slice A n c] w (Gives (.int .i64 p) w) := by
  rw [← hp]
  exact ref_part_any A n c zs w h

set_option maxHeartbeats 1000000 in
theorem ref_split_any (A : Option Addr) (n c : Nat) (zs : List Int) (w : World) (h : Sl w A n c 1 (ints zs)) (hn : n ≤ 500) : Calls Try.prog 24 #[.slice A n c] w (GivesRanges (spl zs 0) w) := by
  have hcap := h.cap
  have hmax := h.max
  have HC := Lib.hid h.count
  go_enter Try.func24, Try.ntmps24
  go_wp2
  go_loopw [3, 4] (fun v i wr => ∃ (k : Nat) (done : List (Int × Int)), k ≤ n ∧ done.length ≤ k ∧ i = .int .i64 k ∧ Own wr w.heap.size 34 2 v done.length (rngs done) ∧ Below w.heap.size w wr ∧ Hid (spl zs 0 = done ++ spl zs k)) (fun _ i _ => n - (intOf i).toNat)
  case atStart => exact ⟨0, [], by omega, by simp, rfl, Own.nil _ _ _ _, Below.refl _ _, Lib.hid rfl⟩
  case round =>
    obtain ⟨k, done, hk, hd, rfl, ho, hb, HS⟩ := hrel
    have hw := h.keep hb
    by_cases hlt : k < n
    · have hz : k < zs.length := by rw [← HC.out]; exact hlt
      have hfit : part (zs.drop k) ≤ n - k := by have := part_fits zs k; rw [← HC.out] at this; exact this
      have ht := hw.tail_in hlt
      obtain ⟨p, hp⟩ : ∃ p, part (zs.drop k) = p := ⟨_, rfl⟩
      rw [hp] at hfit
      have hbs := hb.size
      rcases Nat.eq_zero_or_pos p with h0 | h0
      · have HN := Lib.hid (spl_none hz (by rw [hp]; exact h0))
        have HP := Lib.hid (by rw [← h0]; exact hp : part (zs.drop k) = 0)
        clear hp h0
        go_wp2_with (go_at_call 43; refine (ref_part_x HP.out _ ht).mono ?_; rintro e w' ⟨rfl, rfl⟩)
        go_roundw
        case rel => exact ⟨k + 1, done, by omega, by omega, by go_num, ho, hb, Lib.hid (by rw [HS.out, HN.out])⟩
        case measure => simp [intOf]; omega
      · have HN := Lib.hid (spl_some hz (by rw [hp]; exact h0))
        have HP := Lib.hid hp
        clear hp
        go_wp2_with (first
          | (go_at_call 43; refine (ref_part_x HP.out _ ht).mono ?_; rintro e w' ⟨rfl, rfl⟩)
          | (at_builtin; refine wpList_append_ranges rfl (.tmp 16) (.tmp 22) rfl w.heap.size u3 done.length done rfl (ho.alloc _) _ 1 1 [((k : Int), ((k + p : Nat) : Int))] rfl (Sl.built_at wr 34 2 1 _ rfl (by unfold maxLen; omega) rfl) (done.length + 1) rfl _ rfl (by omega) (by simp; omega) ?_; intro v1 w1 ho1 hb1))
        have hb2 := (hb.alloc hbs _).trans hb1
        go_roundw
        case rel => exact ⟨k + p, done ++ [((k : Int), ((k + p : Nat) : Int))], by omega, by simp; omega, by go_num, by simpa using ho1, hb2, Lib.hid (by rw [HS.out, HN.out, HP.out]; simp)⟩
        case measure => simp [intOf]; omega
    · have HE := Lib.hid (spl_end (l := zs) (i := k) (by rw [← HC.out]; exact hlt))
      go_wp2
      go_ret
      obtain ⟨B, g, rfl, hl⟩ := ho.sl
      exact ⟨B, _, g, rfl, by rw [HS.out, HE.out, List.append_nil]; exact hl, hb⟩
end Go.Proofs.Ytnaooleopifnmaa.Hg
