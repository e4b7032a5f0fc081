/-
  Plain facts on the common beginning and end of two sequences (no program stands here).
-/
import Derived.Test.YtlgbdigpjobpoaaEdMath
namespace Go.Proofs.Ytlgbdigpjobpoaa.Ed

theorem pre_take : ∀ xs ys : List Int, xs.take (pre xs ys) = ys.take (pre xs ys)
  | [], ys => by rw [pre_nil]; simp
  | a :: as, [] => by rw [pre_nil']; simp
  | a :: as, b :: bs => by
    have := pre_take as bs
    rw [pre]
    split
    · rename_i h
      rw [List.take_succ_cons, List.take_succ_cons, this, h]
    · simp
theorem pre_ne : ∀ (xs ys : List Int), pre xs ys < xs.length → pre xs ys < ys.length → ¬ xs.getD (pre xs ys) 0 = ys.getD (pre xs ys) 0
  | [], ys => by simp
  | a :: as, [] => by simp
  | a :: as, b :: bs => by
    have ih := pre_ne as bs
    rw [pre]
    split
    · intro h1 h2
      simp at h1 h2
      simpa using ih h1 h2
    · rename_i h
      intro _ _
      simpa using h
theorem pre_self : ∀ xs : List Int, pre xs xs = xs.length
  | [] => by rw [pre_nil]; rfl
  | a :: as => by rw [pre, if_pos rfl, pre_self as]; rfl
theorem suf_le (xs ys : List Int) : pre xs ys + suf xs ys ≤ xs.length ∧ pre xs ys + suf xs ys ≤ ys.length := by
  have h1 := pre_le xs ys
  have h2 := pre_le (xs.drop (pre xs ys)).reverse (ys.drop (pre xs ys)).reverse
  unfold suf
  simp at h2
  omega
theorem suf_self (xs : List Int) : suf xs xs = 0 := by
  have := suf_le xs xs
  rw [pre_self] at this
  omega
theorem suf_drop (xs ys : List Int) : xs.drop (xs.length - suf xs ys) = ys.drop (ys.length - suf xs ys) := by
  have hs := suf_le xs ys
  have h := pre_take (xs.drop (pre xs ys)).reverse (ys.drop (pre xs ys)).reverse
  have e : pre (xs.drop (pre xs ys)).reverse (ys.drop (pre xs ys)).reverse = suf xs ys := rfl
  rw [e, List.take_reverse, List.take_reverse, List.reverse_inj, List.drop_drop, List.drop_drop, List.length_drop, List.length_drop] at h
  rw [show pre xs ys + (xs.length - pre xs ys - suf xs ys) = xs.length - suf xs ys by omega, show pre xs ys + (ys.length - pre xs ys - suf xs ys) = ys.length - suf xs ys by omega] at h
  exact h
/-- What Diff says turns the one sequence into the other. -/
theorem turn {xs ys : List Int} : xs.take (pre xs ys) ++ (ys.drop (pre xs ys)).take (ys.length - suf xs ys - pre xs ys) ++ xs.drop (xs.length - suf xs ys) = ys := by
  have hs := suf_le xs ys
  rw [pre_take, suf_drop, List.append_assoc, show ys.drop (ys.length - suf xs ys) = (ys.drop (pre xs ys)).drop (ys.length - suf xs ys - pre xs ys) by
    rw [List.drop_drop]; congr 1; omega, List.take_append_drop, List.take_append_drop]
theorem first_ne {xs ys : List Int} (h1 : pre xs ys < xs.length) (h2 : pre xs ys < ys.length) : ¬ xs.getD (pre xs ys) 0 = ys.getD (pre xs ys) 0 := pre_ne xs ys h1 h2
theorem last_ne {xs ys : List Int} (h1 : pre xs ys + suf xs ys < xs.length) (h2 : pre xs ys + suf xs ys < ys.length) : ¬ xs.getD (xs.length - 1 - suf xs ys) 0 = ys.getD (ys.length - 1 - suf xs ys) 0 := by
  have h := pre_ne (xs.drop (pre xs ys)).reverse (ys.drop (pre xs ys)).reverse
  have e : pre (xs.drop (pre xs ys)).reverse (ys.drop (pre xs ys)).reverse = suf xs ys := rfl
  rw [e, rev_at h1, rev_at h2, rev_length, rev_length] at h
  exact h (by omega) (by omega)
end Go.Proofs.Ytlgbdigpjobpoaa.Ed
