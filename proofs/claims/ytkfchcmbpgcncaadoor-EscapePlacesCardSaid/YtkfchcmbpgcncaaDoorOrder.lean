/-
  Plain facts on the lexicographic order of lists of integers (no program stands here): a comparison by sign, its step at a place, antisymmetry, transitivity, common beginnings and ends.
-/
import Derived.NoCompiler
namespace Go.Proofs.YtkfchcmbpgcncaaDoor

/-- The order of two integers by sign. -/
def ord2 (a b : Int) : Int := if a < b then -1 else if b < a then 1 else 0
/-- The lexicographic order by sign. -/
def cmpL : List Int → List Int → Int
  | [], [] => 0
  | [], _ :: _ => -1
  | _ :: _, [] => 1
  | a :: as, b :: bs => if a = b then cmpL as bs else ord2 a b

theorem ord2_less {a b : Int} (h : a < b) : ord2 a b = -1 := by simp [ord2, h]
theorem ord2_more {a b : Int} (h : b < a) : ord2 a b = 1 := by
  have : ¬ a < b := by omega
  simp [ord2, h, this]
theorem ord2_same (a : Int) : ord2 a a = 0 := by simp [ord2]

theorem drop_at {xs : List Int} {k : Nat} (h : k < xs.length) : xs.drop k = xs.getD k 0 :: xs.drop (k + 1) := by
  rw [List.drop_eq_getElem_cons h]
  simp [List.getD, List.getElem?_eq_getElem h]

theorem cmp_step {xs ys : List Int} {k : Nat} (hx : k < xs.length) (hy : k < ys.length) (h : xs.getD k 0 = ys.getD k 0) :
    cmpL (xs.drop k) (ys.drop k) = cmpL (xs.drop (k + 1)) (ys.drop (k + 1)) := by
  rw [drop_at hx, drop_at hy]
  simp only [cmpL, h, if_true]
theorem cmp_differ {xs ys : List Int} {k : Nat} (hx : k < xs.length) (hy : k < ys.length) (h : xs.getD k 0 ≠ ys.getD k 0) :
    cmpL (xs.drop k) (ys.drop k) = ord2 (xs.getD k 0) (ys.getD k 0) := by
  rw [drop_at hx, drop_at hy]
  simp only [cmpL, h, if_false]
theorem cmp_end {xs ys : List Int} {k : Nat} (hx : k ≤ xs.length) (hy : k ≤ ys.length) (h : k = xs.length ∨ k = ys.length) :
    cmpL (xs.drop k) (ys.drop k) = ord2 xs.length ys.length := by
  rcases Nat.lt_trichotomy xs.length ys.length with hl | hl | hl
  · have e : k = xs.length := by omega
    subst e
    rw [drop_at hl, List.drop_eq_nil_of_le (Nat.le_refl _)]
    simp only [cmpL]
    rw [ord2_less (by omega)]
  · have e : k = xs.length := by omega
    subst e
    rw [List.drop_eq_nil_of_le (Nat.le_refl _), List.drop_eq_nil_of_le (by omega : ys.length ≤ xs.length), hl]
    simp only [cmpL, ord2_same]
  · have e : k = ys.length := by omega
    subst e
    rw [drop_at hl, List.drop_eq_nil_of_le (Nat.le_refl _)]
    simp only [cmpL]
    rw [ord2_more (by omega)]

theorem ord2_range (a b : Int) : -1 ≤ ord2 a b ∧ ord2 a b ≤ 1 := by
  unfold ord2; split <;> (try split) <;> omega
theorem ord2_flip (a b : Int) : ord2 b a = -ord2 a b := by
  unfold ord2; repeat' split
  all_goals omega
theorem cmp_range : ∀ xs ys : List Int, -1 ≤ cmpL xs ys ∧ cmpL xs ys ≤ 1
  | [], [] => by simp [cmpL]
  | [], _ :: _ => by simp [cmpL]
  | _ :: _, [] => by simp [cmpL]
  | a :: as, b :: bs => by
    simp only [cmpL]
    split
    · exact cmp_range as bs
    · exact ord2_range a b
theorem cmp_flip : ∀ xs ys : List Int, cmpL ys xs = -cmpL xs ys
  | [], [] => by simp [cmpL]
  | [], _ :: _ => by simp [cmpL]
  | _ :: _, [] => by simp [cmpL]
  | a :: as, b :: bs => by
    by_cases h : a = b
    · subst h
      simp only [cmpL, if_true]
      exact cmp_flip as bs
    · have h' : ¬ b = a := fun e => h e.symm
      simp only [cmpL, h, h', if_false]
      exact ord2_flip a b
theorem cmp_self : ∀ xs : List Int, cmpL xs xs = 0
  | [] => rfl
  | a :: as => by simp only [cmpL, if_true]; exact cmp_self as
theorem cmp_prefix : ∀ (cs xs ys : List Int), cmpL (cs ++ xs) (cs ++ ys) = cmpL xs ys
  | [], _, _ => rfl
  | c :: cs, xs, ys => by
    simp only [List.cons_append, cmpL, if_true]
    exact cmp_prefix cs xs ys
theorem cmp_suffix : ∀ (xs ys cs : List Int), xs.length = ys.length → cmpL (xs ++ cs) (ys ++ cs) = cmpL xs ys
  | [], [], cs, _ => by simpa [cmpL] using cmp_self cs
  | [], _ :: _, _, h => by simp at h
  | _ :: _, [], _, h => by simp at h
  | a :: as, b :: bs, cs, h => by
    simp only [List.cons_append, cmpL]
    rw [cmp_suffix as bs cs (by simpa using h)]
theorem cmp_grow : ∀ xs ys : List Int, cmpL xs (xs ++ ys) = if ys.length = 0 then 0 else -1
  | [], [] => rfl
  | [], _ :: _ => by simp [cmpL]
  | a :: as, ys => by
    simp only [List.cons_append, cmpL, if_true]
    exact cmp_grow as ys
theorem cmp_trans : ∀ xs ys zs : List Int, cmpL xs ys ≤ 0 → cmpL ys zs ≤ 0 → cmpL xs zs ≤ 0
  | [], _, [], _, _ => by simp [cmpL]
  | [], _, _ :: _, _, _ => by simp [cmpL]
  | _ :: _, [], _, h, _ => by simp [cmpL] at h
  | _ :: _, _ :: _, [], _, h => by simp [cmpL] at h
  | a :: as, b :: bs, c :: cs, h1, h2 => by
    simp only [cmpL] at h1 h2 ⊢
    by_cases e1 : a = b
    · subst e1
      by_cases e2 : a = c
      · subst e2
        simp only [if_true] at h1 h2 ⊢
        exact cmp_trans as bs cs h1 h2
      · simp only [e2, if_false] at h2 ⊢
        exact h2
    · simp only [e1, if_false] at h1
      by_cases e2 : b = c
      · subst e2
        simp only [e1, if_false]
        exact h1
      · simp only [e2, if_false] at h2
        have l1 : a < b := by
          unfold ord2 at h1; repeat' split at h1
          all_goals omega
        have l2 : b < c := by
          unfold ord2 at h2; repeat' split at h2
          all_goals omega
        have e3 : ¬ a = c := by omega
        simp only [e3, if_false]
        rw [ord2_less (by omega)]
        omega
theorem cmp_zero : ∀ xs ys : List Int, cmpL xs ys = 0 ↔ xs = ys
  | [], [] => by simp [cmpL]
  | [], _ :: _ => by simp [cmpL]
  | _ :: _, [] => by simp [cmpL]
  | a :: as, b :: bs => by
    by_cases h : a = b
    · subst h
      simp only [cmpL, if_true, List.cons.injEq, true_and]
      exact cmp_zero as bs
    · simp only [cmpL, h, if_false, List.cons.injEq, false_and, iff_false]
      unfold ord2
      repeat' split
      all_goals omega
end Go.Proofs.YtkfchcmbpgcncaaDoor
