/-
  Plain facts on sums and numbers as bytes (no program stands here).
-/
import Derived.Test.YtkkjjhkhpibaiaaByt
namespace Go.Proofs.Ytkkjjhkhpibaiaa.Im
set_option linter.unusedVariables false

theorem xs_ex : ∃ f : Nat → Nat → Nat, ∀ h b, f h b = ((h ^^^ b) * 16777619) % 4294967296 := ⟨fun h b => ((h ^^^ b) * 16777619) % 4294967296, fun _ _ => rfl⟩
/-- One byte more in a sum (chosen, so that no tactic computes it). -/
noncomputable def xs : Nat → Nat → Nat := Classical.choose xs_ex
theorem xs_eq (h b : Nat) : xs h b = ((h ^^^ b) * 16777619) % 4294967296 := Classical.choose_spec xs_ex h b
noncomputable def sumFrom (h : Nat) (l : List Int) : Nat := l.foldl (fun h x => xs h x.toNat) h
noncomputable def sumL (l : List Int) : Nat := sumFrom 2166136261 l
theorem xs_lt (h b : Nat) : xs h b < 4294967296 := by
  rw [xs_eq]
  exact Nat.mod_lt _ (by decide)
theorem sumFrom_snoc (h : Nat) (l : List Int) (x : Int) : sumFrom h (l ++ [x]) = xs (sumFrom h l) x.toNat := by
  simp only [sumFrom, List.foldl_append, List.foldl_cons, List.foldl_nil]
theorem sumFrom_append (h : Nat) (l m : List Int) : sumFrom h (l ++ m) = sumFrom (sumFrom h l) m := by
  simp only [sumFrom, List.foldl_append]
theorem sumFrom_cons (h : Nat) (x : Int) (l : List Int) : sumFrom h (x :: l) = sumFrom (xs h x.toNat) l := by
  simp only [sumFrom, List.foldl_cons]
theorem sumFrom_nil (h : Nat) : sumFrom h [] = h := by simp only [sumFrom, List.foldl_nil]
theorem sumFrom_lt {h : Nat} (hh : h < 4294967296) : ∀ l : List Int, sumFrom h l < 4294967296 := by
  intro l
  induction l generalizing h with
  | nil => rw [sumFrom_nil]; exact hh
  | cons x l ih => rw [sumFrom_cons]; exact ih (xs_lt _ _)
theorem sumL_lt (l : List Int) : sumL l < 4294967296 := sumFrom_lt (by omega) l
theorem times_back {x : Nat} (h : x < 4294967296) : ((x * 16777619) % 4294967296 * 899433627) % 4294967296 = x := by omega
theorem xor_back (a b : Nat) : (a ^^^ b) ^^^ b = a := by rw [Nat.xor_assoc, Nat.xor_self, Nat.xor_zero]
theorem xor_lt {a b : Nat} (ha : a < 4294967296) (hb : b < 4294967296) : a ^^^ b < 4294967296 := Nat.xor_lt_two_pow (n := 32) ha hb
/-- The step loses nothing. -/
theorem xs_inj {a b c d : Nat} (ha : a < 4294967296) (hb : b < 4294967296) (hc : c < 4294967296) (hd : d < 4294967296) (h : xs a b = xs c d) : a ^^^ b = c ^^^ d := by
  have h1 := times_back (xor_lt ha hb)
  have h2 := times_back (xor_lt hc hd)
  rw [xs_eq, xs_eq] at h
  rw [h] at h1
  rw [← h1, h2]
theorem xs_inj_left {a c b : Nat} (ha : a < 4294967296) (hb : b < 4294967296) (hc : c < 4294967296) (h : xs a b = xs c b) : a = c := by
  have := xs_inj ha hb hc hb h
  rw [← xor_back a b, this, xor_back]
theorem xs_inj_right {a b d : Nat} (ha : a < 4294967296) (hb : b < 4294967296) (hd : d < 4294967296) (h : xs a b = xs a d) : b = d := by
  have := xs_inj ha hb ha hd h
  rw [← xor_back b a, Nat.xor_comm b a, this, Nat.xor_comm a d, xor_back]
theorem sumFrom_inj : ∀ (l : List Int) (a c : Nat), a < 4294967296 → c < 4294967296 → (∀ x ∈ l, 0 ≤ x ∧ x ≤ 255) → sumFrom a l = sumFrom c l → a = c
  | [], a, c, _, _, _, h => by rw [sumFrom_nil, sumFrom_nil] at h; exact h
  | x :: l, a, c, ha, hc, hl, h => by
    rw [sumFrom_cons, sumFrom_cons] at h
    have hx := hl x (List.mem_cons_self ..)
    exact xs_inj_left ha (by omega) hc (sumFrom_inj l _ _ (xs_lt _ _) (xs_lt _ _) (fun y hy => hl y (List.mem_cons_of_mem _ hy)) h)
/-- A change of one byte changes the sum. -/
theorem sum_changes {l m : List Int} {x y : Int} (hl : ∀ z ∈ l, 0 ≤ z ∧ z ≤ 255) (hm : ∀ z ∈ m, 0 ≤ z ∧ z ≤ 255) (hx : 0 ≤ x ∧ x ≤ 255) (hy : 0 ≤ y ∧ y ≤ 255) (h : sumL (l ++ x :: m) = sumL (l ++ y :: m)) : x = y := by
  have e1 : sumL (l ++ x :: m) = sumFrom (xs (sumL l) x.toNat) m := by rw [sumL, sumFrom_append, sumFrom_cons, sumL]
  have e2 : sumL (l ++ y :: m) = sumFrom (xs (sumL l) y.toNat) m := by rw [sumL, sumFrom_append, sumFrom_cons, sumL]
  rw [e1, e2] at h
  have h1 := sumFrom_inj m _ _ (xs_lt _ _) (xs_lt _ _) hm h
  have h2 := xs_inj_right (sumL_lt l) (by omega) (by omega) h1
  omega
/-- The bytes of a sum, the highest first. -/
def b4 (n : Nat) : List Int := [(n : Int) / 16777216, (n : Int) / 65536 % 256, (n : Int) / 256 % 256, (n : Int) % 256]
theorem b4_len (n : Nat) : (b4 n).length = 4 := rfl
theorem b4_inj {n m : Nat} (h : b4 n = b4 m) : n = m := by
  simp only [b4, List.cons.injEq, and_true] at h
  omega
theorem b4_range {n : Nat} (h : n < 4294967296) : ∀ x ∈ b4 n, 0 ≤ x ∧ x ≤ 255 := by
  intro x hx
  simp only [b4, List.mem_cons, List.not_mem_nil, or_false] at hx
  omega
noncomputable def sealL (l : List Int) : List Int := b4 (sumL l) ++ l
/-- What Open gives: the body and the error. -/
noncomputable def openL (l : List Int) : List Int × Int := if l.length < 4 then ([], 2) else if b4 (sumL (l.drop 4)) = l.take 4 then (l.drop 4, 0) else ([], 14)
theorem open_seal (l : List Int) : openL (sealL l) = (l, 0) := by
  rw [openL, if_neg (by simp [sealL, b4_len]), sealL]
  have e : (b4 (sumL l) ++ l).drop 4 = l := List.drop_left' (b4_len _)
  have e2 : (b4 (sumL l) ++ l).take 4 = b4 (sumL l) := List.take_left' (b4_len _)
  rw [e, e2, if_pos rfl]

/-- 2n, or -2n-1. -/
def fold (n : Int) : Nat := if n < 0 then (-(n + 1)).toNat * 2 + 1 else n.toNat * 2
/-- The bytes of a number of at most that many groups. -/
def numB : Nat → Nat → List Int
  | 0, u => [(u : Int)]
  | f + 1, u => if u < 128 then [(u : Int)] else ((u % 128 + 128 : Nat) : Int) :: numB f (u / 128)
def num (n : Int) : List Int := numB 9 (fold n)
def intsB (l : List Int) : List Int := num l.length ++ (l.map num).flatten
theorem fold_lt {n : Int} (h1 : -9223372036854775808 ≤ n) (h2 : n ≤ 9223372036854775807) : fold n < 18446744073709551616 := by
  unfold fold
  split <;> omega
theorem numB_range : ∀ (f u : Nat), u < 128 ^ (f + 1) → ∀ x ∈ numB f u, 0 ≤ x ∧ x ≤ 255
  | 0, u, h, x, hx => by
    simp only [numB, List.mem_singleton] at hx
    omega
  | f + 1, u, h, x, hx => by
    rw [numB] at hx
    split at hx
    · rw [List.mem_singleton] at hx
      omega
    · rcases List.mem_cons.1 hx with rfl | hx
      · omega
      · exact numB_range f (u / 128) (by rw [Nat.div_lt_iff_lt_mul (by omega)]; rw [← Nat.pow_succ]; exact h) x hx
theorem num_range {n : Int} (h1 : -9223372036854775808 ≤ n) (h2 : n ≤ 9223372036854775807) : ∀ x ∈ num n, 0 ≤ x ∧ x ≤ 255 :=
  numB_range 9 _ (Nat.lt_trans (fold_lt h1 h2) (by decide))
theorem numB_len : ∀ (f u : Nat), (numB f u).length ≤ f + 1 ∧ 1 ≤ (numB f u).length
  | 0, u => by simp [numB]
  | f + 1, u => by
    have := numB_len f (u / 128)
    rw [numB]
    split
    · simp
    · simp only [List.length_cons]; omega
end Go.Proofs.Ytkkjjhkhpibaiaa.Im
