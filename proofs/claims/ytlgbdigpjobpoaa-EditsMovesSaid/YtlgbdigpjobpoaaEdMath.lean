/-
  Plain facts on edits of sequences (no program stands here), after chapter 53.
-/
import Derived.NoCompiler
namespace Go.Proofs.Ytlgbdigpjobpoaa.Ed

def chk (a d s : Int) : Int := if a < 0 ∨ d < 0 ∨ s < a ∨ s - a < d then 1 else 0
def app (a d : Int) (ins zs : List Int) : List Int := zs.take a.toNat ++ ins ++ zs.drop (a + d).toNat
def cutE (a d : Int) (zs : List Int) : List Int := (zs.drop a.toNat).take d.toNat
def shf (a d n p : Int) : Int := if a < 0 ∨ d < 0 ∨ p ≤ a then p else if p - a < d then a else p - d + n
theorem chk_zero {a d s : Int} : chk a d s = 0 ↔ 0 ≤ a ∧ 0 ≤ d ∧ a ≤ s ∧ d ≤ s - a := by unfold chk; split <;> omega
theorem chk_one {a d s : Int} : chk a d s = 1 ↔ a < 0 ∨ d < 0 ∨ s < a ∨ s - a < d := by unfold chk; split <;> omega
theorem chk_cases (a d s : Int) : chk a d s = 0 ∨ chk a d s = 1 := by unfold chk; split <;> simp
/-- The length of the common beginning. -/
def pre : List Int → List Int → Nat
  | a :: as, b :: bs => if a = b then pre as bs + 1 else 0
  | _, _ => 0
/-- The length of the common end of what is left behind the common beginning. -/
def suf (xs ys : List Int) : Nat := pre (xs.drop (pre xs ys)).reverse (ys.drop (pre xs ys)).reverse
theorem drop_cons {xs : List Int} {k : Nat} (h : k < xs.length) : xs.drop k = xs.getD k 0 :: xs.drop (k + 1) := by
  rw [List.drop_eq_getElem_cons h]
  simp [List.getD, List.getElem?_eq_getElem h]
theorem pre_step {xs ys : List Int} {k : Nat} (hx : k < xs.length) (hy : k < ys.length) (h : xs.getD k 0 = ys.getD k 0) : pre (xs.drop k) (ys.drop k) = pre (xs.drop (k + 1)) (ys.drop (k + 1)) + 1 := by
  rw [drop_cons hx, drop_cons hy, pre, if_pos h]
theorem pre_differ {xs ys : List Int} {k : Nat} (hx : k < xs.length) (hy : k < ys.length) (h : ¬ xs.getD k 0 = ys.getD k 0) : pre (xs.drop k) (ys.drop k) = 0 := by
  rw [drop_cons hx, drop_cons hy, pre, if_neg h]
theorem pre_nil (ys : List Int) : pre [] ys = 0 := by unfold pre; rfl
theorem pre_nil' (xs : List Int) : pre xs [] = 0 := by cases xs <;> (unfold pre; rfl)
theorem pre_end {xs ys : List Int} {k : Nat} (h : xs.length ≤ k ∨ ys.length ≤ k) : pre (xs.drop k) (ys.drop k) = 0 := by
  rcases h with h | h
  · rw [List.drop_eq_nil_of_le h, pre_nil]
  · rw [List.drop_eq_nil_of_le h, pre_nil']
theorem pre_le : ∀ xs ys : List Int, pre xs ys ≤ xs.length ∧ pre xs ys ≤ ys.length
  | [], ys => by rw [pre_nil]; simp
  | a :: as, [] => by rw [pre_nil']; simp
  | a :: as, b :: bs => by
    have := pre_le as bs
    rw [pre]
    split <;> simp <;> omega
theorem rev_at {xs : List Int} {p e : Nat} (h : p + e < xs.length) : (xs.drop p).reverse.getD e 0 = xs.getD (xs.length - 1 - e) 0 := by
  have h1 : e < (xs.drop p).reverse.length := by simp; omega
  have h2 : xs.length - 1 - e < xs.length := by omega
  rw [List.getD, List.getElem?_eq_getElem h1, List.getD, List.getElem?_eq_getElem h2]
  simp only [Option.getD_some, List.getElem_reverse, List.getElem_drop, List.length_drop]
  congr 1
  omega
theorem rev_length (xs : List Int) (p : Nat) : (xs.drop p).reverse.length = xs.length - p := by simp
end Go.Proofs.Ytlgbdigpjobpoaa.Ed
