/-
  Plain facts on UTF-16 (no program stands here), after chapter 4: forms, substitutes, encoding, decoding, faults, and that the one undoes the other.
-/
import Derived.Test.YtjfhhcaikapfiaaDoorCpHex
import Derived.Test.YtjfhhcaikapfiaaDoorOrder
import Derived.Test.YtjfhhcaikapfiaaDoorCpScalar
namespace Go.Proofs.YtjfhhcaikapfiaaDoor.Ux

def form (c : Int) : List Int := if c < 65536 then [c] else [55296 + (c - 65536) / 1024, 56320 + (c - 65536) % 1024]
def esc (c : Int) : List Int := [92, 117, 123] ++ ((hexL c).map (fun b => (b.toNat : Int)) ++ [125])
def sub (c p : Int) : List Int := if p = 2 then [65533] else if p = 4 then esc c else []
def high (u : Int) : Bool := decide (55296 ≤ u ∧ u ≤ 56319)
def low (u : Int) : Bool := decide (56320 ≤ u ∧ u ≤ 57343)
def unit (u : Int) : Bool := decide (0 ≤ u ∧ u ≤ 65535 ∧ ¬ (55296 ≤ u ∧ u ≤ 57343))
def pairv (u v : Int) : Int := 65536 + (u - 55296) * 1024 + v - 56320
def known (p : Int) : Bool := decide (1 ≤ p ∧ p ≤ 4)
/-- What an element becomes. -/
def one (p c : Int) : List Int := if isScalar c = true then form c else sub c p
def encL (p : Int) (l : List Int) : List Int := l.flatMap (one p)
/-- The place of the first element without a form; the length if there is none. -/
def bad : List Int → Nat
  | [] => 0
  | c :: r => if isScalar c = true then bad r + 1 else 0
/-- What Encode returns: the units, the fault's error and place. -/
def encR (p : Int) (l : List Int) : List Int × Int × Int := if known p = true then (if p = 1 ∧ bad l < l.length then ([], 9, (bad l : Int)) else (encL p l, 0, 0)) else ([], 8, 0)
def decL (p : Int) : List Int → List Int
  | [] => []
  | [u] => if unit u = true then [u] else sub u p
  | u :: v :: r => if unit u = true then u :: decL p (v :: r) else if high u = true ∧ low v = true then pairv u v :: decL p r else sub u p ++ decL p (v :: r)
/-- The place of the first ill-formed unit; the length if there is none. -/
def badD : List Int → Nat
  | [] => 0
  | [u] => if unit u = true then 1 else 0
  | u :: v :: r => if unit u = true then badD (v :: r) + 1 else if high u = true ∧ low v = true then badD r + 2 else 0
def decR (p : Int) (l : List Int) : List Int × Int × Int := if known p = true then (if p = 1 ∧ badD l < l.length then ([], 9, (badD l : Int)) else (decL p l, 0, 0)) else ([], 8, 0)

theorem form_len (c : Int) : (form c).length ≤ 2 := by unfold form; split <;> simp
theorem hexL_len (c : Int) : (hexL c).length ≤ 6 := by
  unfold hexL
  split
  · rw [digs_length]; exact (nd_range _).2
  · simp
theorem esc_len (c : Int) : (esc c).length ≤ 10 := by
  have := hexL_len c
  unfold esc
  simp
  omega
theorem sub_len (c p : Int) : (sub c p).length ≤ 10 := by
  have := esc_len c
  unfold sub
  repeat' split
  · simp
  · exact this
  · simp
theorem one_len (p c : Int) : (one p c).length ≤ 10 := by
  have := sub_len c p
  have := form_len c
  unfold one
  split <;> omega
theorem encL_nil (p : Int) : encL p [] = [] := rfl
theorem encL_cons (p c : Int) (r : List Int) : encL p (c :: r) = one p c ++ encL p r := rfl
theorem encL_append (p : Int) (a b : List Int) : encL p (a ++ b) = encL p a ++ encL p b := List.flatMap_append
theorem encL_len (p : Int) : ∀ l : List Int, (encL p l).length ≤ 10 * l.length
  | [] => by simp [encL_nil]
  | c :: r => by
    have := one_len p c
    have := encL_len p r
    rw [encL_cons, List.length_append, List.length_cons]
    omega
theorem bad_le : ∀ l : List Int, bad l ≤ l.length
  | [] => Nat.le_refl _
  | c :: r => by
    have := bad_le r
    rw [bad]
    split <;> simp <;> omega
theorem bad_all : ∀ {l : List Int}, bad l = l.length → ∀ c ∈ l, isScalar c = true
  | [], _, c, h => by cases h
  | d :: r, h, c, hc => by
    rw [bad] at h
    split at h
    · rename_i hd
      rcases List.mem_cons.1 hc with rfl | hc
      · exact hd
      · exact bad_all (by simpa using h) c hc
    · simp at h
theorem all_bad : ∀ {l : List Int}, (∀ c ∈ l, isScalar c = true) → bad l = l.length
  | [], _ => rfl
  | d :: r, h => by
    rw [bad, if_pos (h d (List.mem_cons_self ..)), all_bad (fun c hc => h c (List.mem_cons_of_mem _ hc))]
    rfl
theorem form_unit {c : Int} (h : isScalar c = true) (hc : c < 65536) : unit c = true := by
  rw [isScalar_iff] at h
  simp [unit]
  omega
theorem form_pair {c : Int} (h : isScalar c = true) (hc : ¬ c < 65536) :
    high (55296 + (c - 65536) / 1024) = true ∧ low (56320 + (c - 65536) % 1024) = true ∧ pairv (55296 + (c - 65536) / 1024) (56320 + (c - 65536) % 1024) = c ∧ ¬ unit (55296 + (c - 65536) / 1024) = true := by
  rw [isScalar_iff] at h
  simp only [high, low, unit, pairv, decide_eq_true_eq]
  omega
theorem decL_unit {p u : Int} (h : unit u = true) (r : List Int) : decL p (u :: r) = u :: decL p r := by
  cases r with
  | nil => simp [decL, h]
  | cons v r => rw [decL, if_pos h]
theorem badD_unit {u : Int} (h : unit u = true) (r : List Int) : badD (u :: r) = badD r + 1 := by
  cases r with
  | nil => simp [badD, h]
  | cons v r => rw [badD, if_pos h]
theorem decL_pair {p u v : Int} (h : ¬ unit u = true) (hu : high u = true) (hv : low v = true) (r : List Int) : decL p (u :: v :: r) = pairv u v :: decL p r := by rw [decL, if_neg h, if_pos ⟨hu, hv⟩]
theorem badD_pair {u v : Int} (h : ¬ unit u = true) (hu : high u = true) (hv : low v = true) (r : List Int) : badD (u :: v :: r) = badD r + 2 := by rw [badD, if_neg h, if_pos ⟨hu, hv⟩]
theorem decL_form (p : Int) {c : Int} (h : isScalar c = true) (r : List Int) : decL p (form c ++ r) = c :: decL p r := by
  unfold form
  split
  · rename_i hc
    exact decL_unit (form_unit h hc) r
  · rename_i hc
    obtain ⟨h1, h2, h3, h4⟩ := form_pair h hc
    show decL p (_ :: _ :: r) = _
    rw [decL_pair h4 h1 h2, h3]
theorem badD_form {c : Int} (h : isScalar c = true) (r : List Int) : badD (form c ++ r) = badD r + (form c).length := by
  unfold form
  split
  · rename_i hc
    exact badD_unit (form_unit h hc) r
  · rename_i hc
    obtain ⟨h1, h2, h3, h4⟩ := form_pair h hc
    show badD (_ :: _ :: r) = _
    rw [badD_pair h4 h1 h2]
    rfl
/-- Decoding undoes encoding. -/
theorem dec_enc (p q : Int) : ∀ {l : List Int}, (∀ c ∈ l, isScalar c = true) → decL p (encL q l) = l ∧ badD (encL q l) = (encL q l).length
  | [], _ => ⟨rfl, rfl⟩
  | c :: r, h => by
    have hc := h c (List.mem_cons_self ..)
    obtain ⟨h1, h2⟩ := dec_enc p q (l := r) (fun d hd => h d (List.mem_cons_of_mem _ hd))
    rw [encL_cons, one, if_pos hc, decL_form p hc, badD_form hc, h1, h2, List.length_append]
    exact ⟨rfl, by omega⟩
theorem unit_scalar {u : Int} (h : unit u = true) : isScalar u = true ∧ form u = [u] := by
  simp only [unit, decide_eq_true_eq] at h
  refine ⟨isScalar_iff.2 (by omega), ?_⟩
  unfold form
  rw [if_pos (by omega)]
theorem pair_scalar {u v : Int} (hu : high u = true) (hv : low v = true) : isScalar (pairv u v) = true ∧ form (pairv u v) = [u, v] := by
  simp only [high, low, decide_eq_true_eq] at hu hv
  refine ⟨isScalar_iff.2 (by unfold pairv; omega), ?_⟩
  unfold form
  rw [if_neg (by unfold pairv; omega)]
  simp only [List.cons.injEq, and_true]
  unfold pairv
  omega
/-- Encoding undoes decoding, if there is no fault. -/
theorem enc_dec (p q : Int) : ∀ (l : List Int), badD l = l.length → encL q (decL p l) = l ∧ ∀ c ∈ decL p l, isScalar c = true
  | [], _ => ⟨rfl, fun c h => by cases h⟩
  | [u], h => by
    by_cases hu : unit u = true
    · obtain ⟨h1, h2⟩ := unit_scalar hu
      rw [decL, if_pos hu]
      refine ⟨by rw [encL_cons, encL_nil, one, if_pos h1, h2]; rfl, fun c hc => ?_⟩
      obtain rfl : c = u := by simpa using hc
      exact h1
    · rw [badD, if_neg hu] at h
      simp at h
  | u :: v :: r, h => by
    by_cases hu : unit u = true
    · obtain ⟨h1, h2⟩ := unit_scalar hu
      rw [badD_unit hu] at h
      obtain ⟨i1, i2⟩ := enc_dec p q (v :: r) (by simpa using h)
      rw [decL_unit hu]
      refine ⟨by rw [encL_cons, one, if_pos h1, h2, i1]; rfl, fun c hc => ?_⟩
      rcases List.mem_cons.1 hc with rfl | hc
      · exact h1
      · exact i2 c hc
    · by_cases hp : high u = true ∧ low v = true
      · obtain ⟨h1, h2⟩ := pair_scalar hp.1 hp.2
        rw [badD_pair hu hp.1 hp.2] at h
        obtain ⟨i1, i2⟩ := enc_dec p q r (by simpa using h)
        rw [decL_pair hu hp.1 hp.2]
        refine ⟨by rw [encL_cons, one, if_pos h1, h2, i1]; rfl, fun c hc => ?_⟩
        rcases List.mem_cons.1 hc with rfl | hc
        · exact h1
        · exact i2 c hc
      · rw [badD, if_neg hu, if_neg hp] at h
        simp at h
/-- Without a fault the policy does not matter. -/
theorem dec_same (p q : Int) : ∀ (l : List Int), badD l = l.length → decL p l = decL q l
  | [], _ => rfl
  | [u], h => by
    by_cases hu : unit u = true
    · rw [decL, decL, if_pos hu, if_pos hu]
    · rw [badD, if_neg hu] at h
      simp at h
  | u :: v :: r, h => by
    by_cases hu : unit u = true
    · rw [badD_unit hu] at h
      rw [decL_unit hu, decL_unit hu, dec_same p q (v :: r) (by simpa using h)]
    · by_cases hp : high u = true ∧ low v = true
      · rw [badD_pair hu hp.1 hp.2] at h
        rw [decL_pair hu hp.1 hp.2, decL_pair hu hp.1 hp.2, dec_same p q r (by simpa using h)]
      · rw [badD, if_neg hu, if_neg hp] at h
        simp at h
theorem badD_le : ∀ l : List Int, badD l ≤ l.length
  | [] => Nat.le_refl _
  | [u] => by rw [badD]; split <;> simp
  | u :: v :: r => by
    have h1 := badD_le (v :: r)
    have h2 := badD_le r
    rw [badD]
    repeat' split
    · simp at h1 ⊢; omega
    · simp; omega
    · simp
/-- What decoding with Replace gives can be encoded. -/
theorem dec_scalars : ∀ (l : List Int), ∀ c ∈ decL 2 l, isScalar c = true
  | [], c, h => by cases h
  | [u], c, h => by
    rw [decL] at h
    split at h
    · rename_i hu
      obtain rfl : c = u := by simpa using h
      exact (unit_scalar hu).1
    · obtain rfl : c = 65533 := by simpa [sub] using h
      decide
  | u :: v :: r, c, h => by
    by_cases hu : unit u = true
    · rw [decL_unit hu] at h
      rcases List.mem_cons.1 h with rfl | h
      · exact (unit_scalar hu).1
      · exact dec_scalars (v :: r) c h
    · by_cases hp : high u = true ∧ low v = true
      · rw [decL_pair hu hp.1 hp.2] at h
        rcases List.mem_cons.1 h with rfl | h
        · exact (pair_scalar hp.1 hp.2).1
        · exact dec_scalars r c h
      · rw [decL, if_neg hu, if_neg hp] at h
        rcases List.mem_append.1 h with h | h
        · obtain rfl : c = 65533 := by simpa [sub] using h
          decide
        · exact dec_scalars (v :: r) c h
/-- Pieces that are not cut within a pair. -/
theorem dec_append (p : Int) : ∀ (a b : List Int), ¬ (∃ u v, a.getLast? = some u ∧ b.head? = some v ∧ high u = true ∧ low v = true) → decL p (a ++ b) = decL p a ++ decL p b
  | [], b, _ => rfl
  | [u], [], _ => by rw [List.append_nil, decL]; simp
  | [u], v :: r, h => by
    have hp : ¬ (high u = true ∧ low v = true) := fun ⟨h1, h2⟩ => h ⟨u, v, rfl, rfl, h1, h2⟩
    show decL p (u :: v :: r) = decL p [u] ++ decL p (v :: r)
    rw [decL, decL]
    split
    · rfl
    · first | rfl | rw [if_neg hp]
  | u :: v :: r, b, h => by
    have hl : (u :: v :: r).getLast? = (v :: r).getLast? := by simp
    by_cases hu : unit u = true
    · rw [List.cons_append, decL_unit hu, decL_unit hu, dec_append p (v :: r) b (by rw [← hl]; exact h)]
      rfl
    · by_cases hp : high u = true ∧ low v = true
      · show decL p (u :: v :: (r ++ b)) = _
        rw [decL_pair hu hp.1 hp.2, decL_pair hu hp.1 hp.2]
        cases r with
        | nil => simp [decL]
        | cons x r =>
          rw [dec_append p (x :: r) b (by
            have hl2 : (u :: v :: x :: r).getLast? = (x :: r).getLast? := by simp
            rw [← hl2]; exact h)]
          rfl
      · show decL p (u :: v :: (r ++ b)) = _
        rw [decL, if_neg hu, if_neg hp, decL, if_neg hu, if_neg hp, List.append_assoc]
        congr 1
        exact dec_append p (v :: r) b (by rw [← hl]; exact h)
/-- One step of decoding at a place. -/
theorem drop2 {l : List Int} {i : Nat} (h : i + 1 < l.length) : l.drop i = l.getD i 0 :: l.getD (i + 1) 0 :: l.drop (i + 2) := by
  rw [drop_at (by omega : i < l.length), drop_at h]
theorem step_unit {p : Int} {l : List Int} {i : Nat} (h : i < l.length) (hu : unit (l.getD i 0) = true) : decL p (l.drop i) = [l.getD i 0] ++ decL p (l.drop (i + 1)) ∧ badD (l.drop i) = badD (l.drop (i + 1)) + 1 := by
  rw [drop_at h, decL_unit hu, badD_unit hu]
  exact ⟨rfl, rfl⟩
theorem step_pair {p : Int} {l : List Int} {i : Nat} (h : i + 1 < l.length) (hu : high (l.getD i 0) = true) (hv : low (l.getD (i + 1) 0) = true) :
    decL p (l.drop i) = [pairv (l.getD i 0) (l.getD (i + 1) 0)] ++ decL p (l.drop (i + 2)) ∧ badD (l.drop i) = badD (l.drop (i + 2)) + 2 := by
  have hn : ¬ unit (l.getD i 0) = true := by simp only [high, unit, decide_eq_true_eq] at hu ⊢; omega
  rw [drop2 h, decL_pair hn hu hv, badD_pair hn hu hv]
  exact ⟨rfl, rfl⟩
theorem step_bad {p : Int} {l : List Int} {i : Nat} (h : i < l.length) (hn : ¬ unit (l.getD i 0) = true) (hp : ¬ (i + 1 < l.length ∧ high (l.getD i 0) = true ∧ low (l.getD (i + 1) 0) = true)) :
    decL p (l.drop i) = sub (l.getD i 0) p ++ decL p (l.drop (i + 1)) ∧ badD (l.drop i) = 0 := by
  by_cases hlt : i + 1 < l.length
  · rw [drop2 hlt, decL, badD, if_neg hn, if_neg hn, if_neg (fun ⟨a, b⟩ => hp ⟨hlt, a, b⟩), if_neg (fun ⟨a, b⟩ => hp ⟨hlt, a, b⟩), drop_at hlt]
    exact ⟨rfl, rfl⟩
  · have e : l.drop (i + 1) = [] := List.drop_eq_nil_of_le (by omega)
    rw [drop_at h, e]
    generalize l.getD i 0 = u at hn
    exact ⟨by simp [decL, hn], by simp [badD, hn]⟩
end Go.Proofs.YtjfhhcaikapfiaaDoor.Ux
