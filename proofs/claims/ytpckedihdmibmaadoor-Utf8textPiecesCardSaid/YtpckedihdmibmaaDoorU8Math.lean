/-
  Plain facts on UTF-8 (no program stands here), after chapter 3: forms, the form or ill-formed part at the beginning, decoding, encoding, and that the one undoes the other.
-/
import Derived.Test.YtpckedihdmibmaaDoorCpHex
import Derived.Test.YtpckedihdmibmaaDoorOrder
import Derived.Test.YtpckedihdmibmaaDoorCpScalar
namespace Go.Proofs.YtpckedihdmibmaaDoor.U8

def form8 (c : Int) : List Int :=
  if c < 128 then [c] else if c < 2048 then [192 + c / 64, 128 + c % 64] else if c < 65536 then [224 + c / 4096, 128 + c / 64 % 64, 128 + c % 64]
  else [240 + c / 262144, 128 + c / 4096 % 64, 128 + c / 64 % 64, 128 + c % 64]
def len8 (c : Int) : Nat := if isScalar c = true then (form8 c).length else 0
def esc (c : Int) : List Int := [92, 117, 123] ++ ((hexL c).map (fun b => (b.toNat : Int)) ++ [125])
def known (p : Int) : Bool := decide (1 ≤ p ∧ p ≤ 4)
def sub8 (p c : Int) : List Int := if p = 2 then [239, 191, 189] else if p = 4 then esc c else []
def one8 (p c : Int) : List Int := if isScalar c = true then form8 c else sub8 p c
def encL (p : Int) (l : List Int) : List Int := l.flatMap (one8 p)
/-- The place of the first element without a form; the length if there is none. -/
def bad : List Int → Nat
  | [] => 0
  | c :: r => if isScalar c = true then bad r + 1 else 0
def encR (p : Int) (l : List Int) : List Int × Int × Int := if known p = true then (if p = 1 ∧ bad l < l.length then ([], 9, (bad l : Int)) else (encL p l, 0, 0)) else ([], 8, 0)

/-- How many bytes follow a first byte, and the bounds of the second one. -/
def lead (b : Int) : Nat × Int × Int :=
  if 194 ≤ b ∧ b ≤ 223 then (1, 128, 191) else if b = 224 then (2, 160, 191) else if b = 237 then (2, 128, 159) else if 225 ≤ b ∧ b ≤ 239 then (2, 128, 191)
  else if b = 240 then (3, 144, 191) else if 241 ≤ b ∧ b ≤ 243 then (3, 128, 191) else if b = 244 then (3, 128, 143) else (0, 0, 0)
def bits0 (b : Int) : Int := if (lead b).1 = 1 then b % 32 else if (lead b).1 = 2 then b % 16 else b % 8
def scan (l : List Int) : Nat → Int → Int → Int → Nat → Int × Nat × Bool
  | 0, _, _, v, k => (v, k, true)
  | r + 1, lo, hi, v, k => if k < l.length ∧ lo ≤ l.getD k 0 ∧ l.getD k 0 ≤ hi then scan l r 128 191 (64 * v + l.getD k 0 - 128) (k + 1) else (0, k, false)
def step (l : List Int) : Int × Nat × Bool :=
  if l.length = 0 then (0, 0, false) else if l.getD 0 0 < 128 then (l.getD 0 0, 1, true) else if (lead (l.getD 0 0)).1 = 0 then (0, 1, false)
  else scan l (lead (l.getD 0 0)).1 (lead (l.getD 0 0)).2.1 (lead (l.getD 0 0)).2.2 (bits0 (l.getD 0 0)) 1
def hexd (j : Int) : Int := if j < 10 then 48 + j else 55 + j
def escB (l : List Int) : List Int := l.flatMap fun b => [92, 120, hexd (b / 16), hexd (b % 16)]
def sub8d (p : Int) (part : List Int) : List Int := if p = 2 then [65533] else if p = 4 then escB part else []
def piece (p : Int) (l : List Int) : List Int := if (step l).2.2 = true then [(step l).1] else sub8d p (l.take (step l).2.1)
def dec (p : Int) : Nat → List Int → List Int
  | 0, _ => []
  | f + 1, l => if l.length = 0 then [] else piece p l ++ dec p f (l.drop (step l).2.1)
def decL (p : Int) (l : List Int) : List Int := dec p l.length l
def badF : Nat → List Int → Nat
  | 0, _ => 0
  | f + 1, l => if l.length = 0 then 0 else if (step l).2.2 = true then (step l).2.1 + badF f (l.drop (step l).2.1) else 0
/-- The place of the first ill-formed part; the length if there is none. -/
def badD (l : List Int) : Nat := badF l.length l
def decR (p : Int) (l : List Int) : List Int × Int × Int := if known p = true then (if p = 1 ∧ badD l < l.length then ([], 9, (badD l : Int)) else (decL p l, 0, 0)) else ([], 8, 0)

theorem scan_bounds (l : List Int) : ∀ (r : Nat) (lo hi v : Int) (k : Nat), k ≤ l.length → k ≤ (scan l r lo hi v k).2.1 ∧ (scan l r lo hi v k).2.1 ≤ k + r ∧ (scan l r lo hi v k).2.1 ≤ l.length
  | 0, lo, hi, v, k, h => by simp [scan, h]
  | r + 1, lo, hi, v, k, h => by
    rw [scan]
    split
    · rename_i hc
      have := scan_bounds l r 128 191 (64 * v + l.getD k 0 - 128) (k + 1) hc.1
      omega
    · dsimp only; omega
theorem lead_le (b : Int) : (lead b).1 ≤ 3 := by unfold lead; (repeat' split) <;> simp
theorem step_bounds {l : List Int} (h : 0 < l.length) : 1 ≤ (step l).2.1 ∧ (step l).2.1 ≤ l.length ∧ (step l).2.1 ≤ 4 := by
  have hl := lead_le (l.getD 0 0)
  unfold step
  rw [if_neg (by omega)]
  split
  · dsimp only; omega
  · split
    · dsimp only; omega
    · have := scan_bounds l (lead (l.getD 0 0)).1 (lead (l.getD 0 0)).2.1 (lead (l.getD 0 0)).2.2 (bits0 (l.getD 0 0)) 1 h
      omega
theorem dec_fuel (p : Int) : ∀ (f g : Nat) (l : List Int), l.length ≤ f → l.length ≤ g → dec p f l = dec p g l
  | 0, 0, l, _, _ => rfl
  | 0, g + 1, l, h, _ => by rw [dec, dec, if_pos (by omega)]
  | f + 1, 0, l, _, h => by rw [dec, dec, if_pos (by omega)]
  | f + 1, g + 1, l, h1, h2 => by
    rw [dec, dec]
    split
    · rfl
    · rename_i hl
      have := step_bounds (l := l) (by omega)
      rw [dec_fuel p f g (l.drop (step l).2.1) (by rw [List.length_drop]; omega) (by rw [List.length_drop]; omega)]
theorem decL_nil (p : Int) : decL p [] = [] := rfl
theorem decL_step (p : Int) {l : List Int} (h : 0 < l.length) : decL p l = piece p l ++ decL p (l.drop (step l).2.1) := by
  obtain ⟨n, hn⟩ : ∃ n, l.length = n + 1 := ⟨l.length - 1, by omega⟩
  have hb := step_bounds h
  rw [decL, hn, dec, if_neg (by omega), decL]
  congr 1
  exact dec_fuel p _ _ _ (by rw [List.length_drop]; omega) (Nat.le_refl _)
theorem badF_fuel : ∀ (f g : Nat) (l : List Int), l.length ≤ f → l.length ≤ g → badF f l = badF g l
  | 0, 0, l, _, _ => rfl
  | 0, g + 1, l, h, _ => by rw [badF, badF, if_pos (by omega)]
  | f + 1, 0, l, _, h => by rw [badF, badF, if_pos (by omega)]
  | f + 1, g + 1, l, h1, h2 => by
    rw [badF, badF]
    split
    · rfl
    · rename_i hl
      have := step_bounds (l := l) (by omega)
      rw [badF_fuel f g (l.drop (step l).2.1) (by rw [List.length_drop]; omega) (by rw [List.length_drop]; omega)]
theorem badD_step {l : List Int} (h : 0 < l.length) : badD l = if (step l).2.2 = true then (step l).2.1 + badD (l.drop (step l).2.1) else 0 := by
  obtain ⟨n, hn⟩ : ∃ n, l.length = n + 1 := ⟨l.length - 1, by omega⟩
  have hb := step_bounds h
  rw [badD, hn, badF, if_neg (by omega), badD]
  split
  · congr 1
    exact badF_fuel _ _ _ (by rw [List.length_drop]; omega) (Nat.le_refl _)
  · rfl
theorem badD_nil : badD [] = 0 := rfl
theorem badD_le : ∀ (f : Nat) (l : List Int), l.length ≤ f → badD l ≤ l.length
  | 0, l, h => by obtain rfl : l = [] := List.eq_nil_of_length_eq_zero (by omega); simp [badD_nil]
  | f + 1, l, h => by
    rcases Nat.eq_zero_or_pos l.length with h0 | h0
    · obtain rfl : l = [] := List.eq_nil_of_length_eq_zero h0
      simp [badD_nil]
    · have hb := step_bounds h0
      rw [badD_step h0]
      split
      · have := badD_le f (l.drop (step l).2.1) (by rw [List.length_drop]; omega)
        rw [List.length_drop] at this
        omega
      · omega
theorem hexL_len (c : Int) : (hexL c).length ≤ 6 := by
  unfold hexL
  split
  · rw [digs_length]; exact (nd_range _).2
  · simp
theorem esc_len (c : Int) : (esc c).length ≤ 10 := by
  have := hexL_len c
  unfold esc
  simp
  omega
theorem form8_len (c : Int) : 1 ≤ (form8 c).length ∧ (form8 c).length ≤ 4 := by unfold form8; (repeat' split) <;> simp
theorem one8_len (p c : Int) : (one8 p c).length ≤ 10 := by
  have := form8_len c
  have := esc_len c
  unfold one8 sub8
  repeat' split
  all_goals first | omega | simp
theorem encL_nil (p : Int) : encL p [] = [] := rfl
theorem encL_cons (p c : Int) (r : List Int) : encL p (c :: r) = one8 p c ++ encL p r := rfl
theorem encL_append (p : Int) (a b : List Int) : encL p (a ++ b) = encL p a ++ encL p b := List.flatMap_append
theorem encL_len (p : Int) : ∀ l : List Int, (encL p l).length ≤ 10 * l.length
  | [] => by simp [encL_nil]
  | c :: r => by
    have := one8_len p c
    have := encL_len p r
    rw [encL_cons, List.length_append, List.length_cons]
    omega
theorem escB_len : ∀ l : List Int, (escB l).length = 4 * l.length
  | [] => rfl
  | b :: r => by
    have := escB_len r
    show (_ ++ escB r).length = _
    rw [List.length_append, this]
    simp
    omega
theorem escB_append (a b : List Int) : escB (a ++ b) = escB a ++ escB b := List.flatMap_append
theorem piece_len (p : Int) {l : List Int} (h : 0 < l.length) : (piece p l).length ≤ 4 * (step l).2.1 := by
  have hb := step_bounds h
  unfold piece sub8d
  repeat' split
  · simp; omega
  · simp; omega
  · rw [escB_len, List.length_take]; omega
  · simp
theorem decL_len (p : Int) : ∀ (f : Nat) (l : List Int), l.length ≤ f → (decL p l).length ≤ 4 * l.length
  | 0, l, h => by obtain rfl : l = [] := List.eq_nil_of_length_eq_zero (by omega); simp [decL_nil]
  | f + 1, l, h => by
    rcases Nat.eq_zero_or_pos l.length with h0 | h0
    · obtain rfl : l = [] := List.eq_nil_of_length_eq_zero h0
      simp [decL_nil]
    · have hb := step_bounds h0
      have hp := piece_len p h0
      have := decL_len p f (l.drop (step l).2.1) (by rw [List.length_drop]; omega)
      rw [decL_step p h0, List.length_append]
      rw [List.length_drop] at this
      omega
theorem bad_le : ∀ l : List Int, bad l ≤ l.length
  | [] => Nat.le_refl _
  | c :: r => by
    have := bad_le r
    rw [bad]
    split <;> simp <;> omega
theorem bad_all : ∀ {l : List Int}, bad l = l.length → ∀ c ∈ l, isScalar c = true
  | [], _, c, h => by cases h
  | d :: r, h, c, hc => by
    rw [bad] at h
    split at h
    · rename_i hd
      rcases List.mem_cons.1 hc with rfl | hc
      · exact hd
      · exact bad_all (by simpa using h) c hc
    · simp at h
theorem all_bad : ∀ {l : List Int}, (∀ c ∈ l, isScalar c = true) → bad l = l.length
  | [], _ => rfl
  | d :: r, h => by
    rw [bad, if_pos (h d (List.mem_cons_self ..)), all_bad (fun c hc => h c (List.mem_cons_of_mem _ hc))]
    rfl
theorem bad_take : ∀ {zs : List Int} {k : Nat}, k < zs.length → (∀ j, j < k → isScalar (zs.getD j 0) = true) → isScalar (zs.getD k 0) = false → bad zs = k
  | [], k, h, _, _ => by simp at h
  | c :: r, 0, _, _, h => by
    have : isScalar c = false := h
    rw [bad, this]
    rfl
  | c :: r, k + 1, hk, ha, h => by
    have h0 : isScalar c = true := ha 0 (by omega)
    rw [bad, if_pos h0, bad_take (zs := r) (k := k) (by simpa using hk) (fun j hj => ha (j + 1) (by omega)) h]
theorem bad_none : ∀ {zs : List Int}, (∀ j, j < zs.length → isScalar (zs.getD j 0) = true) → bad zs = zs.length
  | [], _ => rfl
  | c :: r, h => by
    have h0 : isScalar c = true := h 0 (by simp)
    rw [bad, if_pos h0, bad_none (zs := r) (fun j hj => h (j + 1) (by simpa using hj))]
    rfl
theorem enc_take {p : Int} {zs : List Int} {k : Nat} (h : k < zs.length) : encL p (zs.take (k + 1)) = encL p (zs.take k) ++ one8 p (zs.getD k 0) := by
  rw [List.take_succ_eq_append_getElem h, encL_append]
  show _ ++ (one8 p _ ++ []) = _
  rw [List.append_nil]
  simp [List.getD, List.getElem?_eq_getElem h]
end Go.Proofs.YtpckedihdmibmaaDoor.U8
