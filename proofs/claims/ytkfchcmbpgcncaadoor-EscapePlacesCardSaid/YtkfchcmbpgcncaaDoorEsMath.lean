/-
  Plain facts on sequences of code points written in ASCII (no program stands here): the literal of a text, reading a literal, and what holds of both.
-/
import Derived.Test.YtkfchcmbpgcncaaDoorCpHex
namespace Go.Proofs.YtkfchcmbpgcncaaDoor

/-- A number as a byte. -/
def u8 (c : Int) : UInt8 := UInt8.ofNat c.toNat
/-- Without the zeros at the beginning. -/
def trimZ (l : List UInt8) : List UInt8 := l.dropWhile (· == 48)
/-- How a literal has a code point. -/
def itemL (c : Int) : List UInt8 :=
  if c = 34 ∨ c = 92 then [92, u8 c] else if 32 ≤ c ∧ c ≤ 126 then [u8 c] else if c = 0 then [92, 117, 123, 48, 125] else [92, 117, 123] ++ trimZ (hexL c) ++ [125]
/-- The literal of a text. -/
def textL (t : List Int) : List UInt8 := 34 :: (t.flatMap itemL ++ [34])

/-- The value of a hexadecimal digit, small ones too, or -1. -/
def dig2 (b : Int) : Int := if 48 ≤ b ∧ b ≤ 57 then b - 48 else if 65 ≤ b ∧ b ≤ 70 then b - 55 else if 97 ≤ b ∧ b ≤ 102 then b - 87 else -1
/-- The value and the number of at most f digits. -/
def rdig : Nat → List UInt8 → Int → Nat → Int × Nat
  | 0, _, c, n => (c, n)
  | _ + 1, [], c, n => (c, n)
  | f + 1, b :: r, c, n => if dig2 b.toNat < 0 then (c, n) else rdig f r (c * 16 + dig2 b.toNat) (n + 1)
/-- Behind the digits of an escape. -/
def escE (l : List UInt8) (c : Int) (d : Nat) : Int × Nat × Int :=
  if isCode c = false then (0, 0, 2) else if 3 + d = l.length then (0, 0, 1) else if d = 0 ∨ l.getD (3 + d) 0 ≠ 125 then (0, 0, 2) else (c, 3 + d + 1, 0)
/-- What the backslash at the beginning begins: the code point, the number of bytes, the state (0 complete, 1 unfinished, 2 wrong). -/
def escR (l : List UInt8) : Int × Nat × Int :=
  if 2 ≤ l.length ∧ (l.getD 1 0 = 34 ∨ l.getD 1 0 = 92) then ((l.getD 1 0).toNat, 2, 0)
  else if l.length < 3 then (0, 0, if l.isPrefixOf [92, 117, 123] then 1 else 2)
  else if [92, 117, 123].isPrefixOf l = false then (0, 0, 2)
  else escE l (rdig 6 (l.drop 3) 0 0).1 (rdig 6 (l.drop 3) 0 0).2
/-- What a reading gives: the text, the error's number, its place. -/
structure Out where
  t : List Int
  e : Int
  at' : Nat
def litGo : Nat → List UInt8 → Nat → List Int → Out
  | 0, _, k, _ => ⟨[], 3, k⟩
  | _ + 1, [], k, _ => ⟨[], 3, k⟩
  | f + 1, b :: r, k, acc =>
    if b = 34 then (if r = [] then ⟨acc, 0, 0⟩ else ⟨[], 3, k + 1⟩)
    else if b = 92 then
      (if (escR (b :: r)).2.2 = 2 then ⟨[], 3, k⟩ else if (escR (b :: r)).2.2 = 1 then ⟨[], 3, k + (b :: r).length⟩
       else litGo f ((b :: r).drop (escR (b :: r)).2.1) (k + (escR (b :: r)).2.1) (acc ++ [(escR (b :: r)).1]))
    else if 32 ≤ b.toNat ∧ b.toNat ≤ 126 then litGo f r (k + 1) (acc ++ [(b.toNat : Int)])
    else ⟨[], 3, k⟩
/-- Reading a literal. -/
def litR (l : List UInt8) : Out := if l.head? = some 34 then litGo l.length (l.drop 1) 1 [] else ⟨[], 3, 0⟩

theorem dig2_range (b : Int) : -1 ≤ dig2 b ∧ dig2 b ≤ 15 := by
  unfold dig2; repeat' split
  all_goals omega
theorem dig2_of {b : Int} (h : 0 ≤ dig b) : dig2 b = dig b := by
  unfold dig at h ⊢; unfold dig2
  repeat' split
  all_goals first | rfl | omega | (split at h <;> omega)
theorem dig2_bound {b : Int} (h : 0 ≤ dig2 b) : 48 ≤ b ∧ b ≤ 102 := by
  unfold dig2 at h
  repeat' split at h
  all_goals omega

theorem rdig_n : ∀ (f : Nat) (l : List UInt8) (c : Int) (n : Nat), n ≤ (rdig f l c n).2 ∧ (rdig f l c n).2 ≤ n + f ∧ (rdig f l c n).2 ≤ n + l.length
  | 0, _, _, _ => by simp [rdig]
  | _ + 1, [], _, _ => by simp [rdig]
  | f + 1, b :: r, c, n => by
    simp only [rdig]
    split
    · simp
    · have := rdig_n f r (c * 16 + dig2 b.toNat) (n + 1)
      simp only [List.length_cons]
      omega
theorem rdig_pos : ∀ (f : Nat) (l : List UInt8) (c : Int) (n : Nat), 0 ≤ c → 0 ≤ (rdig f l c n).1
  | 0, _, _, _, h => h
  | _ + 1, [], _, _, h => h
  | f + 1, b :: r, c, n, h => by
    simp only [rdig]
    split
    · exact h
    · exact rdig_pos f r _ _ (by omega)
/-- Digits and then something that is none: they are read, if they are not too many. -/
theorem rdig_all : ∀ (ds : List UInt8) (f : Nat) (r : List UInt8) (c : Int) (n : Nat), ds.length ≤ f → (∀ b ∈ ds, 0 ≤ dig2 b.toNat) → (∀ b, r.head? = some b → dig2 b.toNat < 0) →
    rdig f (ds ++ r) c n = (ds.foldl (fun c b => c * 16 + dig2 b.toNat) c, n + ds.length)
  | [], f, r, c, n, _, _, hr => by
    cases f with
    | zero => simp [rdig]
    | succ f =>
      cases r with
      | nil => simp [rdig]
      | cons b r => simp [rdig, hr b rfl]
  | b :: ds, f, r, c, n, hf, hd, hr => by
    cases f with
    | zero => simp at hf
    | succ f =>
      have hb := hd b (by simp)
      have ih := rdig_all ds f r (c * 16 + dig2 b.toNat) (n + 1) (by simp at hf; omega) (fun x hx => hd x (by simp [hx])) hr
      simp only [List.cons_append, rdig, if_neg (show ¬ dig2 b.toNat < 0 by omega), ih, List.foldl_cons, List.length_cons]
      congr 1
      omega
/-- Only the bytes that were read and the one behind them matter. -/
theorem rdig_take : ∀ (f : Nat) (l : List UInt8) (c : Int) (n m : Nat), (rdig f l c n).2 < n + m → rdig f (l.take m) c n = rdig f l c n
  | 0, _, _, _, _, _ => by simp [rdig]
  | f + 1, [], c, n, m, h => by simp [rdig]
  | f + 1, b :: r, c, n, m, h => by
    cases m with
    | zero => have := (rdig_n (f + 1) (b :: r) c n).1; omega
    | succ m =>
      simp only [List.take_succ_cons, rdig] at h ⊢
      split
      · rfl
      · rename_i hd
        rw [if_neg hd] at h
        exact rdig_take f r _ _ m (by omega)

theorem escE_cases (l : List UInt8) (c : Int) (d : Nat) :
    (escE l c d = (0, 0, 2)) ∨ (escE l c d = (0, 0, 1) ∧ 3 + d = l.length) ∨ (escE l c d = (c, 3 + d + 1, 0) ∧ isCode c = true ∧ 3 + d ≠ l.length ∧ d ≠ 0 ∧ l.getD (3 + d) 0 = 125) := by
  unfold escE
  by_cases h1 : isCode c = false
  · rw [if_pos h1]; exact .inl rfl
  · rw [if_neg h1]
    by_cases h2 : 3 + d = l.length
    · rw [if_pos h2]; exact .inr (.inl ⟨rfl, h2⟩)
    · rw [if_neg h2]
      by_cases h3 : d = 0 ∨ l.getD (3 + d) 0 ≠ 125
      · rw [if_pos h3]; exact .inl rfl
      · rw [if_neg h3]
        refine .inr (.inr ⟨rfl, by simpa using h1, h2, fun e => h3 (.inl e), ?_⟩)
        exact Decidable.byContradiction fun e => h3 (.inr e)

/-- What a complete escape is. -/
theorem escR_done {l : List UInt8} (h : (escR l).2.2 ≠ 2) (h' : (escR l).2.2 ≠ 1) : isCode (escR l).1 = true ∧ 2 ≤ (escR l).2.1 ∧ (escR l).2.1 ≤ l.length ∧ (escR l).2.2 = 0 := by
  unfold escR at h h' ⊢
  split
  · rename_i h1
    refine ⟨?_, by simp, by simpa using h1.1, rfl⟩
    have := (l.getD 1 0).toNat_lt
    show isCode ((l.getD 1 0).toNat : Int) = true
    simp only [isCode, decide_eq_true_eq]
    omega
  · rename_i h1
    rw [if_neg h1] at h h'
    split
    · rename_i h2
      rw [if_pos h2] at h h'
      simp only at h h'
      split at h <;> simp_all
    · rename_i h2
      rw [if_neg h2] at h h'
      split
      · rename_i h3
        rw [if_pos h3] at h
        exact absurd rfl h
      · rename_i h3
        rw [if_neg h3] at h h'
        have hn := rdig_n 6 (l.drop 3) 0 0
        rcases escE_cases l (rdig 6 (l.drop 3) 0 0).1 (rdig 6 (l.drop 3) 0 0).2 with e | ⟨e, _⟩ | ⟨e, hc, hne, hd, hb⟩
        · rw [e] at h; exact absurd rfl h
        · rw [e] at h'; exact absurd rfl h'
        · rw [e]
          simp only [List.length_drop] at hn
          generalize (rdig 6 (l.drop 3) 0 0).2 = q at *
          exact ⟨hc, show 2 ≤ 3 + q + 1 by omega, show 3 + q + 1 ≤ l.length by omega, rfl⟩

/-- A complete escape hangs on its own bytes alone. -/
theorem escR_take {l : List UInt8} {m : Nat} (h : (escR l).2.2 = 0) (hm : (escR l).2.1 ≤ m) : escR (l.take m) = escR l := by
  have hd := escR_done (l := l) (by omega) (by omega)
  obtain ⟨_, h2, hl, _⟩ := hd
  by_cases h1 : 2 ≤ l.length ∧ (l.getD 1 0 = 34 ∨ l.getD 1 0 = 92)
  · have e : escR l = (((l.getD 1 0).toNat : Int), 2, 0) := by unfold escR; rw [if_pos h1]
    have hg : (l.take m).getD 1 0 = l.getD 1 0 := by simp only [List.getD, List.getElem?_take]; rw [if_pos (by omega)]
    rw [e]
    unfold escR
    rw [if_pos ⟨by rw [List.length_take]; omega, by rw [hg]; exact h1.2⟩, hg]
  · by_cases h3 : l.length < 3
    · exfalso
      unfold escR at h
      rw [if_neg h1, if_pos h3] at h
      simp only at h
      split at h <;> omega
    · by_cases h4 : [92, 117, 123].isPrefixOf l = false
      · exfalso
        unfold escR at h
        rw [if_neg h1, if_neg h3, if_pos h4] at h
        simp at h
      · have e : escR l = escE l (rdig 6 (l.drop 3) 0 0).1 (rdig 6 (l.drop 3) 0 0).2 := by
          unfold escR
          rw [if_neg h1, if_neg h3, if_neg h4]
        rw [e] at h hm ⊢
        rcases escE_cases l (rdig 6 (l.drop 3) 0 0).1 (rdig 6 (l.drop 3) 0 0).2 with e' | ⟨e', _⟩ | ⟨e', hc, hne, hd, hb⟩
        · rw [e'] at h; simp at h
        · rw [e'] at h; simp at h
        · rw [e'] at hm
          simp only at hm
          have hg : ∀ i, i < m → (l.take m).getD i 0 = l.getD i 0 := fun i hi => by simp only [List.getD, List.getElem?_take]; rw [if_pos hi]
          have hdr : (l.take m).drop 3 = (l.drop 3).take (m - 3) := by rw [List.drop_take]
          have hrd : rdig 6 ((l.take m).drop 3) 0 0 = rdig 6 (l.drop 3) 0 0 := by rw [hdr]; exact rdig_take _ _ _ _ _ (by omega)
          have hn := rdig_n 6 (l.drop 3) 0 0
          simp only [List.length_drop] at hn
          have hlen : (l.take m).length = min m l.length := List.length_take
          have h4' : ¬ [92, 117, 123].isPrefixOf (l.take m) = false := by
            intro h5
            apply h4
            rw [← h5]
            obtain ⟨k, rfl⟩ : ∃ k, m = k + 3 := ⟨m - 3, by omega⟩
            match l, (by omega : 3 ≤ l.length) with
            | a :: b :: c :: r, _ => simp [List.isPrefixOf]
          unfold escR
          rw [if_neg (by rw [hg 1 (by omega)]; intro hh; exact h1 ⟨by omega, hh.2⟩), if_neg (by omega), if_neg h4', hrd, e']
          unfold escE
          rw [if_neg (by simp [hc]), if_neg (by omega), if_neg (by rw [hg _ (by omega)]; intro hh; exact hh.elim hd (fun hh => hh hb))]

/-- Enough fuel is enough. -/
theorem litGo_fuel : ∀ (f : Nat) (r : List UInt8) (k : Nat) (acc : List Int), r.length < f → litGo f r k acc = litGo (r.length + 1) r k acc := by
  suffices hs : ∀ (n : Nat) (r : List UInt8), r.length ≤ n → ∀ (f g k : Nat) (acc : List Int), r.length < f → r.length < g → litGo f r k acc = litGo g r k acc from
    fun f r k acc h => hs r.length r (Nat.le_refl _) f _ k acc h (by omega)
  intro n
  induction n with
  | zero =>
    intro r hr f g k acc hf hg
    have : r = [] := List.eq_nil_of_length_eq_zero (by omega)
    subst this
    cases f with
    | zero => omega
    | succ f => cases g with
      | zero => omega
      | succ g => rfl
  | succ n ih =>
    intro r hr f g k acc hf hg
    cases f with
    | zero => omega
    | succ f => cases g with
      | zero => omega
      | succ g =>
        cases r with
        | nil => rfl
        | cons b r =>
          simp only [List.length_cons] at hr hf hg
          simp only [litGo]
          split
          · rfl
          · split
            · split
              · rfl
              · split
                · rfl
                · rename_i h1 h2
                  have hd := escR_done h1 h2
                  refine ih _ ?_ _ _ _ _ ?_ ?_ <;> simp only [List.length_drop, List.length_cons] <;> omega
            · split
              · exact ih _ (by omega) _ _ _ _ (by omega) (by omega)
              · rfl
/-- The reading from here on. -/
def lit (r : List UInt8) (k : Nat) (acc : List Int) : Out := litGo (r.length + 1) r k acc
theorem lit_nil (k : Nat) (acc : List Int) : lit [] k acc = ⟨[], 3, k⟩ := rfl
theorem lit_quote {r : List UInt8} (k : Nat) (acc : List Int) : lit (34 :: r) k acc = if r = [] then ⟨acc, 0, 0⟩ else ⟨[], 3, k + 1⟩ := by simp [lit, litGo]
theorem lit_wrong {r : List UInt8} (k : Nat) (acc : List Int) (h : (escR (92 :: r)).2.2 = 2) : lit (92 :: r) k acc = ⟨[], 3, k⟩ := by simp [lit, litGo, h]
theorem lit_open {r : List UInt8} (k : Nat) (acc : List Int) (h : (escR (92 :: r)).2.2 = 1) : lit (92 :: r) k acc = ⟨[], 3, k + (r.length + 1)⟩ := by simp [lit, litGo, h]
theorem lit_esc {r : List UInt8} (k : Nat) (acc : List Int) (h : (escR (92 :: r)).2.2 = 0) :
    lit (92 :: r) k acc = lit ((92 :: r).drop (escR (92 :: r)).2.1) (k + (escR (92 :: r)).2.1) (acc ++ [(escR (92 :: r)).1]) := by
  have hd := escR_done (l := 92 :: r) (by omega) (by omega)
  show litGo ((92 :: r).length + 1) (92 :: r) k acc = _
  simp only [litGo]
  rw [if_neg (by decide), if_pos trivial, if_neg (by omega), if_neg (by omega)]
  exact litGo_fuel _ _ _ _ (by simp only [List.length_drop, List.length_cons] at *; omega)
theorem lit_plain {b : UInt8} {r : List UInt8} (k : Nat) (acc : List Int) (h1 : b ≠ 34) (h2 : b ≠ 92) (h3 : 32 ≤ b.toNat ∧ b.toNat ≤ 126) : lit (b :: r) k acc = lit r (k + 1) (acc ++ [(b.toNat : Int)]) := by
  show litGo ((b :: r).length + 1) (b :: r) k acc = _
  simp only [litGo]
  rw [if_neg h1, if_neg h2, if_pos h3]
  rfl
theorem lit_bad {b : UInt8} {r : List UInt8} (k : Nat) (acc : List Int) (h1 : b ≠ 34) (h2 : b ≠ 92) (h3 : ¬ (32 ≤ b.toNat ∧ b.toNat ≤ 126)) : lit (b :: r) k acc = ⟨[], 3, k⟩ := by
  show litGo ((b :: r).length + 1) (b :: r) k acc = _
  simp only [litGo]
  rw [if_neg h1, if_neg h2, if_neg h3]
theorem litR_some {r : List UInt8} : litR (34 :: r) = lit r 1 [] := by simp [litR, lit]
theorem litR_not {l : List UInt8} (h : l.head? ≠ some 34) : litR l = ⟨[], 3, 0⟩ := by simp [litR, h]
end Go.Proofs.YtkfchcmbpgcncaaDoor
