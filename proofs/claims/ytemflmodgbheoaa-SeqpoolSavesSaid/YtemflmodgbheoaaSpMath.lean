/-
  Plain facts on placing sequences (no program stands here), after chapter 14: the longest end that is a beginning, its step by step, and where a sequence is placed.
-/
import Derived.Test.YtemflmodgbheoaaOrder
namespace Go.Proofs.Ytemflmodgbheoaa.Sp
set_option linter.unusedVariables false
set_option linter.unusedSimpArgs false

/-- The beginning of length k of a sequence is an end of t. -/
def Suf (seq t : List Int) (k : Nat) : Prop := k ≤ seq.length ∧ seq.take k <:+ t
/-- The longest one of length at most n. -/
def best (seq t : List Int) : Nat → Nat
  | 0 => 0
  | n + 1 => if (seq.take (n + 1)).isSuffixOf t = true then n + 1 else best seq t n
def G (seq t : List Int) : Nat := best seq t seq.length
theorem best_le (seq t : List Int) : ∀ n, best seq t n ≤ n
  | 0 => Nat.le_refl _
  | n + 1 => by
    have := best_le seq t n
    rw [best]
    split <;> omega
theorem best_suf (seq t : List Int) : ∀ n, n ≤ seq.length → Suf seq t (best seq t n)
  | 0, _ => ⟨Nat.zero_le _, by simp [best]⟩
  | n + 1, h => by
    rw [best]
    split
    · rename_i hs
      exact ⟨h, List.isSuffixOf_iff_suffix.1 hs⟩
    · exact best_suf seq t n (by omega)
theorem best_max (seq t : List Int) : ∀ n k, k ≤ n → Suf seq t k → k ≤ best seq t n
  | 0, k, h, _ => by omega
  | n + 1, k, h, hs => by
    rw [best]
    split
    · exact h
    · rename_i hn
      have : k ≠ n + 1 := by
        rintro rfl
        exact hn (List.isSuffixOf_iff_suffix.2 hs.2)
      exact best_max seq t n k (by omega) hs
theorem G_suf (seq t : List Int) : Suf seq t (G seq t) := best_suf seq t _ (Nat.le_refl _)
theorem G_max {seq t : List Int} {k : Nat} (h : Suf seq t k) : k ≤ G seq t := best_max seq t _ k h.1 h
theorem G_le (seq t : List Int) : G seq t ≤ seq.length := best_le seq t _
theorem G_eq {seq t : List Int} {m : Nat} (h : Suf seq t m) (hm : ∀ k, Suf seq t k → k ≤ m) : G seq t = m := Nat.le_antisymm (hm _ (G_suf seq t)) (G_max h)
theorem suf_length {seq t : List Int} {k : Nat} (h : Suf seq t k) : k ≤ t.length := by
  have := h.2.length_le
  rw [List.length_take, Nat.min_eq_left h.1] at this
  exact this
theorem G_le_len (seq t : List Int) : G seq t ≤ t.length := suf_length (G_suf seq t)
theorem take_snoc {seq : List Int} {k : Nat} (h : k < seq.length) : seq.take (k + 1) = seq.take k ++ [seq.getD k 0] := by
  rw [List.take_succ_eq_append_getElem h]
  simp [List.getD, List.getElem?_eq_getElem h]
theorem snoc_suffix {a b : List Int} {x y : Int} : a ++ [x] <:+ b ++ [y] ↔ x = y ∧ a <:+ b := by
  constructor
  · rintro ⟨c, hc⟩
    rw [← List.append_assoc] at hc
    obtain ⟨h1, h2⟩ := List.append_inj' hc rfl
    exact ⟨by simpa using h2, c, h1⟩
  · rintro ⟨rfl, c, hc⟩
    exact ⟨c, by rw [← List.append_assoc, hc]⟩
/-- One more element. -/
theorem suf_step {seq t : List Int} {k : Nat} {c : Int} : Suf seq (t ++ [c]) (k + 1) ↔ k < seq.length ∧ seq.getD k 0 = c ∧ Suf seq t k := by
  constructor
  · rintro ⟨h1, h2⟩
    rw [take_snoc h1, snoc_suffix] at h2
    exact ⟨h1, h2.1, by omega, h2.2⟩
  · rintro ⟨h1, h2, h3⟩
    refine ⟨h1, ?_⟩
    rw [take_snoc h1, snoc_suffix]
    exact ⟨h2, h3.2⟩
/-- The longest proper end of the beginning of length m that is a beginning. -/
def border (seq : List Int) (m : Nat) : Nat := G seq ((seq.take m).drop 1)
theorem border_lt {seq : List Int} {m : Nat} (h : 0 < m) (hm : m ≤ seq.length) : border seq m < m := by
  have := G_le_len seq ((seq.take m).drop 1)
  rw [List.length_drop, List.length_take] at this
  unfold border
  omega
theorem suffix_of_suffix {a b t : List Int} (ha : a <:+ t) (hb : b <:+ t) (h : a.length ≤ b.length) : a <:+ b := by
  rcases List.suffix_or_suffix_of_suffix ha hb with h1 | h1
  · exact h1
  · have e := h1.eq_of_length (by have := h1.length_le; omega)
    rw [e]
    exact List.suffix_refl _
theorem drop_suffix {a b : List Int} (h : a <:+ b) (hl : a.length < b.length) : a <:+ b.drop 1 := by
  obtain ⟨c, rfl⟩ := h
  cases c with
  | nil => simp at hl
  | cons x c => exact ⟨c, by simp⟩
theorem suffix_drop {a b : List Int} (h : a <:+ b.drop 1) : a <:+ b := h.trans (List.drop_suffix 1 b)
/-- Shorter ends that are beginnings are those of the longest one. -/
theorem suf_down {seq t : List Int} {k m : Nat} (hm : Suf seq t m) (hk : Suf seq t k) (h : k < m) : k ≤ border seq m := by
  refine G_max ⟨hk.1, ?_⟩
  have h1 : seq.take k <:+ seq.take m := suffix_of_suffix hk.2 hm.2 (by rw [List.length_take, List.length_take]; omega)
  refine drop_suffix h1 ?_
  rw [List.length_take, List.length_take]
  have := hk.1
  have := hm.1
  omega
theorem border_suf {seq t : List Int} {m : Nat} (hm : Suf seq t m) : Suf seq t (border seq m) := by
  have := G_suf seq ((seq.take m).drop 1)
  exact ⟨this.1, (suffix_drop this.2).trans hm.2⟩
/-- The state of the search for the longest end behind one more element: what is longer than m is none. -/
def Cand (seq t : List Int) (c : Int) (m : Nat) : Prop := Suf seq t m ∧ ∀ k, Suf seq (t ++ [c]) (k + 1) → k ≤ m
theorem Cand.start {seq t : List Int} (c : Int) : Cand seq t c (G seq t) := ⟨G_suf seq t, fun k h => G_max (suf_step.1 h).2.2⟩
theorem Cand.down {seq t : List Int} {c : Int} {m : Nat} (h : Cand seq t c m) (hne : seq.getD m 0 ≠ c) : Cand seq t c (border seq m) := by
  refine ⟨border_suf h.1, fun k hk => ?_⟩
  obtain ⟨h1, h2, h3⟩ := suf_step.1 hk
  have hkm := h.2 k hk
  have : k ≠ m := by rintro rfl; exact hne h2
  exact suf_down h.1 h3 (by omega)
theorem Cand.hit {seq t : List Int} {c : Int} {m : Nat} (h : Cand seq t c m) (hm : m < seq.length) (he : seq.getD m 0 = c) : G seq (t ++ [c]) = m + 1 := by
  refine G_eq (suf_step.2 ⟨hm, he, h.1⟩) fun k hk => ?_
  cases k with
  | zero => omega
  | succ k => have := h.2 k hk; omega
theorem Cand.miss {seq t : List Int} {c : Int} (h : Cand seq t c 0) (he : seq.getD 0 0 ≠ c) : G seq (t ++ [c]) = 0 := by
  refine G_eq ⟨Nat.zero_le _, by simp⟩ fun k hk => ?_
  cases k with
  | zero => omega
  | succ k =>
    have hk0 := h.2 k hk
    obtain rfl : k = 0 := by omega
    exact absurd (suf_step.1 hk).2.1 he

/-- Whether a sequence agrees with what stands from a place on, as far as both go. -/
def agree (codes seq : List Int) (at' : Nat) : Bool := decide ((codes.drop at').take (min seq.length (codes.length - at')) = seq.take (min seq.length (codes.length - at')))
/-- The first place where it does: at the end at the latest. -/
def firstAt (codes seq : List Int) : Nat → Nat → Nat
  | 0, k => k
  | f + 1, k => if k < codes.length ∧ ¬ agree codes seq k = true then firstAt codes seq f (k + 1) else k
def startOf (codes seq : List Int) : Nat := firstAt codes seq codes.length 0
theorem first_least {codes seq : List Int} : ∀ (f k p : Nat), k ≤ p → p ≤ codes.length → codes.length ≤ k + f → (∀ j, k ≤ j → j < p → agree codes seq j = false) → (p = codes.length ∨ agree codes seq p = true) → firstAt codes seq f k = p
  | 0, k, p, h1, h2, h3, _, _ => by rw [firstAt]; omega
  | f + 1, k, p, h1, h2, h3, hn, hy => by
    rw [firstAt]
    by_cases hk : k = p
    · subst hk
      rw [if_neg]
      rintro ⟨h4, h5⟩
      rcases hy with h | h
      · omega
      · exact h5 h
    · rw [if_pos ⟨by omega, by rw [hn k (Nat.le_refl _) (by omega)]; decide⟩]
      exact first_least f (k + 1) p (by omega) h2 (by omega) (fun j h4 h5 => hn j (by omega) h5) hy
theorem start_is {codes seq : List Int} {p : Nat} (h2 : p ≤ codes.length) (hn : ∀ j, j < p → agree codes seq j = false) (hy : p = codes.length ∨ agree codes seq p = true) : startOf codes seq = p :=
  first_least _ 0 p (Nat.zero_le _) h2 (by omega) (fun j _ h => hn j h) hy
theorem agree_full {codes seq : List Int} {k : Nat} (h : k + seq.length ≤ codes.length) (ha : agree codes seq k = true) : seq <:+ codes.take (k + seq.length) := by
  have e : min seq.length (codes.length - k) = seq.length := by omega
  rw [agree, e, decide_eq_true_eq, List.take_of_length_le (Nat.le_refl seq.length)] at ha
  refine ⟨codes.take k, ?_⟩
  rw [List.take_add, ha]
theorem full_agree {codes seq : List Int} {j : Nat} (hj : j ≤ codes.length) (h : seq <:+ codes.take j) : agree codes seq (j - seq.length) = true := by
  have hl := h.length_le
  rw [List.length_take, Nat.min_eq_left hj] at hl
  have e : min seq.length (codes.length - (j - seq.length)) = seq.length := by omega
  rw [agree, e, decide_eq_true_eq, List.take_of_length_le (Nat.le_refl seq.length)]
  obtain ⟨c, hc⟩ := h
  have hcl : c.length = j - seq.length := by
    have := congrArg List.length hc
    rw [List.length_append, List.length_take, Nat.min_eq_left hj] at this
    omega
  have hd : (codes.take j).drop (j - seq.length) = seq := by
    rw [← hc, ← hcl, List.drop_left]
  rw [List.drop_take, show j - (j - seq.length) = seq.length by omega] at hd
  exact hd
theorem agree_end {codes seq : List Int} {k : Nat} (hk : k ≤ codes.length) (h : codes.length - k ≤ seq.length) : agree codes seq k = true ↔ Suf seq codes (codes.length - k) := by
  have e : min seq.length (codes.length - k) = codes.length - k := by omega
  rw [agree, e, decide_eq_true_eq, List.take_of_length_le (by rw [List.length_drop]; exact Nat.le_refl _)]
  constructor
  · intro h2
    exact ⟨h, by rw [← h2]; exact List.drop_suffix k codes⟩
  · rintro ⟨_, c, hc⟩
    have hcl : c.length = k := by
      have := congrArg List.length hc
      rw [List.length_append, List.length_take] at this
      omega
    have : (c ++ seq.take (codes.length - k)).drop k = seq.take (codes.length - k) := by
      rw [← hcl, List.drop_left]
    rw [hc] at this
    exact this
/-- It occurs whole: at the first place where it ends. -/
theorem start_full {codes seq : List Int} {j : Nat} (hj : j ≤ codes.length) (h : seq <:+ codes.take j) (hn : ∀ i, i < j → ¬ seq <:+ codes.take i) : startOf codes seq = j - seq.length := by
  have hl := h.length_le
  rw [List.length_take, Nat.min_eq_left hj] at hl
  refine start_is (by omega) (fun k hk => ?_) (.inr (full_agree hj h))
  rcases ha : agree codes seq k with _ | _
  · rfl
  · exact absurd (agree_full (by omega) ha) (hn _ (by omega))
/-- It does not: where the longest end begins. -/
theorem start_part {codes seq : List Int} (hn : ∀ i, i ≤ codes.length → ¬ seq <:+ codes.take i) : startOf codes seq = codes.length - G seq codes := by
  have hg := G_le_len seq codes
  refine start_is (by omega) (fun k hk => ?_) (.inr ?_)
  · rcases ha : agree codes seq k with _ | _
    · rfl
    · by_cases hf : k + seq.length ≤ codes.length
      · exact absurd (agree_full hf ha) (hn _ hf)
      · have := G_max ((agree_end (by omega) (by omega)).1 ha)
        omega
  · refine (agree_end (by omega) ?_).2 ?_
    · rw [show codes.length - (codes.length - G seq codes) = G seq codes by omega]
      exact G_le seq codes
    · rw [show codes.length - (codes.length - G seq codes) = G seq codes by omega]
      exact G_suf seq codes
end Go.Proofs.Ytemflmodgbheoaa.Sp
