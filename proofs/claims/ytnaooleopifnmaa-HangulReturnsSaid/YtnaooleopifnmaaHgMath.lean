/-
  Plain facts on Hangul syllables (no program stands here): kinds, parts, composing two elements, and dividing a text, after chapter 19.
-/
import Derived.NoCompiler
namespace Go.Proofs.Ytnaooleopifnmaa.Hg

/-- 1 leading, 2 vowel, 3 trailing, 4 syllable without trailing, 5 with, 0 other. -/
def kind (c : Int) : Int :=
  if 4352 ≤ c ∧ c ≤ 4370 then 1 else if 4449 ≤ c ∧ c ≤ 4469 then 2 else if 4520 ≤ c ∧ c ≤ 4546 then 3
  else if 44032 ≤ c ∧ c ≤ 55203 then (if (c - 44032) % 28 = 0 then 4 else 5) else 0
def dec (c : Int) : List Int :=
  if kind c < 4 then [c]
  else if 0 < (c - 44032) % 28 then [4352 + (c - 44032) / 28 / 21, 4449 + (c - 44032) / 28 % 21, 4520 + (c - 44032) % 28 - 1]
  else [4352 + (c - 44032) / 28 / 21, 4449 + (c - 44032) / 28 % 21]
def comp (a b : Int) : Int × Bool :=
  if kind a = 1 ∧ kind b = 2 then (44032 + (21 * (a - 4352) + b - 4449) * 28, true)
  else if kind a = 4 ∧ kind b = 3 then (a + b - 4520 + 1, true) else (0, false)
/-- The kind of a list's element, 0 behind its end. -/
def kindAt (l : List Int) (k : Nat) : Int := if k < l.length then kind (l.getD k 0) else 0
/-- The length of the part that begins a text; 0 if none does. -/
def part (l : List Int) : Nat :=
  if kindAt l 0 = 1 ∧ kindAt l 1 = 2 ∧ kindAt l 2 = 3 then 3 else if kindAt l 0 = 1 ∧ kindAt l 1 = 2 then 2
  else if kindAt l 0 = 4 ∧ kindAt l 1 = 3 then 2 else if 4 ≤ kindAt l 0 then 1 else 0
/-- The ranges of a text from a place on (fuel: the elements that are left). -/
def split : Nat → List Int → Nat → List (Int × Int)
  | 0, _, _ => []
  | f + 1, l, i => if i < l.length then
      (if 0 < part (l.drop i) then ((i : Int), ((i + part (l.drop i) : Nat) : Int)) :: split f l (i + part (l.drop i)) else split f l (i + 1))
    else []
/-- The ranges of a text from a place on. -/
def spl (l : List Int) (i : Nat) : List (Int × Int) := split (l.length - i) l i

theorem kind_range (c : Int) : 0 ≤ kind c ∧ kind c ≤ 5 := by
  unfold kind
  repeat' split
  all_goals omega
theorem kind_lead {c : Int} : kind c = 1 ↔ 4352 ≤ c ∧ c ≤ 4370 := by
  unfold kind
  repeat' split
  all_goals omega
theorem kind_vowel {c : Int} : kind c = 2 ↔ 4449 ≤ c ∧ c ≤ 4469 := by
  unfold kind
  repeat' split
  all_goals omega
theorem kind_trail {c : Int} : kind c = 3 ↔ 4520 ≤ c ∧ c ≤ 4546 := by
  unfold kind
  repeat' split
  all_goals omega
theorem kind_open {c : Int} : kind c = 4 ↔ 44032 ≤ c ∧ c ≤ 55203 ∧ (c - 44032) % 28 = 0 := by
  unfold kind
  repeat' split
  all_goals omega
theorem kind_shut {c : Int} : kind c = 5 ↔ 44032 ≤ c ∧ c ≤ 55203 ∧ ¬ (c - 44032) % 28 = 0 := by
  unfold kind
  repeat' split
  all_goals omega
theorem kind_syll {c : Int} : 4 ≤ kind c ↔ 44032 ≤ c ∧ c ≤ 55203 := by
  unfold kind
  repeat' split
  all_goals omega
theorem part_le (l : List Int) : part l ≤ 3 := by
  unfold part
  repeat' split
  all_goals omega
theorem part_length (l : List Int) : part l ≤ l.length := by
  have h : ∀ k, 0 < kindAt l k → k < l.length := fun k hk => by
    unfold kindAt at hk
    split at hk
    · assumption
    · omega
  unfold part
  repeat' split
  · rename_i hc
    have := h 2 (by omega)
    omega
  · rename_i hc
    have := h 1 (by omega)
    omega
  · rename_i hc
    have := h 1 (by omega)
    omega
  · rename_i hc
    have := h 0 (by omega)
    omega
  · omega
/-- Composing two elements, the result's kind. -/
theorem comp_kind {a b c : Int} (h : comp a b = (c, true)) : (kind a = 1 ∧ kind b = 2 ∧ kind c = 4) ∨ (kind a = 4 ∧ kind b = 3 ∧ kind c = 5) := by
  unfold comp at h
  split at h
  · rename_i hk
    obtain ⟨h1, h2⟩ := hk
    simp only [Prod.mk.injEq, and_true] at h
    refine .inl ⟨h1, h2, ?_⟩
    rw [kind_lead] at h1
    rw [kind_vowel] at h2
    rw [kind_open]
    omega
  · split at h
    · rename_i hk
      obtain ⟨h1, h2⟩ := hk
      simp only [Prod.mk.injEq, and_true] at h
      refine .inr ⟨h1, h2, ?_⟩
      rw [kind_open] at h1
      rw [kind_trail] at h2
      rw [kind_shut]
      omega
    · simp at h
theorem comp_none {a b : Int} (h : (comp a b).2 = false) : (comp a b).1 = 0 := by
  unfold comp at h ⊢
  repeat' split at h
  · simp at h
  · simp at h
  · rename_i h1 h2
    rw [if_neg h1, if_neg h2]
theorem comp_some {a b : Int} (h : (kind a = 1 ∧ kind b = 2) ∨ (kind a = 4 ∧ kind b = 3)) : (comp a b).2 = true := by
  unfold comp
  rcases h with h | h
  · rw [if_pos h]
  · rw [if_neg (by omega), if_pos h]
theorem dec_open {c : Int} (h : kind c = 4) : dec c = [4352 + (c - 44032) / 28 / 21, 4449 + (c - 44032) / 28 % 21] := by
  have h' := kind_open.1 h
  unfold dec
  rw [if_neg (by omega), if_neg (by omega)]
theorem dec_shut {c : Int} (h : kind c = 5) : dec c = [4352 + (c - 44032) / 28 / 21, 4449 + (c - 44032) / 28 % 21, 4520 + (c - 44032) % 28 - 1] := by
  have h' := kind_shut.1 h
  unfold dec
  rw [if_neg (by omega), if_pos (by omega)]
theorem dec_other {c : Int} (h : kind c < 4) : dec c = [c] := by unfold dec; rw [if_pos h]
theorem dec_length (c : Int) : (kind c < 4 ∧ (dec c).length = 1) ∨ (kind c = 4 ∧ (dec c).length = 2) ∨ (kind c = 5 ∧ (dec c).length = 3) := by
  have hr := kind_range c
  rcases Int.lt_or_le (kind c) 4 with h | h
  · exact .inl ⟨h, by rw [dec_other h]; rfl⟩
  · have h2 : kind c = 4 ∨ kind c = 5 := by omega
    rcases h2 with h2 | h2
    · exact .inr (.inl ⟨h2, by rw [dec_open h2]; rfl⟩)
    · exact .inr (.inr ⟨h2, by rw [dec_shut h2]; rfl⟩)
/-- Decomposing what composing gives: the parts. -/
theorem dec_comp {a b c : Int} (h : comp a b = (c, true)) : dec c = dec a ++ dec b := by
  rcases comp_kind h with ⟨h1, h2, h3⟩ | ⟨h1, h2, h3⟩
  · rw [dec_open h3, dec_other (by omega : kind a < 4), dec_other (by omega : kind b < 4)]
    unfold comp at h
    rw [if_pos ⟨h1, h2⟩] at h
    simp only [Prod.mk.injEq, and_true] at h
    rw [kind_lead] at h1
    rw [kind_vowel] at h2
    subst h
    simp only [List.cons_append, List.nil_append, List.cons.injEq, and_true]
    omega
  · rw [dec_shut h3, dec_open h1, dec_other (by omega : kind b < 4)]
    unfold comp at h
    rw [if_neg (by omega), if_pos ⟨h1, h2⟩] at h
    simp only [Prod.mk.injEq, and_true] at h
    rw [kind_open] at h1
    rw [kind_trail] at h2
    subst h
    simp only [List.cons_append, List.nil_append, List.cons.injEq, and_true]
    omega
/-- Composing the parts of a syllable without a trailing consonant gives it. -/
theorem comp_open {c : Int} (h : kind c = 4) : comp (4352 + (c - 44032) / 28 / 21) (4449 + (c - 44032) / 28 % 21) = (c, true) := by
  have h' := kind_open.1 h
  unfold comp
  rw [if_pos ⟨kind_lead.2 (by omega), kind_vowel.2 (by omega)⟩]
  simp only [Prod.mk.injEq, and_true]
  omega
theorem comp_first {c : Int} (h : kind c = 5) : comp (4352 + (c - 44032) / 28 / 21) (4449 + (c - 44032) / 28 % 21) = (c - (c - 44032) % 28, true) := by
  have h' := kind_shut.1 h
  unfold comp
  rw [if_pos ⟨kind_lead.2 (by omega), kind_vowel.2 (by omega)⟩]
  simp only [Prod.mk.injEq, and_true]
  omega
theorem comp_then {c : Int} (h : kind c = 5) : comp (c - (c - 44032) % 28) (4520 + (c - 44032) % 28 - 1) = (c, true) := by
  have h' := kind_shut.1 h
  have h4 : kind (c - (c - 44032) % 28) = 4 := kind_open.2 (by omega)
  have h3 : kind (4520 + (c - 44032) % 28 - 1) = 3 := kind_trail.2 (by omega)
  unfold comp
  rw [if_neg (by omega), if_pos ⟨h4, h3⟩]
  simp only [Prod.mk.injEq, and_true]
  omega
/-- The syllables by their numbers. -/
theorem comp_numbers {l v t : Int} (hl : 0 ≤ l ∧ l < 19) (hv : 0 ≤ v ∧ v < 21) (ht : 0 ≤ t ∧ t < 27) :
    comp (4352 + l) (4449 + v) = (44032 + (21 * l + v) * 28, true) ∧ comp (44032 + (21 * l + v) * 28) (4520 + t) = (44032 + (21 * l + v) * 28 + 1 + t, true) ∧
    kind (44032 + (21 * l + v) * 28) = 4 ∧ kind (44032 + (21 * l + v) * 28 + 1 + t) = 5 := by
  have h4 : kind (44032 + (21 * l + v) * 28) = 4 := kind_open.2 (by omega)
  have h3 : kind (4520 + t) = 3 := kind_trail.2 (by omega)
  refine ⟨?_, ?_, h4, kind_shut.2 (by omega)⟩
  · unfold comp
    rw [if_pos ⟨kind_lead.2 (by omega), kind_vowel.2 (by omega)⟩]
    simp only [Prod.mk.injEq, and_true]
    omega
  · unfold comp
    rw [if_neg (by omega), if_pos ⟨h4, h3⟩]
    simp only [Prod.mk.injEq, and_true]
    omega
theorem split_fuel (l : List Int) : ∀ (f g i : Nat), l.length - i ≤ f → l.length - i ≤ g → split f l i = split g l i
  | 0, 0, i, _, _ => rfl
  | 0, g + 1, i, hf, _ => by
    rw [split, split, if_neg (by omega)]
  | f + 1, 0, i, _, hg => by
    rw [split, split, if_neg (by omega)]
  | f + 1, g + 1, i, hf, hg => by
    rw [split, split]
    split
    · split
      · rw [split_fuel l f g _ (by omega) (by omega)]
      · exact split_fuel l f g _ (by omega) (by omega)
    · rfl
theorem spl_end {l : List Int} {i : Nat} (h : ¬ i < l.length) : spl l i = [] := by
  unfold spl
  rw [show l.length - i = 0 by omega, split]
theorem spl_some {l : List Int} {i : Nat} (h : i < l.length) (hp : 0 < part (l.drop i)) : spl l i = ((i : Int), ((i + part (l.drop i) : Nat) : Int)) :: spl l (i + part (l.drop i)) := by
  unfold spl
  obtain ⟨f, hf⟩ : ∃ f, l.length - i = f + 1 := ⟨l.length - i - 1, by omega⟩
  rw [hf, split, if_pos h, if_pos hp, split_fuel l f _ _ (by omega) (Nat.le_refl _)]
theorem spl_none {l : List Int} {i : Nat} (h : i < l.length) (hp : part (l.drop i) = 0) : spl l i = spl l (i + 1) := by
  unfold spl
  obtain ⟨f, hf⟩ : ∃ f, l.length - i = f + 1 := ⟨l.length - i - 1, by omega⟩
  rw [hf, split, if_pos h, if_neg (by omega), split_fuel l f _ _ (by omega) (Nat.le_refl _)]
theorem part_fits (l : List Int) (i : Nat) : part (l.drop i) ≤ l.length - i := by
  have := part_length (l.drop i)
  rw [List.length_drop] at this
  exact this
theorem spl_length (l : List Int) : ∀ (f i : Nat), l.length - i ≤ f → (spl l i).length ≤ l.length - i
  | 0, i, h => by rw [spl_end (by omega)]; simp
  | f + 1, i, h => by
    by_cases hi : i < l.length
    · have hf := part_fits l i
      by_cases hp : 0 < part (l.drop i)
      · rw [spl_some hi hp, List.length_cons]
        have := spl_length l f (i + part (l.drop i)) (by omega)
        omega
      · rw [spl_none hi (by omega)]
        have := spl_length l f (i + 1) (by omega)
        omega
    · rw [spl_end hi]; simp
theorem kindAt_drop (l : List Int) (i k : Nat) : kindAt (l.drop i) k = kindAt l (i + k) := by
  unfold kindAt
  rw [List.length_drop]
  by_cases h : i + k < l.length
  · rw [if_pos (by omega), if_pos h]
    simp [List.getD, List.getElem?_drop]
  · rw [if_neg (by omega), if_neg h]
theorem kindAt_in {l : List Int} {k : Nat} (h : k < l.length) : kindAt l k = kind (l.getD k 0) := by rw [kindAt, if_pos h]
theorem part_zero {l : List Int} (h : part l = 0) : kindAt l 0 < 4 := by
  unfold part at h
  repeat' split at h
  all_goals omega
/-- What the first range of a text from a place on is. -/
theorem spl_cons {l : List Int} {r : Int × Int} {rest : List (Int × Int)} : ∀ (f i : Nat), l.length - i ≤ f → spl l i = r :: rest →
    ∃ lo : Nat, i ≤ lo ∧ lo < l.length ∧ (∀ k, i ≤ k → k < lo → kind (l.getD k 0) < 4) ∧ 0 < part (l.drop lo) ∧ r = ((lo : Int), ((lo + part (l.drop lo) : Nat) : Int)) ∧ rest = spl l (lo + part (l.drop lo))
  | 0, i, hf, h => by rw [spl_end (by omega)] at h; cases h
  | f + 1, i, hf, h => by
    by_cases hi : i < l.length
    · by_cases hp : 0 < part (l.drop i)
      · rw [spl_some hi hp] at h
        simp only [List.cons.injEq] at h
        exact ⟨i, Nat.le_refl _, hi, fun k h1 h2 => absurd h1 (by omega), hp, h.1.symm, h.2.symm⟩
      · rw [spl_none hi (by omega)] at h
        obtain ⟨lo, h1, h2, h3, h4⟩ := spl_cons f (i + 1) (by omega) h
        refine ⟨lo, by omega, h2, fun k hk1 hk2 => ?_, h4⟩
        rcases Nat.lt_or_ge i k with hk | hk
        · exact h3 k (by omega) hk2
        · obtain rfl : k = i := by omega
          have := part_zero (l := l.drop k) (by omega)
          rw [kindAt_drop, Nat.add_zero, kindAt_in hi] at this
          exact this
    · rw [spl_end hi] at h; cases h
theorem spl_nil {l : List Int} : ∀ (f i : Nat), l.length - i ≤ f → spl l i = [] → ∀ k, i ≤ k → k < l.length → kind (l.getD k 0) < 4
  | 0, i, hf, h, k, h1, h2 => absurd h1 (by omega)
  | f + 1, i, hf, h, k, h1, h2 => by
    have hi : i < l.length := by omega
    by_cases hp : 0 < part (l.drop i)
    · rw [spl_some hi hp] at h; cases h
    · rw [spl_none hi (by omega)] at h
      rcases Nat.lt_or_ge i k with hk | hk
      · exact spl_nil f (i + 1) (by omega) h k (by omega) h2
      · obtain rfl : k = i := by omega
        have := part_zero (l := l.drop k) (by omega)
        rw [kindAt_drop, Nat.add_zero, kindAt_in hi] at this
        exact this
theorem comp_fst {a b : Int} (h : (kind a = 1 ∧ kind b = 2) ∨ (kind a = 4 ∧ kind b = 3)) : ∃ c, comp a b = (c, true) := by
  have := comp_some h
  obtain ⟨⟨c, ok⟩, hc⟩ : ∃ p, comp a b = p := ⟨_, rfl⟩
  rw [hc] at this
  simp only at this
  exact ⟨c, by rw [hc, this]⟩
theorem comp_not {a b : Int} (h1 : ¬ (kind a = 1 ∧ kind b = 2)) (h2 : ¬ (kind a = 4 ∧ kind b = 3)) : comp a b = (0, false) := by unfold comp; rw [if_neg h1, if_neg h2]
/-- The states while a range's elements are composed, from the left; the last one is a syllable, which the next element does not extend. -/
theorem part_run {l : List Int} {lo : Nat} (hp : 0 < part (l.drop lo)) :
    ∃ S : Nat → Int, S 0 = l.getD lo 0 ∧ (∀ t, t + 1 < part (l.drop lo) → comp (S t) (l.getD (lo + t + 1) 0) = (S (t + 1), true)) ∧ 4 ≤ kind (S (part (l.drop lo) - 1)) ∧
      (lo + part (l.drop lo) < l.length → comp (S (part (l.drop lo) - 1)) (l.getD (lo + part (l.drop lo)) 0) = (0, false)) := by
  have hin : ∀ k, 0 < kindAt (l.drop lo) k → kindAt (l.drop lo) k = kind (l.getD (lo + k) 0) := fun k hk => by
    rw [kindAt_drop] at hk ⊢
    unfold kindAt at hk ⊢
    split at hk
    · rename_i h
      rw [if_pos h]
    · omega
  by_cases c3 : kindAt (l.drop lo) 0 = 1 ∧ kindAt (l.drop lo) 1 = 2 ∧ kindAt (l.drop lo) 2 = 3
  · have hpart : part (l.drop lo) = 3 := by unfold part; rw [if_pos c3]
    obtain ⟨k0, k1, k2⟩ := c3
    rw [hin 0 (by omega)] at k0
    rw [hin 1 (by omega)] at k1
    rw [hin 2 (by omega)] at k2
    obtain ⟨a, ha⟩ := comp_fst (a := l.getD (lo + 0) 0) (b := l.getD (lo + 1) 0) (.inl ⟨k0, k1⟩)
    have a4 : kind a = 4 := by rcases comp_kind ha with ⟨_, _, h⟩ | ⟨h, _, _⟩ <;> omega
    obtain ⟨b, hb⟩ := comp_fst (a := a) (b := l.getD (lo + 2) 0) (.inr ⟨a4, k2⟩)
    have b5 : kind b = 5 := by rcases comp_kind hb with ⟨h, _, _⟩ | ⟨_, _, h⟩ <;> omega
    rw [hpart]
    refine ⟨fun t => if t = 0 then l.getD lo 0 else if t = 1 then a else b, rfl, fun t ht => ?_, ?_, fun _ => ?_⟩
    · have h01 : t = 0 ∨ t = 1 := by omega
      rcases h01 with rfl | rfl
      · exact ha
      · exact hb
    · show 4 ≤ kind b
      omega
    · exact comp_not (by show ¬ (kind b = 1 ∧ _); omega) (by show ¬ (kind b = 4 ∧ _); omega)
  · by_cases c2 : kindAt (l.drop lo) 0 = 1 ∧ kindAt (l.drop lo) 1 = 2
    · have hpart : part (l.drop lo) = 2 := by unfold part; rw [if_neg c3, if_pos c2]
      obtain ⟨k0, k1⟩ := c2
      have k2 : ¬ kindAt (l.drop lo) 2 = 3 := fun e => c3 ⟨k0, k1, e⟩
      rw [hin 0 (by omega)] at k0
      rw [hin 1 (by omega)] at k1
      obtain ⟨a, ha⟩ := comp_fst (a := l.getD (lo + 0) 0) (b := l.getD (lo + 1) 0) (.inl ⟨k0, k1⟩)
      have a4 : kind a = 4 := by rcases comp_kind ha with ⟨_, _, h⟩ | ⟨h, _, _⟩ <;> omega
      rw [hpart]
      refine ⟨fun t => if t = 0 then l.getD lo 0 else a, rfl, fun t ht => ?_, ?_, fun hlt => ?_⟩
      · obtain rfl : t = 0 := by omega
        exact ha
      · show 4 ≤ kind a
        omega
      · rw [kindAt_drop, kindAt_in hlt] at k2
        exact comp_not (by show ¬ (kind a = 1 ∧ _); omega) (fun e => k2 e.2)
    · by_cases c4 : kindAt (l.drop lo) 0 = 4 ∧ kindAt (l.drop lo) 1 = 3
      · have hpart : part (l.drop lo) = 2 := by unfold part; rw [if_neg c3, if_neg c2, if_pos c4]
        obtain ⟨k0, k1⟩ := c4
        rw [hin 0 (by omega)] at k0
        rw [hin 1 (by omega)] at k1
        obtain ⟨a, ha⟩ := comp_fst (a := l.getD (lo + 0) 0) (b := l.getD (lo + 1) 0) (.inr ⟨k0, k1⟩)
        have a5 : kind a = 5 := by rcases comp_kind ha with ⟨h, _, _⟩ | ⟨_, _, h⟩ <;> omega
        rw [hpart]
        refine ⟨fun t => if t = 0 then l.getD lo 0 else a, rfl, fun t ht => ?_, ?_, fun hlt => ?_⟩
        · obtain rfl : t = 0 := by omega
          exact ha
        · show 4 ≤ kind a
          omega
        · exact comp_not (by show ¬ (kind a = 1 ∧ _); omega) (by show ¬ (kind a = 4 ∧ _); omega)
      · by_cases c1 : 4 ≤ kindAt (l.drop lo) 0
        · have hpart : part (l.drop lo) = 1 := by unfold part; rw [if_neg c3, if_neg c2, if_neg c4, if_pos c1]
          have k1 : ¬ (kindAt (l.drop lo) 0 = 4 ∧ kindAt (l.drop lo) 1 = 3) := c4
          rw [hin 0 (by omega), Nat.add_zero] at c1
          have h0 := hin 0
          rw [hpart]
          refine ⟨fun _ => l.getD lo 0, rfl, fun t ht => absurd ht (by omega), c1, fun hlt => ?_⟩
          have e1 : kindAt (l.drop lo) 1 = kind (l.getD (lo + 1) 0) := by rw [kindAt_drop, kindAt_in hlt]
          have e0 : kindAt (l.drop lo) 0 = kind (l.getD lo 0) := by rw [kindAt_drop, Nat.add_zero, kindAt_in (by omega)]
          rw [e0, e1] at k1
          exact comp_not (by show ¬ (kind (l.getD lo 0) = 1 ∧ _); omega) k1
        · unfold part at hp
          rw [if_neg c3, if_neg c2, if_neg c4, if_neg c1] at hp
          omega
end Go.Proofs.Ytnaooleopifnmaa.Hg
