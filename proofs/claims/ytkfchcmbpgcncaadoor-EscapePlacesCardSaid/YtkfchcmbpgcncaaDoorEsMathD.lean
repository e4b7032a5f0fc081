/-
  Plain facts on literals for the last statements (no program stands here): lengths, printable bytes, joining, other writings of a code point, faults.
-/
import Derived.Test.YtkfchcmbpgcncaaDoorEsMathC
namespace Go.Proofs.YtkfchcmbpgcncaaDoor

theorem lit_tlen : ∀ (n : Nat) (r : List UInt8), r.length ≤ n → ∀ (k : Nat) (acc : List Int), (lit r k acc).t.length ≤ acc.length + r.length := by
  intro n
  induction n with
  | zero =>
    intro r hr k acc
    have : r = [] := List.eq_nil_of_length_eq_zero (by omega)
    subst this
    rw [lit_nil]
    simp
  | succ n ih =>
    intro r hr k acc
    cases r with
    | nil => rw [lit_nil]; simp
    | cons b r =>
      simp only [List.length_cons] at hr ⊢
      by_cases h1 : b = 34
      · subst h1
        rw [lit_quote]
        split <;> simp
      · by_cases h2 : b = 92
        · subst h2
          by_cases h3 : (escR (92 :: r)).2.2 = 2
          · rw [lit_wrong _ _ h3]; simp
          · by_cases h4 : (escR (92 :: r)).2.2 = 1
            · rw [lit_open _ _ h4]; simp
            · have hd := escR_done h3 h4
              simp only [List.length_cons] at hd
              rw [lit_esc _ _ hd.2.2.2]
              have := ih ((92 :: r).drop (escR (92 :: r)).2.1) (by simp only [List.length_drop, List.length_cons]; omega) (k + (escR (92 :: r)).2.1) (acc ++ [(escR (92 :: r)).1])
              simp only [List.length_drop, List.length_cons, List.length_append, List.length_nil] at this
              omega
        · by_cases h3 : 32 ≤ b.toNat ∧ b.toNat ≤ 126
          · rw [lit_plain _ _ h1 h2 h3]
            have := ih r (by omega) (k + 1) (acc ++ [(b.toNat : Int)])
            simp only [List.length_append, List.length_cons, List.length_nil] at this
            omega
          · rw [lit_bad _ _ h1 h2 h3]; simp
theorem litR_tlen (l : List UInt8) : (litR l).t.length ≤ l.length := by
  by_cases h : l.head? = some 34
  · obtain ⟨r, rfl⟩ : ∃ r, l = 34 :: r := by cases l with
      | nil => simp at h
      | cons b r => simp at h; subst h; exact ⟨r, rfl⟩
    rw [litR_some]
    have := lit_tlen r.length r (Nat.le_refl _) 1 []
    simp only [List.length_nil, List.length_cons] at this ⊢
    omega
  · rw [litR_not h]
    simp
theorem codesL_ge : ∀ (t : List Int), (∀ c ∈ t, isCode c = true) → t.length ≤ (codesL t).length := by
  suffices h : ∀ r : List Int, r.length ≤ ((r.map hexL).flatMap (fun q => (32 : UInt8) :: q)).length by
    intro t ht
    cases t with
    | nil => simp
    | cons c r =>
      have h1 := h r
      have h2 := hexL_length (ht c (by simp))
      have h3 := nd_range c.toNat
      simp only [codesL, List.map_cons, joinL, List.length_append, List.length_cons]
      omega
  intro r
  induction r with
  | nil => simp
  | cons c r ih =>
    simp only [List.map_cons, List.flatMap_cons, List.length_append, List.length_cons]
    omega
/-- Up to the fault, a string is the beginning of a literal. -/
theorem litR_cut {l : List UInt8} {k : Nat} (h : litR l = ⟨[], 3, k⟩) : ((litR (l.take k)).e = 0 ∧ (litR (l.take k)).at' = 0) ∨ ((litR (l.take k)).e = 3 ∧ (litR (l.take k)).at' = k) := by
  by_cases hh : l.head? = some 34
  · obtain ⟨r, rfl⟩ : ∃ r, l = 34 :: r := by cases l with
      | nil => simp at hh
      | cons b r => simp at hh; subst hh; exact ⟨r, rfl⟩
    rw [litR_some] at h
    have he : (lit r 1 []).e = 3 := by rw [h]
    have hk := lit_at r.length r (Nat.le_refl _) 1 [] he
    have hc := lit_cut r.length r (Nat.le_refl _) 1 [] he
    rw [h] at hk hc
    simp only at hk hc
    obtain ⟨q, rfl⟩ : ∃ q, k = q + 1 := ⟨k - 1, by omega⟩
    rw [show q + 1 - 1 = q by omega] at hc
    rw [List.take_succ_cons, litR_some]
    rcases hc with hc | hc
    · have := (lit_out (r.take q).length (r.take q) (Nat.le_refl _) 1 [] (by simp)).2
      rcases this with h1 | h1
      · exact .inl h1
      · rw [hc] at h1
        exact absurd h1.1 (by decide)
    · exact .inr hc
  · rw [litR_not hh] at h
    have : k = 0 := by injection h with _ _ h; exact h.symm
    subst this
    rw [List.take_zero]
    exact .inr ⟨rfl, rfl⟩
/-- A printable byte. -/
def isAsc (b : UInt8) : Prop := 32 ≤ b.toNat ∧ b.toNat ≤ 126
theorem dig_asc {b : UInt8} (h : 0 ≤ dig2 b.toNat) : isAsc b := by
  have := dig2_bound h
  exact ⟨by omega, by omega⟩
theorem item_asc {c : Int} (hc : isCode c = true) : (∀ b ∈ itemL c, isAsc b) ∧ (itemL c).length ≤ 10 := by
  have hb := isCode_bounds hc
  unfold itemL
  split
  · rename_i h
    have hu := u8_toNat (c := c) (by omega) (by omega)
    refine ⟨fun b hm => ?_, by simp⟩
    simp only [List.mem_cons, List.not_mem_nil, or_false] at hm
    rcases hm with rfl | rfl
    · exact ⟨by decide, by decide⟩
    · exact ⟨by omega, by omega⟩
  · split
    · rename_i h
      have hu := u8_toNat (c := c) (by omega) (by omega)
      refine ⟨fun b hm => ?_, by simp⟩
      simp only [List.mem_cons, List.not_mem_nil, or_false] at hm
      subst hm
      exact ⟨by omega, by omega⟩
    · split
      · refine ⟨fun b hm => ?_, by simp⟩
        simp only [List.mem_cons, List.not_mem_nil, or_false] at hm
        rcases hm with rfl | rfl | rfl | rfl | rfl <;> exact ⟨by decide, by decide⟩
      · have hd := (valD_scan (hexL c) 0 c (scan_hexL hc)).2
        have hl := trimZ_length (hexL c)
        have h6 := hexL_le c
        refine ⟨fun b hm => ?_, by simp; omega⟩
        simp only [List.mem_append, List.mem_cons, List.not_mem_nil, or_false] at hm
        rcases hm with ((rfl | rfl | rfl) | hm) | rfl
        · exact ⟨by decide, by decide⟩
        · exact ⟨by decide, by decide⟩
        · exact ⟨by decide, by decide⟩
        · exact dig_asc (hd b (trimZ_mem hm))
        · exact ⟨by decide, by decide⟩
theorem flat_asc : ∀ (t : List Int), (∀ c ∈ t, isCode c = true) → (∀ b ∈ t.flatMap itemL, isAsc b) ∧ (t.flatMap itemL).length ≤ 10 * t.length
  | [], _ => by simp
  | c :: t, h => by
    have h1 := item_asc (h c (by simp))
    have h2 := flat_asc t (fun x hx => h x (by simp [hx]))
    refine ⟨fun b hb => ?_, by simp only [List.flatMap_cons, List.length_append, List.length_cons]; omega⟩
    rw [List.flatMap_cons] at hb
    rcases List.mem_append.1 hb with hb | hb
    · exact h1.1 b hb
    · exact h2.1 b hb
theorem textL_asc {t : List Int} (h : ∀ c ∈ t, isCode c = true) : (∀ b ∈ textL t, isAsc b) ∧ (textL t).length ≤ 2 + 10 * t.length ∧ 2 ≤ (textL t).length := by
  have := flat_asc t h
  refine ⟨fun b hb => ?_, by simp only [textL, List.length_cons, List.length_append, List.length_nil]; omega, by simp only [textL, List.length_cons, List.length_append, List.length_nil]; omega⟩
  unfold textL at hb
  rcases List.mem_cons.1 hb with rfl | hb
  · exact ⟨by decide, by decide⟩
  · rcases List.mem_append.1 hb with hb | hb
    · exact this.1 b hb
    · simp at hb; subst hb; exact ⟨by decide, by decide⟩
theorem textL_last (t : List Int) : (textL t).getD ((textL t).length - 1) 0 = 34 ∧ (textL t).getD 0 0 = 34 := by
  refine ⟨?_, rfl⟩
  have e : textL t = (34 :: t.flatMap itemL) ++ [34] := rfl
  rw [e, List.getD, List.length_append, List.getElem?_append_right (by simp)]
  simp
theorem textL_join (a b : List Int) : textL (a ++ b) = (textL a).take ((textL a).length - 1) ++ (textL b).drop 1 := by
  have e : textL a = (34 :: a.flatMap itemL) ++ [34] := rfl
  rw [e, List.length_append, show ([34] : List UInt8).length = 1 from rfl, Nat.add_sub_cancel, List.take_left' rfl]
  simp [textL]
/-- A code point in braces, its digits any that have this value. -/
theorem brace_ok {ds : List UInt8} {c : Int} (h0 : 0 < ds.length) (h6 : ds.length ≤ 6) (hd : ∀ b ∈ ds, 0 ≤ dig2 b.toNat) (hv : valD ds 0 = c) (hc : isCode c = true) :
    litR ([34, 92, 117, 123] ++ ds ++ [125, 34]) = ⟨[c], 0, 0⟩ ∧ litR ([34, 92, 117, 123] ++ ds ++ [125]) = ⟨[], 3, ds.length + 5⟩ ∧ litR ([34, 92, 117, 123] ++ ds ++ [59, 125, 34]) = ⟨[], 3, 1⟩ := by
  refine ⟨?_, ?_, ?_⟩
  · have e : [34, 92, 117, 123] ++ ds ++ [125, 34] = 34 :: ([92, 117, 123] ++ ds ++ 125 :: [34]) := by simp
    rw [e, litR_some, lit_escape h0 h6 hd hv hc, lit_quote, if_pos rfl]
    rfl
  · have e : [34, 92, 117, 123] ++ ds ++ [125] = 34 :: ([92, 117, 123] ++ ds ++ 125 :: []) := by simp
    rw [e, litR_some, lit_escape h0 h6 hd hv hc, lit_nil]
    congr 1
    omega
  · have e : [34, 92, 117, 123] ++ ds ++ [59, 125, 34] = 34 :: 92 :: (117 :: 123 :: ds ++ [59, 125, 34]) := by simp
    rw [e, litR_some, lit_wrong]
    have e2 : 92 :: (117 :: 123 :: ds ++ [59, 125, 34]) = [92, 117, 123] ++ ds ++ [59, 125, 34] := by simp
    have hr : rdig 6 (ds ++ [59, 125, 34]) 0 0 = (c, ds.length) := by
      rw [rdig_all ds 6 _ 0 0 h6 hd (fun b hb => by simp at hb; subst hb; decide)]
      rw [show List.foldl (fun c b => c * 16 + dig2 b.toNat) 0 ds = valD ds 0 from rfl, hv, Nat.zero_add]
    have e3 : ([92, 117, 123] ++ ds ++ [59, 125, 34]).drop 3 = ds ++ [59, 125, 34] := by simp
    have hg : ([92, 117, 123] ++ ds ++ [59, 125, 34]).getD (3 + ds.length) 0 = 59 := by
      rw [List.getD, List.getElem?_append_right (by simp; omega)]
      simp
      rw [show 3 + ds.length - (ds.length + 1 + 1 + 1) = 0 by omega]
      rfl
    have hl : ([92, 117, 123] ++ ds ++ [59, 125, 34]).length = 3 + ds.length + 3 := by simp; omega
    rw [e2]
    unfold escR
    rw [if_neg (by simp [List.getD]), if_neg (by rw [hl]; omega), if_neg (by simp [List.isPrefixOf]), e3, hr]
    unfold escE
    rw [if_neg (by simp [hc]), if_neg (by rw [hl]; show ¬ 3 + ds.length = _; omega), if_pos (.inr (by show List.getD _ (3 + ds.length) 0 ≠ 125; rw [hg]; decide))]
end Go.Proofs.YtkfchcmbpgcncaaDoor
