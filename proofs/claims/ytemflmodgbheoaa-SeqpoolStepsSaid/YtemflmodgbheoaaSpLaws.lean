/-
  Plain facts for the statements on pools: what is added is found again, what was there stays, what occurs needs no codes.
-/
import Derived.Test.YtemflmodgbheoaaSpAwake
namespace Go.Proofs.Ytemflmodgbheoaa.Sp
set_option linter.unusedVariables false

theorem first_agree {codes seq : List Int} : ∀ (f k : Nat), k ≤ codes.length → codes.length ≤ k + f → firstAt codes seq f k = codes.length ∨ agree codes seq (firstAt codes seq f k) = true
  | 0, k, h1, h2 => by rw [firstAt]; exact .inl (by omega)
  | f + 1, k, h1, h2 => by
    rw [firstAt]
    split
    · exact first_agree f (k + 1) (by omega) (by omega)
    · rename_i h
      rcases ha : agree codes seq k with _ | _
      · left
        rcases Nat.lt_or_ge k codes.length with h3 | h3
        · exact absurd ⟨h3, by rw [ha]; decide⟩ h
        · omega
      · exact .inr rfl
theorem agree_last (codes seq : List Int) : agree codes seq codes.length = true := by
  rw [agree, decide_eq_true_eq, Nat.sub_self, Nat.min_zero, List.take_zero, List.take_zero]
theorem start_agree (codes seq : List Int) : agree codes seq (startOf codes seq) = true := by
  rcases first_agree codes.length 0 (Nat.zero_le _) (by omega) (codes := codes) (seq := seq) with h | h
  · rw [startOf, h]; exact agree_last _ _
  · exact h
theorem place_get (codes seq : List Int) : ((codes ++ seq.drop (present codes seq)).drop (startOf codes seq)).take seq.length = seq := by
  have hs := start_le codes seq
  have ha := start_agree codes seq
  rw [agree, decide_eq_true_eq] at ha
  rw [List.drop_append_of_le_length hs]
  rw [present]
  rcases Nat.le_total seq.length (codes.length - startOf codes seq) with h | h
  · rw [Nat.min_eq_left h, List.take_of_length_le (Nat.le_refl seq.length)] at ha
    rw [Nat.min_eq_left h, List.drop_length, List.append_nil]
    exact ha
  · rw [Nat.min_eq_right h] at ha ⊢
    rw [List.take_of_length_le (by rw [List.length_drop]; exact Nat.le_refl _)] at ha
    rw [ha, List.take_append_drop, List.take_of_length_le (Nat.le_refl _)]
theorem seqAt_old {p : List Int × List Int × List Int} (h : okP p) (seq : List Int) {j : Nat} (hj : j < p.2.1.length) : seqAt (addP p seq).1 (addP p seq).2.1 (addP p seq).2.2 j = seqAt p.1 p.2.1 p.2.2 j := by
  obtain ⟨h1, h2⟩ := okP_at h
  have e1 : (addP p seq).2.1.getD j 0 = p.2.1.getD j 0 := by simp [addP, List.getD, List.getElem?_append_left hj]
  have e2 : (addP p seq).2.2.getD j 0 = p.2.2.getD j 0 := by simp [addP, List.getD, List.getElem?_append_left (h1 ▸ hj)]
  have := h2 j hj
  rw [ok1, decide_eq_true_eq] at this
  rw [seqAt, seqAt, e1, e2]
  show ((p.1 ++ seq.drop (present p.1 seq)).drop _).take _ = _
  rw [List.drop_append_of_le_length (by omega), List.take_append_of_le_length (by rw [List.length_drop]; omega)]
theorem seqAt_new {p : List Int × List Int × List Int} (h : okP p) (seq : List Int) : seqAt (addP p seq).1 (addP p seq).2.1 (addP p seq).2.2 p.2.1.length = seq := by
  obtain ⟨h1, h2⟩ := okP_at h
  have e1 : (addP p seq).2.1.getD p.2.1.length 0 = (startOf p.1 seq : Int) := by simp [addP, List.getD]
  have e2 : (addP p seq).2.2.getD p.2.1.length 0 = (seq.length : Int) := by rw [h1]; simp [addP, List.getD]
  rw [seqAt, e1, e2, Int.toNat_natCast, Int.toNat_natCast]
  exact place_get _ _
theorem pack_len (l : List (List Int)) : ∀ j, j ≤ l.length → (packP (l.take j)).2.1.length = j
  | 0, _ => rfl
  | j + 1, h => by rw [packP_step (by omega), (addP_size _ _).2.1, pack_len l j (by omega)]
theorem seqAt_pack (l : List (List Int)) : ∀ j, j ≤ l.length → ∀ i, i < j → seqAt (packP (l.take j)).1 (packP (l.take j)).2.1 (packP (l.take j)).2.2 i = l.getD i []
  | 0, _, i, hi => absurd hi (Nat.not_lt_zero _)
  | j + 1, h, i, hi => by
    have hp := okP_pack l j
    have hl := pack_len l j (by omega)
    rw [packP_step (by omega)]
    rcases Nat.lt_or_ge i j with h1 | h1
    · rw [seqAt_old hp _ (by omega)]
      exact seqAt_pack l j (by omega) i h1
    · obtain rfl : i = j := by omega
      have := seqAt_new hp (l.getD i [])
      rwa [hl] at this
theorem pack_at {l : List (List Int)} {i : Nat} (hi : i < l.length) : seqAt (packP l).1 (packP l).2.1 (packP l).2.2 i = l.getD i [] := by
  have := seqAt_pack l l.length (Nat.le_refl _) i hi
  rwa [List.take_length] at this
theorem pack_length (l : List (List Int)) : (packP l).2.1.length = l.length := by
  have := pack_len l l.length (Nat.le_refl _)
  rwa [List.take_length] at this
theorem get_pack {l : List (List Int)} {i : Nat} (hi : i < l.length) : getL (packP l).1 (packP l).2.1 (packP l).2.2 (i : Int) = some (l.getD i []) := by
  have hv : validL (packP l).1.length (packP l).2.1 (packP l).2.2 = true := okP_all l
  rw [getL, if_pos ⟨hv, by omega, by rw [pack_length]; omega⟩, Int.toNat_natCast, pack_at hi]
theorem get_pack_end (l : List (List Int)) : getL (packP l).1 (packP l).2.1 (packP l).2.2 (l.length : Int) = none := by
  rw [getL, if_neg]
  rw [pack_length]
  omega
theorem findFrom_le {codes starts lens seq : List Int} : ∀ (f k i : Nat), k ≤ i → i < k + f → seqAt codes starts lens i = seq → ∃ j, k ≤ j ∧ j ≤ i ∧ findFrom codes starts lens seq f k = ((j : Int), true) ∧ seqAt codes starts lens j = seq
  | 0, k, i, h1, h2, _ => by omega
  | f + 1, k, i, h1, h2, h3 => by
    rw [findFrom]
    by_cases he : seqAt codes starts lens k = seq
    · rw [if_pos he]
      exact ⟨k, Nat.le_refl _, h1, rfl, he⟩
    · rw [if_neg he]
      have hne : k ≠ i := by rintro rfl; exact he h3
      obtain ⟨j, h4, h5, h6, h7⟩ := findFrom_le f (k + 1) i (by omega) (by omega) h3
      exact ⟨j, by omega, h5, h6, h7⟩
theorem find_pack {l : List (List Int)} {i : Nat} (hi : i < l.length) : ∃ j : Nat, j ≤ i ∧ findL (packP l).1 (packP l).2.1 (packP l).2.2 (l.getD i []) = ((j : Int), true) ∧ l.getD j [] = l.getD i [] := by
  have hv : validL (packP l).1.length (packP l).2.1 (packP l).2.2 = true := okP_all l
  obtain ⟨j, _, h2, h3, h4⟩ := findFrom_le (codes := (packP l).1) (starts := (packP l).2.1) (lens := (packP l).2.2) (seq := l.getD i []) (packP l).2.1.length 0 i (Nat.zero_le _) (by rw [pack_length]; omega) (pack_at hi)
  refine ⟨j, h2, by rw [findL, if_pos hv]; exact h3, ?_⟩
  rw [← pack_at (show j < l.length by omega)]
  exact h4
/-- What occurs whole is present whole. -/
theorem present_full {codes seq : List Int} : ∀ (m j : Nat), j ≤ m → j ≤ codes.length → seq <:+ codes.take j → present codes seq = seq.length := by
  intro m
  induction m with
  | zero =>
    intro j hj hl hs
    have hle := hs.length_le
    rw [List.length_take] at hle
    rw [present]
    omega
  | succ m ih =>
    intro j hj hl hs
    by_cases hx : ∃ i, i < j ∧ seq <:+ codes.take i
    · obtain ⟨i, hi, hs'⟩ := hx
      exact ih i (by omega) (by omega) hs'
    · have hle := hs.length_le
      rw [List.length_take, Nat.min_eq_left hl] at hle
      rw [present, start_full hl hs (fun i hi hs' => hx ⟨i, hi, hs'⟩)]
      omega
/-- A part of a sequence that is in the pool. -/
theorem present_part {codes : List Int} {s n a b : Nat} (h : s + n ≤ codes.length) (hab : a ≤ b) (hb : b ≤ n) : present codes ((((codes.drop s).take n).drop a).take (b - a)) = b - a := by
  have hlen : ((((codes.drop s).take n).drop a).take (b - a)).length = b - a := by
    rw [List.length_take, List.length_drop, List.length_take, List.length_drop]
    omega
  have hs : (((codes.drop s).take n).drop a).take (b - a) <:+ codes.take (s + b) := by
    refine ⟨codes.take (s + a), ?_⟩
    rw [List.drop_take, List.take_take, List.drop_drop, Nat.min_eq_left (by omega), ← List.take_add, show s + a + (b - a) = s + b by omega]
  rw [present_full (s + b) (s + b) (Nat.le_refl _) (by omega) hs, hlen]
theorem add_part {p : List Int × List Int × List Int} {x : List Int} (h : present p.1 x = x.length) : (addP p x).1 = p.1 := by
  rw [addP, h, List.drop_length, List.append_nil]
theorem pack_codes (l : List (List Int)) : ∀ j, j ≤ l.length → (packP (l.take j)).1.length ≤ ((l.take j).map List.length).sum
  | 0, _ => by simp [packP]
  | j + 1, h => by
    have := pack_codes l j (by omega)
    have h2 := (addP_size (packP (l.take j)) (l.getD j [])).1
    rw [packP_step (by omega), take_snocL (by omega), List.map_append, List.sum_append]
    simp only [List.map_cons, List.map_nil, List.sum_cons, List.sum_nil]
    omega
end Go.Proofs.Ytemflmodgbheoaa.Sp
