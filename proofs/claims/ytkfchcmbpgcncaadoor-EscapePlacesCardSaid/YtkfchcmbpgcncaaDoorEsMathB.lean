/-
  Plain facts on literals (no program stands here): what is written is read, what is read is valid, and faults lie where beginnings end.
-/
import Derived.Test.YtkfchcmbpgcncaaDoorEsMath
namespace Go.Proofs.YtkfchcmbpgcncaaDoor

theorem dig2_hd {j : Nat} (h : j < 16) : dig2 (hd j).toNat = j := by
  have := dig_hd h
  rw [dig2_of (by omega), this]
/-- The digits' value. -/
def valD (ds : List UInt8) (c : Int) : Int := ds.foldl (fun c b => c * 16 + dig2 b.toNat) c
theorem valD_scan : ∀ (ds : List UInt8) (c z : Int), scan ds c = some z → valD ds c = z ∧ ∀ b ∈ ds, 0 ≤ dig2 b.toNat
  | [], c, z, h => by simp only [scan, Option.some.injEq] at h; exact ⟨h, by simp⟩
  | b :: r, c, z, h => by
    simp only [scan] at h
    split at h
    · cases h
    · rename_i h0
      have e := dig2_of (b := b.toNat) (by omega)
      obtain ⟨h1, h2⟩ := valD_scan r _ z h
      refine ⟨by simp only [valD, List.foldl_cons, e]; exact h1, fun x hx => ?_⟩
      rcases List.mem_cons.1 hx with rfl | hx
      · rw [e]; omega
      · exact h2 x hx
theorem valD_zeros : ∀ (ds : List UInt8), valD (trimZ ds) 0 = valD ds 0
  | [] => rfl
  | b :: r => by
    by_cases h : b = 48
    · subst h
      have := valD_zeros r
      have e : trimZ (48 :: r) = trimZ r := by simp [trimZ]
      rw [e, this]
      rfl
    · have hb : (b == 48) = false := by simp [h]
      simp only [trimZ, List.dropWhile_cons, hb]
      rfl
theorem trimZ_mem {ds : List UInt8} {b : UInt8} (h : b ∈ trimZ ds) : b ∈ ds := (List.dropWhile_sublist _).subset h
theorem trimZ_length (ds : List UInt8) : (trimZ ds).length ≤ ds.length := (List.dropWhile_sublist _).length_le
theorem trimZ_nil {ds : List UInt8} (h : trimZ ds = []) : valD ds 0 = 0 := by rw [← valD_zeros, h]; rfl

theorem lit_digits {ds : List UInt8} {c : Int} (h0 : 0 < ds.length) (h6 : ds.length ≤ 6) (hd : ∀ b ∈ ds, 0 ≤ dig2 b.toNat) (hv : valD ds 0 = c) (hc : isCode c = true) (r : List UInt8) :
    escR ([92, 117, 123] ++ ds ++ 125 :: r) = (c, ds.length + 4, 0) := by
  have hr : rdig 6 (ds ++ 125 :: r) 0 0 = (c, ds.length) := by
    rw [rdig_all ds 6 (125 :: r) 0 0 h6 hd (fun b hb => by simp at hb; subst hb; decide)]
    rw [show List.foldl (fun c b => c * 16 + dig2 b.toNat) 0 ds = valD ds 0 from rfl, hv, Nat.zero_add]
  have e3 : ([92, 117, 123] ++ ds ++ 125 :: r).drop 3 = ds ++ 125 :: r := by simp
  have hg : ([92, 117, 123] ++ ds ++ 125 :: r).getD (3 + ds.length) 0 = 125 := by
    rw [List.getD, List.getElem?_append_right (by simp; omega)]
    simp
    rw [show 3 + ds.length - (ds.length + 1 + 1 + 1) = 0 by omega]
    rfl
  have hl : ([92, 117, 123] ++ ds ++ 125 :: r).length = 3 + ds.length + 1 + r.length := by simp; omega
  unfold escR
  rw [if_neg (by simp [List.getD]), if_neg (by rw [hl]; omega), if_neg (by simp [List.isPrefixOf]), e3, hr]
  unfold escE
  rw [if_neg (by simp [hc]), if_neg (by rw [hl]; omega), if_neg (by rw [hg]; intro hh; rcases hh with hh | hh; exact absurd hh (by show ¬ ds.length = 0; omega); exact hh rfl)]
  congr 2
  show 3 + ds.length + 1 = _
  omega
theorem lit_escape {ds : List UInt8} {c : Int} (h0 : 0 < ds.length) (h6 : ds.length ≤ 6) (hd : ∀ b ∈ ds, 0 ≤ dig2 b.toNat) (hv : valD ds 0 = c) (hc : isCode c = true) (r : List UInt8) (k : Nat) (acc : List Int) :
    lit ([92, 117, 123] ++ ds ++ 125 :: r) k acc = lit r (k + (ds.length + 4)) (acc ++ [c]) := by
  have he := lit_digits h0 h6 hd hv hc r
  have e : [92, 117, 123] ++ ds ++ 125 :: r = 92 :: (117 :: 123 :: ds ++ 125 :: r) := by simp
  rw [e] at he ⊢
  rw [lit_esc _ _ (by rw [he]), he]
  congr 1
  simp

theorem u8_toNat {c : Int} (h0 : 0 ≤ c) (h : c ≤ 255) : ((u8 c).toNat : Int) = c := by
  simp only [u8, UInt8.toNat_ofNat']
  omega
/-- An item is read as its code point. -/
theorem lit_item {c : Int} (hc : isCode c = true) (r : List UInt8) (k : Nat) (acc : List Int) : lit (itemL c ++ r) k acc = lit r (k + (itemL c).length) (acc ++ [c]) := by
  have hb := isCode_bounds hc
  unfold itemL
  split
  · rename_i h
    have he : escR (92 :: u8 c :: r) = (c, 2, 0) := by
      have hu := u8_toNat (c := c) (by omega) (by omega)
      unfold escR
      rw [if_pos ⟨by simp, by rcases h with rfl | rfl <;> simp [List.getD] <;> decide⟩]
      simp only [List.getD, List.getElem?_cons_succ, List.getElem?_cons_zero, Option.getD_some, hu]
    show lit (92 :: (u8 c :: r)) k acc = _
    rw [lit_esc _ _ (by rw [he]), he]
    rfl
  · rename_i h
    split
    · rename_i h2
      have hu := u8_toNat (c := c) (by omega) (by omega)
      show lit (u8 c :: r) k acc = _
      rw [lit_plain _ _ (fun e => h (.inl (by rw [e] at hu; exact hu.symm))) (fun e => h (.inr (by rw [e] at hu; exact hu.symm))) (by omega), hu]
      rfl
    · split
      · rename_i h3
        subst h3
        have := lit_escape (ds := [48]) (c := 0) (by decide) (by decide) (by decide) (by decide) (by decide) r k acc
        exact this
      · rename_i h3
        obtain ⟨hv, hd⟩ := valD_scan (hexL c) 0 c (scan_hexL hc)
        have hl := hexL_length hc
        have hn := nd_range c.toNat
        have ht := trimZ_length (hexL c)
        have h0 : 0 < (trimZ (hexL c)).length := by
          rcases hz : trimZ (hexL c) with _ | _
          · have := trimZ_nil hz; omega
          · simp
        have := lit_escape (ds := trimZ (hexL c)) (c := c) h0 (by omega) (fun b hb => hd b (trimZ_mem hb)) (by rw [valD_zeros, hv]) hc r k acc
        rw [show [92, 117, 123] ++ trimZ (hexL c) ++ [125] ++ r = [92, 117, 123] ++ trimZ (hexL c) ++ 125 :: r by simp, this]
        simp
theorem lit_items : ∀ (t : List Int), (∀ c ∈ t, isCode c = true) → ∀ (r : List UInt8) (k : Nat) (acc : List Int), lit (t.flatMap itemL ++ r) k acc = lit r (k + (t.flatMap itemL).length) (acc ++ t)
  | [], _, r, k, acc => by simp
  | c :: t, h, r, k, acc => by
    rw [List.flatMap_cons, List.append_assoc, lit_item (h c (by simp)), lit_items t (fun x hx => h x (by simp [hx]))]
    simp
    congr 1
    omega
/-- What is written is read. -/
theorem litR_textL {t : List Int} (h : ∀ c ∈ t, isCode c = true) : litR (textL t) = ⟨t, 0, 0⟩ := by
  unfold textL
  rw [litR_some, lit_items t h, lit_quote, if_pos rfl, List.nil_append]

/-- What is read is valid; a fault lies within. -/
theorem lit_out : ∀ (n : Nat) (r : List UInt8), r.length ≤ n → ∀ (k : Nat) (acc : List Int), (∀ c ∈ acc, isCode c = true) →
    (∀ c ∈ (lit r k acc).t, isCode c = true) ∧ ((lit r k acc).e = 0 ∧ (lit r k acc).at' = 0 ∨ (lit r k acc).e = 3 ∧ (lit r k acc).t = [] ∧ k ≤ (lit r k acc).at' ∧ (lit r k acc).at' ≤ k + r.length) := by
  intro n
  induction n with
  | zero =>
    intro r hr k acc ha
    have : r = [] := List.eq_nil_of_length_eq_zero (by omega)
    subst this
    rw [lit_nil]
    exact ⟨by simp, .inr ⟨rfl, rfl, Nat.le_refl _, by simp⟩⟩
  | succ n ih =>
    intro r hr k acc ha
    cases r with
    | nil => rw [lit_nil]; exact ⟨by simp, .inr ⟨rfl, rfl, Nat.le_refl _, by simp⟩⟩
    | cons b r =>
      simp only [List.length_cons] at hr ⊢
      by_cases h1 : b = 34
      · subst h1
        rw [lit_quote]
        split
        · exact ⟨ha, .inl ⟨rfl, rfl⟩⟩
        · exact ⟨by simp, .inr ⟨rfl, rfl, by show k ≤ k + 1; omega, by show k + 1 ≤ _; omega⟩⟩
      · by_cases h2 : b = 92
        · subst h2
          by_cases h3 : (escR (92 :: r)).2.2 = 2
          · rw [lit_wrong _ _ h3]; exact ⟨by simp, .inr ⟨rfl, rfl, Nat.le_refl _, by show k ≤ _; omega⟩⟩
          · by_cases h4 : (escR (92 :: r)).2.2 = 1
            · rw [lit_open _ _ h4]; exact ⟨by simp, .inr ⟨rfl, rfl, by show k ≤ k + _; omega, Nat.le_refl _⟩⟩
            · have hd := escR_done h3 h4
              simp only [List.length_cons] at hd
              rw [lit_esc _ _ hd.2.2.2]
              have := ih ((92 :: r).drop (escR (92 :: r)).2.1) (by simp only [List.length_drop, List.length_cons]; omega) (k + (escR (92 :: r)).2.1) (acc ++ [(escR (92 :: r)).1])
                (fun c hc => by rcases List.mem_append.1 hc with h | h; exact ha c h; simp at h; subst h; exact hd.1)
              refine ⟨this.1, this.2.imp id ?_⟩
              rintro ⟨e1, e2, e3, e4⟩
              simp only [List.length_drop, List.length_cons] at e4
              exact ⟨e1, e2, by omega, by omega⟩
        · by_cases h3 : 32 ≤ b.toNat ∧ b.toNat ≤ 126
          · rw [lit_plain _ _ h1 h2 h3]
            have := ih r (by omega) (k + 1) (acc ++ [(b.toNat : Int)]) (fun c hc => by
              rcases List.mem_append.1 hc with h | h
              · exact ha c h
              · simp at h; subst h; simp only [isCode, decide_eq_true_eq]; omega)
            refine ⟨this.1, this.2.imp id ?_⟩
            rintro ⟨e1, e2, e3, e4⟩
            exact ⟨e1, e2, by omega, by omega⟩
          · rw [lit_bad _ _ h1 h2 h3]; exact ⟨by simp, .inr ⟨rfl, rfl, Nat.le_refl _, by show k ≤ _; omega⟩⟩
theorem litR_out (l : List UInt8) : (∀ c ∈ (litR l).t, isCode c = true) ∧ ((litR l).e = 0 ∧ (litR l).at' = 0 ∨ (litR l).e = 3 ∧ (litR l).t = [] ∧ (litR l).at' ≤ l.length) := by
  by_cases h : l.head? = some 34
  · obtain ⟨r, rfl⟩ : ∃ r, l = 34 :: r := by cases l with
      | nil => simp at h
      | cons b r => simp at h; subst h; exact ⟨r, rfl⟩
    rw [litR_some]
    have := lit_out r.length r (Nat.le_refl _) 1 [] (by simp)
    refine ⟨this.1, this.2.imp id ?_⟩
    rintro ⟨e1, e2, e3, e4⟩
    exact ⟨e1, e2, by simp only [List.length_cons]; omega⟩
  · rw [litR_not h]
    exact ⟨by simp, .inr ⟨rfl, rfl, Nat.zero_le _⟩⟩

/-- A fault lies at its place or behind it. -/
theorem lit_at : ∀ (n : Nat) (r : List UInt8), r.length ≤ n → ∀ (k : Nat) (acc : List Int), (lit r k acc).e = 3 → k ≤ (lit r k acc).at' := by
  intro n
  induction n with
  | zero =>
    intro r hr k acc he
    have : r = [] := List.eq_nil_of_length_eq_zero (by omega)
    subst this
    exact Nat.le_refl _
  | succ n ih =>
    intro r hr k acc he
    cases r with
    | nil => exact Nat.le_refl _
    | cons b r =>
      simp only [List.length_cons] at hr
      by_cases h1 : b = 34
      · subst h1
        rw [lit_quote] at he ⊢
        split at he
        · simp at he
        · rename_i h; rw [if_neg h]; show k ≤ k + 1; omega
      · by_cases h2 : b = 92
        · subst h2
          by_cases h3 : (escR (92 :: r)).2.2 = 2
          · rw [lit_wrong _ _ h3]; exact Nat.le_refl _
          · by_cases h4 : (escR (92 :: r)).2.2 = 1
            · rw [lit_open _ _ h4]; show k ≤ k + _; omega
            · have hd := escR_done h3 h4
              rw [lit_esc _ _ hd.2.2.2] at he ⊢
              have := ih _ (by simp only [List.length_drop, List.length_cons]; omega) _ _ he
              omega
        · by_cases h3 : 32 ≤ b.toNat ∧ b.toNat ≤ 126
          · rw [lit_plain _ _ h1 h2 h3] at he ⊢
            have := ih r (by omega) _ _ he
            omega
          · rw [lit_bad _ _ h1 h2 h3]; exact Nat.le_refl _
/-- Up to the fault, a string is the beginning of a literal. -/
theorem lit_cut : ∀ (n : Nat) (r : List UInt8), r.length ≤ n → ∀ (k : Nat) (acc : List Int), (lit r k acc).e = 3 →
    (lit (r.take ((lit r k acc).at' - k)) k acc).e = 0 ∨ ((lit (r.take ((lit r k acc).at' - k)) k acc).e = 3 ∧ (lit (r.take ((lit r k acc).at' - k)) k acc).at' = (lit r k acc).at') := by
  intro n
  induction n with
  | zero =>
    intro r hr k acc he
    have : r = [] := List.eq_nil_of_length_eq_zero (by omega)
    subst this
    rw [List.take_nil]
    exact .inr ⟨he, rfl⟩
  | succ n ih =>
    intro r hr k acc he
    cases r with
    | nil => rw [List.take_nil]; exact .inr ⟨he, rfl⟩
    | cons b r =>
      simp only [List.length_cons] at hr
      by_cases h1 : b = 34
      · subst h1
        rw [lit_quote] at he ⊢
        split at he
        · simp at he
        · rename_i hr0
          rw [if_neg hr0]
          rw [show k + 1 - k = 1 by omega, List.take_succ_cons, List.take_zero, lit_quote, if_pos rfl]
          exact .inl rfl
      · by_cases h2 : b = 92
        · subst h2
          by_cases h3 : (escR (92 :: r)).2.2 = 2
          · rw [lit_wrong _ _ h3, Nat.sub_self, List.take_zero, lit_nil]; exact .inr ⟨rfl, rfl⟩
          · by_cases h4 : (escR (92 :: r)).2.2 = 1
            · rw [lit_open _ _ h4]
              rw [List.take_of_length_le (by simp only [List.length_cons]; omega), lit_open _ _ h4]
              exact .inr ⟨rfl, rfl⟩
            · have hd := escR_done h3 h4
              simp only [List.length_cons] at hd
              have e1 := lit_esc (r := r) k acc hd.2.2.2
              rw [e1] at he ⊢
              have hge : k + (escR (92 :: r)).2.1 ≤ (lit ((92 :: r).drop (escR (92 :: r)).2.1) (k + (escR (92 :: r)).2.1) (acc ++ [(escR (92 :: r)).1])).at' := by
                have := lit_at ((92 :: r).drop (escR (92 :: r)).2.1).length _ (Nat.le_refl _) (k + (escR (92 :: r)).2.1) (acc ++ [(escR (92 :: r)).1]) he
                exact this
              have hI := ih ((92 :: r).drop (escR (92 :: r)).2.1) (by simp only [List.length_drop, List.length_cons]; omega) (k + (escR (92 :: r)).2.1) (acc ++ [(escR (92 :: r)).1]) he
              generalize (lit ((92 :: r).drop (escR (92 :: r)).2.1) (k + (escR (92 :: r)).2.1) (acc ++ [(escR (92 :: r)).1])).at' = p at hI hge ⊢
              have ht := escR_take (l := 92 :: r) (m := p - k) hd.2.2.2 (by omega)
              obtain ⟨q, hq⟩ : ∃ q, p - k = q + 1 := ⟨p - k - 1, by omega⟩
              rw [hq, List.take_succ_cons] at ht ⊢
              rw [lit_esc _ _ (by rw [ht]; exact hd.2.2.2), ht]
              have e2 : (92 :: r.take q).drop (escR (92 :: r)).2.1 = ((92 :: r).drop (escR (92 :: r)).2.1).take (p - (k + (escR (92 :: r)).2.1)) := by
                rw [← List.take_succ_cons, List.drop_take]
                congr 1
                omega
              rw [e2]
              exact hI
        · by_cases h3 : 32 ≤ b.toNat ∧ b.toNat ≤ 126
          · have e1 := lit_plain (b := b) (r := r) k acc h1 h2 h3
            rw [e1] at he ⊢
            have hge := lit_at r.length r (Nat.le_refl _) (k + 1) (acc ++ [(b.toNat : Int)]) he
            have hI := ih r (by omega) (k + 1) (acc ++ [(b.toNat : Int)]) he
            generalize (lit r (k + 1) (acc ++ [(b.toNat : Int)])).at' = p at hI hge ⊢
            obtain ⟨q, hq⟩ : ∃ q, p - k = q + 1 := ⟨p - k - 1, by omega⟩
            rw [hq, List.take_succ_cons, lit_plain _ _ h1 h2 h3]
            rw [show p - (k + 1) = q by omega] at hI
            exact hI
          · rw [lit_bad _ _ h1 h2 h3, Nat.sub_self, List.take_zero, lit_nil]; exact .inr ⟨rfl, rfl⟩
end Go.Proofs.YtkfchcmbpgcncaaDoor
