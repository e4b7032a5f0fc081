/-
  Plain facts on UTF-8, continued: decoding undoes encoding, and encoding undoes decoding; decoding by pieces.
-/
import Derived.Test.YtpckedihdmibmaaDoorU8ProgE
namespace Go.Proofs.YtpckedihdmibmaaDoor.U8
set_option linter.unusedVariables false
set_option linter.unusedSimpArgs false

theorem lead1 {b lo hi : Int} (h : lead b = (1, lo, hi)) : 194 ≤ b ∧ b ≤ 223 ∧ lo = 128 ∧ hi = 191 := by
  revert h
  unfold lead
  (repeat' split) <;> (intro h; simp only [Prod.mk.injEq] at h; first | omega | (exfalso; omega))
theorem lead2 {b lo hi : Int} (h : lead b = (2, lo, hi)) : 224 ≤ b ∧ b ≤ 239 ∧ 128 ≤ lo ∧ hi ≤ 191 ∧ (b = 224 → lo = 160) ∧ (b = 237 → hi = 159) := by
  revert h
  unfold lead
  (repeat' split) <;> (intro h; simp only [Prod.mk.injEq] at h; first | omega | (exfalso; omega))
theorem lead3 {b lo hi : Int} (h : lead b = (3, lo, hi)) : 240 ≤ b ∧ b ≤ 244 ∧ 128 ≤ lo ∧ hi ≤ 191 ∧ (b = 240 → lo = 144) ∧ (b = 244 → hi = 143) := by
  revert h
  unfold lead
  (repeat' split) <;> (intro h; simp only [Prod.mk.injEq] at h; first | omega | (exfalso; omega))
theorem step_of1 {b0 b1 lo hi : Int} {r : List Int} (hl : lead b0 = (1, lo, hi)) (h1 : lo ≤ b1 ∧ b1 ≤ hi) : step (b0 :: b1 :: r) = (64 * (b0 % 32) + b1 - 128, 2, true) := by
  have hb := lead1 hl
  have e0 : (b0 :: b1 :: r).getD 0 0 = b0 := rfl
  have e1 : (b0 :: b1 :: r).getD 1 0 = b1 := rfl
  rw [step_more (by simp) (by rw [e0]; omega) (by rw [e0, hl]; exact Nat.succ_pos _), e0, hl, bits0, hl, if_pos rfl, scan_yes (by simp) (by rw [e1]; exact h1.1) (by rw [e1]; exact h1.2), e1]
  rfl
theorem step_of2 {b0 b1 b2 lo hi : Int} {r : List Int} (hl : lead b0 = (2, lo, hi)) (h1 : lo ≤ b1 ∧ b1 ≤ hi) (h2 : 128 ≤ b2 ∧ b2 ≤ 191) : step (b0 :: b1 :: b2 :: r) = (64 * (64 * (b0 % 16) + b1 - 128) + b2 - 128, 3, true) := by
  have hb := lead2 hl
  have e0 : (b0 :: b1 :: b2 :: r).getD 0 0 = b0 := rfl
  have e1 : (b0 :: b1 :: b2 :: r).getD 1 0 = b1 := rfl
  have e2 : (b0 :: b1 :: b2 :: r).getD (1 + 1) 0 = b2 := rfl
  rw [step_more (by simp) (by rw [e0]; omega) (by rw [e0, hl]; exact Nat.succ_pos _), e0, hl, bits0, hl, if_neg (show ¬ (2 : Nat) = 1 by decide), if_pos rfl, scan_yes (by simp) (by rw [e1]; exact h1.1) (by rw [e1]; exact h1.2), e1,
    scan_yes (by simp) (by rw [e2]; exact h2.1) (by rw [e2]; exact h2.2), e2]
  rfl
theorem step_of3 {b0 b1 b2 b3 lo hi : Int} {r : List Int} (hl : lead b0 = (3, lo, hi)) (h1 : lo ≤ b1 ∧ b1 ≤ hi) (h2 : 128 ≤ b2 ∧ b2 ≤ 191) (h3 : 128 ≤ b3 ∧ b3 ≤ 191) : step (b0 :: b1 :: b2 :: b3 :: r) = (64 * (64 * (64 * (b0 % 8) + b1 - 128) + b2 - 128) + b3 - 128, 4, true) := by
  have hb := lead3 hl
  have e0 : (b0 :: b1 :: b2 :: b3 :: r).getD 0 0 = b0 := rfl
  have e1 : (b0 :: b1 :: b2 :: b3 :: r).getD 1 0 = b1 := rfl
  have e2 : (b0 :: b1 :: b2 :: b3 :: r).getD (1 + 1) 0 = b2 := rfl
  have e3 : (b0 :: b1 :: b2 :: b3 :: r).getD (1 + 1 + 1) 0 = b3 := rfl
  rw [step_more (by simp) (by rw [e0]; omega) (by rw [e0, hl]; exact Nat.succ_pos _), e0, hl, bits0, hl, if_neg (show ¬ (3 : Nat) = 1 by decide), if_neg (show ¬ (3 : Nat) = 2 by decide), scan_yes (by simp) (by rw [e1]; exact h1.1) (by rw [e1]; exact h1.2), e1,
    scan_yes (by simp) (by rw [e2]; exact h2.1) (by rw [e2]; exact h2.2), e2, scan_yes (by simp) (by rw [e3]; exact h3.1) (by rw [e3]; exact h3.2), e3]
  rfl
theorem lead_of2 {b : Int} (h0 : 224 ≤ b) (h1 : b ≤ 239) : ∃ lo hi, lead b = (2, lo, hi) ∧ (lo = 128 ∨ (b = 224 ∧ lo = 160)) ∧ (hi = 191 ∨ (b = 237 ∧ hi = 159)) := by
  by_cases e1 : b = 224
  · subst e1; exact ⟨160, 191, by decide, .inr ⟨rfl, rfl⟩, .inl rfl⟩
  · by_cases e2 : b = 237
    · subst e2; exact ⟨128, 159, by decide, .inl rfl, .inr ⟨rfl, rfl⟩⟩
    · exact ⟨128, 191, by unfold lead; repeat (first | rw [if_pos (by omega)] | rw [if_neg (by omega)]), .inl rfl, .inl rfl⟩
theorem lead_of3 {b : Int} (h0 : 240 ≤ b) (h1 : b ≤ 244) : ∃ lo hi, lead b = (3, lo, hi) ∧ (lo = 128 ∨ (b = 240 ∧ lo = 144)) ∧ (hi = 191 ∨ (b = 244 ∧ hi = 143)) := by
  by_cases e1 : b = 240
  · subst e1; exact ⟨144, 191, by decide, .inr ⟨rfl, rfl⟩, .inl rfl⟩
  · by_cases e2 : b = 244
    · subst e2; exact ⟨128, 143, by decide, .inl rfl, .inr ⟨rfl, rfl⟩⟩
    · exact ⟨128, 191, by unfold lead; repeat (first | rw [if_pos (by omega)] | rw [if_neg (by omega)]), .inl rfl, .inl rfl⟩
/-- What stands at the beginning of a form. -/
theorem step_form {c : Int} (h : isScalar c = true) (r : List Int) : step (form8 c ++ r) = (c, (form8 c).length, true) := by
  have hs := isScalar_iff.1 h
  rcases Int.lt_or_le c 128 with h1 | h1
  · rw [form1 h1]
    exact step_ascii (l := c :: r) (by simp) h1
  · rcases Int.lt_or_le c 2048 with h2 | h2
    · rw [form2 h1 h2]
      have hl : lead (192 + c / 64) = (1, 128, 191) := by unfold lead; rw [if_pos (by omega)]
      have := step_of1 (r := r) hl (b1 := 128 + c % 64) (by omega)
      show step (_ :: _ :: r) = _
      rw [this, show 64 * ((192 + c / 64) % 32) + (128 + c % 64) - 128 = c by omega]
      rfl
    · rcases Int.lt_or_le c 65536 with h3 | h3
      · rw [form3 h2 h3]
        obtain ⟨lo, hi, hl, hlo, hhi⟩ := lead_of2 (b := 224 + c / 4096) (by omega) (by omega)
        have := step_of2 (r := r) hl (b1 := 128 + c / 64 % 64) (b2 := 128 + c % 64) (by omega) (by omega)
        show step (_ :: _ :: _ :: r) = _
        rw [this, show 64 * (64 * ((224 + c / 4096) % 16) + (128 + c / 64 % 64) - 128) + (128 + c % 64) - 128 = c by omega]
        rfl
      · rw [form4 h3]
        obtain ⟨lo, hi, hl, hlo, hhi⟩ := lead_of3 (b := 240 + c / 262144) (by omega) (by omega)
        have := step_of3 (r := r) hl (b1 := 128 + c / 4096 % 64) (b2 := 128 + c / 64 % 64) (b3 := 128 + c % 64) (by omega) (by omega) (by omega)
        show step (_ :: _ :: _ :: _ :: r) = _
        rw [this, show 64 * (64 * (64 * ((240 + c / 262144) % 8) + (128 + c / 4096 % 64) - 128) + (128 + c / 64 % 64) - 128) + (128 + c % 64) - 128 = c by omega]
        rfl
/-- Decoding undoes encoding. -/
theorem dec_enc (p q : Int) : ∀ {l : List Int}, (∀ c ∈ l, isScalar c = true) → decL p (encL q l) = l ∧ badD (encL q l) = (encL q l).length
  | [], _ => ⟨rfl, rfl⟩
  | c :: r, h => by
    have hc := h c (List.mem_cons_self ..)
    obtain ⟨h1, h2⟩ := dec_enc p q (l := r) (fun d hd => h d (List.mem_cons_of_mem _ hd))
    have hf := form8_len c
    have hst := step_form hc (encL q r)
    have hlen : 0 < (form8 c ++ encL q r).length := by rw [List.length_append]; omega
    rw [encL_cons, one8, if_pos hc, decL_step p hlen, badD_step hlen, piece, hst, if_pos rfl, if_pos rfl, List.drop_left, h1, h2, List.length_append]
    exact ⟨rfl, rfl⟩
theorem scan_true {l : List Int} {r : Nat} {lo hi v : Int} {k : Nat} {c : Int} {n : Nat} (h : scan l (r + 1) lo hi v k = (c, n, true)) :
    k < l.length ∧ lo ≤ l.getD k 0 ∧ l.getD k 0 ≤ hi ∧ scan l r 128 191 (64 * v + l.getD k 0 - 128) (k + 1) = (c, n, true) := by
  by_cases hc : k < l.length ∧ lo ≤ l.getD k 0 ∧ l.getD k 0 ≤ hi
  · rw [scan, if_pos hc] at h
    exact ⟨hc.1, hc.2.1, hc.2.2, h⟩
  · rw [scan_no hc] at h
    simp at h
theorem scan_end {l : List Int} {lo hi v : Int} {k : Nat} {c : Int} {n : Nat} (h : scan l 0 lo hi v k = (c, n, true)) : c = v ∧ n = k := by
  simp [scan] at h
  exact ⟨h.1.symm, h.2.symm⟩
theorem take1 {l : List Int} (h : 0 < l.length) : l.take 1 = [l.getD 0 0] := by
  match l, h with
  | a :: _, _ => rfl
theorem take2 {l : List Int} (h : 1 < l.length) : l.take 2 = [l.getD 0 0, l.getD 1 0] := by
  match l, h with
  | a :: b :: _, _ => rfl
theorem take3 {l : List Int} (h : 1 + 1 < l.length) : l.take 3 = [l.getD 0 0, l.getD 1 0, l.getD (1 + 1) 0] := by
  match l, h with
  | a :: b :: c :: _, _ => rfl
theorem take4 {l : List Int} (h : 1 + 1 + 1 < l.length) : l.take 4 = [l.getD 0 0, l.getD 1 0, l.getD (1 + 1) 0, l.getD (1 + 1 + 1) 0] := by
  match l, h with
  | a :: b :: c :: d :: _, _ => rfl
/-- What is decoded is a scalar value, and the bytes are its form. -/
theorem step_ok {l : List Int} {c : Int} {n : Nat} (h0 : ∀ x ∈ l, 0 ≤ x ∧ x ≤ 255) (h : step l = (c, n, true)) : isScalar c = true ∧ form8 c = l.take n := by
  rcases Nat.eq_zero_or_pos l.length with hl | hl
  · rw [step_empty hl] at h
    simp at h
  · have hx0 : 0 ≤ l.getD 0 0 := by
      match l, hl with
      | a :: _, _ => exact (h0 a (List.mem_cons_self ..)).1
    by_cases h1 : l.getD 0 0 < 128
    · rw [step_ascii hl h1] at h
      simp only [Prod.mk.injEq] at h
      obtain ⟨rfl, rfl, _⟩ := h
      exact ⟨isScalar_iff.2 (by omega), by rw [form1 h1, take1 hl]⟩
    · obtain ⟨⟨m, lo, hi⟩, hm⟩ : ∃ y, lead (l.getD 0 0) = y := ⟨_, rfl⟩
      have hle := lead_le (l.getD 0 0)
      rw [hm] at hle
      have hc : m = 0 ∨ m = 1 ∨ m = 2 ∨ m = 3 := by dsimp only at hle; omega
      rcases hc with rfl | rfl | rfl | rfl
      · rw [step_none hl h1 (by rw [hm])] at h
        simp at h
      · rw [step_more hl h1 (by rw [hm]; exact Nat.succ_pos _), hm, bits0, hm, if_pos rfl] at h
        obtain ⟨k1, a1, b1, h⟩ := scan_true h
        dsimp only at a1 b1
        obtain ⟨rfl, rfl⟩ := scan_end h
        have := lead1 hm
        refine ⟨isScalar_iff.2 (by omega), ?_⟩
        rw [form2 (by omega) (by omega), take2 k1]
        simp only [List.cons.injEq, and_true]
        omega
      · rw [step_more hl h1 (by rw [hm]; exact Nat.succ_pos _), hm, bits0, hm, if_neg (show ¬ (2 : Nat) = 1 by decide), if_pos rfl] at h
        obtain ⟨k1, a1, b1, h⟩ := scan_true h
        dsimp only at a1 b1
        obtain ⟨k2, a2, b2, h⟩ := scan_true h
        obtain ⟨rfl, rfl⟩ := scan_end h
        have := lead2 hm
        refine ⟨isScalar_iff.2 (by omega), ?_⟩
        rw [form3 (by omega) (by omega), take3 k2]
        simp only [List.cons.injEq, and_true]
        omega
      · rw [step_more hl h1 (by rw [hm]; exact Nat.succ_pos _), hm, bits0, hm, if_neg (show ¬ (3 : Nat) = 1 by decide), if_neg (show ¬ (3 : Nat) = 2 by decide)] at h
        obtain ⟨k1, a1, b1, h⟩ := scan_true h
        dsimp only at a1 b1
        obtain ⟨k2, a2, b2, h⟩ := scan_true h
        obtain ⟨k3, a3, b3, h⟩ := scan_true h
        obtain ⟨rfl, rfl⟩ := scan_end h
        have := lead3 hm
        refine ⟨isScalar_iff.2 (by omega), ?_⟩
        rw [form4 (by omega), take4 k3]
        simp only [List.cons.injEq, and_true]
        omega
theorem mem_drop {l : List Int} {k : Nat} (h : ∀ x ∈ l, 0 ≤ x ∧ x ≤ 255) : ∀ x ∈ l.drop k, 0 ≤ x ∧ x ≤ 255 := fun x hx => h x (List.mem_of_mem_drop hx)
/-- Encoding undoes decoding, if there is no fault. -/
theorem enc_dec (p q : Int) : ∀ (f : Nat) (l : List Int), l.length ≤ f → (∀ x ∈ l, 0 ≤ x ∧ x ≤ 255) → badD l = l.length → encL q (decL p l) = l ∧ ∀ c ∈ decL p l, isScalar c = true
  | 0, l, hf, _, _ => by
    obtain rfl : l = [] := List.eq_nil_of_length_eq_zero (by omega)
    exact ⟨rfl, fun c h => by cases h⟩
  | f + 1, l, hf, hr, hb => by
    rcases Nat.eq_zero_or_pos l.length with h0 | h0
    · obtain rfl : l = [] := List.eq_nil_of_length_eq_zero h0
      exact ⟨rfl, fun c h => by cases h⟩
    · obtain ⟨⟨c, n, ok⟩, hs⟩ : ∃ y, step l = y := ⟨_, rfl⟩
      have hbd := step_bounds h0
      rw [badD_step h0, hs] at hb
      rw [hs] at hbd
      dsimp only at hb hbd
      cases ok
      · simp at hb; omega
      · rw [if_pos rfl] at hb
        obtain ⟨h1, h2⟩ := step_ok hr hs
        obtain ⟨i1, i2⟩ := enc_dec p q f (l.drop n) (by rw [List.length_drop]; omega) (mem_drop hr) (by rw [List.length_drop]; omega)
        rw [decL_step p h0, piece, hs, if_pos rfl]
        refine ⟨?_, fun d hd => ?_⟩
        · show encL q (c :: decL p (l.drop n)) = l
          rw [encL_cons, one8, if_pos h1, h2, i1, List.take_append_drop]
        · rcases List.mem_append.1 hd with hd | hd
          · obtain rfl : d = c := by simpa using hd
            exact h1
          · exact i2 d hd
theorem escB_scalar : ∀ {l : List Int}, (∀ x ∈ l, 0 ≤ x ∧ x ≤ 255) → ∀ c ∈ escB l, isScalar c = true
  | [], _, c, h => by cases h
  | b :: r, hr, c, h => by
    have hb := hr b (List.mem_cons_self ..)
    have h' : c ∈ [92, 120, hexd (b / 16), hexd (b % 16)] ++ escB r := h
    rcases List.mem_append.1 h' with h | h
    · have r1 := hexd_range (x := b / 16) (by omega) (by omega)
      have r2 := hexd_range (x := b % 16) (by omega) (by omega)
      simp only [List.mem_cons, List.not_mem_nil, or_false] at h
      exact isScalar_iff.2 (by omega)
    · exact escB_scalar (fun x hx => hr x (List.mem_cons_of_mem _ hx)) c h
/-- What decoding without faults gives can be encoded. -/
theorem dec_scalars {p : Int} : ∀ (f : Nat) (l : List Int), l.length ≤ f → (∀ x ∈ l, 0 ≤ x ∧ x ≤ 255) → ∀ c ∈ decL p l, isScalar c = true
  | 0, l, hf, _, c, h => by
    obtain rfl : l = [] := List.eq_nil_of_length_eq_zero (by omega)
    cases h
  | f + 1, l, hf, hr, c, h => by
    rcases Nat.eq_zero_or_pos l.length with h0 | h0
    · obtain rfl : l = [] := List.eq_nil_of_length_eq_zero h0
      cases h
    · obtain ⟨⟨d, n, ok⟩, hs⟩ : ∃ y, step l = y := ⟨_, rfl⟩
      have hbd := step_bounds h0
      rw [hs] at hbd
      dsimp only at hbd
      rw [decL_step p h0, piece, hs] at h
      dsimp only at h
      rcases List.mem_append.1 h with h | h
      · cases ok
        · simp only [Bool.false_eq_true, if_false, sub8d] at h
          split at h
          · obtain rfl : c = 65533 := by simpa using h
            decide
          · split at h
            · exact escB_scalar (fun x hx => hr x (List.mem_of_mem_take hx)) c h
            · cases h
        · obtain rfl : c = d := by simpa using h
          exact (step_ok hr hs).1
      · exact dec_scalars f (l.drop n) (by rw [List.length_drop]; omega) (mem_drop hr) c h
theorem getD_take {l : List Int} {q k : Nat} (h : k < q) : (l.take q).getD k 0 = l.getD k 0 := by
  simp [List.getD, List.getElem?_take, h]
theorem scan_take {l : List Int} {q : Nat} : ∀ {r : Nat} {lo hi v : Int} {k : Nat} {c : Int} {n : Nat} {ok : Bool}, k ≤ l.length → scan l r lo hi v k = (c, n, ok) → n ≤ q → scan (l.take q) r lo hi v k = (c, n, ok)
  | 0, _, _, _, _, _, _, _, _, h, _ => h
  | r + 1, lo, hi, v, k, c, n, ok, hk, h, hq => by
    by_cases hc : k < l.length ∧ lo ≤ l.getD k 0 ∧ l.getD k 0 ≤ hi
    · rw [scan, if_pos hc] at h
      have hb := scan_bounds l r 128 191 (64 * v + l.getD k 0 - 128) (k + 1) hc.1
      rw [h] at hb
      dsimp only at hb
      have hkq : k < q := by omega
      rw [scan, getD_take hkq, if_pos ⟨by rw [List.length_take]; omega, hc.2⟩]
      exact scan_take hc.1 h hq
    · rw [scan_no hc] at h
      simp only [Prod.mk.injEq] at h
      obtain ⟨rfl, rfl, rfl⟩ := h
      refine scan_no ?_
      rintro ⟨e1, e2, e3⟩
      rw [List.length_take] at e1
      rw [getD_take (by omega)] at e2 e3
      exact hc ⟨by omega, e2, e3⟩
theorem step_take {l : List Int} {q : Nat} {c : Int} {n : Nat} {ok : Bool} (hl : 0 < l.length) (h : step l = (c, n, ok)) (hq : n ≤ q) : step (l.take q) = (c, n, ok) := by
  have hb := step_bounds hl
  rw [h] at hb
  dsimp only at hb
  have hq0 : 0 < q := by omega
  have hl2 : 0 < (l.take q).length := by rw [List.length_take]; omega
  have e0 : (l.take q).getD 0 0 = l.getD 0 0 := getD_take hq0
  by_cases h1 : l.getD 0 0 < 128
  · rw [step_ascii hl h1] at h
    rw [step_ascii hl2 (by rw [e0]; exact h1), e0, h]
  · rcases Nat.eq_zero_or_pos (lead (l.getD 0 0)).1 with h2 | h2
    · rw [step_none hl h1 h2] at h
      rw [step_none hl2 (by rw [e0]; exact h1) (by rw [e0]; exact h2), h]
    · rw [step_more hl h1 h2] at h
      rw [step_more hl2 (by rw [e0]; exact h1) (by rw [e0]; exact h2), e0]
      exact scan_take hl h hq
/-- The place 'at' is one between forms and ill-formed parts: d is what stands before it, decoded. -/
def Cut (p : Int) (l : List Int) (k : Nat) (d : List Int) : Prop := ∀ m, k ≤ m → m ≤ l.length → decL p (l.take m) = d ++ decL p ((l.take m).drop k)
theorem Cut.zero (p : Int) (l : List Int) : Cut p l 0 [] := fun m _ _ => rfl
theorem Cut.step {p : Int} {l : List Int} {k n : Nat} {d : List Int} {c : Int} {ok : Bool} (h : Cut p l k d) (hk : k < l.length) (hs : step (l.drop k) = (c, n, ok)) : Cut p l (k + n) (d ++ piece p (l.drop k)) := fun m h1 h2 => by
  have hl : 0 < (l.drop k).length := by rw [List.length_drop]; omega
  have hb := step_bounds hl
  rw [hs] at hb
  dsimp only at hb
  rw [h m (by omega) h2, List.append_assoc]
  congr 1
  have e : (l.take m).drop k = (l.drop k).take (m - k) := List.drop_take
  have hst := step_take hl hs (q := m - k) (by omega)
  have hl2 : 0 < ((l.drop k).take (m - k)).length := by rw [List.length_take]; omega
  rw [e, decL_step p hl2, hst]
  congr 1
  · rw [piece, piece, hst, hs]
    dsimp only
    rw [List.take_take, Nat.min_eq_left (by omega)]
  · rw [← e, List.drop_drop]
theorem Cut.whole {p : Int} {l : List Int} {k : Nat} {d : List Int} (h : Cut p l k d) (hk : k ≤ l.length) : decL p (l.take k) ++ decL p (l.drop k) = decL p l := by
  have h1 := h k (Nat.le_refl _) hk
  have h2 := h l.length hk (Nat.le_refl _)
  rw [List.take_of_length_le (Nat.le_refl _)] at h2
  rw [h2, h1, List.drop_eq_nil_of_le (by rw [List.length_take]; omega), decL_nil, List.append_nil]
end Go.Proofs.YtpckedihdmibmaaDoor.U8
