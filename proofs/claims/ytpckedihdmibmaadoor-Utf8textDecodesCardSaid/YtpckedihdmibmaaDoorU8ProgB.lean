/-
  The contracts of firstByte, follows and Step of package utf8text.
-/
import Derived.Test.YtpckedihdmibmaaDoorU8ProgA
import Derived.Deep.QuietTactic
import Derived.BigQuiet
namespace Go.Proofs.YtpckedihdmibmaaDoor.U8
open Go.RowKit
set_option linter.unusedVariables false

theorem first_0 {b : Int} (h0 : 0 ≤ b) (h1 : b < 128) (w : World) : Calls Tryd.prog 34 #[.int .u8 b] w (Gives (.tuple #[.int .i64 0, .int .i64 (b)]) w) := by
  go_enter Tryd.func34, Tryd.ntmps34
  go_wp2_with fail
  go_ret2
  exact ⟨rfl, rfl⟩
theorem first_no {b : Int} (h0 : 128 ≤ b) (h1 : b < 194) (w : World) : Calls Tryd.prog 34 #[.int .u8 b] w (Gives (.tuple #[.int .i64 0, .int .i64 (0)]) w) := by
  go_enter Tryd.func34, Tryd.ntmps34
  go_wp2_with fail
  go_ret2
  exact ⟨rfl, rfl⟩
theorem first_far {b : Int} (h0 : 245 ≤ b) (h1 : b ≤ 255) (w : World) : Calls Tryd.prog 34 #[.int .u8 b] w (Gives (.tuple #[.int .i64 0, .int .i64 (0)]) w) := by
  go_enter Tryd.func34, Tryd.ntmps34
  go_wp2_with fail
  go_ret2
  exact ⟨rfl, rfl⟩
theorem first_1 {b : Int} (h0 : 194 ≤ b) (h1 : b ≤ 223) (w : World) : Calls Tryd.prog 34 #[.int .u8 b] w (Gives (.tuple #[.int .i64 1, .int .i64 (b % 32)]) w) := by
  go_enter Tryd.func34, Tryd.ntmps34
  go_wp2_with fail
  go_ret2
  exact ⟨rfl, rfl⟩
theorem first_2 {b : Int} (h0 : 224 ≤ b) (h1 : b ≤ 239) (w : World) : Calls Tryd.prog 34 #[.int .u8 b] w (Gives (.tuple #[.int .i64 2, .int .i64 (b % 16)]) w) := by
  go_enter Tryd.func34, Tryd.ntmps34
  go_wp2_with fail
  go_ret2
  exact ⟨rfl, rfl⟩
theorem first_3 {b : Int} (h0 : 240 ≤ b) (h1 : b ≤ 244) (w : World) : Calls Tryd.prog 34 #[.int .u8 b] w (Gives (.tuple #[.int .i64 3, .int .i64 (b % 8)]) w) := by
  go_enter Tryd.func34, Tryd.ntmps34
  go_wp2_with fail
  go_ret2
  exact ⟨rfl, rfl⟩

theorem lead_more {b : Int} (h : 0 < (lead b).1) : (194 ≤ b ∧ b ≤ 223 ∧ (lead b).1 = 1 ∧ bits0 b = b % 32) ∨ (224 ≤ b ∧ b ≤ 239 ∧ (lead b).1 = 2 ∧ bits0 b = b % 16) ∨ (240 ≤ b ∧ b ≤ 244 ∧ (lead b).1 = 3 ∧ bits0 b = b % 8) := by
  have hl : (lead b).1 = 1 ∨ (lead b).1 = 2 ∨ (lead b).1 = 3 := by have := lead_le b; omega
  have hr : ((lead b).1 = 1 → 194 ≤ b ∧ b ≤ 223) ∧ ((lead b).1 = 2 → 224 ≤ b ∧ b ≤ 239) ∧ ((lead b).1 = 3 → 240 ≤ b ∧ b ≤ 244) := by
    unfold lead
    refine ⟨?_, ?_, ?_⟩ <;> ((repeat' split) <;> (intro h; first | omega | (exfalso; revert h; decide)))
  rcases hl with h | h | h
  · exact .inl ⟨(hr.1 h).1, (hr.1 h).2, h, by rw [bits0, if_pos h]⟩
  · exact .inr (.inl ⟨(hr.2.1 h).1, (hr.2.1 h).2, h, by rw [bits0, if_neg (by omega), if_pos h]⟩)
  · exact .inr (.inr ⟨(hr.2.2 h).1, (hr.2.2 h).2, h, by rw [bits0, if_neg (by omega), if_neg (by omega)]⟩)
theorem lead_none {b : Int} (h : (lead b).1 = 0) : b < 194 ∨ 245 ≤ b := by
  by_cases h1 : 194 ≤ b ∧ b ≤ 244
  · exfalso
    revert h
    unfold lead
    (repeat' split) <;> first | decide | (intro _; omega)
  · omega
theorem first_yes {b : Int} {m : Nat} {v : Int} (h : 0 < (lead b).1) (hm : (lead b).1 = m) (hv : bits0 b = v) (w : World) : Calls Tryd.prog 34 #[.int .u8 b] w (Gives (.tuple #[.int .i64 (m : Int), .int .i64 v]) w) := by
  subst hm
  subst hv
  rcases lead_more h with ⟨h1, h2, h3, h4⟩ | ⟨h1, h2, h3, h4⟩ | ⟨h1, h2, h3, h4⟩
  · rw [h3, h4]; exact first_1 h1 h2 w
  · rw [h3, h4]; exact first_2 h1 h2 w
  · rw [h3, h4]; exact first_3 h1 h2 w
theorem first_none {b : Int} (h : (lead b).1 = 0) (h0 : 128 ≤ b) (h1 : b ≤ 255) (w : World) : Calls Tryd.prog 34 #[.int .u8 b] w (Gives (.tuple #[.int .i64 0, .int .i64 0]) w) := by
  rcases lead_none h with h2 | h2
  · exact first_no h0 h2 w
  · exact first_far h2 h1 w

theorem fol_224  {b : Int} {r : Bool}  (h : decide (160 ≤ b ∧ b ≤ 191) = r) (w : World) : Calls Tryd.prog 35 #[.int .u8 224, .int .u8 b, .int .i64 1] w (Gives (.bool r) w) := by
  have hcase : b < 160 ∨ (160 ≤ b ∧ b ≤ 191) ∨ (160 ≤ b ∧ 191 < b) := by omega
  rcases hcase with h1 | ⟨h1, h2⟩ | ⟨h1, h2⟩
  · have H : Hid (r = false) := Lib.hid (by rw [← h, decide_eq_false_iff_not]; omega)
    clear h
    go_enter Tryd.func35, Tryd.ntmps35
    go_wp2_with fail
    go_ret
    exact gives_bool (H.out.trans (by simp <;> omega))
  · have H : Hid (r = true) := Lib.hid (by rw [← h, decide_eq_true_iff]; exact ⟨h1, h2⟩)
    clear h
    go_enter Tryd.func35, Tryd.ntmps35
    go_wp2_with fail
    go_ret
    exact gives_bool (H.out.trans (by simp <;> omega))
  · have H : Hid (r = false) := Lib.hid (by rw [← h, decide_eq_false_iff_not]; omega)
    clear h
    go_enter Tryd.func35, Tryd.ntmps35
    go_wp2_with fail
    go_ret
    exact gives_bool (H.out.trans (by simp <;> omega))
theorem fol_237  {b : Int} {r : Bool}  (h : decide (128 ≤ b ∧ b ≤ 159) = r) (w : World) : Calls Tryd.prog 35 #[.int .u8 237, .int .u8 b, .int .i64 1] w (Gives (.bool r) w) := by
  have hcase : b < 128 ∨ (128 ≤ b ∧ b ≤ 159) ∨ (128 ≤ b ∧ 159 < b) := by omega
  rcases hcase with h1 | ⟨h1, h2⟩ | ⟨h1, h2⟩
  · have H : Hid (r = false) := Lib.hid (by rw [← h, decide_eq_false_iff_not]; omega)
    clear h
    go_enter Tryd.func35, Tryd.ntmps35
    go_wp2_with fail
    go_ret
    exact gives_bool (H.out.trans (by simp <;> omega))
  · have H : Hid (r = true) := Lib.hid (by rw [← h, decide_eq_true_iff]; exact ⟨h1, h2⟩)
    clear h
    go_enter Tryd.func35, Tryd.ntmps35
    go_wp2_with fail
    go_ret
    exact gives_bool (H.out.trans (by simp <;> omega))
  · have H : Hid (r = false) := Lib.hid (by rw [← h, decide_eq_false_iff_not]; omega)
    clear h
    go_enter Tryd.func35, Tryd.ntmps35
    go_wp2_with fail
    go_ret
    exact gives_bool (H.out.trans (by simp <;> omega))
theorem fol_240  {b : Int} {r : Bool}  (h : decide (144 ≤ b ∧ b ≤ 191) = r) (w : World) : Calls Tryd.prog 35 #[.int .u8 240, .int .u8 b, .int .i64 1] w (Gives (.bool r) w) := by
  have hcase : b < 144 ∨ (144 ≤ b ∧ b ≤ 191) ∨ (144 ≤ b ∧ 191 < b) := by omega
  rcases hcase with h1 | ⟨h1, h2⟩ | ⟨h1, h2⟩
  · have H : Hid (r = false) := Lib.hid (by rw [← h, decide_eq_false_iff_not]; omega)
    clear h
    go_enter Tryd.func35, Tryd.ntmps35
    go_wp2_with fail
    go_ret
    exact gives_bool (H.out.trans (by simp <;> omega))
  · have H : Hid (r = true) := Lib.hid (by rw [← h, decide_eq_true_iff]; exact ⟨h1, h2⟩)
    clear h
    go_enter Tryd.func35, Tryd.ntmps35
    go_wp2_with fail
    go_ret
    exact gives_bool (H.out.trans (by simp <;> omega))
  · have H : Hid (r = false) := Lib.hid (by rw [← h, decide_eq_false_iff_not]; omega)
    clear h
    go_enter Tryd.func35, Tryd.ntmps35
    go_wp2_with fail
    go_ret
    exact gives_bool (H.out.trans (by simp <;> omega))
theorem fol_244  {b : Int} {r : Bool}  (h : decide (128 ≤ b ∧ b ≤ 143) = r) (w : World) : Calls Tryd.prog 35 #[.int .u8 244, .int .u8 b, .int .i64 1] w (Gives (.bool r) w) := by
  have hcase : b < 128 ∨ (128 ≤ b ∧ b ≤ 143) ∨ (128 ≤ b ∧ 143 < b) := by omega
  rcases hcase with h1 | ⟨h1, h2⟩ | ⟨h1, h2⟩
  · have H : Hid (r = false) := Lib.hid (by rw [← h, decide_eq_false_iff_not]; omega)
    clear h
    go_enter Tryd.func35, Tryd.ntmps35
    go_wp2_with fail
    go_ret
    exact gives_bool (H.out.trans (by simp <;> omega))
  · have H : Hid (r = true) := Lib.hid (by rw [← h, decide_eq_true_iff]; exact ⟨h1, h2⟩)
    clear h
    go_enter Tryd.func35, Tryd.ntmps35
    go_wp2_with fail
    go_ret
    exact gives_bool (H.out.trans (by simp <;> omega))
  · have H : Hid (r = false) := Lib.hid (by rw [← h, decide_eq_false_iff_not]; omega)
    clear h
    go_enter Tryd.func35, Tryd.ntmps35
    go_wp2_with fail
    go_ret
    exact gives_bool (H.out.trans (by simp <;> omega))
theorem fol_else {x : Int} {b : Int} {r : Bool} (n1 : ¬ x = 224) (n2 : ¬ x = 237) (n3 : ¬ x = 240) (n4 : ¬ x = 244) (h : decide (128 ≤ b ∧ b ≤ 191) = r) (w : World) : Calls Tryd.prog 35 #[.int .u8 x, .int .u8 b, .int .i64 1] w (Gives (.bool r) w) := by
  have q1 : (x == 224) = false := by rw [beq_eq_false_iff_ne]; exact n1
  have q2 : (x == 237) = false := by rw [beq_eq_false_iff_ne]; exact n2
  have q3 : (x == 240) = false := by rw [beq_eq_false_iff_ne]; exact n3
  have q4 : (x == 244) = false := by rw [beq_eq_false_iff_ne]; exact n4
  clear n1 n2 n3 n4
  have hcase : b < 128 ∨ (128 ≤ b ∧ b ≤ 191) ∨ (128 ≤ b ∧ 191 < b) := by omega
  rcases hcase with h1 | ⟨h1, h2⟩ | ⟨h1, h2⟩
  · have H : Hid (r = false) := Lib.hid (by rw [← h, decide_eq_false_iff_not]; omega)
    clear h
    go_enter Tryd.func35, Tryd.ntmps35
    go_wp2_with fail
    go_ret
    exact gives_bool (H.out.trans (by simp <;> omega))
  · have H : Hid (r = true) := Lib.hid (by rw [← h, decide_eq_true_iff]; exact ⟨h1, h2⟩)
    clear h
    go_enter Tryd.func35, Tryd.ntmps35
    go_wp2_with fail
    go_ret
    exact gives_bool (H.out.trans (by simp <;> omega))
  · have H : Hid (r = false) := Lib.hid (by rw [← h, decide_eq_false_iff_not]; omega)
    clear h
    go_enter Tryd.func35, Tryd.ntmps35
    go_wp2_with fail
    go_ret
    exact gives_bool (H.out.trans (by simp <;> omega))
theorem fol_later {x i : Int} {b : Int} {r : Bool} (hi : 2 ≤ i) (h : decide (128 ≤ b ∧ b ≤ 191) = r) (w : World) : Calls Tryd.prog 35 #[.int .u8 x, .int .u8 b, .int .i64 i] w (Gives (.bool r) w) := by
  have hcase : b < 128 ∨ (128 ≤ b ∧ b ≤ 191) ∨ (128 ≤ b ∧ 191 < b) := by omega
  rcases hcase with h1 | ⟨h1, h2⟩ | ⟨h1, h2⟩
  · have H : Hid (r = false) := Lib.hid (by rw [← h, decide_eq_false_iff_not]; omega)
    clear h
    go_enter Tryd.func35, Tryd.ntmps35
    go_wp2_with fail
    go_ret
    exact gives_bool (H.out.trans (by simp <;> omega))
  · have H : Hid (r = true) := Lib.hid (by rw [← h, decide_eq_true_iff]; exact ⟨h1, h2⟩)
    clear h
    go_enter Tryd.func35, Tryd.ntmps35
    go_wp2_with fail
    go_ret
    exact gives_bool (H.out.trans (by simp <;> omega))
  · have H : Hid (r = false) := Lib.hid (by rw [← h, decide_eq_false_iff_not]; omega)
    clear h
    go_enter Tryd.func35, Tryd.ntmps35
    go_wp2_with fail
    go_ret
    exact gives_bool (H.out.trans (by simp <;> omega))
theorem fol_first {x b : Int} {r : Bool} (hl : 0 < (lead x).1) (h : decide ((lead x).2.1 ≤ b ∧ b ≤ (lead x).2.2) = r) (w : World) : Calls Tryd.prog 35 #[.int .u8 x, .int .u8 b, .int .i64 1] w (Gives (.bool r) w) := by
  by_cases h1 : x = 224
  · subst h1; exact fol_224 h w
  · by_cases h2 : x = 237
    · subst h2; exact fol_237 h w
    · by_cases h3 : x = 240
      · subst h3; exact fol_240 h w
      · by_cases h4 : x = 244
        · subst h4; exact fol_244 h w
        · refine fol_else h1 h2 h3 h4 ?_ w
          rw [← h]
          have e : (lead x).2.1 = 128 ∧ (lead x).2.2 = 191 := by
            revert hl
            unfold lead
            (repeat' split) <;> first | (intro h; exact absurd h (by decide)) | (intro _; omega) | (intro _; exact ⟨rfl, rfl⟩)
          rw [e.1, e.2]

/-- The call returns two ints and a Bool; nothing but draws. -/
def StepRes (r : Int × Nat × Bool) (w : World) (e : Ending) (w' : World) : Prop := Tells (.tuple #[.int .i64 r.1, .int .i64 (r.2.1 : Int), .bool r.2.2]) w e w'
theorem res3 {a b : Value} {p q : Bool} (h : p = q) : Ending.returned (.tuple #[a, b, .bool p]) = .returned (.tuple #[a, b, .bool q]) := by rw [h]
theorem step_empty {l : List Int} (h : l.length = 0) : step l = (0, 0, false) := by rw [step, if_pos h]
theorem step_ascii {l : List Int} (h : 0 < l.length) (h1 : l.getD 0 0 < 128) : step l = (l.getD 0 0, 1, true) := by rw [step, if_neg (by omega), if_pos h1]
theorem step_none {l : List Int} (h : 0 < l.length) (h1 : ¬ l.getD 0 0 < 128) (h2 : (lead (l.getD 0 0)).1 = 0) : step l = (0, 1, false) := by rw [step, if_neg (by omega), if_neg h1, if_pos h2]
theorem step_more {l : List Int} (h : 0 < l.length) (h1 : ¬ l.getD 0 0 < 128) (h2 : 0 < (lead (l.getD 0 0)).1) : step l = scan l (lead (l.getD 0 0)).1 (lead (l.getD 0 0)).2.1 (lead (l.getD 0 0)).2.2 (bits0 (l.getD 0 0)) 1 := by
  rw [step, if_neg (by omega), if_neg h1, if_neg (by omega)]
theorem scan_yes {l : List Int} {r : Nat} {lo hi v : Int} {k : Nat} (h : k < l.length) (h1 : lo ≤ l.getD k 0) (h2 : l.getD k 0 ≤ hi) : scan l (r + 1) lo hi v k = scan l r 128 191 (64 * v + l.getD k 0 - 128) (k + 1) := by rw [scan, if_pos ⟨h, h1, h2⟩]
theorem scan_no {l : List Int} {r : Nat} {lo hi v : Int} {k : Nat} (h : ¬ (k < l.length ∧ lo ≤ l.getD k 0 ∧ l.getD k 0 ≤ hi)) : scan l (r + 1) lo hi v k = (0, k, false) := by rw [scan, if_neg h]

set_option maxHeartbeats 1000000 in
theorem pstep_empty (s : ByteArray) (w : World) (h : s.size = 0) : Calls Tryd.prog 18 #[.string s] w (StepRes (step (strInts s)) w) := by
  have HE := Lib.hid (step_empty (l := strInts s) (by rw [strInts_len]; exact h))
  have hemp := str_none h
  go_enter Tryd.func18, Tryd.ntmps18
  go_wp2_with fail
  rw [HE.out]
  go_ret3
  exact ⟨rfl, Drawn.refl _⟩
set_option maxHeartbeats 1000000 in
theorem pstep_ascii (s : ByteArray) (w : World) (h : 0 < s.size) (h1 : (strInts s).getD 0 0 < 128) : Calls Tryd.prog 18 #[.string s] w (StepRes (step (strInts s)) w) := by
  have HE := Lib.hid (step_ascii (l := strInts s) (by rw [strInts_len]; exact h) h1)
  have hne := str_some h
  obtain ⟨b, hb, eb, gb⟩ := strInts_byte h
  rw [gb] at h1
  have HG := Lib.hid gb
  have h0 : (0 : Int) ≤ ((s[0]'h).toNat : Int) := by omega
  have h1' : ((s[0]'h).toNat : Int) < 128 := by rw [eb]; exact h1
  have EB := Lib.hid eb
  clear eb gb h1
  go_enter Tryd.func18, Tryd.ntmps18
  go_wp2_with fail
  refine (first_0 h0 h1' _).mono ?_
  rintro e w' ⟨rfl, rfl⟩
  go_wp2_with fail
  go_quiet (fail)
  go_wp2_with fail
  go_ret3
  exact ⟨by rw [HE.out, HG.out, ← EB.out]; exact res3 (decide_eq_true (by omega)), ⟨_, rfl⟩⟩
set_option maxHeartbeats 1000000 in
theorem pstep_none (s : ByteArray) (w : World) (h : 0 < s.size) (h1 : ¬ (strInts s).getD 0 0 < 128) (h2 : (lead ((strInts s).getD 0 0)).1 = 0) : Calls Tryd.prog 18 #[.string s] w (StepRes (step (strInts s)) w) := by
  have HE := Lib.hid (step_none (l := strInts s) (by rw [strInts_len]; exact h) h1 h2)
  have hne := str_some h
  obtain ⟨b, hb, eb, gb⟩ := strInts_byte h
  rw [gb] at h1 h2
  rw [← eb] at h1 h2
  have H2 := Lib.hid h2
  have h1' : ¬ ((s[0]'h).toNat : Int) ≤ 127 := by omega
  have h0 : (128 : Int) ≤ ((s[0]'h).toNat : Int) := by omega
  have h3 : ((s[0]'h).toNat : Int) ≤ 255 := by omega
  clear eb gb h1 h2
  go_enter Tryd.func18, Tryd.ntmps18
  go_wp2_with fail
  refine (first_none H2.out h0 h3 _).mono ?_
  rintro e w' ⟨rfl, rfl⟩
  go_wp2_with fail
  go_quiet (fail)
  go_wp2_with fail
  go_ret3
  exact ⟨by rw [HE.out]; exact res3 (decide_eq_false (by omega)), ⟨_, rfl⟩⟩
theorem lead_lohi (x : Int) (h : 0 < (lead x).1) : 128 ≤ (lead x).2.1 ∧ (lead x).2.2 ≤ 191 := by
  revert h
  unfold lead
  (repeat' split) <;> first | (intro h; exact absurd h (by decide)) | (intro _; exact ⟨by decide, by decide⟩)
theorem i_and63 : ∀ n : Fin 256, bits BinOp.and IntKind.i64 (n.val : Int) 63 = (n.val : Int) % 64 := by decide +kernel
theorem iand63 {a : Int} (h0 : 0 ≤ a) (h1 : a < 256) : bits BinOp.and IntKind.i64 a 63 = a % 64 := by
  have e : ((⟨a.toNat, by omega⟩ : Fin 256).val : Int) = a := by show ((a.toNat : Nat) : Int) = a; omega
  have := i_and63 ⟨a.toNat, by omega⟩
  rw [e] at this
  exact this
theorem ior {a b : Int} (ha : 0 ≤ a) (ha2 : a < 16777216) (hb : 0 ≤ b) (hb2 : b < 64) : bits BinOp.or IntKind.i64 (a * 64) b = 64 * a + b := by
  have h1 : (BitVec.ofInt 64 (a * 64)).toNat = a.toNat * 64 := by rw [BitVec.toNat_ofInt]; omega
  have h2 : (BitVec.ofInt 64 b).toNat = b.toNat := by rw [BitVec.toNat_ofInt]; omega
  have h3 : (a.toNat * 64 ||| b.toNat) = a.toNat * 64 + b.toNat := by
    have := Nat.shiftLeft_add_eq_or_of_lt (i := 6) (b := b.toNat) (by omega) a.toNat
    rw [Nat.shiftLeft_eq] at this
    exact this.symm
  show IntKind.i64.wrap (((BitVec.ofInt 64 (a * 64)) ||| (BitVec.ofInt 64 b)).toNat : Int) = _
  rw [BitVec.toNat_or, h1, h2, h3]
  rw [IntWalk.i64_in _ (by omega)]
  omega
theorem comb {v y : Int} (hv : 0 ≤ v) (hv2 : v < 16777216) (h1 : 128 ≤ y) (h2 : y ≤ 191) : bits BinOp.or IntKind.i64 (v * 64) (bits BinOp.and IntKind.i64 (wrap64 y) 63) = 64 * v + y - 128 := by
  rw [IntWalk.wrap64_in y (by omega), iand63 (by omega) (by omega), ior hv hv2 (by omega) (by omega)]
  omega
theorem pow_next {v y : Int} {k : Nat} (h : v < 64 ^ k) (h2 : y ≤ 191) : 64 * v + y - 128 < 64 ^ (k + 1) := by
  rw [Int.pow_succ]
  generalize (64 : Int) ^ k = q at h
  omega
theorem pow_le {k : Nat} (h : k ≤ 4) : (64 : Int) ^ k ≤ 16777216 := by
  have : k = 0 ∨ k = 1 ∨ k = 2 ∨ k = 3 ∨ k = 4 := by omega
  rcases this with rfl | rfl | rfl | rfl | rfl <;> decide
set_option maxHeartbeats 1000000 in
theorem pstep_more (s : ByteArray) (w : World) (h : 0 < s.size) (hs : s.size ≤ 100000) (h1 : ¬ (strInts s).getD 0 0 < 128) (h2 : 0 < (lead ((strInts s).getD 0 0)).1) : Calls Tryd.prog 18 #[.string s] w (StepRes (step (strInts s)) w) := by
  have HE := Lib.hid (step_more (l := strInts s) (by rw [strInts_len]; exact h) h1 h2)
  have hne := str_some h
  obtain ⟨x, hx⟩ : ∃ x, (strInts s).getD 0 0 = x := ⟨_, rfl⟩
  obtain ⟨b, hb, eb, gb⟩ := strInts_byte h
  have HX : Hid (((s[0]'h).toNat : Int) = x) := Lib.hid (by rw [eb, ← gb, hx])
  rw [hx] at h2 HE
  obtain ⟨m, hm⟩ : ∃ m, (lead x).1 = m := ⟨_, rfl⟩
  obtain ⟨v0, hv⟩ : ∃ v, bits0 x = v := ⟨_, rfl⟩
  have H2 := Lib.hid h2
  have HM := Lib.hid hm
  have HV := Lib.hid hv
  have hm1 : 1 ≤ m := by omega
  have hm3 : m ≤ 3 := by have := lead_le x; omega
  have HB : Hid (0 ≤ v0 ∧ v0 < 64) := Lib.hid (by rw [← hv]; rcases lead_more h2 with ⟨_, _, _, e⟩ | ⟨_, _, _, e⟩ | ⟨_, _, _, e⟩ <;> (rw [e]; omega))
  rw [hm, hv] at HE
  have hmi : ¬ (m : Int) = 0 := by omega
  clear eb gb h1 h2 hm hv hx
  go_enter Tryd.func18, Tryd.ntmps18
  go_wp2_with fail
  rw [HX.out]
  refine (first_yes H2.out HM.out HV.out _).mono ?_
  rintro e w' ⟨rfl, rfl⟩
  go_wp2_with fail
  go_loopw [7, 8] (fun cv iv wr => ∃ (j r : Nat) (v lo hi : Int), Hid (j + 1 + r = m + 1) ∧ j ≤ m ∧ j < s.size ∧ cv = .int .i64 v ∧ iv = .int .i64 ((j : Int) + 1) ∧ Drawn w wr ∧ Hid (step (strInts s) = scan (strInts s) r lo hi v (j + 1)) ∧ 0 ≤ v ∧ Hid (v < 64 ^ (j + 1)) ∧ Hid ((j = 0 → lo = (lead x).2.1 ∧ hi = (lead x).2.2) ∧ (0 < j → lo = 128 ∧ hi = 191))) (fun _ iv _ => m + 1 - (intOf iv).toNat)
  case atStart => exact ⟨0, m, v0, (lead x).2.1, (lead x).2.2, Lib.hid (by omega), by omega, h, rfl, rfl, Drawn.refl _, HE, HB.out.1, Lib.hid (by have := HB.out.2; simpa using this), Lib.hid ⟨fun _ => ⟨rfl, rfl⟩, fun h => absurd h (by omega)⟩⟩
  case round =>
    obtain ⟨j, r, v, lo, hi, HR, hjm, hjs, rfl, rfl, hd, HS, hv0, HVB, HLH⟩ := hrel
    have i1 : (j : Int) + 1 - 1 = (j : Int) := by omega
    have i2 : (j : Int) < (s.size : Int) := by omega
    by_cases hr : j + 1 ≤ m
    · have hri : (j : Int) + 1 ≤ (m : Int) := by omega
      obtain ⟨r', rfl⟩ : ∃ r', r = r' + 1 := ⟨r - 1, by have := HR.out; omega⟩
      by_cases hk : j + 1 < s.size
      · have q1 : (((j : Int) + 1) == (s.size : Int)) = false := by rw [beq_eq_false_iff_ne]; omega
        have h2 : (j : Int) + 1 < (s.size : Int) := by omega
        have h3 : (0 : Int) ≤ (j : Int) + 1 := by omega
        have h4 : ((j : Int) + 1).toNat = j + 1 := by omega
        have h5 : IntKind.i64.wrap ((j : Int) + 1) = (j : Int) + 1 := IntWalk.i64_in _ (by omega)
        obtain ⟨c, hc, ec, gc⟩ := strInts_byte hk
        have GC : Hid ((strInts s).getD (j + 1) 0 = ((s[j + 1]'hk).toNat : Int)) := Lib.hid (by rw [gc, ec])
        obtain ⟨y, hy⟩ : ∃ y : Int, ((s[j + 1]'hk).toNat : Int) = y := ⟨_, rfl⟩
        rw [hy] at GC
        have HY := Lib.hid hy
        have hy0 : 0 ≤ y := by omega
        have hy1 : y ≤ 255 := by rw [← hy, ec]; omega
        obtain ⟨ok, hok⟩ : ∃ ok, decide (lo ≤ y ∧ y ≤ hi) = ok := ⟨_, rfl⟩
        have HF : Hid (∀ w, Calls Tryd.prog 35 #[.int .u8 ((s[j]'hjs).toNat : Int), .int .u8 y, .int .i64 ((j : Int) + 1)] w (Gives (.bool ok) w)) := Lib.hid (fun w => by
          rcases Nat.eq_zero_or_pos j with h0 | h0
          · subst h0
            obtain ⟨e1, e2⟩ := HLH.out.1 rfl
            rw [e1, e2] at hok
            have := fol_first (x := x) H2.out hok w
            rw [← HX.out] at this
            exact this
          · obtain ⟨e1, e2⟩ := HLH.out.2 h0
            rw [e1, e2] at hok
            exact fol_later (by omega) hok w)
        clear hc ec gc hy
        rcases ok with _ | _
        · have HN : Hid (step (strInts s) = (0, j + 1, false)) := Lib.hid (by
            rw [HS.out, scan_no]
            rw [GC.out]
            rintro ⟨_, e1, e2⟩
            rw [decide_eq_false_iff_not] at hok
            exact hok ⟨e1, e2⟩)
          clear hok
          go_wp2_with fail
          go_quiet (first | (go_at_call 35; rw [HY.out]; exact Calls.quiet_of_same ((HF.out _).mono (fun e w' h => ⟨h.1, h.2.symm⟩))))
          go_wp2_with fail
          go_ret3
          exact ⟨by rw [HN.out]; rfl, hd.more _⟩
        · have hb := of_decide_eq_true hok
          have HN : Hid (step (strInts s) = scan (strInts s) r' 128 191 (64 * v + y - 128) (j + 1 + 1)) := Lib.hid (by
            rw [HS.out, scan_yes (by rw [strInts_len]; exact hk) (by rw [GC.out]; exact hb.1) (by rw [GC.out]; exact hb.2), GC.out])
          have hyr : 128 ≤ y ∧ y ≤ 191 := by
            rcases Nat.eq_zero_or_pos j with h0 | h0
            · obtain ⟨e1, e2⟩ := HLH.out.1 h0
              have := lead_lohi x H2.out
              omega
            · obtain ⟨e1, e2⟩ := HLH.out.2 h0
              omega
          obtain ⟨y1, y2⟩ := hyr
          have hv1 : v < 16777216 := by have := HVB.out; have := pow_le (k := j + 1) (by omega); omega
          clear hok hb
          go_wp2_with fail
          go_quiet (first | (go_at_call 35; rw [HY.out]; exact Calls.quiet_of_same ((HF.out _).mono (fun e w' h => ⟨h.1, h.2.symm⟩))))
          go_wp2_with fail
          refine ⟨⟨j + 1, r', 64 * v + y - 128, 128, 191, Lib.hid (by have := HR.out; omega), by omega, hk, vint (by rw [HY.out]; exact comb hv0 hv1 y1 y2), vint (by omega), hd.more _, HN, by omega, Lib.hid (pow_next HVB.out y2), Lib.hid ⟨fun h => absurd h (by omega), fun _ => ⟨rfl, rfl⟩⟩⟩, by simp [intOf]; omega⟩
      · have q1 : (((j : Int) + 1) == (s.size : Int)) = true := by rw [beq_iff_eq]; omega
        have HN : Hid (step (strInts s) = (0, j + 1, false)) := Lib.hid (by rw [HS.out, scan_no]; rw [strInts_len]; exact fun e => hk e.1)
        go_wp2_with fail
        go_quiet (fail)
        go_wp2_with fail
        go_ret3
        exact ⟨by rw [HN.out]; rfl, hd.more _⟩
    · have hri : ¬ (j : Int) + 1 ≤ (m : Int) := by omega
      obtain rfl : r = 0 := by have := HR.out; omega
      obtain rfl : j = m := by omega
      have HN : Hid (step (strInts s) = (v, j + 1, true)) := Lib.hid (by rw [HS.out, scan])
      go_wp2_with fail
      go_ret3
      exact ⟨by rw [HN.out]; rfl, hd⟩

theorem pstep_any (s : ByteArray) (w : World) (hs : s.size ≤ 100000) : Calls Tryd.prog 18 #[.string s] w (StepRes (step (strInts s)) w) := by
  rcases Nat.eq_zero_or_pos s.size with h | h
  · exact pstep_empty s w h
  · by_cases h1 : (strInts s).getD 0 0 < 128
    · exact pstep_ascii s w h h1
    · rcases Nat.eq_zero_or_pos (lead ((strInts s).getD 0 0)).1 with h2 | h2
      · exact pstep_none s w h h1 h2
      · exact pstep_more s w h hs h1 h2
theorem pstep_x {s : ByteArray} {c : Int} {n : Nat} {ok : Bool} (h : step (strInts s) = (c, n, ok)) (hs : s.size ≤ 100000) (w : World) : Calls Tryd.prog 18 #[.string s] w (Tells (.tuple #[.int .i64 c, .int .i64 (n : Int), .bool ok]) w) := by
  have := pstep_any s w hs
  rw [h] at this
  exact this
end Go.Proofs.YtpckedihdmibmaaDoor.U8
