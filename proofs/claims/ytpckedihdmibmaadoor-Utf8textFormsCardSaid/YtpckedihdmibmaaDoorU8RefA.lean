/-
  The contracts of the reference's Policy, Length, Form, lead and Step of layer 3.
-/
import Derived.Test.YtpckedihdmibmaaDoorU8ProgB
namespace Go.Proofs.YtpckedihdmibmaaDoor.U8
open Go.RowKit
set_option linter.unusedVariables false

theorem ref_policy_x {p : Int} {r : Bool} (h : known p = r) (w : World) : Calls Tryd.prog 32 #[.int .i64 p] w (Gives (.bool r) w) := by
  have hcase : p < 1 ∨ (1 ≤ p ∧ p ≤ 4) ∨ (1 ≤ p ∧ 4 < p) := by omega
  rcases hcase with h1 | ⟨h1, h2⟩ | ⟨h1, h2⟩
  · have H : Hid (r = false) := Lib.hid (by rw [← h]; simp [known]; omega)
    clear h
    go_enter Tryd.func32, Tryd.ntmps32
    go_wp2
    go_ret
    exact gives_bool (H.out.trans (by simp <;> omega))
  · have H : Hid (r = true) := Lib.hid (by rw [← h]; simp [known]; omega)
    clear h
    go_enter Tryd.func32, Tryd.ntmps32
    go_wp2
    go_ret
    exact gives_bool (H.out.trans (by simp <;> omega))
  · have H : Hid (r = false) := Lib.hid (by rw [← h]; simp [known]; omega)
    clear h
    go_enter Tryd.func32, Tryd.ntmps32
    go_wp2
    go_ret
    exact gives_bool (H.out.trans (by simp <;> omega))

theorem ref_length_any (c : Int) (w : World) : Calls Tryd.prog 13 #[.int .i64 c] w (Gives (.int .i64 (len8 c : Int)) w) := by
  rcases len8_cases c with ⟨hs, hl⟩ | ⟨hs, ⟨h1, hl⟩ | ⟨h1, h2, hl⟩ | ⟨h1, h2, hl⟩ | ⟨h1, hl⟩⟩
  all_goals
    have HS := Lib.hid hs
    have HL := Lib.hid hl
    clear hs hl
    go_enter Tryd.func13, Tryd.ntmps13
    go_wp2_with (go_at_call 14; refine (ref_scalar_x HS.out _).mono ?_; rintro e w' ⟨rfl, rfl⟩)
    go_ret
    rw [HL.out]
    exact ⟨rfl, rfl⟩
theorem ref_length_x {c : Int} {n : Nat} (h : len8 c = n) (w : World) : Calls Tryd.prog 13 #[.int .i64 c] w (Gives (.int .i64 (n : Int)) w) := by
  rw [← h]
  exact ref_length_any c w

theorem ref_form1 {c : Int} (hs : isScalar c = true) (h1 : c < 128) (w : World) : Calls Tryd.prog 15 #[.int .i64 c] w (Makes (.string (strOfNums (form8 c))) w) := by
  have hb0 := isScalar_iff.1 hs
  have c0 : 0 ≤ c := hb0.1
  have c1 : c ≤ 1114111 := hb0.2.1
  have HL : Hid (len8 c = 1) := Lib.hid (by rw [len8, hs, if_pos rfl, form1 h1]; rfl)
  have HF : Hid (form8 c = [c]) := Lib.hid (form1 h1)
  have hcv : (convert 44 9 (.slice (some ⟨w.heap.size, 0, none⟩) 1 1)).run Tryd.prog (w.alloc (.cells #[.int .u8 (c)] 5)) = .ok (.string (strOfNums [c])) (w.alloc (.cells #[.int .u8 (c)] 5)) :=
    conv_bytes (Sl.built w 5 1 1 (bys [c]) rfl (by unfold maxLen; omega))
  clear hs hb0
  go_enter Tryd.func15, Tryd.ntmps15
  go_wp2_with fail
  refine (ref_length_x HL.out _).mono ?_
  rintro e w' ⟨rfl, rfl⟩
  go_wp2_with fail
  go_ret
  rw [HF.out]
  exact ⟨rfl, (Below.refl _ _).alloc (Nat.le_refl _) _⟩

theorem ref_form2 {c : Int} (hs : isScalar c = true) (h1 : 128 ≤ c) (h2 : c < 2048) (w : World) : Calls Tryd.prog 15 #[.int .i64 c] w (Makes (.string (strOfNums (form8 c))) w) := by
  have hb0 := isScalar_iff.1 hs
  have c0 : 0 ≤ c := hb0.1
  have c1 : c ≤ 1114111 := hb0.2.1
  have HL : Hid (len8 c = 2) := Lib.hid (by rw [len8, hs, if_pos rfl, form2 h1 h2]; rfl)
  have HF : Hid (form8 c = [192 + c / 64, 128 + c % 64]) := Lib.hid (form2 h1 h2)
  have hcv : (convert 44 9 (.slice (some ⟨w.heap.size, 0, none⟩) 2 2)).run Tryd.prog (w.alloc (.cells #[.int .u8 (192 + c / 64), .int .u8 (128 + c % 64)] 5)) = .ok (.string (strOfNums [192 + c / 64, 128 + c % 64])) (w.alloc (.cells #[.int .u8 (192 + c / 64), .int .u8 (128 + c % 64)] 5)) :=
    conv_bytes (Sl.built w 5 1 2 (bys [192 + c / 64, 128 + c % 64]) rfl (by unfold maxLen; omega))
  clear hs hb0
  go_enter Tryd.func15, Tryd.ntmps15
  go_wp2_with fail
  refine (ref_length_x HL.out _).mono ?_
  rintro e w' ⟨rfl, rfl⟩
  go_wp2_with fail
  go_ret
  rw [HF.out]
  exact ⟨rfl, (Below.refl _ _).alloc (Nat.le_refl _) _⟩

theorem ref_form3 {c : Int} (hs : isScalar c = true) (h1 : 2048 ≤ c) (h2 : c < 65536) (w : World) : Calls Tryd.prog 15 #[.int .i64 c] w (Makes (.string (strOfNums (form8 c))) w) := by
  have hb0 := isScalar_iff.1 hs
  have c0 : 0 ≤ c := hb0.1
  have c1 : c ≤ 1114111 := hb0.2.1
  have HL : Hid (len8 c = 3) := Lib.hid (by rw [len8, hs, if_pos rfl, form3 h1 h2]; rfl)
  have HF : Hid (form8 c = [224 + c / 4096, 128 + c / 64 % 64, 128 + c % 64]) := Lib.hid (form3 h1 h2)
  have hcv : (convert 44 9 (.slice (some ⟨w.heap.size, 0, none⟩) 3 3)).run Tryd.prog (w.alloc (.cells #[.int .u8 (224 + c / 4096), .int .u8 (128 + c / 64 % 64), .int .u8 (128 + c % 64)] 5)) = .ok (.string (strOfNums [224 + c / 4096, 128 + c / 64 % 64, 128 + c % 64])) (w.alloc (.cells #[.int .u8 (224 + c / 4096), .int .u8 (128 + c / 64 % 64), .int .u8 (128 + c % 64)] 5)) :=
    conv_bytes (Sl.built w 5 1 3 (bys [224 + c / 4096, 128 + c / 64 % 64, 128 + c % 64]) rfl (by unfold maxLen; omega))
  clear hs hb0
  go_enter Tryd.func15, Tryd.ntmps15
  go_wp2_with fail
  refine (ref_length_x HL.out _).mono ?_
  rintro e w' ⟨rfl, rfl⟩
  go_wp2_with fail
  go_ret
  rw [HF.out]
  exact ⟨rfl, (Below.refl _ _).alloc (Nat.le_refl _) _⟩

theorem ref_form4 {c : Int} (hs : isScalar c = true) (h1 : 65536 ≤ c) (w : World) : Calls Tryd.prog 15 #[.int .i64 c] w (Makes (.string (strOfNums (form8 c))) w) := by
  have hb0 := isScalar_iff.1 hs
  have c0 : 0 ≤ c := hb0.1
  have c1 : c ≤ 1114111 := hb0.2.1
  have HL : Hid (len8 c = 4) := Lib.hid (by rw [len8, hs, if_pos rfl, form4 h1]; rfl)
  have HF : Hid (form8 c = [240 + c / 262144, 128 + c / 4096 % 64, 128 + c / 64 % 64, 128 + c % 64]) := Lib.hid (form4 h1)
  have hcv : (convert 44 9 (.slice (some ⟨w.heap.size, 0, none⟩) 4 4)).run Tryd.prog (w.alloc (.cells #[.int .u8 (240 + c / 262144), .int .u8 (128 + c / 4096 % 64), .int .u8 (128 + c / 64 % 64), .int .u8 (128 + c % 64)] 5)) = .ok (.string (strOfNums [240 + c / 262144, 128 + c / 4096 % 64, 128 + c / 64 % 64, 128 + c % 64])) (w.alloc (.cells #[.int .u8 (240 + c / 262144), .int .u8 (128 + c / 4096 % 64), .int .u8 (128 + c / 64 % 64), .int .u8 (128 + c % 64)] 5)) :=
    conv_bytes (Sl.built w 5 1 4 (bys [240 + c / 262144, 128 + c / 4096 % 64, 128 + c / 64 % 64, 128 + c % 64]) rfl (by unfold maxLen; omega))
  clear hs hb0
  go_enter Tryd.func15, Tryd.ntmps15
  go_wp2_with fail
  refine (ref_length_x HL.out _).mono ?_
  rintro e w' ⟨rfl, rfl⟩
  go_wp2_with fail
  go_ret
  rw [HF.out]
  exact ⟨rfl, (Below.refl _ _).alloc (Nat.le_refl _) _⟩

theorem ref_form_none {c : Int} (hs : isScalar c = false) (w : World) : Calls Tryd.prog 15 #[.int .i64 c] w (Makes (.string ⟨#[]⟩) w) := by
  have HL : Hid (len8 c = 0) := Lib.hid (by rw [len8, hs]; rfl)
  clear hs
  go_enter Tryd.func15, Tryd.ntmps15
  go_wp2_with fail
  refine (ref_length_x HL.out _).mono ?_
  rintro e w' ⟨rfl, rfl⟩
  go_wp2_with fail
  go_ret
  exact ⟨rfl, Below.refl _ _⟩
theorem ref_form_any {c : Int} (hs : isScalar c = true) (w : World) : Calls Tryd.prog 15 #[.int .i64 c] w (Makes (.string (strOfNums (form8 c))) w) := by
  rcases Int.lt_or_le c 128 with h1 | h1
  · exact ref_form1 hs h1 w
  · rcases Int.lt_or_le c 2048 with h2 | h2
    · exact ref_form2 hs h1 h2 w
    · rcases Int.lt_or_le c 65536 with h3 | h3
      · exact ref_form3 hs h2 h3 w
      · exact ref_form4 hs h3 w

/-- The call returns three ints, the world as it was. -/
def Trio (x y z : Int) (w : World) (e : Ending) (w' : World) : Prop := e = .returned (.tuple #[.int .i64 x, .int .i64 y, .int .i64 z]) ∧ w = w'
theorem ref_lead_l1 {b : Int} (h0 : 194 ≤ b) (h1 : b ≤ 223) (w : World) : Calls Tryd.prog 36 #[.int .i64 b] w (Trio 1 128 191 w) := by
  go_enter Tryd.func36, Tryd.ntmps36
  go_wp2_with fail
  go_ret3
  exact ⟨rfl, rfl⟩
theorem ref_lead_l2 {b : Int} (h0 : b = 224) (w : World) : Calls Tryd.prog 36 #[.int .i64 b] w (Trio 2 160 191 w) := by
  subst h0
  go_enter Tryd.func36, Tryd.ntmps36
  go_wp2_with fail
  go_ret3
  exact ⟨rfl, rfl⟩
theorem ref_lead_l3 {b : Int} (h0 : b = 237) (w : World) : Calls Tryd.prog 36 #[.int .i64 b] w (Trio 2 128 159 w) := by
  subst h0
  go_enter Tryd.func36, Tryd.ntmps36
  go_wp2_with fail
  go_ret3
  exact ⟨rfl, rfl⟩
theorem ref_lead_l4 {b : Int} (h0 : 225 ≤ b) (h1 : b ≤ 236) (w : World) : Calls Tryd.prog 36 #[.int .i64 b] w (Trio 2 128 191 w) := by
  go_enter Tryd.func36, Tryd.ntmps36
  go_wp2_with fail
  go_ret3
  exact ⟨rfl, rfl⟩
theorem ref_lead_l5 {b : Int} (h0 : 238 ≤ b) (h1 : b ≤ 239) (w : World) : Calls Tryd.prog 36 #[.int .i64 b] w (Trio 2 128 191 w) := by
  go_enter Tryd.func36, Tryd.ntmps36
  go_wp2_with fail
  go_ret3
  exact ⟨rfl, rfl⟩
theorem ref_lead_l6 {b : Int} (h0 : b = 240) (w : World) : Calls Tryd.prog 36 #[.int .i64 b] w (Trio 3 144 191 w) := by
  subst h0
  go_enter Tryd.func36, Tryd.ntmps36
  go_wp2_with fail
  go_ret3
  exact ⟨rfl, rfl⟩
theorem ref_lead_l7 {b : Int} (h0 : 241 ≤ b) (h1 : b ≤ 243) (w : World) : Calls Tryd.prog 36 #[.int .i64 b] w (Trio 3 128 191 w) := by
  go_enter Tryd.func36, Tryd.ntmps36
  go_wp2_with fail
  go_ret3
  exact ⟨rfl, rfl⟩
theorem ref_lead_l8 {b : Int} (h0 : b = 244) (w : World) : Calls Tryd.prog 36 #[.int .i64 b] w (Trio 3 128 143 w) := by
  subst h0
  go_enter Tryd.func36, Tryd.ntmps36
  go_wp2_with fail
  go_ret3
  exact ⟨rfl, rfl⟩
theorem ref_lead_l9 {b : Int} (h0 : b < 194) (w : World) : Calls Tryd.prog 36 #[.int .i64 b] w (Trio 0 0 0 w) := by
  go_enter Tryd.func36, Tryd.ntmps36
  go_wp2_with fail
  go_ret3
  exact ⟨rfl, rfl⟩
theorem ref_lead_l10 {b : Int} (h0 : 244 < b) (w : World) : Calls Tryd.prog 36 #[.int .i64 b] w (Trio 0 0 0 w) := by
  go_enter Tryd.func36, Tryd.ntmps36
  go_wp2_with fail
  go_ret3
  exact ⟨rfl, rfl⟩
theorem ref_lead_any (b : Int) (w : World) : Calls Tryd.prog 36 #[.int .i64 b] w (Trio ((lead b).1 : Int) (lead b).2.1 (lead b).2.2 w) := by
  have hcase : b < 194 ∨ (194 ≤ b ∧ b ≤ 223) ∨ b = 224 ∨ (225 ≤ b ∧ b ≤ 236) ∨ b = 237 ∨ (238 ≤ b ∧ b ≤ 239) ∨ b = 240 ∨ (241 ≤ b ∧ b ≤ 243) ∨ b = 244 ∨ 244 < b := by omega
  rcases hcase with h | ⟨h, h'⟩ | h | ⟨h, h'⟩ | h | ⟨h, h'⟩ | h | ⟨h, h'⟩ | h | h
  · have e : lead b = (0, 0, 0) := by unfold lead; repeat (first | rw [if_pos (by omega)] | rw [if_neg (by omega)])
    rw [e]
    exact ref_lead_l9 h w
  · have e : lead b = (1, 128, 191) := by unfold lead; repeat (first | rw [if_pos (by omega)] | rw [if_neg (by omega)])
    rw [e]
    exact ref_lead_l1 h h' w
  · have e : lead b = (2, 160, 191) := by unfold lead; repeat (first | rw [if_pos (by omega)] | rw [if_neg (by omega)])
    rw [e]
    exact ref_lead_l2 h w
  · have e : lead b = (2, 128, 191) := by unfold lead; repeat (first | rw [if_pos (by omega)] | rw [if_neg (by omega)])
    rw [e]
    exact ref_lead_l4 h h' w
  · have e : lead b = (2, 128, 159) := by unfold lead; repeat (first | rw [if_pos (by omega)] | rw [if_neg (by omega)])
    rw [e]
    exact ref_lead_l3 h w
  · have e : lead b = (2, 128, 191) := by unfold lead; repeat (first | rw [if_pos (by omega)] | rw [if_neg (by omega)])
    rw [e]
    exact ref_lead_l5 h h' w
  · have e : lead b = (3, 144, 191) := by unfold lead; repeat (first | rw [if_pos (by omega)] | rw [if_neg (by omega)])
    rw [e]
    exact ref_lead_l6 h w
  · have e : lead b = (3, 128, 191) := by unfold lead; repeat (first | rw [if_pos (by omega)] | rw [if_neg (by omega)])
    rw [e]
    exact ref_lead_l7 h h' w
  · have e : lead b = (3, 128, 143) := by unfold lead; repeat (first | rw [if_pos (by omega)] | rw [if_neg (by omega)])
    rw [e]
    exact ref_lead_l8 h w
  · have e : lead b = (0, 0, 0) := by unfold lead; repeat (first | rw [if_pos (by omega)] | rw [if_neg (by omega)])
    rw [e]
    exact ref_lead_l10 h w
theorem ref_lead_x {b : Int} {m : Nat} {lo hi : Int} (h : lead b = (m, lo, hi)) (w : World) : Calls Tryd.prog 36 #[.int .i64 b] w (Trio (m : Int) lo hi w) := by
  have := ref_lead_any b w
  rw [h] at this
  exact this

set_option maxRecDepth 100000 in
set_option maxHeartbeats 1000000 in
theorem rstep_empty (s : ByteArray) (w : World) (h : s.size = 0) : Calls Tryd.prog 19 #[.string s] w (StepRes (step (strInts s)) w) := by
  have HE := Lib.hid (step_empty (l := strInts s) (by rw [strInts_len]; exact h))
  have hemp := str_none h
  go_enter Tryd.func19, Tryd.ntmps19
  go_wp2_with fail
  rw [HE.out]
  go_ret3
  exact ⟨rfl, Drawn.refl _⟩
set_option maxRecDepth 100000 in
set_option maxHeartbeats 1000000 in
theorem rstep_ascii (s : ByteArray) (w : World) (h : 0 < s.size) (h1 : (strInts s).getD 0 0 < 128) : Calls Tryd.prog 19 #[.string s] w (StepRes (step (strInts s)) w) := by
  have HE := Lib.hid (step_ascii (l := strInts s) (by rw [strInts_len]; exact h) h1)
  have hne := str_some h
  obtain ⟨b, hb, eb, gb⟩ := strInts_byte h
  obtain ⟨x, hx⟩ : ∃ x : Int, ((s[0]'h).toNat : Int) = x := ⟨_, rfl⟩
  have HG : Hid ((strInts s).getD 0 0 = x) := Lib.hid (by rw [gb, ← eb, hx])
  have h1' : ((s[0]'h).toNat : Int) < 128 := by rw [HG.out] at h1; omega
  have h2' : ((s[0]'h).toNat : Int) ≤ 255 := by omega
  have HX := Lib.hid hx
  clear eb gb h1 hx
  go_enter Tryd.func19, Tryd.ntmps19
  go_wp2_with fail
  go_ret3
  exact ⟨by rw [HE.out, HG.out, ← HX.out]; rfl, Drawn.refl _⟩
set_option maxRecDepth 100000 in
set_option maxHeartbeats 1000000 in
theorem rstep_none (s : ByteArray) (w : World) (h : 0 < s.size) (h1 : ¬ (strInts s).getD 0 0 < 128) (h2 : (lead ((strInts s).getD 0 0)).1 = 0) : Calls Tryd.prog 19 #[.string s] w (StepRes (step (strInts s)) w) := by
  have HE := Lib.hid (step_none (l := strInts s) (by rw [strInts_len]; exact h) h1 h2)
  have hne := str_some h
  obtain ⟨b, hb, eb, gb⟩ := strInts_byte h
  obtain ⟨x, hx⟩ : ∃ x : Int, ((s[0]'h).toNat : Int) = x := ⟨_, rfl⟩
  have hg : (strInts s).getD 0 0 = x := by rw [gb, ← eb, hx]
  rw [hg] at h1 h2
  have HX := Lib.hid hx
  have h1' : (128 : Int) ≤ ((s[0]'h).toNat : Int) := by omega
  have h2' : ((s[0]'h).toNat : Int) ≤ 255 := by omega
  obtain ⟨⟨m, lo, hi⟩, hl⟩ : ∃ y, lead x = y := ⟨_, rfl⟩
  obtain rfl : m = 0 := by rw [hl] at h2; exact h2
  have HL := Lib.hid hl
  clear eb gb h1 h2 hx hg hl
  go_enter Tryd.func19, Tryd.ntmps19
  go_wp2_with fail
  rw [HX.out]
  refine (ref_lead_x HL.out _).mono ?_
  rintro e w' ⟨rfl, rfl⟩
  go_wp2_with fail
  go_ret3
  exact ⟨by rw [HE.out]; rfl, Drawn.refl _⟩

set_option maxRecDepth 100000 in
set_option maxHeartbeats 1000000 in
theorem rstep_1 (s : ByteArray) (w : World) (h : 0 < s.size) (hs : s.size ≤ 100000) (h1 : ¬ (strInts s).getD 0 0 < 128) (lo0 hi0 : Int) (hl : lead ((strInts s).getD 0 0) = (1, lo0, hi0)) : Calls Tryd.prog 19 #[.string s] w (StepRes (step (strInts s)) w) := by
  have HE := Lib.hid (step_more (l := strInts s) (by rw [strInts_len]; exact h) h1 (by rw [hl]; exact Nat.succ_pos _))
  have hne := str_some h
  obtain ⟨b, hb, eb, gb⟩ := strInts_byte h
  obtain ⟨x, hx⟩ : ∃ x : Int, ((s[0]'h).toNat : Int) = x := ⟨_, rfl⟩
  have hg : (strInts s).getD 0 0 = x := by rw [gb, ← eb, hx]
  rw [hg] at h1 hl
  have HX := Lib.hid hx
  have h1' : (128 : Int) ≤ ((s[0]'h).toNat : Int) := by omega
  have h2' : ((s[0]'h).toNat : Int) ≤ 255 := by omega
  have X0 : Hid (0 ≤ x) := Lib.hid (by omega)
  have HL := Lib.hid hl
  have HBT : Hid (bits0 x = x % 32) := Lib.hid (by rw [bits0, hl]; rfl)
  have HS0 : Hid (step (strInts s) = scan (strInts s) 1 lo0 hi0 (x % 32) 1) := Lib.hid (by rw [HE.out, hg, hl, HBT.out])
  have HLH : Hid (128 ≤ lo0 ∧ hi0 ≤ 191) := Lib.hid (by have := lead_lohi x (by rw [hl]; exact Nat.succ_pos _); rw [hl] at this; exact this)
  clear eb gb h1 hx hg hl
  go_enter Tryd.func19, Tryd.ntmps19
  go_wp2_with fail
  rw [HX.out]
  refine (ref_lead_x HL.out _).mono ?_
  rintro e w' ⟨rfl, rfl⟩
  go_wp2_with fail
  go_loopw [7, 8, 9, 10] (fun lv hv cv iv wr => ∃ (j r : Nat) (v lo hi : Int), Hid (j + r = 1) ∧ j ≤ 1 ∧ j < s.size ∧ lv = .int .i64 lo ∧ hv = .int .i64 hi ∧ cv = .int .i64 v ∧ iv = .int .i64 ((j : Int) + 1) ∧ Drawn w wr ∧ Hid (step (strInts s) = scan (strInts s) r lo hi v (j + 1)) ∧ 0 ≤ v ∧ Hid (v < 64 ^ (j + 1)) ∧ Hid (128 ≤ lo ∧ hi ≤ 191)) (fun _ _ _ iv _ => 1 + 1 - (intOf iv).toNat)
  case atStart => exact ⟨0, 1, x % 32, lo0, hi0, Lib.hid rfl, by omega, h, rfl, rfl, vint (Int.tmod_eq_emod_of_nonneg X0.out), rfl, Drawn.refl _, HS0, by omega, Lib.hid (by simp; omega), HLH⟩
  case round =>
    obtain ⟨j, r, v, lo, hi, HR, hjm, hjs, rfl, rfl, rfl, rfl, hd, HS, hv0, HVB, HLH⟩ := hrel
    by_cases hr : j + 1 ≤ 1
    · have hri : (j : Int) + 1 ≤ 1 := by omega
      obtain ⟨r', rfl⟩ : ∃ r', r = r' + 1 := ⟨r - 1, by have := HR.out; omega⟩
      by_cases hk : j + 1 < s.size
      · have q1 : (((j : Int) + 1) == (s.size : Int)) = false := by rw [beq_eq_false_iff_ne]; omega
        have h2 : (j : Int) + 1 < (s.size : Int) := by omega
        have h3 : (0 : Int) ≤ (j : Int) + 1 := by omega
        have h4 : ((j : Int) + 1).toNat = j + 1 := by omega
        have h5 : IntKind.i64.wrap ((j : Int) + 1) = (j : Int) + 1 := IntWalk.i64_in _ (by omega)
        obtain ⟨c, hc, ec, gc⟩ := strInts_byte hk
        have GC : Hid ((strInts s).getD (j + 1) 0 = ((s[j + 1]'hk).toNat : Int)) := Lib.hid (by rw [gc, ← ec])
        have hy1 : ((s[j + 1]'hk).toNat : Int) ≤ 255 := by omega
        have hv1 : v < 16777216 := by have := HVB.out; have := pow_le (k := j + 1) (by omega); omega
        clear hc ec gc
        have hcase : ((s[j + 1]'hk).toNat : Int) < lo ∨ (lo ≤ ((s[j + 1]'hk).toNat : Int) ∧ hi < ((s[j + 1]'hk).toNat : Int)) ∨ (lo ≤ ((s[j + 1]'hk).toNat : Int) ∧ ((s[j + 1]'hk).toNat : Int) ≤ hi) := by omega
        rcases hcase with e1 | ⟨e1, e2⟩ | ⟨e1, e2⟩
        · have HN : Hid (step (strInts s) = (0, j + 1, false)) := Lib.hid (by
            rw [HS.out, scan_no]
            rw [GC.out]
            rintro ⟨_, e3, e4⟩
            omega)
          go_wp2_with fail
          go_ret3
          exact ⟨by rw [HN.out]; rfl, hd⟩
        · have HN : Hid (step (strInts s) = (0, j + 1, false)) := Lib.hid (by
            rw [HS.out, scan_no]
            rw [GC.out]
            rintro ⟨_, e3, e4⟩
            omega)
          go_wp2_with fail
          go_ret3
          exact ⟨by rw [HN.out]; rfl, hd⟩
        · have HN : Hid (step (strInts s) = scan (strInts s) r' 128 191 (64 * v + ((s[j + 1]'hk).toNat : Int) - 128) (j + 1 + 1)) := Lib.hid (by
            rw [HS.out, scan_yes (by rw [strInts_len]; exact hk) (by rw [GC.out]; exact e1) (by rw [GC.out]; exact e2), GC.out])
          have y1 : 128 ≤ ((s[j + 1]'hk).toNat : Int) := by have := HLH.out.1; omega
          have y2 : ((s[j + 1]'hk).toNat : Int) ≤ 191 := by have := HLH.out.2; omega
          go_wp2_with fail
          go_roundw
          case rel => exact ⟨j + 1, r', 64 * v + ((s[j + 1]'hk).toNat : Int) - 128, 128, 191, Lib.hid (by have := HR.out; omega), by omega, hk, rfl, rfl, rfl, vint (by omega), hd, HN, by omega, Lib.hid (pow_next HVB.out y2), Lib.hid ⟨by decide, by decide⟩⟩
          case measure => simp [intOf]; omega
      · have q1 : (((j : Int) + 1) == (s.size : Int)) = true := by rw [beq_iff_eq]; omega
        have HN : Hid (step (strInts s) = (0, j + 1, false)) := Lib.hid (by rw [HS.out, scan_no]; rw [strInts_len]; exact fun e => hk e.1)
        go_wp2_with fail
        go_ret3
        exact ⟨by rw [HN.out]; rfl, hd⟩
    · have hri : ¬ (j : Int) + 1 ≤ 1 := by omega
      obtain rfl : r = 0 := by have := HR.out; omega
      obtain rfl : j = 1 := by omega
      have HN : Hid (step (strInts s) = (v, 1 + 1, true)) := Lib.hid (by rw [HS.out, scan])
      go_wp2_with fail
      go_ret3
      exact ⟨by rw [HN.out]; rfl, hd⟩

set_option maxRecDepth 100000 in
set_option maxHeartbeats 1000000 in
theorem rstep_2 (s : ByteArray) (w : World) (h : 0 < s.size) (hs : s.size ≤ 100000) (h1 : ¬ (strInts s).getD 0 0 < 128) (lo0 hi0 : Int) (hl : lead ((strInts s).getD 0 0) = (2, lo0, hi0)) : Calls Tryd.prog 19 #[.string s] w (StepRes (step (strInts s)) w) := by
  have HE := Lib.hid (step_more (l := strInts s) (by rw [strInts_len]; exact h) h1 (by rw [hl]; exact Nat.succ_pos _))
  have hne := str_some h
  obtain ⟨b, hb, eb, gb⟩ := strInts_byte h
  obtain ⟨x, hx⟩ : ∃ x : Int, ((s[0]'h).toNat : Int) = x := ⟨_, rfl⟩
  have hg : (strInts s).getD 0 0 = x := by rw [gb, ← eb, hx]
  rw [hg] at h1 hl
  have HX := Lib.hid hx
  have h1' : (128 : Int) ≤ ((s[0]'h).toNat : Int) := by omega
  have h2' : ((s[0]'h).toNat : Int) ≤ 255 := by omega
  have X0 : Hid (0 ≤ x) := Lib.hid (by omega)
  have HL := Lib.hid hl
  have HBT : Hid (bits0 x = x % 16) := Lib.hid (by rw [bits0, hl]; rfl)
  have HS0 : Hid (step (strInts s) = scan (strInts s) 2 lo0 hi0 (x % 16) 1) := Lib.hid (by rw [HE.out, hg, hl, HBT.out])
  have HLH : Hid (128 ≤ lo0 ∧ hi0 ≤ 191) := Lib.hid (by have := lead_lohi x (by rw [hl]; exact Nat.succ_pos _); rw [hl] at this; exact this)
  clear eb gb h1 hx hg hl
  go_enter Tryd.func19, Tryd.ntmps19
  go_wp2_with fail
  rw [HX.out]
  refine (ref_lead_x HL.out _).mono ?_
  rintro e w' ⟨rfl, rfl⟩
  go_wp2_with fail
  go_loopw [7, 8, 9, 10] (fun lv hv cv iv wr => ∃ (j r : Nat) (v lo hi : Int), Hid (j + r = 2) ∧ j ≤ 2 ∧ j < s.size ∧ lv = .int .i64 lo ∧ hv = .int .i64 hi ∧ cv = .int .i64 v ∧ iv = .int .i64 ((j : Int) + 1) ∧ Drawn w wr ∧ Hid (step (strInts s) = scan (strInts s) r lo hi v (j + 1)) ∧ 0 ≤ v ∧ Hid (v < 64 ^ (j + 1)) ∧ Hid (128 ≤ lo ∧ hi ≤ 191)) (fun _ _ _ iv _ => 2 + 1 - (intOf iv).toNat)
  case atStart => exact ⟨0, 2, x % 16, lo0, hi0, Lib.hid rfl, by omega, h, rfl, rfl, vint (Int.tmod_eq_emod_of_nonneg X0.out), rfl, Drawn.refl _, HS0, by omega, Lib.hid (by simp; omega), HLH⟩
  case round =>
    obtain ⟨j, r, v, lo, hi, HR, hjm, hjs, rfl, rfl, rfl, rfl, hd, HS, hv0, HVB, HLH⟩ := hrel
    by_cases hr : j + 1 ≤ 2
    · have hri : (j : Int) + 1 ≤ 2 := by omega
      obtain ⟨r', rfl⟩ : ∃ r', r = r' + 1 := ⟨r - 1, by have := HR.out; omega⟩
      by_cases hk : j + 1 < s.size
      · have q1 : (((j : Int) + 1) == (s.size : Int)) = false := by rw [beq_eq_false_iff_ne]; omega
        have h2 : (j : Int) + 1 < (s.size : Int) := by omega
        have h3 : (0 : Int) ≤ (j : Int) + 1 := by omega
        have h4 : ((j : Int) + 1).toNat = j + 1 := by omega
        have h5 : IntKind.i64.wrap ((j : Int) + 1) = (j : Int) + 1 := IntWalk.i64_in _ (by omega)
        obtain ⟨c, hc, ec, gc⟩ := strInts_byte hk
        have GC : Hid ((strInts s).getD (j + 1) 0 = ((s[j + 1]'hk).toNat : Int)) := Lib.hid (by rw [gc, ← ec])
        have hy1 : ((s[j + 1]'hk).toNat : Int) ≤ 255 := by omega
        have hv1 : v < 16777216 := by have := HVB.out; have := pow_le (k := j + 1) (by omega); omega
        clear hc ec gc
        have hcase : ((s[j + 1]'hk).toNat : Int) < lo ∨ (lo ≤ ((s[j + 1]'hk).toNat : Int) ∧ hi < ((s[j + 1]'hk).toNat : Int)) ∨ (lo ≤ ((s[j + 1]'hk).toNat : Int) ∧ ((s[j + 1]'hk).toNat : Int) ≤ hi) := by omega
        rcases hcase with e1 | ⟨e1, e2⟩ | ⟨e1, e2⟩
        · have HN : Hid (step (strInts s) = (0, j + 1, false)) := Lib.hid (by
            rw [HS.out, scan_no]
            rw [GC.out]
            rintro ⟨_, e3, e4⟩
            omega)
          go_wp2_with fail
          go_ret3
          exact ⟨by rw [HN.out]; rfl, hd⟩
        · have HN : Hid (step (strInts s) = (0, j + 1, false)) := Lib.hid (by
            rw [HS.out, scan_no]
            rw [GC.out]
            rintro ⟨_, e3, e4⟩
            omega)
          go_wp2_with fail
          go_ret3
          exact ⟨by rw [HN.out]; rfl, hd⟩
        · have HN : Hid (step (strInts s) = scan (strInts s) r' 128 191 (64 * v + ((s[j + 1]'hk).toNat : Int) - 128) (j + 1 + 1)) := Lib.hid (by
            rw [HS.out, scan_yes (by rw [strInts_len]; exact hk) (by rw [GC.out]; exact e1) (by rw [GC.out]; exact e2), GC.out])
          have y1 : 128 ≤ ((s[j + 1]'hk).toNat : Int) := by have := HLH.out.1; omega
          have y2 : ((s[j + 1]'hk).toNat : Int) ≤ 191 := by have := HLH.out.2; omega
          go_wp2_with fail
          go_roundw
          case rel => exact ⟨j + 1, r', 64 * v + ((s[j + 1]'hk).toNat : Int) - 128, 128, 191, Lib.hid (by have := HR.out; omega), by omega, hk, rfl, rfl, rfl, vint (by omega), hd, HN, by omega, Lib.hid (pow_next HVB.out y2), Lib.hid ⟨by decide, by decide⟩⟩
          case measure => simp [intOf]; omega
      · have q1 : (((j : Int) + 1) == (s.size : Int)) = true := by rw [beq_iff_eq]; omega
        have HN : Hid (step (strInts s) = (0, j + 1, false)) := Lib.hid (by rw [HS.out, scan_no]; rw [strInts_len]; exact fun e => hk e.1)
        go_wp2_with fail
        go_ret3
        exact ⟨by rw [HN.out]; rfl, hd⟩
    · have hri : ¬ (j : Int) + 1 ≤ 2 := by omega
      obtain rfl : r = 0 := by have := HR.out; omega
      obtain rfl : j = 2 := by omega
      have HN : Hid (step (strInts s) = (v, 2 + 1, true)) := Lib.hid (by rw [HS.out, scan])
      go_wp2_with fail
      go_ret3
      exact ⟨by rw [HN.out]; rfl, hd⟩

set_option maxRecDepth 100000 in
set_option maxHeartbeats 1000000 in
theorem rstep_3 (s : ByteArray) (w : World) (h : 0 < s.size) (hs : s.size ≤ 100000) (h1 : ¬ (strInts s).getD 0 0 < 128) (lo0 hi0 : Int) (hl : lead ((strInts s).getD 0 0) = (3, lo0, hi0)) : Calls Tryd.prog 19 #[.string s] w (StepRes (step (strInts s)) w) := by
  have HE := Lib.hid (step_more (l := strInts s) (by rw [strInts_len]; exact h) h1 (by rw [hl]; exact Nat.succ_pos _))
  have hne := str_some h
  obtain ⟨b, hb, eb, gb⟩ := strInts_byte h
  obtain ⟨x, hx⟩ : ∃ x : Int, ((s[0]'h).toNat : Int) = x := ⟨_, rfl⟩
  have hg : (strInts s).getD 0 0 = x := by rw [gb, ← eb, hx]
  rw [hg] at h1 hl
  have HX := Lib.hid hx
  have h1' : (128 : Int) ≤ ((s[0]'h).toNat : Int) := by omega
  have h2' : ((s[0]'h).toNat : Int) ≤ 255 := by omega
  have X0 : Hid (0 ≤ x) := Lib.hid (by omega)
  have HL := Lib.hid hl
  have HBT : Hid (bits0 x = x % 8) := Lib.hid (by rw [bits0, hl]; rfl)
  have HS0 : Hid (step (strInts s) = scan (strInts s) 3 lo0 hi0 (x % 8) 1) := Lib.hid (by rw [HE.out, hg, hl, HBT.out])
  have HLH : Hid (128 ≤ lo0 ∧ hi0 ≤ 191) := Lib.hid (by have := lead_lohi x (by rw [hl]; exact Nat.succ_pos _); rw [hl] at this; exact this)
  clear eb gb h1 hx hg hl
  go_enter Tryd.func19, Tryd.ntmps19
  go_wp2_with fail
  rw [HX.out]
  refine (ref_lead_x HL.out _).mono ?_
  rintro e w' ⟨rfl, rfl⟩
  go_wp2_with fail
  go_loopw [7, 8, 9, 10] (fun lv hv cv iv wr => ∃ (j r : Nat) (v lo hi : Int), Hid (j + r = 3) ∧ j ≤ 3 ∧ j < s.size ∧ lv = .int .i64 lo ∧ hv = .int .i64 hi ∧ cv = .int .i64 v ∧ iv = .int .i64 ((j : Int) + 1) ∧ Drawn w wr ∧ Hid (step (strInts s) = scan (strInts s) r lo hi v (j + 1)) ∧ 0 ≤ v ∧ Hid (v < 64 ^ (j + 1)) ∧ Hid (128 ≤ lo ∧ hi ≤ 191)) (fun _ _ _ iv _ => 3 + 1 - (intOf iv).toNat)
  case atStart => exact ⟨0, 3, x % 8, lo0, hi0, Lib.hid rfl, by omega, h, rfl, rfl, vint (Int.tmod_eq_emod_of_nonneg X0.out), rfl, Drawn.refl _, HS0, by omega, Lib.hid (by simp; omega), HLH⟩
  case round =>
    obtain ⟨j, r, v, lo, hi, HR, hjm, hjs, rfl, rfl, rfl, rfl, hd, HS, hv0, HVB, HLH⟩ := hrel
    by_cases hr : j + 1 ≤ 3
    · have hri : (j : Int) + 1 ≤ 3 := by omega
      obtain ⟨r', rfl⟩ : ∃ r', r = r' + 1 := ⟨r - 1, by have := HR.out; omega⟩
      by_cases hk : j + 1 < s.size
      · have q1 : (((j : Int) + 1) == (s.size : Int)) = false := by rw [beq_eq_false_iff_ne]; omega
        have h2 : (j : Int) + 1 < (s.size : Int) := by omega
        have h3 : (0 : Int) ≤ (j : Int) + 1 := by omega
        have h4 : ((j : Int) + 1).toNat = j + 1 := by omega
        have h5 : IntKind.i64.wrap ((j : Int) + 1) = (j : Int) + 1 := IntWalk.i64_in _ (by omega)
        obtain ⟨c, hc, ec, gc⟩ := strInts_byte hk
        have GC : Hid ((strInts s).getD (j + 1) 0 = ((s[j + 1]'hk).toNat : Int)) := Lib.hid (by rw [gc, ← ec])
        have hy1 : ((s[j + 1]'hk).toNat : Int) ≤ 255 := by omega
        have hv1 : v < 16777216 := by have := HVB.out; have := pow_le (k := j + 1) (by omega); omega
        clear hc ec gc
        have hcase : ((s[j + 1]'hk).toNat : Int) < lo ∨ (lo ≤ ((s[j + 1]'hk).toNat : Int) ∧ hi < ((s[j + 1]'hk).toNat : Int)) ∨ (lo ≤ ((s[j + 1]'hk).toNat : Int) ∧ ((s[j + 1]'hk).toNat : Int) ≤ hi) := by omega
        rcases hcase with e1 | ⟨e1, e2⟩ | ⟨e1, e2⟩
        · have HN : Hid (step (strInts s) = (0, j + 1, false)) := Lib.hid (by
            rw [HS.out, scan_no]
            rw [GC.out]
            rintro ⟨_, e3, e4⟩
            omega)
          go_wp2_with fail
          go_ret3
          exact ⟨by rw [HN.out]; rfl, hd⟩
        · have HN : Hid (step (strInts s) = (0, j + 1, false)) := Lib.hid (by
            rw [HS.out, scan_no]
            rw [GC.out]
            rintro ⟨_, e3, e4⟩
            omega)
          go_wp2_with fail
          go_ret3
          exact ⟨by rw [HN.out]; rfl, hd⟩
        · have HN : Hid (step (strInts s) = scan (strInts s) r' 128 191 (64 * v + ((s[j + 1]'hk).toNat : Int) - 128) (j + 1 + 1)) := Lib.hid (by
            rw [HS.out, scan_yes (by rw [strInts_len]; exact hk) (by rw [GC.out]; exact e1) (by rw [GC.out]; exact e2), GC.out])
          have y1 : 128 ≤ ((s[j + 1]'hk).toNat : Int) := by have := HLH.out.1; omega
          have y2 : ((s[j + 1]'hk).toNat : Int) ≤ 191 := by have := HLH.out.2; omega
          go_wp2_with fail
          go_roundw
          case rel => exact ⟨j + 1, r', 64 * v + ((s[j + 1]'hk).toNat : Int) - 128, 128, 191, Lib.hid (by have := HR.out; omega), by omega, hk, rfl, rfl, rfl, vint (by omega), hd, HN, by omega, Lib.hid (pow_next HVB.out y2), Lib.hid ⟨by decide, by decide⟩⟩
          case measure => simp [intOf]; omega
      · have q1 : (((j : Int) + 1) == (s.size : Int)) = true := by rw [beq_iff_eq]; omega
        have HN : Hid (step (strInts s) = (0, j + 1, false)) := Lib.hid (by rw [HS.out, scan_no]; rw [strInts_len]; exact fun e => hk e.1)
        go_wp2_with fail
        go_ret3
        exact ⟨by rw [HN.out]; rfl, hd⟩
    · have hri : ¬ (j : Int) + 1 ≤ 3 := by omega
      obtain rfl : r = 0 := by have := HR.out; omega
      obtain rfl : j = 3 := by omega
      have HN : Hid (step (strInts s) = (v, 3 + 1, true)) := Lib.hid (by rw [HS.out, scan])
      go_wp2_with fail
      go_ret3
      exact ⟨by rw [HN.out]; rfl, hd⟩

theorem rstep_any (s : ByteArray) (w : World) (hs : s.size ≤ 100000) : Calls Tryd.prog 19 #[.string s] w (StepRes (step (strInts s)) w) := by
  rcases Nat.eq_zero_or_pos s.size with h | h
  · exact rstep_empty s w h
  · by_cases h1 : (strInts s).getD 0 0 < 128
    · exact rstep_ascii s w h h1
    · obtain ⟨⟨m, lo, hi⟩, hl⟩ : ∃ y, lead ((strInts s).getD 0 0) = y := ⟨_, rfl⟩
      have hm := lead_le ((strInts s).getD 0 0)
      rw [hl] at hm
      have hm' : m = 0 ∨ m = 1 ∨ m = 2 ∨ m = 3 := by dsimp only at hm; omega
      rcases hm' with rfl | rfl | rfl | rfl
      · exact rstep_none s w h h1 (by rw [hl])
      · exact rstep_1 s w h hs h1 lo hi hl
      · exact rstep_2 s w h hs h1 lo hi hl
      · exact rstep_3 s w h hs h1 lo hi hl
theorem rstep_x {s : ByteArray} {c : Int} {n : Nat} {ok : Bool} (h : step (strInts s) = (c, n, ok)) (hs : s.size ≤ 100000) (w : World) : Calls Tryd.prog 19 #[.string s] w (Tells (.tuple #[.int .i64 c, .int .i64 (n : Int), .bool ok]) w) := by
  have := rstep_any s w hs
  rw [h] at this
  exact this
end Go.Proofs.YtpckedihdmibmaaDoor.U8
