/-
  The contracts of package utf8text: known, Length, follower, appendForm.
-/
import Derived.Test.YtpckedihdmibmaaDoorU8Math
import Derived.Test.YtpckedihdmibmaaDoorStr
import Derived.Test.YtpckedihdmibmaaDoorCpScalar
namespace Go.Proofs.YtpckedihdmibmaaDoor.U8
open Go.RowKit
set_option linter.unusedVariables false

theorem known_x {p : Int} {r : Bool} (h : known p = r) (w : World) : Calls Tryd.prog 26 #[.int .i64 p] w (Gives (.bool r) w) := by
  have hcase : p < 1 ∨ (1 ≤ p ∧ p ≤ 4) ∨ (1 ≤ p ∧ 4 < p) := by omega
  rcases hcase with h1 | ⟨h1, h2⟩ | ⟨h1, h2⟩
  · have H : Hid (r = false) := Lib.hid (by rw [← h]; simp [known]; omega)
    clear h
    go_enter Tryd.func26, Tryd.ntmps26
    go_wp2
    go_ret
    exact gives_bool (H.out.trans (by simp <;> omega))
  · have H : Hid (r = true) := Lib.hid (by rw [← h]; simp [known]; omega)
    clear h
    go_enter Tryd.func26, Tryd.ntmps26
    go_wp2
    go_ret
    exact gives_bool (H.out.trans (by simp <;> omega))
  · have H : Hid (r = false) := Lib.hid (by rw [← h]; simp [known]; omega)
    clear h
    go_enter Tryd.func26, Tryd.ntmps26
    go_wp2
    go_ret
    exact gives_bool (H.out.trans (by simp <;> omega))

/-- The length of a form, by its value. -/
theorem len8_cases (c : Int) : (isScalar c = false ∧ len8 c = 0) ∨ (isScalar c = true ∧ ((c < 128 ∧ len8 c = 1) ∨ (128 ≤ c ∧ c < 2048 ∧ len8 c = 2) ∨ (2048 ≤ c ∧ c < 65536 ∧ len8 c = 3) ∨ (65536 ≤ c ∧ len8 c = 4))) := by
  rcases h : isScalar c with _ | _
  · exact .inl ⟨rfl, by simp [len8, h]⟩
  · refine .inr ⟨rfl, ?_⟩
    rw [len8, h, if_pos rfl]
    unfold form8
    by_cases h1 : c < 128
    · exact .inl ⟨h1, by rw [if_pos h1]; rfl⟩
    · by_cases h2 : c < 2048
      · exact .inr (.inl ⟨by omega, h2, by rw [if_neg h1, if_pos h2]; rfl⟩)
      · by_cases h3 : c < 65536
        · exact .inr (.inr (.inl ⟨by omega, h3, by rw [if_neg h1, if_neg h2, if_pos h3]; rfl⟩))
        · exact .inr (.inr (.inr ⟨by omega, by rw [if_neg h1, if_neg h2, if_neg h3]; rfl⟩))
theorem length_any (c : Int) (w : World) : Calls Tryd.prog 12 #[.int .i64 c] w (Gives (.int .i64 (len8 c : Int)) w) := by
  rcases len8_cases c with ⟨hs, hl⟩ | ⟨hs, ⟨h1, hl⟩ | ⟨h1, h2, hl⟩ | ⟨h1, h2, hl⟩ | ⟨h1, hl⟩⟩
  all_goals
    have HS := Lib.hid hs
    have HL := Lib.hid hl
    clear hs hl
    go_enter Tryd.func12, Tryd.ntmps12
    go_wp2_with (go_at_call 27; refine (scalar_x HS.out _).mono ?_; rintro e w' ⟨rfl, rfl⟩)
    go_ret
    rw [HL.out]
    exact ⟨rfl, rfl⟩

theorem follower_0 {c : Int} (h0 : 0 ≤ c) (h1 : c ≤ 1114111) (w : World) : Calls Tryd.prog 41 #[.int .i64 c, .int .i64 0] w (Gives (.int .u8 (128 + c % 64)) w) := by
  go_enter Tryd.func41, Tryd.ntmps41
  go_wp2_with fail
  go_ret
  exact ⟨rfl, rfl⟩
theorem follower_1 {c : Int} (h0 : 0 ≤ c) (h1 : c ≤ 1114111) (w : World) : Calls Tryd.prog 41 #[.int .i64 c, .int .i64 1] w (Gives (.int .u8 (128 + c / 64 % 64)) w) := by
  go_enter Tryd.func41, Tryd.ntmps41
  go_wp2_with fail
  go_ret
  exact ⟨rfl, rfl⟩
theorem follower_2 {c : Int} (h0 : 0 ≤ c) (h1 : c ≤ 1114111) (w : World) : Calls Tryd.prog 41 #[.int .i64 c, .int .i64 2] w (Gives (.int .u8 (128 + c / 4096 % 64)) w) := by
  go_enter Tryd.func41, Tryd.ntmps41
  go_wp2_with fail
  go_ret
  exact ⟨rfl, rfl⟩

theorem form1 {c : Int} (h : c < 128) : form8 c = [c] := by rw [form8, if_pos h]
theorem form2 {c : Int} (h1 : 128 ≤ c) (h2 : c < 2048) : form8 c = [192 + c / 64, 128 + c % 64] := by rw [form8, if_neg (by omega), if_pos h2]
theorem form3 {c : Int} (h1 : 2048 ≤ c) (h2 : c < 65536) : form8 c = [224 + c / 4096, 128 + c / 64 % 64, 128 + c % 64] := by rw [form8, if_neg (by omega), if_neg (by omega), if_pos h2]
theorem form4 {c : Int} (h1 : 65536 ≤ c) : form8 c = [240 + c / 262144, 128 + c / 4096 % 64, 128 + c / 64 % 64, 128 + c % 64] := by rw [form8, if_neg (by omega), if_neg (by omega), if_neg (by omega)]
theorem length_x {c : Int} {n : Nat} (h : len8 c = n) (w : World) : Calls Tryd.prog 12 #[.int .i64 c] w (Gives (.int .i64 (n : Int)) w) := by
  rw [← h]
  exact length_any c w

set_option maxHeartbeats 1000000 in
theorem app_form1 {c : Int} {base n k : Nat} {xs zs : List Int} {v : Value} (hs : isScalar c = true) (h1 : c < 128) (hz : xs ++ form8 c = zs) (hk : n + 1 = k) (hn : n ≤ 100000) (w : World) (ho : Own w base 5 1 v n (bys xs)) (hb : base ≤ w.heap.size) :
    Calls Tryd.prog 28 #[v, .int .i64 c] w (GrowsBytes base k zs w) := by
  obtain ⟨A, d, rfl, _⟩ := ho.sl
  have hb0 := isScalar_iff.1 hs
  have c0 : 0 ≤ c := hb0.1
  have c1 : c ≤ 1114111 := hb0.2.1
  have HL : Hid (len8 c = 1) := Lib.hid (by rw [len8, hs, if_pos rfl, form1 h1]; rfl)
  have HZ : Hid (zs = xs ++ [c]) := Lib.hid (by rw [← hz, form1 h1])
  have HK := Lib.hid hk
  have hk2 : k ≤ 100004 := by omega
  clear hz hk hs hb0
  go_enter Tryd.func28, Tryd.ntmps28
  go_wp2_with fail
  refine (length_x HL.out _).mono ?_
  rintro e w' ⟨rfl, rfl⟩
  go_wp2_with (at_builtin; refine wpList_append_bytes rfl (.tmp 9) (.tmp 12) rfl base _ n xs rfl (ho.alloc _) _ 1 1 [c] rfl (Sl.built w 5 1 1 (bys [c]) rfl (by unfold maxLen; omega)) k HK.out.symm zs HZ.out (by omega) (by simp; omega) ?_; intro v2 w2 o2 b2)
  go_ret
  exact ⟨v2, rfl, o2, ((Below.refl base w).alloc hb _).trans b2⟩

set_option maxHeartbeats 1000000 in
theorem app_form2 {c : Int} {base n k : Nat} {xs zs : List Int} {v : Value} (hs : isScalar c = true) (h1 : 128 ≤ c) (h2 : c < 2048) (hz : xs ++ form8 c = zs) (hk : n + 2 = k) (hn : n ≤ 100000) (w : World) (ho : Own w base 5 1 v n (bys xs)) (hb : base ≤ w.heap.size) :
    Calls Tryd.prog 28 #[v, .int .i64 c] w (GrowsBytes base k zs w) := by
  obtain ⟨A, d, rfl, _⟩ := ho.sl
  have hb0 := isScalar_iff.1 hs
  have c0 : 0 ≤ c := hb0.1
  have c1 : c ≤ 1114111 := hb0.2.1
  have HL : Hid (len8 c = 2) := Lib.hid (by rw [len8, hs, if_pos rfl, form2 h1 h2]; rfl)
  have HZ : Hid (zs = xs ++ [192 + c / 64, 128 + c % 64]) := Lib.hid (by rw [← hz, form2 h1 h2])
  have HK := Lib.hid hk
  have hk2 : k ≤ 100004 := by omega
  clear hz hk hs hb0
  go_enter Tryd.func28, Tryd.ntmps28
  go_wp2_with fail
  refine (length_x HL.out _).mono ?_
  rintro e w' ⟨rfl, rfl⟩
  go_wp2_with fail
  refine (follower_0 c0 c1 _).mono ?_
  rintro e w' ⟨rfl, rfl⟩
  go_wp2_with (at_builtin; refine wpList_append_bytes rfl (.tmp 16) (.tmp 23) rfl base _ n xs rfl (ho.alloc _) _ 2 2 [192 + c / 64, 128 + c % 64] rfl (Sl.built w 5 1 2 (bys [192 + c / 64, 128 + c % 64]) rfl (by unfold maxLen; omega)) k HK.out.symm zs HZ.out (by omega) (by simp; omega) ?_; intro v2 w2 o2 b2)
  go_ret
  exact ⟨v2, rfl, o2, ((Below.refl base w).alloc hb _).trans b2⟩

set_option maxHeartbeats 1000000 in
theorem app_form3 {c : Int} {base n k : Nat} {xs zs : List Int} {v : Value} (hs : isScalar c = true) (h1 : 2048 ≤ c) (h2 : c < 65536) (hz : xs ++ form8 c = zs) (hk : n + 3 = k) (hn : n ≤ 100000) (w : World) (ho : Own w base 5 1 v n (bys xs)) (hb : base ≤ w.heap.size) :
    Calls Tryd.prog 28 #[v, .int .i64 c] w (GrowsBytes base k zs w) := by
  obtain ⟨A, d, rfl, _⟩ := ho.sl
  have hb0 := isScalar_iff.1 hs
  have c0 : 0 ≤ c := hb0.1
  have c1 : c ≤ 1114111 := hb0.2.1
  have HL : Hid (len8 c = 3) := Lib.hid (by rw [len8, hs, if_pos rfl, form3 h1 h2]; rfl)
  have HZ : Hid (zs = xs ++ [224 + c / 4096, 128 + c / 64 % 64, 128 + c % 64]) := Lib.hid (by rw [← hz, form3 h1 h2])
  have HK := Lib.hid hk
  have hk2 : k ≤ 100004 := by omega
  clear hz hk hs hb0
  go_enter Tryd.func28, Tryd.ntmps28
  go_wp2_with fail
  refine (length_x HL.out _).mono ?_
  rintro e w' ⟨rfl, rfl⟩
  go_wp2_with fail
  refine (follower_1 c0 c1 _).mono ?_
  rintro e w' ⟨rfl, rfl⟩
  go_wp2_with fail
  refine (follower_0 c0 c1 _).mono ?_
  rintro e w' ⟨rfl, rfl⟩
  go_wp2_with (at_builtin; refine wpList_append_bytes rfl (.tmp 27) (.tmp 36) rfl base _ n xs rfl (ho.alloc _) _ 3 3 [224 + c / 4096, 128 + c / 64 % 64, 128 + c % 64] rfl (Sl.built w 5 1 3 (bys [224 + c / 4096, 128 + c / 64 % 64, 128 + c % 64]) rfl (by unfold maxLen; omega)) k HK.out.symm zs HZ.out (by omega) (by simp; omega) ?_; intro v2 w2 o2 b2)
  go_ret
  exact ⟨v2, rfl, o2, ((Below.refl base w).alloc hb _).trans b2⟩

set_option maxHeartbeats 1000000 in
theorem app_form4 {c : Int} {base n k : Nat} {xs zs : List Int} {v : Value} (hs : isScalar c = true) (h1 : 65536 ≤ c) (hz : xs ++ form8 c = zs) (hk : n + 4 = k) (hn : n ≤ 100000) (w : World) (ho : Own w base 5 1 v n (bys xs)) (hb : base ≤ w.heap.size) :
    Calls Tryd.prog 28 #[v, .int .i64 c] w (GrowsBytes base k zs w) := by
  obtain ⟨A, d, rfl, _⟩ := ho.sl
  have hb0 := isScalar_iff.1 hs
  have c0 : 0 ≤ c := hb0.1
  have c1 : c ≤ 1114111 := hb0.2.1
  have HL : Hid (len8 c = 4) := Lib.hid (by rw [len8, hs, if_pos rfl, form4 h1]; rfl)
  have HZ : Hid (zs = xs ++ [240 + c / 262144, 128 + c / 4096 % 64, 128 + c / 64 % 64, 128 + c % 64]) := Lib.hid (by rw [← hz, form4 h1])
  have HK := Lib.hid hk
  have hk2 : k ≤ 100004 := by omega
  clear hz hk hs hb0
  go_enter Tryd.func28, Tryd.ntmps28
  go_wp2_with fail
  refine (length_x HL.out _).mono ?_
  rintro e w' ⟨rfl, rfl⟩
  go_wp2_with fail
  refine (follower_2 c0 c1 _).mono ?_
  rintro e w' ⟨rfl, rfl⟩
  go_wp2_with fail
  refine (follower_1 c0 c1 _).mono ?_
  rintro e w' ⟨rfl, rfl⟩
  go_wp2_with fail
  refine (follower_0 c0 c1 _).mono ?_
  rintro e w' ⟨rfl, rfl⟩
  go_wp2_with (at_builtin; refine wpList_append_bytes rfl (.tmp 38) (.tmp 49) rfl base _ n xs rfl (ho.alloc _) _ 4 4 [240 + c / 262144, 128 + c / 4096 % 64, 128 + c / 64 % 64, 128 + c % 64] rfl (Sl.built w 5 1 4 (bys [240 + c / 262144, 128 + c / 4096 % 64, 128 + c / 64 % 64, 128 + c % 64]) rfl (by unfold maxLen; omega)) k HK.out.symm zs HZ.out (by omega) (by simp; omega) ?_; intro v2 w2 o2 b2)
  go_ret
  exact ⟨v2, rfl, o2, ((Below.refl base w).alloc hb _).trans b2⟩

theorem app_form {c : Int} {base n k : Nat} {xs zs : List Int} {v : Value} (hs : isScalar c = true) (hz : xs ++ form8 c = zs) (hk : n + (form8 c).length = k) (hn : n ≤ 100000) (w : World) (ho : Own w base 5 1 v n (bys xs)) (hb : base ≤ w.heap.size) :
    Calls Tryd.prog 28 #[v, .int .i64 c] w (GrowsBytes base k zs w) := by
  rcases Int.lt_or_le c 128 with h1 | h1
  · exact app_form1 hs h1 hz (by rw [form1 h1] at hk; exact hk) hn w ho hb
  · rcases Int.lt_or_le c 2048 with h2 | h2
    · exact app_form2 hs h1 h2 hz (by rw [form2 h1 h2] at hk; exact hk) hn w ho hb
    · rcases Int.lt_or_le c 65536 with h3 | h3
      · exact app_form3 hs h2 h3 hz (by rw [form3 h2 h3] at hk; exact hk) hn w ho hb
      · exact app_form4 hs h3 hz (by rw [form4 h3] at hk; exact hk) hn w ho hb
end Go.Proofs.YtpckedihdmibmaaDoor.U8
