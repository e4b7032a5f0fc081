/-
  The contracts of the reference's Known, high, low, Form, Escaped, Begin of layer 4, and of the reference's Text of layer 1.
-/
import Derived.Test.YtjfhhcaikapfiaaDoorUxProgA
import Derived.Test.YtjfhhcaikapfiaaDoorCpRefHex
namespace Go.Proofs.YtjfhhcaikapfiaaDoor.Ux
open Go.RowKit
set_option linter.unusedVariables false

theorem ref_known_x {u : Int} {r : Bool} (h : known u = r) (w : World) : Calls Tryd.prog 20 #[.int .i64 u] w (Gives (.bool r) w) := by
  have hcase : u < 1 ∨ (1 ≤ u ∧ u ≤ 4) ∨ (1 ≤ u ∧ 4 < u) := by omega
  rcases hcase with h1 | ⟨h1, h2⟩ | ⟨h1, h2⟩
  · have H : Hid (r = false) := Lib.hid (by rw [← h]; simp [known]; omega)
    clear h
    go_enter Tryd.func20, Tryd.ntmps20
    go_wp2
    go_ret
    exact gives_bool (H.out.trans (by simp <;> omega))
  · have H : Hid (r = true) := Lib.hid (by rw [← h]; simp [known]; omega)
    clear h
    go_enter Tryd.func20, Tryd.ntmps20
    go_wp2
    go_ret
    exact gives_bool (H.out.trans (by simp <;> omega))
  · have H : Hid (r = false) := Lib.hid (by rw [← h]; simp [known]; omega)
    clear h
    go_enter Tryd.func20, Tryd.ntmps20
    go_wp2
    go_ret
    exact gives_bool (H.out.trans (by simp <;> omega))
theorem ref_high_x {u : Int} {r : Bool} (h : high u = r) (w : World) : Calls Tryd.prog 35 #[.int .i64 u] w (Gives (.bool r) w) := by
  have hcase : u < 55296 ∨ (55296 ≤ u ∧ u ≤ 56319) ∨ (55296 ≤ u ∧ 56319 < u) := by omega
  rcases hcase with h1 | ⟨h1, h2⟩ | ⟨h1, h2⟩
  · have H : Hid (r = false) := Lib.hid (by rw [← h]; simp [high]; omega)
    clear h
    go_enter Tryd.func35, Tryd.ntmps35
    go_wp2
    go_ret
    exact gives_bool (H.out.trans (by simp <;> omega))
  · have H : Hid (r = true) := Lib.hid (by rw [← h]; simp [high]; omega)
    clear h
    go_enter Tryd.func35, Tryd.ntmps35
    go_wp2
    go_ret
    exact gives_bool (H.out.trans (by simp <;> omega))
  · have H : Hid (r = false) := Lib.hid (by rw [← h]; simp [high]; omega)
    clear h
    go_enter Tryd.func35, Tryd.ntmps35
    go_wp2
    go_ret
    exact gives_bool (H.out.trans (by simp <;> omega))
theorem ref_low_x {u : Int} {r : Bool} (h : low u = r) (w : World) : Calls Tryd.prog 36 #[.int .i64 u] w (Gives (.bool r) w) := by
  have hcase : u < 56320 ∨ (56320 ≤ u ∧ u ≤ 57343) ∨ (56320 ≤ u ∧ 57343 < u) := by omega
  rcases hcase with h1 | ⟨h1, h2⟩ | ⟨h1, h2⟩
  · have H : Hid (r = false) := Lib.hid (by rw [← h]; simp [low]; omega)
    clear h
    go_enter Tryd.func36, Tryd.ntmps36
    go_wp2
    go_ret
    exact gives_bool (H.out.trans (by simp <;> omega))
  · have H : Hid (r = true) := Lib.hid (by rw [← h]; simp [low]; omega)
    clear h
    go_enter Tryd.func36, Tryd.ntmps36
    go_wp2
    go_ret
    exact gives_bool (H.out.trans (by simp <;> omega))
  · have H : Hid (r = false) := Lib.hid (by rw [← h]; simp [low]; omega)
    clear h
    go_enter Tryd.func36, Tryd.ntmps36
    go_wp2
    go_ret
    exact gives_bool (H.out.trans (by simp <;> omega))

theorem ref_form_any {c : Int} (hs : isScalar c = true) (w : World) : Calls Tryd.prog 27 #[.int .i64 c] w (Lists (form c) w) := by
  have hb := isScalar_iff.1 hs
  have HS := Lib.hid hs
  clear hs
  by_cases hc : c < 65536
  · have HF : Hid (form c = [c]) := Lib.hid (by rw [form, if_pos hc])
    go_enter Tryd.func27, Tryd.ntmps27
    go_wp2_with (go_at_call 26; refine (ref_scalar_x HS.out _).mono ?_; rintro e w' ⟨rfl, rfl⟩)
    go_ret
    exact ⟨_, _, _, rfl, by rw [HF.out]; exact Sl.built w 3 1 1 _ rfl (by unfold maxLen; omega), (Below.refl _ _).alloc (Nat.le_refl _) _⟩
  · have HF : Hid (form c = [55296 + (c - 65536) / 1024, 56320 + (c - 65536) % 1024]) := Lib.hid (by rw [form, if_neg hc])
    have h1 : 65536 ≤ c := by omega
    have h2 : c ≤ 1114111 := by omega
    clear hc hb
    go_enter Tryd.func27, Tryd.ntmps27
    go_wp2_with (go_at_call 26; refine (ref_scalar_x HS.out _).mono ?_; rintro e w' ⟨rfl, rfl⟩)
    go_ret
    exact ⟨_, _, _, rfl, by rw [HF.out]; exact Sl.built w 3 1 2 _ rfl (by unfold maxLen; omega), (Below.refl _ _).alloc (Nat.le_refl _) _⟩

theorem strInts_take {s : ByteArray} {k : Nat} (h : k < s.size) : (strInts s).take (k + 1) = (strInts s).take k ++ [((s[k]'h).toNat : Int)] := by
  have h2 : k < (strInts s).length := by rw [strInts_len]; exact h
  rw [List.take_succ_eq_append_getElem h2]
  congr 2
  have := strInts_at h
  rw [List.getD, List.getElem?_eq_getElem h2] at this
  exact this

set_option maxHeartbeats 1000000 in
theorem ref_text_any (s : ByteArray) (hs : s.size ≤ 1000) (w : World) : Calls Tryd.prog 42 #[.string s] w (Lists (strInts s) w) := by
  go_enter Tryd.func42, Tryd.ntmps42
  go_wp2
  go_loopw [3, 4] (fun v i wr => ∃ k : Nat, k ≤ s.size ∧ i = .int .i64 k ∧ Own wr w.heap.size 3 1 v k (ints ((strInts s).take k)) ∧ Below w.heap.size w wr) (fun _ i _ => s.size - (intOf i).toNat)
  case atStart => exact ⟨0, by omega, rfl, Own.nil _ _ _ _, Below.refl _ _⟩
  case round =>
    obtain ⟨k, hk, rfl, ho, hb⟩ := hrel
    have hbs := hb.size
    by_cases hlt : k < s.size
    · have hwb := wrap_byte (s[k]'hlt)
      have HT := Lib.hid (strInts_take hlt)
      go_wp2_with (at_builtin; refine wpList_append_ints rfl (.tmp 11) (.tmp 16) rfl w.heap.size u3 k _ rfl (ho.alloc _) _ 1 1 [((s[k]'hlt).toNat : Int)] rfl (Sl.built wr 3 1 1 _ rfl (by unfold maxLen; omega)) (k + 1) rfl _ HT.out (by omega) (by simp; omega) ?_; intro v2 w2 o2 b2)
      have hb2 := (hb.alloc hbs _).trans b2
      go_roundw
      case rel => exact ⟨k + 1, hlt, by go_num, o2, hb2⟩
      case measure => simp [intOf] <;> omega
    · obtain rfl : k = s.size := by omega
      go_wp2
      go_ret
      obtain ⟨B, g, rfl, hl⟩ := ho.sl
      exact ⟨B, _, g, rfl, by rw [List.take_of_length_le (by rw [strInts_len]; exact Nat.le_refl _)] at hl; exact hl, hb⟩

theorem ref_escaped_any (c : Int) (w : World) : Calls Tryd.prog 28 #[.int .i64 c] w (Lists (esc c) w) := by
  have hl := hexL_len c
  have hls : (bytesOf (hexL c)).size ≤ 6 := by rw [bytesOf_size]; exact hl
  have HE := Lib.hid (esc_bytes c)
  have hsz : ((⟨#[92, 117, 123]⟩ : ByteArray) ++ bytesOf (hexL c) ++ (⟨#[125]⟩ : ByteArray)).size ≤ 1000 := by rw [ByteArray.size_append, ByteArray.size_append]; show 3 + _ + 1 ≤ 1000; omega
  have HSZ := Lib.hid hsz
  clear hsz
  go_enter Tryd.func28, Tryd.ntmps28
  go_wp2_with fail
  refine (ref_hex_any c _).mono ?_
  rintro e w' ⟨rfl, rfl⟩
  go_wp2_with fail
  refine (ref_text_any _ HSZ.out _).mono ?_
  rintro e w1 ⟨A, n, d, rfl, l1, b1⟩
  go_wp2_with fail
  go_ret
  exact ⟨A, n, d, rfl, by rw [← HE.out]; exact l1, b1⟩

theorem hu_of {u : Int} (h : unit u = true) : high u = false ∧ low u = false ∧ 0 ≤ u ∧ u ≤ 65535 := by
  simp only [unit, decide_eq_true_eq] at h
  simp only [high, low, decide_eq_false_iff_not]
  omega
/-- The call returns two ints and a Bool, the world as it was. -/
def Three (x y : Int) (r : Bool) (w : World) (e : Ending) (w' : World) : Prop := e = .returned (.tuple #[.int .i64 x, .int .i64 y, .bool r]) ∧ w = w'

set_option maxHeartbeats 1000000 in
theorem beg_pair (A : Option Addr) (n c : Nat) (zs : List Int) (w : World) (h : Sl w A n c 1 (ints zs)) (hn : 1 < n) (hu : high (zs.getD 0 0) = true) (hv : low (zs.getD 1 0) = true) : Calls Tryd.prog 21 #[.slice A n c] w (Three (pairv (zs.getD 0 0) (zs.getD 1 0)) 2 true w) := by
  have hcap := h.cap
  have hmax := h.max
  obtain ⟨b, off, rfl, _, c0⟩ := h.int_at (k := 0) (by omega)
  rw [Nat.add_zero] at c0
  have q0 : ((n : Int) == 0) = false := by rw [beq_eq_false_iff_ne]; omega
  obtain ⟨x, hx⟩ : ∃ x, zs.getD 0 0 = x := ⟨_, rfl⟩
  have HX := Lib.hid hx
  rw [hx] at c0
  rw [hx] at hu
  obtain ⟨_, _, eA, _, c1⟩ := h.int_at (k := 1) hn
  cases eA
  obtain ⟨y, hy⟩ : ∃ y, zs.getD 1 0 = y := ⟨_, rfl⟩
  have HY := Lib.hid hy
  rw [hy] at c1 hv
  have HH := Lib.hid hu
  have HL1 := Lib.hid hv
  have hb1 : 55296 ≤ x ∧ x ≤ 56319 := by simpa [high] using hu
  have hb2 : 56320 ≤ y ∧ y ≤ 57343 := by simpa [low] using hv
  obtain ⟨h1, h2⟩ := hb1
  obtain ⟨h3, h4⟩ := hb2
  have hni : (1 : Int) < (n : Int) := by omega
  clear hx hy hu hv
  go_enter Tryd.func21, Tryd.ntmps21
  go_wp2_with (first
      | (go_at_call 35; refine (ref_high_x HH.out _).mono ?_; rintro e w' ⟨rfl, rfl⟩)
      | (go_at_call 36; refine (ref_low_x HL1.out _).mono ?_; rintro e w' ⟨rfl, rfl⟩))
  go_ret3
  exact ⟨by rw [HX.out, HY.out]; rfl, rfl⟩

set_option maxHeartbeats 1000000 in
theorem beg_unit (A : Option Addr) (n c : Nat) (zs : List Int) (w : World) (h : Sl w A n c 1 (ints zs)) (hn : 0 < n) (hu : unit (zs.getD 0 0) = true) : Calls Tryd.prog 21 #[.slice A n c] w (Three (zs.getD 0 0) 1 true w) := by
  have hcap := h.cap
  have hmax := h.max
  obtain ⟨b, off, rfl, _, c0⟩ := h.int_at (k := 0) (by omega)
  rw [Nat.add_zero] at c0
  have q0 : ((n : Int) == 0) = false := by rw [beq_eq_false_iff_ne]; omega
  obtain ⟨x, hx⟩ : ∃ x, zs.getD 0 0 = x := ⟨_, rfl⟩
  have HX := Lib.hid hx
  rw [hx] at c0
  rw [hx] at hu
  obtain ⟨h1, h2, h3, h4⟩ := hu_of hu
  have HH := Lib.hid h1
  have HL := Lib.hid h2
  clear hx hu h1 h2
  rcases Nat.lt_or_ge 1 n with hn1 | hn1
  · have hni : (1 : Int) < (n : Int) := by omega
    go_enter Tryd.func21, Tryd.ntmps21
    go_wp2_with (first
      | (go_at_call 35; refine (ref_high_x HH.out _).mono ?_; rintro e w' ⟨rfl, rfl⟩)
      | (go_at_call 36; refine (ref_low_x HL.out _).mono ?_; rintro e w' ⟨rfl, rfl⟩))
    go_ret3
    exact ⟨by rw [HX.out]; rfl, rfl⟩
  · have hni : decide ((1 : Int) < (n : Int)) = false := by simp; omega
    go_enter Tryd.func21, Tryd.ntmps21
    go_wp2_with (first
      | (go_at_call 35; refine (ref_high_x HH.out _).mono ?_; rintro e w' ⟨rfl, rfl⟩)
      | (go_at_call 36; refine (ref_low_x HL.out _).mono ?_; rintro e w' ⟨rfl, rfl⟩))
    go_ret3
    exact ⟨by rw [HX.out]; rfl, rfl⟩

set_option maxHeartbeats 1000000 in
theorem beg_bad (A : Option Addr) (n c : Nat) (zs : List Int) (w : World) (h : Sl w A n c 1 (ints zs)) (hn : 0 < n) (hu : ¬ unit (zs.getD 0 0) = true) (hp : ¬ (1 < n ∧ high (zs.getD 0 0) = true ∧ low (zs.getD 1 0) = true)) : Calls Tryd.prog 21 #[.slice A n c] w (Three 0 1 false w) := by
  have hcap := h.cap
  have hmax := h.max
  obtain ⟨b, off, rfl, _, c0⟩ := h.int_at (k := 0) (by omega)
  rw [Nat.add_zero] at c0
  have q0 : ((n : Int) == 0) = false := by rw [beq_eq_false_iff_ne]; omega
  obtain ⟨x, hx⟩ : ∃ x, zs.getD 0 0 = x := ⟨_, rfl⟩
  have HX := Lib.hid hx
  rw [hx] at c0
  rw [hx] at hu hp
  have hcase : x < 0 ∨ (0 ≤ x ∧ 65535 < x) ∨ (0 ≤ x ∧ x ≤ 65535 ∧ low x = true) ∨ (0 ≤ x ∧ x ≤ 65535 ∧ high x = true) := by
    simp only [unit, low, high, decide_eq_true_eq] at hu ⊢
    omega
  have HXX := Lib.hid hx
  clear hx hu
  rcases hcase with h1 | ⟨h1, h2⟩ | ⟨h1, h2, h3⟩ | ⟨h1, h2, h3⟩
  · have HH : Hid (high x = false) := Lib.hid (by simp only [high, decide_eq_false_iff_not]; omega)
    clear hp
    rcases Nat.lt_or_ge 1 n with hn1 | hn1
    · have hni : (1 : Int) < (n : Int) := by omega
      go_enter Tryd.func21, Tryd.ntmps21
      go_wp2_with (first
        | (go_at_call 35; refine (ref_high_x HH.out _).mono ?_; rintro e w' ⟨rfl, rfl⟩))
      go_ret3
      exact ⟨rfl, rfl⟩
    · have hni : decide ((1 : Int) < (n : Int)) = false := by simp; omega
      go_enter Tryd.func21, Tryd.ntmps21
      go_wp2_with (first
        | (go_at_call 35; refine (ref_high_x HH.out _).mono ?_; rintro e w' ⟨rfl, rfl⟩))
      go_ret3
      exact ⟨rfl, rfl⟩
  · have HH : Hid (high x = false) := Lib.hid (by simp only [high, decide_eq_false_iff_not]; omega)
    clear hp
    rcases Nat.lt_or_ge 1 n with hn1 | hn1
    · have hni : (1 : Int) < (n : Int) := by omega
      go_enter Tryd.func21, Tryd.ntmps21
      go_wp2_with (first
        | (go_at_call 35; refine (ref_high_x HH.out _).mono ?_; rintro e w' ⟨rfl, rfl⟩))
      go_ret3
      exact ⟨rfl, rfl⟩
    · have hni : decide ((1 : Int) < (n : Int)) = false := by simp; omega
      go_enter Tryd.func21, Tryd.ntmps21
      go_wp2_with (first
        | (go_at_call 35; refine (ref_high_x HH.out _).mono ?_; rintro e w' ⟨rfl, rfl⟩))
      go_ret3
      exact ⟨rfl, rfl⟩
  · have HH : Hid (high x = false) := Lib.hid (by simp only [low, decide_eq_true_eq] at h3; simp only [high, decide_eq_false_iff_not]; omega)
    have HL := Lib.hid h3
    clear h3
    clear hp
    rcases Nat.lt_or_ge 1 n with hn1 | hn1
    · have hni : (1 : Int) < (n : Int) := by omega
      go_enter Tryd.func21, Tryd.ntmps21
      go_wp2_with (first
        | (go_at_call 35; refine (ref_high_x HH.out _).mono ?_; rintro e w' ⟨rfl, rfl⟩)
        | (go_at_call 36; refine (ref_low_x HL.out _).mono ?_; rintro e w' ⟨rfl, rfl⟩))
      go_ret3
      exact ⟨rfl, rfl⟩
    · have hni : decide ((1 : Int) < (n : Int)) = false := by simp; omega
      go_enter Tryd.func21, Tryd.ntmps21
      go_wp2_with (first
        | (go_at_call 35; refine (ref_high_x HH.out _).mono ?_; rintro e w' ⟨rfl, rfl⟩)
        | (go_at_call 36; refine (ref_low_x HL.out _).mono ?_; rintro e w' ⟨rfl, rfl⟩))
      go_ret3
      exact ⟨rfl, rfl⟩
  · have HH := Lib.hid h3
    rcases Nat.lt_or_ge 1 n with hn1 | hn1
    · obtain ⟨_, _, eA, _, c1⟩ := h.int_at (k := 1) hn1
      cases eA
      obtain ⟨y, hy⟩ : ∃ y, zs.getD 1 0 = y := ⟨_, rfl⟩
      rw [hy] at c1 hp
      have HL1 : Hid (low y = false) := Lib.hid (by
        rcases hl : low y with _ | _
        · rfl
        · exact absurd ⟨hn1, h3, hl⟩ hp)
      clear hp hy h3
      have hni : (1 : Int) < (n : Int) := by omega
      go_enter Tryd.func21, Tryd.ntmps21
      go_wp2_with (first
        | (go_at_call 35; refine (ref_high_x HH.out _).mono ?_; rintro e w' ⟨rfl, rfl⟩)
        | (go_at_call 36; refine (ref_low_x HL1.out _).mono ?_; rintro e w' ⟨rfl, rfl⟩))
      go_ret3
      exact ⟨rfl, rfl⟩
    · clear hp h3
      have hni : decide ((1 : Int) < (n : Int)) = false := by simp; omega
      go_enter Tryd.func21, Tryd.ntmps21
      go_wp2_with (go_at_call 35; refine (ref_high_x HH.out _).mono ?_; rintro e w' ⟨rfl, rfl⟩)
      go_ret3
      exact ⟨rfl, rfl⟩
end Go.Proofs.YtjfhhcaikapfiaaDoor.Ux
