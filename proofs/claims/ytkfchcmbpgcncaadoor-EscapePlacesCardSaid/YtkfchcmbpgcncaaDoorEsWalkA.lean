/-
  The walks of EscapeTexts, EscapeCodes, EscapeReads and EscapeBack.
-/
import Derived.Test.YtkfchcmbpgcncaaDoorEsAwake
namespace Go.Proofs.YtkfchcmbpgcncaaDoor.Es
open Go.RowKit
set_option linter.unusedVariables false

theorem ref_text_x {A : Option Addr} {n c : Nat} {zs : List Int} {s : ByteArray} {r : Int} (h : textR zs = (s, r)) (w : World) (hl : Sl w A n c 1 (ints zs)) (hn : n ≤ 1000) :
    Calls Tryd.prog 14 #[.slice A n c] w fun e w' => e = .returned (.tuple #[.string s, .int .i64 r]) ∧ Below w.heap.size w w' := by
  have := ref_text_any A n c zs w hl hn
  rw [h] at this
  exact this
theorem ref_codes_x {A : Option Addr} {n c : Nat} {zs : List Int} {s : ByteArray} {r : Int} (h : codesR zs = (s, r)) (w : World) (hl : Sl w A n c 1 (ints zs)) (hn : n ≤ 1000) :
    Calls Tryd.prog 16 #[.slice A n c] w fun e w' => e = .returned (.tuple #[.string s, .int .i64 r]) ∧ Below w.heap.size w w' := by
  have := ref_codes_any A n c zs w hl hn
  rw [h] at this
  exact this
theorem ref_pcodes_x {s : ByteArray} {t : List Int} {r : Int} (h : pcR s.data.toList = (t, r)) (w : World) (hs : s.size ≤ 50000) : Calls Tryd.prog 18 #[.string s] w (ListErr (t, r) w) := by
  have := ref_pcodes_any s hs w
  rw [h] at this
  exact this

set_option maxRecDepth 100000 in
set_option maxHeartbeats 2000000 in
theorem texts_walk (A : Option Addr) (n c : Nat) (zs : List Int) (w : World) (he : Env w) (hl : Sl w A n c 1 (ints zs)) : Calls Tryd.prog 3 #[.slice A n c] w (Makes (.bool true) w) := by
  have hcap := hl.cap
  have hmax := hl.max
  rcases Nat.lt_or_ge 40 n with h | h
  · go_enter Tryd.func3, Tryd.ntmps3
    go_wp2_with (go_at_call 12; refine (alive_any _ he).mono ?_; rintro e w1 ⟨rfl, b1⟩)
    go_ret
    exact ⟨rfl, b1⟩
  · obtain ⟨⟨s, r⟩, hr⟩ : ∃ p, textR zs = p := ⟨_, rfl⟩
    have HR := Lib.hid hr
    have hrr : (r == r) = true := by simp
    clear hr
    go_enter Tryd.func3, Tryd.ntmps3
    go_wp2_with fail
    refine (text_x HR.out _ he.tab hl (by omega)).mono ?_
    rintro e w1 ⟨rfl, b1⟩
    go_wp2_with fail
    refine (ref_text_x HR.out _ (hl.keep b1) (by omega)).mono ?_
    rintro e w2 ⟨rfl, b2⟩
    have he2 := (he.next b1).next b2
    go_wp2_with (go_at_call 12; refine (alive_any _ he2).mono ?_; rintro e w3 ⟨rfl, b3⟩)
    go_ret
    exact ⟨rfl, Below.then (Below.then b1 b2) b3⟩
set_option maxRecDepth 100000 in
set_option maxHeartbeats 2000000 in
theorem codes_walk (A : Option Addr) (n c : Nat) (zs : List Int) (w : World) (he : Env w) (hl : Sl w A n c 1 (ints zs)) : Calls Tryd.prog 4 #[.slice A n c] w (Makes (.bool true) w) := by
  have hcap := hl.cap
  have hmax := hl.max
  rcases Nat.lt_or_ge 40 n with h | h
  · go_enter Tryd.func4, Tryd.ntmps4
    go_wp2_with (go_at_call 12; refine (alive_any _ he).mono ?_; rintro e w1 ⟨rfl, b1⟩)
    go_ret
    exact ⟨rfl, b1⟩
  · obtain ⟨⟨s, r⟩, hr⟩ : ∃ p, codesR zs = p := ⟨_, rfl⟩
    have HR := Lib.hid hr
    have hrr : (r == r) = true := by simp
    clear hr
    go_enter Tryd.func4, Tryd.ntmps4
    go_wp2_with fail
    refine (codes_x HR.out _ he.tab hl (by omega)).mono ?_
    rintro e w1 ⟨rfl, b1⟩
    go_wp2_with fail
    refine (ref_codes_x HR.out _ (hl.keep b1) (by omega)).mono ?_
    rintro e w2 ⟨rfl, b2⟩
    have he2 := (he.next b1).next b2
    go_wp2_with (go_at_call 12; refine (alive_any _ he2).mono ?_; rintro e w3 ⟨rfl, b3⟩)
    go_ret
    exact ⟨rfl, Below.then (Below.then b1 b2) b3⟩
set_option maxRecDepth 100000 in
set_option maxHeartbeats 2000000 in
theorem reads_walk (s : ByteArray) (w : World) (he : Env w) (hs : s.size ≤ maxLen) : Calls Tryd.prog 5 #[.string s] w (Makes (.bool true) w) := by
  unfold maxLen at hs
  rcases Nat.lt_or_ge 400 s.size with h | h
  · go_enter Tryd.func5, Tryd.ntmps5
    go_wp2_with (go_at_call 12; refine (alive_any _ he).mono ?_; rintro e w1 ⟨rfl, b1⟩)
    go_ret
    exact ⟨rfl, b1⟩
  · obtain ⟨⟨t, r⟩, hr⟩ : ∃ p, pcR s.data.toList = p := ⟨_, rfl⟩
    have HR := Lib.hid hr
    have hrr : (r == r) = true := by simp
    clear hr
    go_enter Tryd.func5, Tryd.ntmps5
    go_wp2_with fail
    refine (pcodes_x HR.out _ he (by omega)).mono ?_
    rintro e w1 ⟨A1, n1, c1, rfl, l1, b1⟩
    go_wp2_with fail
    refine (ref_pcodes_x HR.out _ (by omega)).mono ?_
    rintro e w2 ⟨A2, n2, c2, rfl, l2, b2⟩
    have he2 := (he.next b1).next b2
    have m1 := l1.keep b2
    go_wp2_with fail
    refine (ref_equal_x (b := true) (by simp) m1 l2).mono ?_
    rintro e w3 ⟨rfl, d3⟩
    have he3 := he2.next (d3.below _)
    go_wp2_with (go_at_call 12; refine (alive_any _ he3).mono ?_; rintro e w4 ⟨rfl, b4⟩)
    go_ret
    exact ⟨rfl, Below.then (Below.then (Below.then b1 b2) (d3.below _)) b4⟩
theorem allV_codes {zs : List Int} (h : allV zs = true) : ∀ c ∈ zs, isCode c = true := fun c hc => List.all_eq_true.1 h c hc
theorem textR_bad {zs : List Int} (h : allV zs = false) : textR zs = (⟨#[]⟩, 1) := by unfold textR; rw [h]; rfl
theorem codesR_bad {zs : List Int} (h : allV zs = false) : codesR zs = (⟨#[]⟩, 1) := by unfold codesR; rw [h]; rfl
theorem flat_len : ∀ zs : List Int, (zs.flatMap itemL).length ≤ 20 * zs.length
  | [] => by simp
  | x :: r => by
    have := itemL_len x
    have := flat_len r
    simp only [List.flatMap_cons, List.length_append, List.length_cons]
    omega
theorem textL_len (zs : List Int) : (textL zs).length ≤ 2 + 20 * zs.length := by
  have := flat_len zs
  simp only [textL, List.length_cons, List.length_append, List.length_nil]
  omega
set_option maxRecDepth 100000 in
set_option maxHeartbeats 2000000 in
theorem back_walk (A : Option Addr) (n c : Nat) (zs : List Int) (w : World) (he : Env w) (hl : Sl w A n c 1 (ints zs)) : Calls Tryd.prog 6 #[.slice A n c] w (Makes (.bool true) w) := by
  have hcap := hl.cap
  have hmax := hl.max
  have hcount := hl.count
  rcases Nat.lt_or_ge 40 n with h | h
  · go_enter Tryd.func6, Tryd.ntmps6
    go_wp2_with (go_at_call 12; refine (alive_any _ he).mono ?_; rintro e w1 ⟨rfl, b1⟩)
    go_ret
    exact ⟨rfl, b1⟩
  · rcases hv : allV zs with _ | _
    · have H1 := Lib.hid (textR_bad hv)
      have H2 := Lib.hid (codesR_bad hv)
      clear hv hcount
      go_enter Tryd.func6, Tryd.ntmps6
      go_wp2_with fail
      refine (text_x H1.out _ he.tab hl (by omega)).mono ?_
      rintro e w1 ⟨rfl, b1⟩
      go_wp2_with fail
      refine (codes_x H2.out _ (he.next b1).tab (hl.keep b1) (by omega)).mono ?_
      rintro e w2 ⟨rfl, b2⟩
      have he2 := (he.next b1).next b2
      go_wp2_with (go_at_call 12; refine (alive_any _ he2).mono ?_; rintro e w3 ⟨rfl, b3⟩)
      go_ret
      exact ⟨rfl, Below.then (Below.then b1 b2) b3⟩
    · have H1 := Lib.hid (textR_all hv)
      have H2 := Lib.hid (codesR_all hv)
      have HL : Hid (litR (bytesOf (textL zs)).data.toList = ⟨zs, 0, 0⟩) := Lib.hid (by rw [bytesOf_list]; exact litR_textL (allV_codes hv))
      have HC : Hid (pcR (bytesOf (codesL zs)).data.toList = (zs, 0)) := Lib.hid (by rw [bytesOf_list]; exact pcR_codes (allV_codes hv))
      have s1 : (bytesOf (textL zs)).size ≤ 1000 := by rw [bytesOf_size]; have := textL_len zs; omega
      have s2 : (bytesOf (codesL zs)).size ≤ 1000 := by rw [bytesOf_size]; have := codesL_len zs; omega
      obtain ⟨a, ha⟩ : ∃ a, bytesOf (textL zs) = a := ⟨_, rfl⟩
      obtain ⟨b, hb⟩ : ∃ b, bytesOf (codesL zs) = b := ⟨_, rfl⟩
      rw [ha] at H1 HL s1
      rw [hb] at H2 HC s2
      clear hv ha hb hcount
      have f0 := fault_same 0 0
      go_enter Tryd.func6, Tryd.ntmps6
      go_wp2_with fail
      refine (text_x H1.out _ he.tab hl (by omega)).mono ?_
      rintro e w1 ⟨rfl, b1⟩
      have l1 := hl.keep b1
      go_wp2_with fail
      refine (codes_x H2.out _ (he.next b1).tab l1 (by omega)).mono ?_
      rintro e w2 ⟨rfl, b2⟩
      have he2 := (he.next b1).next b2
      have l2 := l1.keep b2
      have t2 := Below.then b1 b2
      clear b1 b2 l1
      go_wp2_with fail
      refine (lit_x HL.out _ (by omega)).mono ?_
      rintro e w3 ⟨A3, n3, c3, rfl, m3, b3⟩
      have he3 := he2.next b3
      have l3 := l2.keep b3
      have t3 := Below.then t2 b3
      clear b3 l2 t2
      go_wp2_with fail
      refine (pcodes_x HC.out _ (he3.alloc _) (by omega)).mono ?_
      rintro e w4 ⟨A4, n4, c4, rfl, m4, b4⟩
      have k4 := (Bk.fresh t3 #[.int .i64 0, .int .i64 0] 33).step b4
      have he4 := (he3.alloc _).next b4
      have l4 := (Sl.alloc l3 _).keep b4
      have m34 := (Sl.alloc m3 _).keep b4
      clear b4 l3 m3 t3
      obtain ⟨x0, x1⟩ := k4.two
      go_wp2_with fail
      refine (ref_equal_x (b := true) (by simp) m34 l4).mono ?_
      rintro e w5 ⟨rfl, d5⟩
      have k5 := k4.drawn d5
      have he5 := he4.next (d5.below _)
      have l5 := l4.keep (d5.below _)
      have m5 := m4.keep (d5.below _)
      clear x0 x1 k4
      obtain ⟨x0, x1⟩ := k5.two
      go_wp2_with fail
      refine (ref_equal_x (b := true) (by simp) m5 l5).mono ?_
      rintro e w6 ⟨rfl, d6⟩
      have k6 := k5.drawn d6
      have he6 := he5.next (d6.below _)
      go_wp2_with (go_at_call 12; refine (alive_any _ he6).mono ?_; rintro e w7 ⟨rfl, b7⟩)
      go_ret
      exact ⟨rfl, (k6.step b7).below⟩
end Go.Proofs.YtkfchcmbpgcncaaDoor.Es
