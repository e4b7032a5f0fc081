/-
  The walks of EscapeAgain, EscapePlaces and EscapeAscii.
-/
import Derived.Test.YtkfchcmbpgcncaaDoorEsWalkA
import Derived.Test.YtkfchcmbpgcncaaDoorEsMathD
namespace Go.Proofs.YtkfchcmbpgcncaaDoor.Es
open Go.RowKit
set_option linter.unusedVariables false

theorem codes_allV {zs : List Int} (h : ∀ c ∈ zs, isCode c = true) : allV zs = true := List.all_eq_true.2 h
/-- The second half of EscapeAgain's function: what is known of the notations. -/
theorem again_codes {codes : ByteArray} {t : List Int} {r : Int} (h : pcR codes.data.toList = (t, r)) (hs : codes.size ≤ 400) :
    (r = 0 ∧ codesR t = (codes, 0) ∧ t.length ≤ 400) ∨ (r = 3 ∧ t = []) := by
  rcases pcR_back h with ⟨h0, h1, h2⟩ | h'
  · refine .inl ⟨h0, ?_, ?_⟩
    · rw [codesR_all (codes_allV h2), h1, bytesOf_data]
    · have := codesL_ge t h2
      rw [h1, length_of] at this
      omega
  · exact .inr h'
theorem codesR_nil : codesR [] = (⟨#[]⟩, 0) := by decide

set_option maxRecDepth 100000 in
set_option maxHeartbeats 4000000 in
theorem again_walk (s codes : ByteArray) (w : World) (he : Env w) (hs : s.size ≤ maxLen) (hcs : codes.size ≤ maxLen) : Calls Tryd.prog 7 #[.string s, .string codes] w (Makes (.bool true) w) := by
  unfold maxLen at hs hcs
  by_cases hbig : 400 < s.size ∨ 400 < codes.size
  · have hb : 400 < s.size ∨ (s.size ≤ 400 ∧ 400 < codes.size) := by omega
    clear hbig
    rcases hb with h | ⟨h, h2⟩
    all_goals
      go_enter Tryd.func7, Tryd.ntmps7
      go_wp2_with (go_at_call 12; refine (alive_any _ he).mono ?_; rintro e w1 ⟨rfl, b1⟩)
      go_ret
      exact ⟨rfl, b1⟩
  · have h1 : s.size ≤ 400 := by omega
    have h2 : codes.size ≤ 400 := by omega
    clear hbig
    obtain ⟨⟨t, r⟩, hp⟩ : ∃ p, pcR codes.data.toList = p := ⟨_, rfl⟩
    have HP := Lib.hid hp
    have HA := Lib.hid (again_codes hp h2)
    clear hp
    have tail : ∀ (w2 : World), True := fun _ => trivial
    obtain ⟨⟨a, e0, k⟩, hl⟩ : ∃ o, litR s.data.toList = o := ⟨_, rfl⟩
    have ho := litR_out s.data.toList
    have htl := litR_tlen s.data.toList
    rw [hl] at ho htl
    rw [length_of] at htl
    simp only at ho htl
    have HL := Lib.hid hl
    clear hl tail
    obtain ⟨hcode, ho⟩ := ho
    have hA : e0 = 0 ∧ k = 0 ∨ e0 = 3 ∧ a = [] := by
      rcases ho with h | h
      · exact .inl h
      · exact .inr ⟨h.1, h.2.1⟩
    have HAV := Lib.hid (codes_allV hcode)
    clear ho hcode
    rcases hA with ⟨rfl, rfl⟩ | ⟨rfl, rfl⟩
    · have H1 := Lib.hid (textR_all HAV.out)
      have HL2 : Hid (litR (bytesOf (textL a)).data.toList = ⟨a, 0, 0⟩) := Lib.hid (by rw [bytesOf_list]; exact litR_textL (allV_codes HAV.out))
      have s1 : (bytesOf (textL a)).size ≤ 9000 := by rw [bytesOf_size]; have := textL_len a; omega
      obtain ⟨q, hq⟩ : ∃ q, bytesOf (textL a) = q := ⟨_, rfl⟩
      rw [hq] at H1 HL2 s1
      clear hq
      go_enter Tryd.func7, Tryd.ntmps7
      go_wp2_with fail
      refine (lit_x HL.out _ (by omega)).mono ?_
      rintro e w1 ⟨A1, n1, c1, rfl, l1, b1⟩
      have k1 := Bk.fresh b1 #[.int .i64 0, .int .i64 0] 33
      have m1 := Sl.alloc l1 (.cells #[.int .i64 0, .int .i64 0] 33)
      have he1 := (he.next b1).alloc (.cells #[.int .i64 0, .int .i64 0] 33)
      have hn1 : n1 ≤ 400 := by have := l1.count; omega
      clear b1 l1
      go_wp2_with fail
      refine (text_x H1.out _ he1.tab m1 (by omega)).mono ?_
      rintro e w2 ⟨rfl, b2⟩
      have k2 := k1.step b2
      have m2 := m1.keep b2
      have he2 := he1.next b2
      clear k1 m1 b2
      go_wp2_with fail
      refine (lit_x HL2.out _ (by omega)).mono ?_
      rintro e w3 ⟨A3, n3, c3, rfl, l3, b3⟩
      have k3 := k2.step b3
      have m3 := (m2.keep b3).alloc (.cells #[.int .i64 0, .int .i64 0] 33)
      have j3 := Bk.fresh k3.below #[.int .i64 0, .int .i64 0] 33
      have q3 := Sl.alloc l3 (.cells #[.int .i64 0, .int .i64 0] 33)
      have he3 := (he2.next b3).alloc (.cells #[.int .i64 0, .int .i64 0] 33)
      clear k2 m2 b3 l3 k3
      obtain ⟨x0, x1⟩ := j3.two
      go_wp2_with fail
      refine (ref_equal_x (b := true) (by simp) m3 q3).mono ?_
      rintro e w4 ⟨rfl, d4⟩
      have t4 := (j3.drawn d4).below
      have he4 := he3.next (d4.below _)
      clear x0 x1 j3
      go_wp2_with fail
      refine (pcodes_x HP.out _ he4 (by omega)).mono ?_
      rintro e w5 ⟨A5, n5, c5, rfl, l5, b5⟩
      have t5 := Below.then t4 b5
      have he5 := he4.next b5
      rcases HA.out with ⟨rfl, h6, h7⟩ | ⟨rfl, rfl⟩
      · have H6 := Lib.hid h6
        have hn5 : n5 ≤ 400 := by have : n5 = t.length := l5.count; omega
        clear h6 h7
        go_wp2_with fail
        refine (codes_x H6.out _ he5.tab l5 (by omega)).mono ?_
        rintro e w6 ⟨rfl, b6⟩
        go_wp2_with (go_at_call 12; refine (alive_any _ (he5.next b6)).mono ?_; rintro e w7 ⟨rfl, b7⟩)
        go_ret
        exact ⟨rfl, Below.then (Below.then t5 b6) b7⟩
      · have hn5 : n5 = 0 := by have := l5.count; simpa using this
        subst hn5
        go_wp2_with fail
        refine (codes_x codesR_nil _ he5.tab l5 (by omega)).mono ?_
        rintro e w6 ⟨rfl, b6⟩
        go_wp2_with (go_at_call 12; refine (alive_any _ (he5.next b6)).mono ?_; rintro e w7 ⟨rfl, b7⟩)
        go_ret
        exact ⟨rfl, Below.then (Below.then t5 b6) b7⟩
    · go_enter Tryd.func7, Tryd.ntmps7
      go_wp2_with fail
      refine (lit_x HL.out _ (by omega)).mono ?_
      rintro e w1 ⟨A1, n1, c1, rfl, l1, b1⟩
      have k1 := Bk.fresh b1 #[.int .i64 3, .int .i64 (k : Int)] 33
      have he1 := (he.next b1).alloc (.cells #[.int .i64 3, .int .i64 (k : Int)] 33)
      have t4 := k1.below
      clear b1 l1 k1
      go_wp2_with fail
      refine (pcodes_x HP.out _ he1 (by omega)).mono ?_
      rintro e w5 ⟨A5, n5, c5, rfl, l5, b5⟩
      have t5 := Below.then t4 b5
      have he5 := he1.next b5
      rcases HA.out with ⟨rfl, h6, h7⟩ | ⟨rfl, rfl⟩
      · have H6 := Lib.hid h6
        have hn5 : n5 ≤ 400 := by have : n5 = t.length := l5.count; omega
        clear h6 h7
        go_wp2_with fail
        refine (codes_x H6.out _ he5.tab l5 (by omega)).mono ?_
        rintro e w6 ⟨rfl, b6⟩
        go_wp2_with (go_at_call 12; refine (alive_any _ (he5.next b6)).mono ?_; rintro e w7 ⟨rfl, b7⟩)
        go_ret
        exact ⟨rfl, Below.then (Below.then t5 b6) b7⟩
      · have hn5 : n5 = 0 := by have := l5.count; simpa using this
        subst hn5
        go_wp2_with fail
        refine (codes_x codesR_nil _ he5.tab l5 (by omega)).mono ?_
        rintro e w6 ⟨rfl, b6⟩
        go_wp2_with (go_at_call 12; refine (alive_any _ (he5.next b6)).mono ?_; rintro e w7 ⟨rfl, b7⟩)
        go_ret
        exact ⟨rfl, Below.then (Below.then t5 b6) b7⟩
end Go.Proofs.YtkfchcmbpgcncaaDoor.Es
