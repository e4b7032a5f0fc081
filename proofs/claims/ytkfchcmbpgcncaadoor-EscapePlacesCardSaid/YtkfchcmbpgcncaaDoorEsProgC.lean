/-
  The contract of package escape's readEscape, for every string that is not empty.
-/
import Derived.Test.YtkfchcmbpgcncaaDoorEsProgB
namespace Go.Proofs.YtkfchcmbpgcncaaDoor.Es
open Go.RowKit
set_option linter.unusedVariables false

theorem drop_bytes (s : ByteArray) (k : Nat) : (s.extract k s.size).data.toList = s.data.toList.drop k := by
  simp only [ByteArray.data_extract, Array.toList_extract, List.extract]
  exact List.take_of_length_le (by simp)
theorem escE_wrong {l : List UInt8} {c : Int} {d : Nat} (h : isCode c = false) : escE l c d = (0, 0, 2) := by unfold escE; rw [if_pos h]
theorem escE_open {l : List UInt8} {c : Int} {d : Nat} (h : isCode c = true) (h2 : 3 + d = l.length) : escE l c d = (0, 0, 1) := by unfold escE; rw [if_neg (by rw [h]; decide), if_pos h2]
theorem escE_bad {l : List UInt8} {c : Int} {d : Nat} (h : isCode c = true) (h2 : 3 + d ≠ l.length) (h3 : d = 0 ∨ l.getD (3 + d) 0 ≠ 125) : escE l c d = (0, 0, 2) := by
  unfold escE; rw [if_neg (by rw [h]; decide), if_neg h2, if_pos h3]
theorem escE_good {l : List UInt8} {c : Int} {d : Nat} (h : isCode c = true) (h2 : 3 + d ≠ l.length) (h3 : ¬ (d = 0 ∨ l.getD (3 + d) 0 ≠ 125)) : escE l c d = (c, 3 + d + 1, 0) := by
  unfold escE; rw [if_neg (by rw [h]; decide), if_neg h2, if_neg h3]
theorem prefix_any (s p : ByteArray) (b : Bool) (h : p.data.toList.isPrefixOf s.data.toList = b) (w : World) : Calls Tryd.prog 45 #[.string s, .string p] w (Gives (.bool b) w) := by
  refine (Tryd.strings_HasPrefix s p w).mono ?_
  rintro e w' ⟨rfl, rfl⟩
  exact ⟨by rw [← h]; rfl, rfl⟩
theorem digits_x {s : ByteArray} {k : Nat} {c : Int} {d : Nat} (h : rdig 6 (s.data.toList.drop k) 0 0 = (c, d)) (hs : s.size ≤ maxLen) (w : World) :
    Calls Tryd.prog 46 #[.string (s.extract k s.size)] w (Gives (.tuple #[.int .i64 c, .int .i64 (d : Int)]) w) := by
  have := digits_any (s.extract k s.size) (by simp; omega) w
  rw [drop_bytes, h] at this
  exact this
def codeB : ByteArray := ⟨#[92, 117, 123]⟩

set_option maxHeartbeats 1000000 in
set_option maxRecDepth 100000 in
theorem escape_any (s : ByteArray) (hs : s.size ≤ maxLen) (w : World) : Calls Tryd.prog 35 #[.string s] w (Gives (escV (escR s.data.toList)) w) := by
  have hmx := hs
  unfold maxLen at hs
  by_cases h2 : 2 ≤ s.size ∧ ∃ h : 1 < s.size, ((s[1]).toNat : Int) = 34 ∨ ((s[1]).toNat : Int) = 92
  · obtain ⟨h2, h1, hb⟩ := h2
    have H := Lib.hid (escR_two h2 hb)
    have hlt := (s[1]).toNat_lt
    rcases hb with hb | hb
    · have e1 : (((s[1]).toNat : Int) == 34) = true := by simp [hb]
      clear hb
      go_enter Tryd.func35, Tryd.ntmps35
      go_wp2
      go_ret3
      exact gives_esc H.out (by omega)
    · have e1 : (((s[1]).toNat : Int) == 34) = false := by rw [hb]; decide
      have e2 : (((s[1]).toNat : Int) == 92) = true := by simp [hb]
      clear hb
      go_enter Tryd.func35, Tryd.ntmps35
      go_wp2
      go_ret3
      exact gives_esc H.out (by omega)
  · have hn := not_two (s := s) (by
      rcases Nat.lt_or_ge s.size 2 with h | h
      · exact .inl h
      · exact .inr ⟨h, fun e => h2 ⟨h, h, .inl e⟩, fun e => h2 ⟨h, h, .inr e⟩⟩)
    have HN := Lib.hid hn
    rcases Nat.lt_or_ge s.size 3 with h3 | h3
    · have hE := escR_short HN.out h3
      obtain ⟨bb, hbb⟩ : ∃ bb, s.data.toList.isPrefixOf [92, 117, 123] = bb := ⟨_, rfl⟩
      rw [hbb] at hE
      have HE := Lib.hid hE
      have HB := Lib.hid hbb
      clear hE hbb hn
      rcases Nat.lt_or_ge s.size 2 with h2' | h2'
      · clear h2
        cases bb
        all_goals
          go_enter Tryd.func35, Tryd.ntmps35
          go_wp2_with (first | (go_at_call 45; refine (prefix_any _ _ _ HB.out _).mono ?_; rintro e w' ⟨rfl, rfl⟩) | (go_at_call 44; refine (state_any _ _).mono ?_; rintro e w' ⟨rfl, rfl⟩))
          go_ret3
          exact gives_esc HE.out (by omega)
      · have e1 : (((s[1]).toNat : Int) == 34) = false := by simp; exact fun e => h2 ⟨h2', h2', .inl e⟩
        have e2 : (((s[1]).toNat : Int) == 92) = false := by simp; exact fun e => h2 ⟨h2', h2', .inr e⟩
        clear h2
        cases bb
        all_goals
          go_enter Tryd.func35, Tryd.ntmps35
          go_wp2_with (first | (go_at_call 45; refine (prefix_any _ _ _ HB.out _).mono ?_; rintro e w' ⟨rfl, rfl⟩) | (go_at_call 44; refine (state_any _ _).mono ?_; rintro e w' ⟨rfl, rfl⟩))
          go_ret3
          exact gives_esc HE.out (by omega)
    · have e1 : (((s[1]).toNat : Int) == 34) = false := by simp; exact fun e => h2 ⟨by omega, by omega, .inl e⟩
      have e2 : (((s[1]).toNat : Int) == 92) = false := by simp; exact fun e => h2 ⟨by omega, by omega, .inr e⟩
      clear h2 hn
      rcases hp : [92, 117, 123].isPrefixOf s.data.toList with _ | _
      · have HE := Lib.hid (escR_other HN.out h3 hp)
        have HP := Lib.hid hp
        clear hp
        go_enter Tryd.func35, Tryd.ntmps35
        go_wp2_with (go_at_call 45; refine (prefix_any _ _ false HP.out _).mono ?_; rintro e w' ⟨rfl, rfl⟩)
        go_ret3
        exact gives_esc HE.out (by omega)
      · obtain ⟨c, hc⟩ : ∃ c, (rdig 6 (s.data.toList.drop 3) 0 0).1 = c := ⟨_, rfl⟩
        obtain ⟨d, hd⟩ : ∃ d, (rdig 6 (s.data.toList.drop 3) 0 0).2 = d := ⟨_, rfl⟩
        have hr : rdig 6 (s.data.toList.drop 3) 0 0 = (c, d) := by rw [← hc, ← hd]
        have hn := rdig_n 6 (s.data.toList.drop 3) 0 0
        rw [hd] at hn
        have hd6 : d ≤ 6 := by omega
        have hdl : 3 + d ≤ s.size := by have := hn.2.2; rw [List.length_drop, length_of] at this; omega
        have HR := Lib.hid hr
        have HP := Lib.hid hp
        have HE := Lib.hid (escR_code HN.out h3 hp hr)
        clear hp hr hn hc hd
        have hlen := Lib.hid (length_of s)
        rcases hv : isValid c with _ | _
        · have HV := Lib.hid hv
          have HF : Hid (escR s.data.toList = (0, 0, 2)) := Lib.hid (by rw [HE.out, escE_wrong hv])
          clear hv
          go_enter Tryd.func35, Tryd.ntmps35
          go_wp2_with (first | (go_at_call 45; refine (prefix_any _ _ true HP.out _).mono ?_; rintro e w' ⟨rfl, rfl⟩) | (go_at_call 46; refine (digits_x HR.out hmx _).mono ?_; rintro e w' ⟨rfl, rfl⟩) | (go_at_call 37; refine (valid_x HV.out _).mono ?_; rintro e w' ⟨rfl, rfl⟩))
          go_ret3
          exact gives_esc HF.out (by omega)
        · have HV := Lib.hid hv
          have hv' : isCode c = true := hv
          rcases Nat.lt_or_ge (3 + d) s.size with hl | hl
          · by_cases hz : d = 0
            · subst hz
              have HF : Hid (escR s.data.toList = (0, 0, 2)) := Lib.hid (by rw [HE.out, escE_bad hv' (by rw [length_of]; omega) (.inl rfl)])
              clear hv hv'
              go_enter Tryd.func35, Tryd.ntmps35
              go_wp2_with (first | (go_at_call 45; refine (prefix_any _ _ true HP.out _).mono ?_; rintro e w' ⟨rfl, rfl⟩) | (go_at_call 46; refine (digits_x HR.out hmx _).mono ?_; rintro e w' ⟨rfl, rfl⟩) | (go_at_call 37; refine (valid_x HV.out _).mono ?_; rintro e w' ⟨rfl, rfl⟩))
              go_ret3
              exact gives_esc HF.out (by omega)
            · by_cases hb : ((s[3 + d]).toNat : Int) = 125
              · have HF : Hid (escR s.data.toList = (c, 3 + d + 1, 0)) := Lib.hid (by
                  rw [HE.out, escE_good hv' (by rw [length_of]; omega)]
                  rintro (h | h)
                  · exact hz h
                  · rw [getD_at hl] at h; exact h (u8_is hb (by decide)))
                have e3 : (((s[3 + d]).toNat : Int) == 125) = true := by simp [hb]
                have e4 : (((s[3 + d]).toNat : Int) != 125) = false := by simp [hb]
                clear hv hv' hb
                go_enter Tryd.func35, Tryd.ntmps35
                go_wp2_with (first | (go_at_call 45; refine (prefix_any _ _ true HP.out _).mono ?_; rintro e w' ⟨rfl, rfl⟩) | (go_at_call 46; refine (digits_x HR.out hmx _).mono ?_; rintro e w' ⟨rfl, rfl⟩) | (go_at_call 37; refine (valid_x HV.out _).mono ?_; rintro e w' ⟨rfl, rfl⟩))
                go_ret3
                exact gives_esc HF.out (by omega)
              · have HF : Hid (escR s.data.toList = (0, 0, 2)) := Lib.hid (by
                  rw [HE.out, escE_bad hv' (by rw [length_of]; omega) (.inr fun h => ?_)]
                  rw [getD_at hl] at h; exact hb (by rw [h]; rfl))
                have e3 : (((s[3 + d]).toNat : Int) == 125) = false := by simp [hb]
                have e4 : (((s[3 + d]).toNat : Int) != 125) = true := by simp [hb]
                clear hv hv' hb
                go_enter Tryd.func35, Tryd.ntmps35
                go_wp2_with (first | (go_at_call 45; refine (prefix_any _ _ true HP.out _).mono ?_; rintro e w' ⟨rfl, rfl⟩) | (go_at_call 46; refine (digits_x HR.out hmx _).mono ?_; rintro e w' ⟨rfl, rfl⟩) | (go_at_call 37; refine (valid_x HV.out _).mono ?_; rintro e w' ⟨rfl, rfl⟩))
                go_ret3
                exact gives_esc HF.out (by omega)
          · have hl' : 3 + d = s.size := by omega
            have HF : Hid (escR s.data.toList = (0, 0, 1)) := Lib.hid (by rw [HE.out, escE_open hv' (by rw [length_of]; omega)])
            have e3 : ((3 + (d : Int)) == (s.size : Int)) = true := by simp; omega
            clear hv hv' hl' hl
            go_enter Tryd.func35, Tryd.ntmps35
            go_wp2_with (first | (go_at_call 45; refine (prefix_any _ _ true HP.out _).mono ?_; rintro e w' ⟨rfl, rfl⟩) | (go_at_call 46; refine (digits_x HR.out hmx _).mono ?_; rintro e w' ⟨rfl, rfl⟩) | (go_at_call 37; refine (valid_x HV.out _).mono ?_; rintro e w' ⟨rfl, rfl⟩))
            go_ret3
            exact gives_esc HF.out (by omega)
end Go.Proofs.YtkfchcmbpgcncaaDoor.Es
