/-
  The contracts of the reference's ParseCodes, Codes, digits and Text.
-/
import Derived.Test.YtkfchcmbpgcncaaDoorEsRef
namespace Go.Proofs.YtkfchcmbpgcncaaDoor.Es
open Go.RowKit
set_option linter.unusedVariables false

theorem ref_parse_x {p : List UInt8} {x y : Int} (h : parseR p = (x, y)) (hp : p.length ≤ 100000) (w : World) : Calls Tryd.prog 32 #[.string (bytesOf p)] w (Gives (.tuple #[.int .i64 x, .int .i64 y]) w) := by
  have := ref_parse_any (bytesOf p) (by rw [bytesOf_size]; unfold maxLen; omega) w
  rw [bytesOf_list, h] at this
  exact this
set_option maxRecDepth 100000 in
set_option maxHeartbeats 2000000 in
theorem ref_pcodes_any (s : ByteArray) (hs : s.size ≤ 50000) (w : World) : Calls Tryd.prog 18 #[.string s] w (ListErr (pcR s.data.toList) w) := by
  have hmem := Lib.hid (cutL_mem_len 32 s.data.toList)
  have hcl := cutL_length 32 s.data.toList
  have hcc := List.count_le_length (a := (32 : UInt8)) (l := s.data.toList)
  rw [length_of] at hcc
  obtain ⟨ps, hps⟩ : ∃ ps, cutL 32 s.data.toList = ps := ⟨_, rfl⟩
  rw [hps] at hcl
  have HP := Lib.hid hps
  rcases Nat.eq_zero_or_pos s.size with h0 | h0
  · have e1 := str_none h0
    have e3 : s.toList = [] := by simpa using e1
    have HE : Hid (pcR s.data.toList = ([], 0)) := Lib.hid (by
      have : s.data.toList = [] := List.eq_nil_of_length_eq_zero (by rw [length_of]; exact h0)
      rw [this]; rfl)
    go_enter Tryd.func18, Tryd.ntmps18
    go_wp2_with (go_at_call 31; refine (ref_cut_any s 32 (by omega) _).mono ?_; rintro e w1 ⟨A, m, c, rfl, hl, hb1⟩)
    clear hps
    rw [HP.out] at hl
    have hm := Lib.hid hl.scount
    have hm2 : m ≤ 50001 := by rw [hm.out]; omega
    have hm1 : 0 < m := by rw [hm.out]; omega
    clear hcl
    go_loopw [4, 6] (fun v i wr => i = .int .i64 0 ∧ v = .slice none 0 0 ∧ wr = w1) (fun _ i _ => 1)
    case atStart => exact ⟨rfl, rfl, rfl⟩
    case round =>
      obtain ⟨rfl, rfl, rfl⟩ := hrel
      go_wp2
      go_ret2
      rw [HE.out]
      exact ⟨none, 0, 0, rfl, Sl.nil _ _, hb1⟩
  · have e1 := str_some h0
    have e2 : s.toList ≠ [] := by
      intro e
      rw [e] at e1
      simp at e1
    have HE := Lib.hid (pcR_some (list_ne h0))
    go_enter Tryd.func18, Tryd.ntmps18
    go_wp2_with (go_at_call 31; refine (ref_cut_any s 32 (by omega) _).mono ?_; rintro e w1 ⟨A, m, c, rfl, hl, hb1⟩)
    clear hps
    rw [HP.out] at hl
    have hm := Lib.hid hl.scount
    have hcap := hl.cap
    have hmax := hl.max
    have hb1s := hb1.size
    have hm2 : m ≤ 50001 := by rw [hm.out]; omega
    clear hcl
    go_loopw [4, 6] (fun v i wr => ∃ (k : Nat) (acc : List Int), k ≤ m ∧ i = .int .i64 k ∧ Own wr w1.heap.size 3 1 v k (ints acc) ∧ Below w1.heap.size w1 wr ∧ Hid (pcGo ps [] = pcGo (ps.drop k) acc)) (fun _ i _ => m - (intOf i).toNat)
    case atStart => exact ⟨0, [], Nat.zero_le _, rfl, Own.nil _ _ _ _, Below.refl _ _, Lib.hid rfl⟩
    case round =>
      obtain ⟨k, acc, hk, rfl, ho, hb, HG⟩ := hrel
      have hbs := hb.size
      by_cases hlt : k < m
      · obtain ⟨b, off, rfl, _, hcell⟩ := (hl.keep hb).str_at hlt
        have hkp : k < ps.length := by rw [← hm.out]; exact hlt
        obtain ⟨p, hp⟩ : ∃ p, ps.getD k [] = p := ⟨_, rfl⟩
        rw [hp] at hcell
        have hpl : p.length ≤ 50000 := by
          have := hmem.out p (by rw [← hp, HP.out]; exact getD_mem hkp)
          rw [length_of] at this
          omega
        have hpl2 : (bytesOf p).size ≤ 50000 := by rw [bytesOf_size]; exact hpl
        obtain ⟨⟨x, y⟩, hxy⟩ : ∃ q, parseR p = q := ⟨_, rfl⟩
        have hy := parseR_err p
        rw [hxy] at hy
        rcases hy with hy | hy <;> simp only at hy <;> subst hy
        · have HS := Lib.hid (pc_step (acc := acc) hkp hp hxy)
          have HX := Lib.hid hxy
          clear hxy hp
          go_wp2_with (first | (go_at_call 32; refine (ref_parse_x HX.out (by omega) _).mono ?_; rintro e w' ⟨rfl, rfl⟩) | (at_builtin; refine wpList_append_ints rfl (.tmp 31) (.tmp 33) rfl w1.heap.size _ k acc rfl (ho.alloc _) _ 1 1 [x] rfl (Sl.built wr 3 1 1 _ rfl (by unfold maxLen; omega)) (k + 1) rfl (acc ++ [x]) rfl (by omega) (by simp; omega) ?_; intro v2 w2 o2 b2))
          go_roundw
          case rel => exact ⟨k + 1, acc ++ [x], by omega, by go_num, o2, (hb.alloc hbs _).trans b2, Lib.hid (by rw [HG.out, HS.out])⟩
          case measure => simp [intOf]; omega
        · have HS := Lib.hid (pc_bad (acc := acc) hkp hp hxy)
          have HX := Lib.hid hxy
          clear hxy hp
          go_wp2_with (go_at_call 32; refine (ref_parse_x HX.out (by omega) _).mono ?_; rintro e w' ⟨rfl, rfl⟩)
          go_ret2
          rw [HE.out, HP.out, HG.out, HS.out]
          exact ⟨none, 0, 0, rfl, Sl.nil _ _, hb1.trans (hb.mono hb1s)⟩
      · have HS := Lib.hid (pc_end (ps := ps) (acc := acc) (k := k) (by rw [← hm.out]; omega))
        obtain ⟨E, g, rfl, hlo⟩ := ho.sl
        go_wp2
        go_ret2
        rw [HE.out, HP.out, HG.out, HS.out]
        exact ⟨E, k, g, rfl, hlo, hb1.trans (hb.mono hb1s)⟩

theorem allV_upto {zs : List Int} {k : Nat} (hk : k < zs.length) (h : isValid (zs.getD k 0) = false) : codesR zs = (⟨#[]⟩, 1) ∧ textR zs = (⟨#[]⟩, 1) := by
  have := allV_bad hk h
  unfold codesR textR
  rw [this]
  exact ⟨rfl, rfl⟩
theorem codesR_all {zs : List Int} (h : allV zs = true) : codesR zs = (bytesOf (codesL zs), 0) := by unfold codesR; rw [h]; rfl
theorem textR_all {zs : List Int} (h : allV zs = true) : textR zs = (bytesOf (textL zs), 0) := by unfold textR; rw [h]; rfl

set_option maxRecDepth 100000 in
set_option maxHeartbeats 2000000 in
theorem ref_codes_any (A : Option Addr) (n c : Nat) (zs : List Int) (w : World) (hl : Sl w A n c 1 (ints zs)) (hn : n ≤ 1000) :
    Calls Tryd.prog 16 #[.slice A n c] w (StrErr (codesR zs) w) := by
  have hc := Lib.hid hl.count
  have hcap := hl.cap
  have hmax := hl.max
  go_enter Tryd.func16, Tryd.ntmps16
  go_wp2
  go_loop [4, 5] (fun o i => ∃ (k : Nat) (r : ByteArray), k ≤ n ∧ i = .int .i64 k ∧ o = .string r ∧ r.size ≤ 7 * k ∧ Hid (r = bytesOf (codesL (zs.take k))) ∧ Hid (Upto zs k)) (fun _ i => n - (intOf i).toNat)
  case atStart => exact ⟨0, ⟨#[]⟩, Nat.zero_le _, rfl, rfl, Nat.zero_le _, Lib.hid rfl, Lib.hid (by simp [Upto])⟩
  case round =>
    obtain ⟨k, r, hk, rfl, rfl, hr, HR, HU⟩ := hrel
    by_cases hlt : k < n
    · have hlt' : k < zs.length := by have := hc.out; omega
      obtain ⟨b, off, rfl, _, hcell⟩ := hl.int_at hlt
      obtain ⟨x, hx⟩ : ∃ x, zs.getD k 0 = x := ⟨_, rfl⟩
      rw [hx] at hcell
      have HX := Lib.hid hx
      have hxl : (bytesOf (hexL x)).size ≤ 6 := by rw [bytesOf_size]; exact hexL_le x
      rcases hv : isValid x with _ | _
      · have HB := Lib.hid (allV_upto hlt' (by rw [hx]; exact hv)).1
        have HV := Lib.hid hv
        clear hv hx
        go_wp2_with (go_at_call 26; refine (ref_valid_x HV.out _).mono ?_; rintro e w' ⟨rfl, rfl⟩)
        go_ret2
        rw [HB.out]
        exact ⟨rfl, Below.refl _ _⟩
      · have HB := Lib.hid (HU.out.step hlt' (by rw [hx]; exact hv))
        have HV := Lib.hid hv
        obtain ⟨q, hq⟩ : ∃ q, bytesOf (hexL x) = q := ⟨_, rfl⟩
        have HQ := Lib.hid hq
        rw [hq] at hxl
        clear hv hx hq
        rcases Nat.eq_zero_or_pos k with h0 | h0
        · subst h0
          rw [Nat.add_zero] at hcell
          have HS : Hid (r ++ q = bytesOf (codesL (zs.take 1))) := Lib.hid (by rw [codes_step0 hlt', HX.out, HR.out, ← HQ.out, bytesOf_append]; rfl)
          go_wp2_with (first | (go_at_call 26; refine (ref_valid_x HV.out _).mono ?_; rintro e w' ⟨rfl, rfl⟩) | (go_at_call 21; refine (ref_hex_any x _).mono ?_; rintro e w' ⟨rfl, rfl⟩; rw [HQ.out]))
          go_round
          case rel => exact ⟨1, _, by omega, by simp, rfl, by simp; omega, HS, HB⟩
          case measure => simp [intOf]; omega
        · have HS : Hid (r ++ ⟨#[32]⟩ ++ q = bytesOf (codesL (zs.take (k + 1)))) := Lib.hid (by
            rw [codes_step h0 hlt', HX.out, HR.out, ← HQ.out, show (⟨#[32]⟩ : ByteArray) = bytesOf [32] from rfl, bytesOf_append, bytesOf_append]
            simp)
          go_wp2_with (first | (go_at_call 26; refine (ref_valid_x HV.out _).mono ?_; rintro e w' ⟨rfl, rfl⟩) | (go_at_call 21; refine (ref_hex_any x _).mono ?_; rintro e w' ⟨rfl, rfl⟩; rw [HQ.out]))
          go_round
          case rel => exact ⟨k + 1, _, by omega, by go_num, rfl, by rw [ByteArray.size_append, ByteArray.size_append]; show r.size + 1 + q.size ≤ _; omega, HS, HB⟩
          case measure => simp [intOf]; omega
    · have HB := Lib.hid (codesR_all (HU.out.all (by have := hc.out; omega)))
      have HT : Hid (zs.take k = zs) := Lib.hid (List.take_of_length_le (by have := hc.out; omega))
      go_wp2
      go_ret2
      rw [HB.out]
      exact ⟨by rw [HR.out, HT.out]; rfl, Below.refl _ _⟩
end Go.Proofs.YtkfchcmbpgcncaaDoor.Es
