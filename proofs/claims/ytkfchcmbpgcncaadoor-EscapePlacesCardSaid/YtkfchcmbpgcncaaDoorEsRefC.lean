/-
  The contracts of the reference's digits and Text.
-/
import Derived.Test.YtkfchcmbpgcncaaDoorEsRefB
import Derived.Test.YtkfchcmbpgcncaaDoorEsLit
namespace Go.Proofs.YtkfchcmbpgcncaaDoor.Es
open Go.RowKit
set_option linter.unusedVariables false

/-- Without zeros at the beginning, but for a last one. -/
def dz : List UInt8 → List UInt8
  | [] => []
  | [b] => [b]
  | b :: b2 :: r => if b = 48 then dz (b2 :: r) else b :: b2 :: r
theorem dz_trim : ∀ l : List UInt8, trimZ l ≠ [] → dz l = trimZ l
  | [], h => absurd rfl h
  | [b], h => by
    by_cases hb : b = 48
    · subst hb; exact absurd rfl h
    · simp [dz, trimZ, hb]
  | b :: b2 :: r, h => by
    by_cases hb : b = 48
    · subst hb
      have e : trimZ (48 :: b2 :: r) = trimZ (b2 :: r) := by simp [trimZ]
      rw [e] at h ⊢
      rw [dz, if_pos rfl]
      exact dz_trim (b2 :: r) h
    · rw [dz, if_neg hb]
      simp [trimZ, hb]
theorem dz_le : ∀ l : List UInt8, (dz l).length ≤ l.length
  | [] => Nat.le_refl _
  | [_] => Nat.le_refl _
  | b :: b2 :: r => by
    rw [dz]
    split
    · have := dz_le (b2 :: r); simp only [List.length_cons] at *; omega
    · exact Nat.le_refl _
theorem dz_step {s : ByteArray} (h : 1 < s.size) (hb : ((s[0]).toNat : Int) = 48) : dz s.data.toList = dz (s.data.toList.drop 1) := by
  have e := drop_at_k s (k := 0) (by omega)
  have e1 := drop_at_k s (k := 1) h
  rw [List.drop_zero] at e
  rw [e, e1, dz, if_pos (show s[0] = 48 from u8_is hb (by decide))]
  rfl
theorem dz_stop {s : ByteArray} (h : s.size ≤ 1 ∨ ∃ h : 0 < s.size, ((s[0]).toNat : Int) ≠ 48) : dz s.data.toList = s.data.toList := by
  rcases hl : s.data.toList with _ | ⟨b, _ | ⟨b2, r⟩⟩
  · rfl
  · rfl
  · rcases h with h | ⟨h0, h⟩
    · have := length_of s
      rw [hl] at this
      simp at this
      omega
    · rw [dz, if_neg]
      intro hb
      apply h
      have := head_of h0
      rw [hl] at this
      simp only [List.head?_cons, Option.some.injEq] at this
      rw [← this, hb]
      rfl
theorem dz_hex {c : Int} (hc : isCode c = true) : itemL c = if c = 34 ∨ c = 92 then [92, u8 c] else if 32 ≤ c ∧ c ≤ 126 then [u8 c] else [92, 117, 123] ++ dz (hexL c) ++ [125] := by
  unfold itemL
  split
  · rfl
  · split
    · rfl
    · split
      · rename_i h; subst h; decide
      · rename_i h
        rw [dz_trim]
        intro e
        have hv := (valD_scan (hexL c) 0 c (scan_hexL hc)).1
        have := trimZ_nil e
        omega
set_option maxRecDepth 100000 in
set_option maxHeartbeats 1000000 in
theorem ref_digits_any (c : Int) (w : World) : Calls Tryd.prog 27 #[.int .i64 c] w (Gives (.string (bytesOf (dz (hexL c)))) w) := by
  go_enter Tryd.func27, Tryd.ntmps27
  go_wp2_with (go_at_call 21; refine (ref_hex_any c _).mono ?_; rintro e w' ⟨rfl, rfl⟩)
  go_loop [3] (fun v => ∃ r : ByteArray, v = .string r ∧ r.size ≤ 6 ∧ Hid (dz (hexL c) = dz r.data.toList)) (fun v => strSize v)
  case atStart => exact ⟨_, rfl, by rw [bytesOf_size]; exact hexL_le c, Lib.hid (by rw [bytesOf_list])⟩
  case round =>
    obtain ⟨r, rfl, hr, HD⟩ := hrel
    by_cases hgo : 1 < r.size ∧ ∃ h : 0 < r.size, ((r[0]).toNat : Int) = 48
    · obtain ⟨h1, h0, hb⟩ := hgo
      have HS := Lib.hid (dz_step h1 hb)
      have e3 : (((r[0]).toNat : Int) == 48) = true := by simp [hb]
      clear hb
      go_wp2
      go_round
      case rel => exact ⟨_, rfl, by simp; omega, Lib.hid (by rw [HD.out, HS.out, drop_bytes])⟩
      case measure => simp [strSize]; omega
    · have HS := Lib.hid (dz_stop (s := r) (by
        rcases Nat.lt_or_ge 1 r.size with h | h
        · exact .inr ⟨by omega, fun e => hgo ⟨h, by omega, e⟩⟩
        · exact .inl h))
      rcases Nat.lt_or_ge 1 r.size with h | h
      · have e3 : (((r[0]).toNat : Int) == 48) = false := by simp; exact fun e => hgo ⟨h, by omega, e⟩
        clear hgo
        go_wp2
        go_ret
        exact gives_string (by rw [HD.out, HS.out, bytesOf_data])
      · clear hgo
        go_wp2
        go_ret
        exact gives_string (by rw [HD.out, HS.out, bytesOf_data])
/-- The literal so far. -/
def litP (zs : List Int) (k : Nat) : List UInt8 := 34 :: (zs.take k).flatMap itemL
theorem litP_step {zs : List Int} {k : Nat} {x : Int} (h : k < zs.length) (hx : zs.getD k 0 = x) : litP zs (k + 1) = litP zs k ++ itemL x := by
  unfold litP
  rw [List.getD, List.getElem?_eq_getElem h] at hx
  simp only [Option.getD_some] at hx
  rw [List.take_succ_eq_append_getElem h, List.flatMap_append, hx]
  simp
theorem litP_all {zs : List Int} {k : Nat} (h : zs.length ≤ k) : litP zs k ++ [34] = textL zs := by
  unfold litP textL
  rw [List.take_of_length_le h]
  rfl
theorem item_esc {c : Int} (hc : isCode c = true) (h : c < 32 ∨ 126 < c) : itemL c = [92, 117, 123] ++ dz (hexL c) ++ [125] := by
  rw [dz_hex hc, if_neg (by omega), if_neg (by omega)]
theorem item_two {c : Int} (hc : isCode c = true) (h : c = 34 ∨ c = 92) : itemL c = [92] ++ [u8 c] := itemL_a h
set_option maxRecDepth 100000 in
set_option maxHeartbeats 4000000 in
theorem ref_text_any (A : Option Addr) (n c : Nat) (zs : List Int) (w : World) (hl : Sl w A n c 1 (ints zs)) (hn : n ≤ 1000) :
    Calls Tryd.prog 14 #[.slice A n c] w (StrErr (textR zs) w) := by
  have hc := Lib.hid hl.count
  have hcap := hl.cap
  have hmax := hl.max
  have hq : (convert 39 9 (.slice (some ⟨w.heap.size, 0, none⟩) 1 1)).run Tryd.prog (w.alloc (.cells #[.int .u8 34] 5)) = .ok (.string (bytesOf [34])) (w.alloc (.cells #[.int .u8 34] 5)) := by
    have := conv_bytes (Sl.built w 5 1 1 (bys [34]) rfl (ml 1 (by omega)))
    rw [strOf_bytes] at this
    exact this
  go_enter Tryd.func14, Tryd.ntmps14
  go_wp2
  go_loopw [4, 5] (fun o i wr => ∃ (k : Nat) (r : ByteArray), k ≤ n ∧ i = .int .i64 k ∧ o = .string r ∧ r.size ≤ 20 * k + 1 ∧ Below w.heap.size w wr ∧ Hid (r = bytesOf (litP zs k)) ∧ Hid (Upto zs k)) (fun _ i _ => n - (intOf i).toNat)
  case atStart => exact ⟨0, _, Nat.zero_le _, rfl, rfl, by rw [bytesOf_size]; simp, (Below.refl _ _).alloc (Nat.le_refl _) _, Lib.hid rfl, Lib.hid (by simp [Upto])⟩
  case round =>
    obtain ⟨k, r, hk, rfl, rfl, hr, hb, HR, HU⟩ := hrel
    have hbs := hb.size
    by_cases hlt : k < n
    · have hlt' : k < zs.length := by have := hc.out; omega
      obtain ⟨b, off, rfl, _, hcell⟩ := (hl.keep hb).int_at hlt
      obtain ⟨x, hx⟩ : ∃ x, zs.getD k 0 = x := ⟨_, rfl⟩
      rw [hx] at hcell
      rcases hv : isValid x with _ | _
      · have HB := Lib.hid (allV_upto hlt' (by rw [hx]; exact hv)).2
        have HV := Lib.hid hv
        clear hv hx
        go_wp2_with (go_at_call 26; refine (ref_valid_x HV.out _).mono ?_; rintro e w' ⟨rfl, rfl⟩)
        go_ret2
        rw [HB.out]
        exact ⟨rfl, hb⟩
      · have hcode : isCode x = true := hv
        have HB := Lib.hid (HU.out.step hlt' (by rw [hx]; exact hv))
        have HV := Lib.hid hv
        have hbd := isCode_bounds hcode
        have HS := Lib.hid (litP_step hlt' hx)
        clear hv hx
        by_cases hp : 32 ≤ x ∧ x ≤ 126
        · have hcv : (convert 39 9 (.slice (some ⟨wr.heap.size, 0, none⟩) 1 1)).run Tryd.prog (wr.alloc (.cells #[.int .u8 x] 5)) = .ok (.string (bytesOf [u8 x])) (wr.alloc (.cells #[.int .u8 x] 5)) := by
            have := conv_bytes (Sl.built wr 5 1 1 (bys [x]) rfl (ml 1 (by omega)))
            rw [strOf_bytes] at this
            exact this
          by_cases h2 : x = 34 ∨ x = 92
          · have HI := Lib.hid (item_two hcode h2)
            have HF : Hid (r ++ ⟨#[92]⟩ ++ bytesOf [u8 x] = bytesOf (litP zs (k + 1))) := Lib.hid (by
              rw [HS.out, HI.out, HR.out, show (⟨#[92]⟩ : ByteArray) = bytesOf [92] from rfl, bytesOf_append, bytesOf_append]
              simp)
            obtain ⟨q, hqq⟩ : ∃ q, bytesOf [u8 x] = q := ⟨_, rfl⟩
            have hqs : q.size = 1 := by rw [← hqq]; rfl
            rw [hqq] at hcv HF
            have hql : q.size ≤ 1 := by omega
            clear hqs hqq hcode
            rcases h2 with rfl | rfl
            all_goals
              go_wp2_with (go_at_call 26; refine (ref_valid_x HV.out _).mono ?_; rintro e w' ⟨rfl, rfl⟩)
              go_roundw
              case rel => exact ⟨k + 1, _, by omega, by go_num, rfl, by rw [ByteArray.size_append, ByteArray.size_append]; show r.size + 1 + q.size ≤ _; omega, hb.alloc hbs _, HF, HB⟩
              case measure => simp [intOf]; omega
          · have HI := Lib.hid (itemL_b h2 hp)
            have HF : Hid (r ++ bytesOf [u8 x] = bytesOf (litP zs (k + 1))) := Lib.hid (by rw [HS.out, HI.out, HR.out, bytesOf_append])
            have e1 : (x == 34) = false := by simp; omega
            have e2 : (x == 92) = false := by simp; omega
            obtain ⟨q, hqq⟩ : ∃ q, bytesOf [u8 x] = q := ⟨_, rfl⟩
            have hqs : q.size = 1 := by rw [← hqq]; rfl
            rw [hqq] at hcv HF
            have hql : q.size ≤ 1 := by omega
            obtain ⟨p1, p2⟩ := hp
            clear hqs hqq hcode h2
            go_wp2_with (go_at_call 26; refine (ref_valid_x HV.out _).mono ?_; rintro e w' ⟨rfl, rfl⟩)
            go_roundw
            case rel => exact ⟨k + 1, _, by omega, by go_num, rfl, by rw [ByteArray.size_append]; omega, hb.alloc hbs _, HF, HB⟩
            case measure => simp [intOf]; omega
        · have hp' : x < 32 ∨ 126 < x := by omega
          have HI := Lib.hid (item_esc hcode hp')
          obtain ⟨q, hqq⟩ : ∃ q, bytesOf (dz (hexL x)) = q := ⟨_, rfl⟩
          have hql : q.size ≤ 6 := by
            rw [← hqq, bytesOf_size]
            have := dz_le (hexL x)
            have := hexL_le x
            omega
          have HQ := Lib.hid hqq
          have HF : Hid (r ++ ⟨#[92, 117, 123]⟩ ++ q ++ ⟨#[125]⟩ = bytesOf (litP zs (k + 1))) := Lib.hid (by
            rw [HS.out, HI.out, HR.out, ← hqq, show (⟨#[92, 117, 123]⟩ : ByteArray) = bytesOf [92, 117, 123] from rfl, show (⟨#[125]⟩ : ByteArray) = bytesOf [125] from rfl, bytesOf_append, bytesOf_append, bytesOf_append]
            simp)
          clear hqq hcode hp
          rcases hp' with hp' | hp'
          all_goals
            go_wp2_with (first | (go_at_call 26; refine (ref_valid_x HV.out _).mono ?_; rintro e w' ⟨rfl, rfl⟩) | (go_at_call 27; refine (ref_digits_any x _).mono ?_; rintro e w' ⟨rfl, rfl⟩; rw [HQ.out]))
            go_roundw
            case rel => exact ⟨k + 1, _, by omega, by go_num, rfl, by rw [ByteArray.size_append, ByteArray.size_append, ByteArray.size_append]; show r.size + 3 + q.size + 1 ≤ _; omega, hb, HF, HB⟩
            case measure => simp [intOf]; omega
    · have HB := Lib.hid (textR_all (HU.out.all (by have := hc.out; omega)))
      have HT := Lib.hid (litP_all (zs := zs) (k := k) (by have := hc.out; omega))
      have hcv : (convert 39 9 (.slice (some ⟨wr.heap.size, 0, none⟩) 1 1)).run Tryd.prog (wr.alloc (.cells #[.int .u8 34] 5)) = .ok (.string (bytesOf [34])) (wr.alloc (.cells #[.int .u8 34] 5)) := by
        have := conv_bytes (Sl.built wr 5 1 1 (bys [34]) rfl (ml 1 (by omega)))
        rw [strOf_bytes] at this
        exact this
      obtain ⟨q, hqq⟩ : ∃ q, bytesOf [34] = q := ⟨_, rfl⟩
      have hql : q.size ≤ 1 := by rw [← hqq]; exact Nat.le_refl _
      have HQ := Lib.hid hqq
      rw [hqq] at hcv
      clear hqq
      go_wp2
      go_ret2
      rw [HB.out]
      exact ⟨by rw [← HT.out, ← bytesOf_append, ← HR.out, HQ.out]; rfl, hb.alloc hbs _⟩
end Go.Proofs.YtkfchcmbpgcncaaDoor.Es
