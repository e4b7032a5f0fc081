/-
  The contracts of the reference's Written, Encode, Decode and Valid of layer 3.
-/
import Derived.Test.YtpckedihdmibmaaDoorU8RefA
import Derived.Test.YtpckedihdmibmaaDoorU8RefB
import Derived.Test.YtpckedihdmibmaaDoorU8ProgC
import Derived.Test.YtpckedihdmibmaaDoorU8ProgE
namespace Go.Proofs.YtpckedihdmibmaaDoor.U8
open Go.RowKit
set_option linter.unusedVariables false

theorem esc_of (c : Int) : (⟨#[92, 117, 123]⟩ : ByteArray) ++ bytesOf (hexL c) ++ (⟨#[125]⟩ : ByteArray) = strOfNums (esc c) := by
  rw [← esc_str c, strOf_strInts]
theorem ref_written_any (c : Int) (w : World) : Calls Tryd.prog 33 #[.int .i64 c] w (Gives (.string (strOfNums (esc c))) w) := by
  have HE := Lib.hid (esc_of c)
  have hls : (bytesOf (hexL c)).size ≤ 6 := by rw [bytesOf_size]; exact hexL_len c
  go_enter Tryd.func33, Tryd.ntmps33
  go_wp2_with fail
  refine (ref_hex_any c _).mono ?_
  rintro e w' ⟨rfl, rfl⟩
  go_wp2_with fail
  go_ret
  exact ⟨by rw [← HE.out]; rfl, rfl⟩

set_option maxRecDepth 100000 in
set_option maxHeartbeats 2000000 in
theorem ref_encode_any (A : Option Addr) (n c : Nat) (zs : List Int) (p : Int) (w : World) (h : Sl w A n c 1 (ints zs)) (hn : n ≤ 5000) :
    Calls Tryd.prog 17 #[.slice A n c, .int .i64 p] w (StrFault (strOfNums (encR p zs).1) (encR p zs).2.1 (encR p zs).2.2 w) := by
  have hcap := h.cap
  have hmax := h.max
  have HC := Lib.hid h.count
  obtain ⟨W, hW⟩ : ∃ W, W = w.alloc (.cells #[.int .i64 0, .int .i64 0] 24) := ⟨_, rfl⟩
  have bW : Below w.heap.size w W := by rw [hW]; exact (Below.refl _ _).alloc (Nat.le_refl _) _
  have gW : W.heap[w.heap.size]? = some (.cells #[.int .i64 0, .int .i64 0] 24 (0, 0)) := by rw [hW]; exact heap_alloc_new w _
  have sW : w.heap.size < W.heap.size := by rw [hW]; simp
  have hxW := h.keep bW
  have HW := Lib.hid hW
  have GW := Lib.hid gW
  clear hW gW
  rcases hk : known p with _ | _
  · have HE : Hid (encR p zs = ([], 8, 0)) := Lib.hid (by rw [encR, hk]; rfl)
    have HK := Lib.hid hk
    clear hk
    go_enter Tryd.func17, Tryd.ntmps17
    go_wp2_with fail
    refine (ref_policy_x HK.out _).mono ?_
    rintro e w' ⟨rfl, rfl⟩
    go_wp2_with fail
    rw [HE.out]
    exact bodyPost_ret (v := .tuple #[.string ⟨#[]⟩, .agg #[.int .i64 8, .int .i64 0]]) (by simp [results, Tryd.results17, go_sem]) rfl ⟨rfl, (Below.refl _ _).alloc (Nat.le_refl _) _⟩
  · have HK := Lib.hid hk
    have hkp : 1 ≤ p ∧ p ≤ 4 := by simpa [known] using hk
    clear hk
    go_enter Tryd.func17, Tryd.ntmps17
    go_wp2_with fail
    refine (ref_policy_x HK.out _).mono ?_
    rintro e w' ⟨rfl, rfl⟩
    go_wp2_with fail
    go_loopw [6, 7] (fun v i wr => ∃ (k : Nat) (done : List Int), k ≤ n ∧ (strOfNums done).size ≤ 10 * k ∧ i = .int .i64 k ∧ v = .string (strOfNums done) ∧ Below W.heap.size W wr ∧ Hid (done = encL p (zs.take k)) ∧ Hid (p = 1 → ∀ j, j < k → isScalar (zs.getD j 0) = true)) (fun _ i _ => n - (intOf i).toNat)
    case atStart => exact ⟨0, [], by omega, by decide, rfl, by rw [show strOfNums [] = (⟨#[]⟩ : ByteArray) from rfl], by rw [HW.out]; exact Below.refl _ _, Lib.hid (by simp [encL]), Lib.hid (fun _ j hj => by omega)⟩
    case round =>
      obtain ⟨k, done, hkn, hsz, rfl, rfl, hb, HD, HA⟩ := hrel
      have hbs := hb.size
      have hxr := hxW.keep hb
      by_cases hlt : k < n
      · have hkz : k < zs.length := by rw [← HC.out]; exact hlt
        obtain ⟨b, off, rfl, _, hcell⟩ := hxr.int_at hlt
        obtain ⟨x, hx⟩ : ∃ x, zs.getD k 0 = x := ⟨_, rfl⟩
        have HT := Lib.hid (enc_take (p := p) hkz)
        have HX := Lib.hid hx
        rw [hx] at hcell
        clear hx
        rcases hs : isScalar x with _ | _
        · have HS := Lib.hid hs
          clear hs
          have hp4 : p = 1 ∨ p = 2 ∨ p = 3 ∨ p = 4 := by omega
          rcases hp4 with rfl | rfl | rfl | rfl
          · have HB : Hid (encR 1 zs = ([], 9, (k : Int))) := Lib.hid (by
              have hb := bad_take hkz (HA.out rfl) (by rw [HX.out]; exact HS.out)
              rw [encR, if_pos HK.out, if_pos ⟨rfl, by rw [hb]; exact hkz⟩, hb])
            have g1 := (hb.block w.heap.size sW).trans GW.out
            obtain ⟨⟨y0, y1⟩, f0, f1⟩ := box2 g1
            have t1 := bW.trans (hb.mono (Nat.le_of_lt sW))
            go_wp2_with fail
            refine (ref_scalar_x HS.out _).mono ?_
            rintro e w' ⟨rfl, rfl⟩
            go_wp2_with fail
            rw [HB.out]
            exact bodyPost_ret (v := .tuple #[.string ⟨#[]⟩, .agg #[.int .i64 9, .int .i64 k]]) (by simp [results, Tryd.results17, go_sem, y0, y1]) rfl ⟨rfl, (t1.setCell (by simp) _).setCell (by simp) _⟩
          · have HO : Hid (one8 2 (zs.getD k 0) = form8 65533) := Lib.hid (by rw [HX.out, one8, HS.out, if_neg (by decide), sub8, if_pos rfl]; decide +kernel)
            have hfs : (strOfNums (form8 65533)).size = 3 := by decide +kernel
            go_wp2_with fail
            refine (ref_scalar_x HS.out _).mono ?_
            rintro e w' ⟨rfl, rfl⟩
            go_wp2_with fail
            refine (ref_form_any (c := 65533) (by decide +kernel) _).mono ?_
            rintro e w1 ⟨rfl, b1⟩
            go_wp2_with fail
            go_roundw
            case rel => exact ⟨k + 1, done ++ form8 65533, by omega, by rw [← strOf_append, ByteArray.size_append]; omega, by go_num, by rw [strOf_append], hb.trans (b1.mono hbs), Lib.hid (by rw [HD.out, HT.out, HO.out]), Lib.hid (fun hp => absurd hp (by decide))⟩
            case measure => simp [intOf]; omega
          · have HO : Hid (one8 3 (zs.getD k 0) = []) := Lib.hid (by rw [HX.out, one8, HS.out]; rfl)
            go_wp2_with fail
            refine (ref_scalar_x HS.out _).mono ?_
            rintro e w' ⟨rfl, rfl⟩
            go_wp2_with fail
            go_roundw
            case rel => exact ⟨k + 1, done, by omega, by omega, by go_num, rfl, hb, Lib.hid (by rw [HT.out, HO.out, List.append_nil]; exact HD.out), Lib.hid (fun hp => absurd hp (by decide))⟩
            case measure => simp [intOf]; omega
          · have HO : Hid (one8 4 (zs.getD k 0) = esc x) := Lib.hid (by rw [HX.out, one8, HS.out]; rfl)
            have hfs : (strOfNums (esc x)).size ≤ 10 := by rw [strOfNums_size]; exact esc_len x
            go_wp2_with fail
            refine (ref_scalar_x HS.out _).mono ?_
            rintro e w' ⟨rfl, rfl⟩
            go_wp2_with fail
            refine (ref_written_any x _).mono ?_
            rintro e w' ⟨rfl, rfl⟩
            go_wp2_with fail
            go_roundw
            case rel => exact ⟨k + 1, done ++ esc x, by omega, by rw [← strOf_append, ByteArray.size_append]; omega, by go_num, by rw [strOf_append], hb, Lib.hid (by rw [HD.out, HT.out, HO.out]), Lib.hid (fun hp => absurd hp (by decide))⟩
            case measure => simp [intOf]; omega
        · have HS := Lib.hid hs
          have HAN : Hid (p = 1 → ∀ j, j < k + 1 → isScalar (zs.getD j 0) = true) := Lib.hid (fun hp j hj => by
            rcases Nat.lt_or_ge j k with h | h
            · exact HA.out hp j h
            · obtain rfl : j = k := by omega
              rw [HX.out]; exact HS.out)
          have HO : Hid (one8 p (zs.getD k 0) = form8 x) := Lib.hid (by rw [HX.out, one8, HS.out]; rfl)
          have hfs : (strOfNums (form8 x)).size ≤ 4 := by rw [strOfNums_size]; exact (form8_len x).2
          clear hs
          go_wp2_with fail
          refine (ref_scalar_x HS.out _).mono ?_
          rintro e w' ⟨rfl, rfl⟩
          go_wp2_with fail
          refine (ref_form_any HS.out _).mono ?_
          rintro e w1 ⟨rfl, b1⟩
          go_wp2_with fail
          go_roundw
          case rel => exact ⟨k + 1, done ++ form8 x, by omega, by rw [← strOf_append, ByteArray.size_append]; omega, by go_num, by rw [strOf_append], hb.trans (b1.mono hbs), Lib.hid (by rw [HD.out, HT.out, HO.out]), HAN⟩
          case measure => simp [intOf]; omega
      · obtain rfl : k = n := by omega
        have HE : Hid (encR p zs = (done, 0, 0)) := Lib.hid (by
          have e : zs.take k = zs := List.take_of_length_le (by rw [← HC.out]; exact Nat.le_refl _)
          rw [HD.out, e, encR, if_pos HK.out, if_neg]
          rintro ⟨hp, hlt⟩
          have := bad_none (fun j hj => HA.out hp j (by rw [HC.out]; exact hj))
          omega)
        have g1 := (hb.block w.heap.size sW).trans GW.out
        obtain ⟨⟨y0, y1⟩, f0, f1⟩ := box2 g1
        have t1 := bW.trans (hb.mono (Nat.le_of_lt sW))
        go_wp2_with fail
        rw [HE.out]
        exact bodyPost_ret (v := .tuple #[.string (strOfNums done), .agg #[.int .i64 0, .int .i64 0]]) (by simp [results, Tryd.results17, go_sem, y0, y1]) rfl ⟨rfl, (t1.setCell (by simp) _).setCell (by simp) _⟩

set_option maxRecDepth 100000 in
set_option maxHeartbeats 2000000 in
theorem ref_decode_any (s : ByteArray) (p : Int) (w : World) (hs : s.size ≤ 5000) :
    Calls Tryd.prog 21 #[.string s, .int .i64 p] w (ListFault (decR p (strInts s)).1 (decR p (strInts s)).2.1 (decR p (strInts s)).2.2 w) := by
  have HC := Lib.hid (strInts_len s)
  obtain ⟨W, hW⟩ : ∃ W, W = w.alloc (.cells #[.int .i64 0, .int .i64 0] 24) := ⟨_, rfl⟩
  have bW : Below w.heap.size w W := by rw [hW]; exact (Below.refl _ _).alloc (Nat.le_refl _) _
  have gW : W.heap[w.heap.size]? = some (.cells #[.int .i64 0, .int .i64 0] 24 (0, 0)) := by rw [hW]; exact heap_alloc_new w _
  have sW : w.heap.size < W.heap.size := by rw [hW]; simp
  have HW := Lib.hid hW
  have GW := Lib.hid gW
  clear hW gW
  rcases hk : known p with _ | _
  · have HE : Hid (decR p (strInts s) = ([], 8, 0)) := Lib.hid (by rw [decR, hk]; rfl)
    have HK := Lib.hid hk
    clear hk
    go_enter Tryd.func21, Tryd.ntmps21
    go_wp2_with fail
    refine (ref_policy_x HK.out _).mono ?_
    rintro e w' ⟨rfl, rfl⟩
    go_wp2_with fail
    rw [HE.out]
    exact bodyPost_ret (v := .tuple #[.slice none 0 0, .agg #[.int .i64 8, .int .i64 0]]) (by simp [results, Tryd.results21, go_sem]) rfl ⟨none, 0, 0, rfl, Sl.nil _ _, (Below.refl _ _).alloc (Nat.le_refl _) _⟩
  · have HK := Lib.hid hk
    have hkp : 1 ≤ p ∧ p ≤ 4 := by simpa [known] using hk
    clear hk
    go_enter Tryd.func21, Tryd.ntmps21
    go_wp2_with fail
    refine (ref_policy_x HK.out _).mono ?_
    rintro e w' ⟨rfl, rfl⟩
    go_wp2_with fail
    go_loopw [6, 7] (fun v i wr => ∃ (k m : Nat) (done : List Int), k ≤ s.size ∧ m ≤ 4 * k ∧ i = .int .i64 k ∧ Own wr W.heap.size 3 1 v m (ints done) ∧ Below W.heap.size W wr ∧ Hid (decL p (strInts s) = done ++ decL p ((strInts s).drop k)) ∧ Hid (p = 1 → badD (strInts s) = k + badD ((strInts s).drop k))) (fun _ i _ => s.size - (intOf i).toNat)
    case atStart => exact ⟨0, 0, [], by omega, by omega, rfl, Own.nil _ _ _ _, by rw [HW.out]; exact Below.refl _ _, Lib.hid rfl, Lib.hid (fun _ => by simp)⟩
    case round =>
      obtain ⟨k, m, done, hkn, hm, rfl, ho, hb, HD, HA⟩ := hrel
      have hbs := hb.size
      by_cases hlt : k < s.size
      · have hkz : k < (strInts s).length := by rw [HC.out]; exact hlt
        obtain ⟨⟨c, n, ok⟩, hst⟩ : ∃ x, step ((strInts s).drop k) = x := ⟨_, rfl⟩
        obtain ⟨hd1, hd2, hn1, hn2, hn4⟩ := dec_at (p := p) hkz hst
        rw [HC.out] at hn2
        have HD1 := Lib.hid hd1
        have HD2 := Lib.hid hd2
        have HST : Hid (step (strInts (s.extract k s.size)) = (c, n, ok)) := Lib.hid (by rw [strInts_drop, hst])
        have hsz : (s.extract k s.size).size ≤ 100000 := by rw [ByteArray.size_extract]; omega
        have HSZ := Lib.hid hsz
        have i1 : (k : Int) + (n : Int) ≤ (s.size : Int) := by omega
        have i2 : (k : Int) ≤ (k : Int) + (n : Int) := by omega
        have i3 : ((k : Int) + (n : Int)).toNat = k + n := by omega
        have i4 : (k : Int) + (n : Int) - (n : Int) = (k : Int) := by omega
        have i5 : (0 : Int) ≤ (k : Int) + (n : Int) := by omega
        clear hd1 hd2 hst hsz hkz
        go_wp2_with fail
        refine (rstep_x HST.out HSZ.out _).mono ?_
        rintro e w1 ⟨rfl, d1⟩
        have ho1 := ho.drawn d1
        have hb1 := hb.trans (d1.below _)
        have hb1s := hb1.size
        clear ho hb d1
        rcases ok with _ | _
        · have hp4 : p = 1 ∨ p = 2 ∨ p = 3 ∨ p = 4 := by omega
          rcases hp4 with rfl | rfl | rfl | rfl
          · have HB : Hid (decR 1 (strInts s) = ([], 9, (k : Int))) := Lib.hid (by
              have hb := HA.out rfl
              rw [HD2.out] at hb
              simp at hb
              rw [decR, if_pos HK.out, if_pos ⟨rfl, by rw [hb, HC.out]; exact hlt⟩, hb])
            have g1 := (hb1.block w.heap.size sW).trans GW.out
            obtain ⟨⟨y0, y1⟩, f0, f1⟩ := box2 g1
            have t1 := bW.trans (hb1.mono (Nat.le_of_lt sW))
            go_wp2_with fail
            rw [HB.out]
            exact bodyPost_ret (v := .tuple #[.slice none 0 0, .agg #[.int .i64 9, .int .i64 k]]) (by simp [results, Tryd.results21, go_sem, y0, y1]) rfl ⟨none, 0, 0, rfl, Sl.nil _ _, (t1.setCell (by simp) _).setCell (by simp) _⟩
          · go_wp2_with (at_builtin; refine wpList_append_ints rfl (.tmp 41) (.tmp 42) rfl W.heap.size u6 m done rfl (ho1.alloc _) _ 1 1 [65533] rfl (Sl.built w1 3 1 1 (ints [65533]) rfl (by unfold maxLen; omega)) (m + 1) rfl (done ++ [65533]) rfl (by omega) (by simp; omega) ?_; intro v2 w2 o2 b2)
            have hb2 := (hb1.alloc hb1s _).trans b2
            go_roundw
            case rel => exact ⟨k + n, m + 1, done ++ [65533], by omega, by omega, vint (by omega), o2, hb2, Lib.hid (by rw [HD.out, HD1.out, List.append_assoc]; rfl), Lib.hid (fun hp => absurd hp (by decide))⟩
            case measure => simp [intOf]; omega
          · go_wp2_with fail
            go_roundw
            case rel => exact ⟨k + n, m, done, by omega, by omega, vint (by omega), ho1, hb1, Lib.hid (by rw [HD.out, HD1.out]; rfl), Lib.hid (fun hp => absurd hp (by decide))⟩
            case measure => simp [intOf]; omega
          · have HP : Hid (strInts (s.extract k (k + n)) = ((strInts s).drop k).take n) := Lib.hid (strInts_part s k n)
            have hps : (s.extract k (k + n)).size = n := by rw [ByteArray.size_extract]; omega
            have HPS := Lib.hid hps
            clear hps
            go_wp2_with fail
            refine (ref_bytes_any _ (by rw [HPS.out]; omega) _).mono ?_
            rintro e w2 ⟨E, q, f, rfl, l2, b2⟩
            have HQ : Hid (q = 4 * n) := Lib.hid (by rw [l2.count, escB_len, strInts_len, HPS.out])
            have hq16 : q ≤ 16 := by have := HQ.out; omega
            have ho2 := ho1.below b2
            have hb2 := hb1.trans (b2.mono hb1s)
            have hb2s := hb2.size
            go_wp2_with (at_builtin; refine wpList_append_ints rfl (.tmp 47) (.tmp 54) rfl W.heap.size u6 m done rfl ho2 E q f (escB (strInts (s.extract k (k + n)))) rfl l2 (m + q) rfl (done ++ escB (strInts (s.extract k (k + n)))) rfl (by omega) hb2s ?_; intro v3 w3 o3 b3)
            go_roundw
            case rel => exact ⟨k + n, m + q, _, by omega, by have := HQ.out; omega, vint (by omega), o3, hb2.trans b3, Lib.hid (by rw [HD.out, HD1.out, HP.out, List.append_assoc]; rfl), Lib.hid (fun hp => absurd hp (by decide))⟩
            case measure => simp [intOf]; omega
        · go_wp2_with (at_builtin; refine wpList_append_ints rfl (.tmp 29) (.tmp 31) rfl W.heap.size u6 m done rfl (ho1.alloc _) _ 1 1 [c] rfl (Sl.built w1 3 1 1 (ints [c]) rfl (by unfold maxLen; omega)) (m + 1) rfl (done ++ [c]) rfl (by omega) (by simp; omega) ?_; intro v2 w2 o2 b2)
          have hb2 := (hb1.alloc hb1s _).trans b2
          go_roundw
          case rel => exact ⟨k + n, m + 1, done ++ [c], by omega, by omega, vint (by omega), o2, hb2, Lib.hid (by rw [HD.out, HD1.out, List.append_assoc]; rfl), Lib.hid (fun hp => by have h2 := HD2.out; simp at h2; rw [HA.out hp, h2]; omega)⟩
          case measure => simp [intOf]; omega
      · obtain rfl : k = s.size := by omega
        have HE : Hid (decR p (strInts s) = (done, 0, 0)) := Lib.hid (by
          have e : (strInts s).drop s.size = [] := List.drop_eq_nil_of_le (by rw [HC.out]; exact Nat.le_refl _)
          have hd := HD.out
          have ha := HA.out
          rw [e] at hd ha
          rw [decR, if_pos HK.out, if_neg, hd]
          · simp [decL_nil]
          · rintro ⟨hp, hlt⟩
            have := ha hp
            rw [HC.out] at hlt
            simp [badD_nil] at this
            omega)
        have g1 := (hb.block w.heap.size sW).trans GW.out
        obtain ⟨⟨y0, y1⟩, f0, f1⟩ := box2 g1
        have t1 := bW.trans (hb.mono (Nat.le_of_lt sW))
        obtain ⟨E, g, rfl, hl, hf⟩ := ho.sl_from
        go_wp2_with fail
        rw [HE.out]
        refine bodyPost_ret (v := .tuple #[.slice E m g, .agg #[.int .i64 0, .int .i64 0]]) (by simp [results, Tryd.results21, go_sem, y0, y1]) rfl ⟨E, m, g, rfl, ?_, (t1.setCell (by simp) _).setCell (by simp) _⟩
        exact (hl.setCell hf sW _).setCell hf sW _

set_option maxHeartbeats 1000000 in
theorem ref_valid8_x {s : ByteArray} {r : Bool} (h : good (strInts s) = r) (hs : s.size ≤ 5000) (w : World) : Calls Tryd.prog 24 #[.string s] w (Makes (.bool r) w) := by
  have hd := ref_decode_any s 1 w hs
  have hle := badD_le _ _ (Nat.le_refl (strInts s).length)
  rcases Nat.lt_or_ge (badD (strInts s)) (strInts s).length with hb | hb
  · have HR : Hid (r = false) := Lib.hid (by rw [← h, good, decide_eq_false_iff_not]; omega)
    have e : decR 1 (strInts s) = ([], 9, (badD (strInts s) : Int)) := by rw [decR, if_pos (by decide), if_pos ⟨rfl, hb⟩]
    rw [e] at hd
    have HD := Lib.hid hd
    clear hd h hle hb e
    go_enter Tryd.func24, Tryd.ntmps24
    go_wp2_with fail
    refine HD.out.mono ?_
    rintro e w1 ⟨A, n, c, rfl, l1, b1⟩
    go_wp2_with fail
    go_ret
    exact ⟨by rw [HR.out]; rfl, b1.alloc b1.size _⟩
  · have HR : Hid (r = true) := Lib.hid (by rw [← h, good, decide_eq_true_iff]; omega)
    have e : decR 1 (strInts s) = (decL 1 (strInts s), 0, 0) := by rw [decR, if_pos (by decide), if_neg (fun e => by omega)]
    rw [e] at hd
    have HD := Lib.hid hd
    clear hd h hle hb e
    go_enter Tryd.func24, Tryd.ntmps24
    go_wp2_with fail
    refine HD.out.mono ?_
    rintro e w1 ⟨A, n, c, rfl, l1, b1⟩
    go_wp2_with fail
    go_ret
    exact ⟨by rw [HR.out]; rfl, b1.alloc b1.size _⟩
end Go.Proofs.YtpckedihdmibmaaDoor.U8
