/-
  The contract of Encode of package utf8text, for every slice of ints of bounded length.
-/
import Derived.Test.YtpckedihdmibmaaDoorU8ProgA
import Derived.Test.YtpckedihdmibmaaDoorCpWriteHex
namespace Go.Proofs.YtpckedihdmibmaaDoor.U8
open Go.RowKit
set_option linter.unusedVariables false

theorem esc_str (c : Int) : strInts ((⟨#[92, 117, 123]⟩ : ByteArray) ++ bytesOf (hexL c) ++ (⟨#[125]⟩ : ByteArray)) = esc c := by
  simp [strInts, esc, bytesOf]

set_option maxRecDepth 100000 in
set_option maxHeartbeats 2000000 in
theorem encode_any (A : Option Addr) (n c : Nat) (zs : List Int) (p : Int) (w : World) (ht : Tab w) (h : Sl w A n c 1 (ints zs)) (hn : n ≤ 5000) :
    Calls Tryd.prog 11 #[.slice A n c, .int .i64 p] w (StrFault (strOfNums (encR p zs).1) (encR p zs).2.1 (encR p zs).2.2 w) := by
  have hcap := h.cap
  have hmax := h.max
  have HC := Lib.hid h.count
  obtain ⟨W, hW⟩ : ∃ W, W = w.alloc (.cells #[.int .i64 0, .int .i64 0] 24) := ⟨_, rfl⟩
  have bW : Below w.heap.size w W := by rw [hW]; exact (Below.refl _ _).alloc (Nat.le_refl _) _
  have gW : W.heap[w.heap.size]? = some (.cells #[.int .i64 0, .int .i64 0] 24 (0, 0)) := by rw [hW]; exact heap_alloc_new w _
  have sW : w.heap.size < W.heap.size := by rw [hW]; simp
  have tW : Tab W := ht.below ht.lt bW
  have hxW := h.keep bW
  have HW := Lib.hid hW
  have GW := Lib.hid gW
  clear hW gW
  rcases hk : known p with _ | _
  · have HE : Hid (encR p zs = ([], 8, 0)) := Lib.hid (by rw [encR, hk]; rfl)
    have HK := Lib.hid hk
    clear hk
    go_enter Tryd.func11, Tryd.ntmps11
    go_wp2_with fail
    refine (known_x HK.out _).mono ?_
    rintro e w' ⟨rfl, rfl⟩
    go_wp2_with fail
    rw [HE.out]
    exact bodyPost_ret (v := .tuple #[.string ⟨#[]⟩, .agg #[.int .i64 8, .int .i64 0]]) (by simp [results, Tryd.results11, go_sem]) rfl ⟨rfl, (Below.refl _ _).alloc (Nat.le_refl _) _⟩
  · have HK := Lib.hid hk
    have hkp : 1 ≤ p ∧ p ≤ 4 := by simpa [known] using hk
    clear hk
    go_enter Tryd.func11, Tryd.ntmps11
    go_wp2_with fail
    refine (known_x HK.out _).mono ?_
    rintro e w' ⟨rfl, rfl⟩
    go_wp2_with fail
    go_loopw [6, 15] (fun v i wr => ∃ (k m : Nat) (done : List Int), k ≤ n ∧ m ≤ 10 * k ∧ i = .int .i64 k ∧ Own wr W.heap.size 5 1 v m (bys done) ∧ Below W.heap.size W wr ∧ Hid (done = encL p (zs.take k)) ∧ Hid (p = 1 → ∀ j, j < k → isScalar (zs.getD j 0) = true)) (fun _ i _ => n - (intOf i).toNat)
    case atStart => exact ⟨0, 0, [], by omega, by omega, rfl, Own.nil _ _ _ _, by rw [HW.out]; exact Below.refl _ _, Lib.hid (by simp [encL]), Lib.hid (fun _ j hj => by omega)⟩
    case round =>
      obtain ⟨k, m, done, hkn, hm, rfl, ho, hb, HD, HA⟩ := hrel
      have hbs := hb.size
      have tr : Tab wr := tW.below tW.lt hb
      have hxr := hxW.keep hb
      by_cases hlt : k < n
      · have hkz : k < zs.length := by rw [← HC.out]; exact hlt
        obtain ⟨b, off, rfl, _, hcell⟩ := hxr.int_at hlt
        obtain ⟨x, hx⟩ : ∃ x, zs.getD k 0 = x := ⟨_, rfl⟩
        have HT := Lib.hid (enc_take (p := p) hkz)
        have HX := Lib.hid hx
        rw [hx] at hcell
        clear hx
        rcases hs : isScalar x with _ | _
        · have HS := Lib.hid hs
          clear hs
          have hp4 : p = 1 ∨ p = 2 ∨ p = 3 ∨ p = 4 := by omega
          rcases hp4 with rfl | rfl | rfl | rfl
          · have HB : Hid (encR 1 zs = ([], 9, (k : Int))) := Lib.hid (by
              have hb := bad_take hkz (HA.out rfl) (by rw [HX.out]; exact HS.out)
              rw [encR, if_pos HK.out, if_pos ⟨rfl, by rw [hb]; exact hkz⟩, hb])
            have g1 := (hb.block w.heap.size sW).trans GW.out
            obtain ⟨⟨y0, y1⟩, f0, f1⟩ := box2 g1
            have t1 := bW.trans (hb.mono (Nat.le_of_lt sW))
            go_wp2_with fail
            refine (scalar_x HS.out _).mono ?_
            rintro e w' ⟨rfl, rfl⟩
            go_wp2_with fail
            rw [HB.out]
            exact bodyPost_ret (v := .tuple #[.string ⟨#[]⟩, .agg #[.int .i64 9, .int .i64 k]]) (by simp [results, Tryd.results11, go_sem, y0, y1]) rfl ⟨rfl, (t1.setCell (by simp) _).setCell (by simp) _⟩
          · have HO : Hid (one8 2 (zs.getD k 0) = form8 65533) := Lib.hid (by rw [HX.out, one8, HS.out, if_neg (by decide), sub8, if_pos rfl]; decide +kernel)
            go_wp2_with fail
            refine (scalar_x HS.out _).mono ?_
            rintro e w' ⟨rfl, rfl⟩
            go_wp2_with fail
            refine (app_form (c := 65533) (k := m + 3) (by decide +kernel) rfl rfl (by omega) _ ho hbs).mono ?_
            rintro e w2 ⟨v2, rfl, o2, b2⟩
            go_wp2_with fail
            go_roundw
            case rel => exact ⟨k + 1, m + 3, _, by omega, by omega, by go_num, o2, hb.trans b2, Lib.hid (by rw [HD.out, HT.out, HO.out]), Lib.hid (fun hp => absurd hp (by decide))⟩
            case measure => simp [intOf]; omega
          · have HO : Hid (one8 3 (zs.getD k 0) = []) := Lib.hid (by rw [HX.out, one8, HS.out]; rfl)
            go_wp2_with fail
            refine (scalar_x HS.out _).mono ?_
            rintro e w' ⟨rfl, rfl⟩
            go_wp2_with fail
            go_roundw
            case rel => exact ⟨k + 1, m, done, by omega, by omega, by go_num, ho, hb, Lib.hid (by rw [HT.out, HO.out, List.append_nil]; exact HD.out), Lib.hid (fun hp => absurd hp (by decide))⟩
            case measure => simp [intOf]; omega
          · have HO : Hid (one8 4 (zs.getD k 0) = esc x) := Lib.hid (by rw [HX.out, one8, HS.out]; rfl)
            obtain ⟨t, hte⟩ : ∃ t, t = (⟨#[92, 117, 123]⟩ : ByteArray) ++ bytesOf (hexL x) ++ (⟨#[125]⟩ : ByteArray) := ⟨_, rfl⟩
            have HTE := Lib.hid hte
            have HES : Hid (strInts t = esc x) := Lib.hid (by rw [hte, esc_str])
            obtain ⟨q, hq⟩ : ∃ q, (esc x).length = q := ⟨_, rfl⟩
            have HQ : Hid (t.size = q) := Lib.hid (by rw [← hq, ← HES.out, strInts_len])
            have hq10 : q ≤ 10 := by rw [← hq]; exact esc_len x
            have hls : (bytesOf (hexL x)).size ≤ 6 := by rw [bytesOf_size]; exact hexL_len x
            clear hte hq
            go_wp2_with fail
            refine (scalar_x HS.out _).mono ?_
            rintro e w' ⟨rfl, rfl⟩
            go_wp2_with fail
            refine (hex_any x _ tr).mono ?_
            rintro e w1 ⟨rfl, b1⟩
            have ho1 := ho.below b1
            have b1s := b1.size
            have hb1 := hb.trans (b1.mono hbs)
            have hb1s := hb1.size
            go_wp2_with (at_builtin; refine wpList_append_str rfl (.tmp 36) (.tmp 40) rfl W.heap.size u6 m done rfl ho1 t (by rw [HTE.out]; rfl) q HQ.out (m + q) rfl (done ++ esc x) (by rw [HES.out]) (by omega) hb1s ?_; intro v2 w2 o2 b2)
            go_roundw
            case rel => exact ⟨k + 1, m + q, _, by omega, by omega, by go_num, o2, hb1.trans b2, Lib.hid (by rw [HD.out, HT.out, HO.out]), Lib.hid (fun hp => absurd hp (by decide))⟩
            case measure => simp [intOf]; omega
        · have HS := Lib.hid hs
          have HAN : Hid (p = 1 → ∀ j, j < k + 1 → isScalar (zs.getD j 0) = true) := Lib.hid (fun hp j hj => by
            rcases Nat.lt_or_ge j k with h | h
            · exact HA.out hp j h
            · obtain rfl : j = k := by omega
              rw [HX.out]; exact HS.out)
          have HO : Hid (one8 p (zs.getD k 0) = form8 x) := Lib.hid (by rw [HX.out, one8, HS.out]; rfl)
          obtain ⟨q, hq⟩ : ∃ q, (form8 x).length = q := ⟨_, rfl⟩
          have HQ := Lib.hid hq
          have hq4 : q ≤ 4 := by rw [← hq]; exact (form8_len x).2
          clear hs hq
          go_wp2_with fail
          refine (scalar_x HS.out _).mono ?_
          rintro e w' ⟨rfl, rfl⟩
          go_wp2_with fail
          refine (app_form (k := m + q) HS.out rfl (by rw [HQ.out]) (by omega) _ ho hbs).mono ?_
          rintro e w2 ⟨v2, rfl, o2, b2⟩
          go_wp2_with fail
          go_roundw
          case rel => exact ⟨k + 1, m + q, _, by omega, by omega, by go_num, o2, hb.trans b2, Lib.hid (by rw [HD.out, HT.out, HO.out]), HAN⟩
          case measure => simp [intOf]; omega
      · obtain rfl : k = n := by omega
        have HE : Hid (encR p zs = (done, 0, 0)) := Lib.hid (by
          have e : zs.take k = zs := List.take_of_length_le (by rw [← HC.out]; exact Nat.le_refl _)
          rw [HD.out, e, encR, if_pos HK.out, if_neg]
          rintro ⟨hp, hlt⟩
          have := bad_none (fun j hj => HA.out hp j (by rw [HC.out]; exact hj))
          omega)
        have g1 := (hb.block w.heap.size sW).trans GW.out
        obtain ⟨⟨y0, y1⟩, f0, f1⟩ := box2 g1
        have t1 := bW.trans (hb.mono (Nat.le_of_lt sW))
        obtain ⟨E, g, rfl, hl, hf⟩ := ho.sl_from
        have hcv := conv_bytes hl
        go_wp2_with fail
        rw [HE.out]
        exact bodyPost_ret (v := .tuple #[.string (strOfNums done), .agg #[.int .i64 0, .int .i64 0]]) (by simp [results, Tryd.results11, go_sem, y0, y1]) rfl ⟨rfl, (t1.setCell (by simp) _).setCell (by simp) _⟩
end Go.Proofs.YtpckedihdmibmaaDoor.U8
