/-
  The contract of the reference's Encode of layer 4, for every slice of ints of bounded length.
-/
import Derived.Test.YtjfhhcaikapfiaaDoorUxRefA
import Derived.Test.YtjfhhcaikapfiaaDoorUxProgB
namespace Go.Proofs.YtjfhhcaikapfiaaDoor.Ux
open Go.RowKit
set_option linter.unusedVariables false

set_option maxRecDepth 100000 in
set_option maxHeartbeats 2000000 in
theorem ref_encode_any (A : Option Addr) (n c : Nat) (zs : List Int) (p : Int) (w : World) (h : Sl w A n c 1 (ints zs)) (hn : n ≤ 5000) :
    Calls Tryd.prog 12 #[.slice A n c, .int .i64 p] w (ListFault (encR p zs).1 (encR p zs).2.1 (encR p zs).2.2 w) := by
  have hcap := h.cap
  have hmax := h.max
  have HC := Lib.hid h.count
  obtain ⟨W, hW⟩ : ∃ W, W = w.alloc (.cells #[.int .i64 0, .int .i64 0] 26) := ⟨_, rfl⟩
  have bW : Below w.heap.size w W := by rw [hW]; exact (Below.refl _ _).alloc (Nat.le_refl _) _
  have gW : W.heap[w.heap.size]? = some (.cells #[.int .i64 0, .int .i64 0] 26 (0, 0)) := by rw [hW]; exact heap_alloc_new w _
  have sW : w.heap.size < W.heap.size := by rw [hW]; simp
  have hxW := h.keep bW
  have HW := Lib.hid hW
  have GW := Lib.hid gW
  clear hW gW
  rcases hk : known p with _ | _
  · have HE : Hid (encR p zs = ([], 8, 0)) := Lib.hid (by rw [encR, hk]; rfl)
    have HK := Lib.hid hk
    clear hk
    go_enter Tryd.func12, Tryd.ntmps12
    go_wp2_with fail
    refine (ref_known_x HK.out _).mono ?_
    rintro e w' ⟨rfl, rfl⟩
    go_wp2_with fail
    rw [HE.out]
    exact bodyPost_ret (v := .tuple #[.slice none 0 0, .agg #[.int .i64 8, .int .i64 0]]) (by simp [results, Tryd.results12, go_sem]) rfl ⟨none, 0, 0, rfl, Sl.nil _ _, (Below.refl _ _).alloc (Nat.le_refl _) _⟩
  · have HK := Lib.hid hk
    have hkp : 1 ≤ p ∧ p ≤ 4 := by simpa [known] using hk
    clear hk
    go_enter Tryd.func12, Tryd.ntmps12
    go_wp2_with fail
    refine (ref_known_x HK.out _).mono ?_
    rintro e w' ⟨rfl, rfl⟩
    go_wp2_with fail
    go_loopw [6, 7] (fun v i wr => ∃ (k m : Nat) (done : List Int), k ≤ n ∧ m ≤ 10 * k ∧ i = .int .i64 k ∧ Own wr W.heap.size 3 1 v m (ints done) ∧ Below W.heap.size W wr ∧ Hid (done = encL p (zs.take k)) ∧ Hid (p = 1 → ∀ j, j < k → isScalar (zs.getD j 0) = true)) (fun _ i _ => n - (intOf i).toNat)
    case atStart => exact ⟨0, 0, [], by omega, by omega, rfl, Own.nil _ _ _ _, by rw [HW.out]; exact Below.refl _ _, Lib.hid (by simp [encL]), Lib.hid (fun _ j hj => by omega)⟩
    case round =>
      obtain ⟨k, m, done, hkn, hm, rfl, ho, hb, HD, HA⟩ := hrel
      have hbs := hb.size
      have hxr := hxW.keep hb
      by_cases hlt : k < n
      · have hkz : k < zs.length := by rw [← HC.out]; exact hlt
        obtain ⟨b, off, rfl, _, hcell⟩ := hxr.int_at hlt
        obtain ⟨x, hx⟩ : ∃ x, zs.getD k 0 = x := ⟨_, rfl⟩
        have HT := Lib.hid (enc_take (p := p) hkz)
        have HX := Lib.hid hx
        rw [hx] at hcell
        clear hx
        rcases hs : isScalar x with _ | _
        · have HS := Lib.hid hs
          clear hs
          have hp4 : p = 1 ∨ p = 2 ∨ p = 3 ∨ p = 4 := by omega
          rcases hp4 with rfl | rfl | rfl | rfl
          · have HB : Hid (encR 1 zs = ([], 9, (k : Int))) := Lib.hid (by
              have hb := bad_take hkz (HA.out rfl) (by rw [HX.out]; exact HS.out)
              rw [encR, if_pos HK.out, if_pos ⟨rfl, by rw [hb]; exact hkz⟩, hb])
            have g1 := (hb.block w.heap.size sW).trans GW.out
            obtain ⟨⟨y0, y1⟩, f0, f1⟩ := box2 g1
            have t1 := bW.trans (hb.mono (Nat.le_of_lt sW))
            go_wp2_with fail
            refine (ref_scalar_x HS.out _).mono ?_
            rintro e w' ⟨rfl, rfl⟩
            go_wp2_with fail
            rw [HB.out]
            exact bodyPost_ret (v := .tuple #[.slice none 0 0, .agg #[.int .i64 9, .int .i64 k]]) (by simp [results, Tryd.results12, go_sem, y0, y1]) rfl ⟨none, 0, 0, rfl, Sl.nil _ _, (t1.setCell (by simp) _).setCell (by simp) _⟩
          · have HO : Hid (one 2 (zs.getD k 0) = [65533]) := Lib.hid (by rw [HX.out, one, HS.out]; rfl)
            go_wp2_with (first
              | (go_at_call 26; refine (ref_scalar_x HS.out _).mono ?_; rintro e w' ⟨rfl, rfl⟩)
              | (at_builtin; refine wpList_append_ints rfl (.tmp 37) (.tmp 38) rfl W.heap.size u6 m done rfl (ho.alloc _) _ 1 1 [65533] rfl (Sl.built wr 3 1 1 _ rfl (by unfold maxLen; omega)) (m + 1) rfl (done ++ [65533]) rfl (by omega) (by simp; omega) ?_; intro v2 w2 o2 b2))
            have hb2 := (hb.alloc hbs _).trans b2
            go_roundw
            case rel => exact ⟨k + 1, m + 1, done ++ [65533], by omega, by omega, by go_num, o2, hb2, Lib.hid (by rw [HD.out, HT.out, HO.out]), Lib.hid (fun hp => absurd hp (by decide))⟩
            case measure => simp [intOf]; omega
          · have HO : Hid (one 3 (zs.getD k 0) = []) := Lib.hid (by rw [HX.out, one, HS.out]; rfl)
            go_wp2_with (go_at_call 26; refine (ref_scalar_x HS.out _).mono ?_; rintro e w' ⟨rfl, rfl⟩)
            go_roundw
            case rel => exact ⟨k + 1, m, done, by omega, by omega, by go_num, ho, hb, Lib.hid (by rw [HT.out, HO.out, List.append_nil]; exact HD.out), Lib.hid (fun hp => absurd hp (by decide))⟩
            case measure => simp [intOf]; omega
          · have HO : Hid (one 4 (zs.getD k 0) = esc x) := Lib.hid (by rw [HX.out, one, HS.out]; rfl)
            have hel := esc_len x
            go_wp2_with fail
            refine (ref_scalar_x HS.out _).mono ?_
            rintro e w' ⟨rfl, rfl⟩
            go_wp2_with fail
            refine (ref_escaped_any x _).mono ?_
            rintro e w1 ⟨E, q, f, rfl, l1, b1⟩
            have hq : q ≤ 10 := by rw [l1.count]; exact hel
            have ho1 := ho.below b1
            have b1s := b1.size
            clear hel
            go_wp2_with (at_builtin; refine wpList_append_ints rfl (.tmp 42) (.tmp 47) rfl W.heap.size u6 m done rfl ho1 E q f (esc x) rfl l1 (m + q) rfl (done ++ esc x) rfl (by omega) (by omega) ?_; intro v2 w2 o2 b2)
            have hb2 := (hb.trans (b1.mono hbs)).trans b2
            go_roundw
            case rel => exact ⟨k + 1, m + q, done ++ esc x, by omega, by omega, by go_num, o2, hb2, Lib.hid (by rw [HD.out, HT.out, HO.out]), Lib.hid (fun hp => absurd hp (by decide))⟩
            case measure => simp [intOf]; omega
        · have HS := Lib.hid hs
          have HAN : Hid (p = 1 → ∀ j, j < k + 1 → isScalar (zs.getD j 0) = true) := Lib.hid (fun hp j hj => by
            rcases Nat.lt_or_ge j k with h | h
            · exact HA.out hp j h
            · obtain rfl : j = k := by omega
              rw [HX.out]; exact HS.out)
          have HO : Hid (one p (zs.getD k 0) = form x) := Lib.hid (by rw [HX.out, one, HS.out]; rfl)
          have hfl := form_len x
          clear hs
          go_wp2_with fail
          refine (ref_scalar_x HS.out _).mono ?_
          rintro e w' ⟨rfl, rfl⟩
          go_wp2_with fail
          refine (ref_form_any HS.out _).mono ?_
          rintro e w1 ⟨E, q, f, rfl, l1, b1⟩
          have hq : q ≤ 2 := by rw [l1.count]; exact hfl
          have ho1 := ho.below b1
          have b1s := b1.size
          clear hfl
          go_wp2_with (at_builtin; refine wpList_append_ints rfl (.tmp 23) (.tmp 28) rfl W.heap.size u6 m done rfl ho1 E q f (form x) rfl l1 (m + q) rfl (done ++ form x) rfl (by omega) (by omega) ?_; intro v2 w2 o2 b2)
          have hb2 := (hb.trans (b1.mono hbs)).trans b2
          go_roundw
          case rel => exact ⟨k + 1, m + q, done ++ form x, by omega, by omega, by go_num, o2, hb2, Lib.hid (by rw [HD.out, HT.out, HO.out]), HAN⟩
          case measure => simp [intOf]; omega
      · obtain rfl : k = n := by omega
        have HE : Hid (encR p zs = (done, 0, 0)) := Lib.hid (by
          have e : zs.take k = zs := List.take_of_length_le (by rw [← HC.out]; exact Nat.le_refl _)
          rw [HD.out, e, encR, if_pos HK.out, if_neg]
          rintro ⟨hp, hlt⟩
          have := bad_none (fun j hj => HA.out hp j (by rw [HC.out]; exact hj))
          omega)
        have g1 := (hb.block w.heap.size sW).trans GW.out
        obtain ⟨⟨y0, y1⟩, f0, f1⟩ := box2 g1
        have t1 := bW.trans (hb.mono (Nat.le_of_lt sW))
        obtain ⟨E, g, rfl, hl, hf⟩ := ho.sl_from
        go_wp2_with fail
        rw [HE.out]
        refine bodyPost_ret (v := .tuple #[.slice E m g, .agg #[.int .i64 0, .int .i64 0]]) (by simp [results, Tryd.results12, go_sem, y0, y1]) rfl ⟨E, m, g, rfl, ?_, (t1.setCell (by simp) _).setCell (by simp) _⟩
        exact (hl.setCell hf sW _).setCell hf sW _
end Go.Proofs.YtjfhhcaikapfiaaDoor.Ux
