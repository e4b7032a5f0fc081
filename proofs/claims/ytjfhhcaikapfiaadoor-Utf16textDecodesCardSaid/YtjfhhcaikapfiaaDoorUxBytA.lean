/-
  The contract of Bytes of package utf16text, for every slice of ints of bounded length.
-/
import Derived.Test.YtjfhhcaikapfiaaDoorUxByt
namespace Go.Proofs.YtjfhhcaikapfiaaDoor.Ux
open Go.RowKit
set_option linter.unusedVariables false

theorem good_iff {u : Int} : good u = true ↔ 0 ≤ u ∧ u ≤ 65535 := by unfold good; rw [decide_eq_true_iff]
theorem good_not {u : Int} : good u = false ↔ u < 0 ∨ 65535 < u := by unfold good; rw [decide_eq_false_iff_not]; omega

set_option maxRecDepth 100000 in
set_option maxHeartbeats 1000000 in
theorem bytes_false (A : Option Addr) (n c : Nat) (zs : List Int) (big : Bool) (w : World) (h : Sl w A n c 1 (ints zs)) (hn : n ≤ 5000) :
    Calls Tryd.prog 16 #[.slice A n c, .bool big, .bool false] w (StrFault (strOfNums (bytesR zs big false).1) (bytesR zs big false).2.1 (bytesR zs big false).2.2 w) := by
  have hcap := h.cap
  have hmax := h.max
  have HC := Lib.hid h.count
  obtain ⟨W, hW⟩ : ∃ W, W = w.alloc (.cells #[.int .i64 0, .int .i64 0] 26) := ⟨_, rfl⟩
  have bW : Below w.heap.size w W := by rw [hW]; exact (Below.refl _ _).alloc (Nat.le_refl _) _
  have gW : W.heap[w.heap.size]? = some (.cells #[.int .i64 0, .int .i64 0] 26 (0, 0)) := by rw [hW]; exact heap_alloc_new w _
  have sW : w.heap.size < W.heap.size := by rw [hW]; simp
  have hxW := h.keep bW
  have HW := Lib.hid hW
  have GW := Lib.hid gW
  clear hW gW
  go_enter Tryd.func16, Tryd.ntmps16
  go_wp2_with fail
  go_loopw [8, 17] (fun v i wr => ∃ (k m : Nat) (done : List Int), k ≤ n ∧ m ≤ 0 + 2 * k ∧ i = .int .i64 k ∧ Own wr W.heap.size 5 1 v m (bys done) ∧ Below W.heap.size W wr ∧ Hid (done = markL big false ++ bytesL (zs.take k) big) ∧ Hid (∀ j, j < k → good (zs.getD j 0) = true)) (fun _ i _ => n - (intOf i).toNat)
  case atStart => exact ⟨0, 0, [], by omega, by omega, rfl, Own.nil _ _ _ _, by rw [HW.out]; exact Below.refl _ _, Lib.hid (by simp [bytesL, markL]), Lib.hid (fun j hj => by omega)⟩
  case round =>
    obtain ⟨k, m, done, hkn, hm, rfl, ho, hb, HD, HA⟩ := hrel
    have hbs := hb.size
    have hxr := hxW.keep hb
    have g1 := (hb.block w.heap.size sW).trans GW.out
    have t1 := bW.trans (hb.mono (Nat.le_of_lt sW))
    by_cases hlt : k < n
    · have hkz : k < zs.length := by rw [← HC.out]; exact hlt
      obtain ⟨b, off, rfl, _, hcell⟩ := hxr.int_at hlt
      obtain ⟨x, hx⟩ : ∃ x, zs.getD k 0 = x := ⟨_, rfl⟩
      have HX := Lib.hid hx
      rw [hx] at hcell
      clear hx
      rcases hg : good x with _ | _
      · have HB : Hid (bytesR zs big false = ([], 1, (k : Int))) := Lib.hid (by
          have hb := badB_take hkz HA.out (by rw [HX.out]; exact hg)
          rw [bytesR, if_pos (by rw [hb]; exact hkz), hb])
        have hg2 := good_not.1 hg
        clear hg
        obtain ⟨⟨y0, y1⟩, f0, f1⟩ := box2 g1
        have hg3 : x < 0 ∨ (0 ≤ x ∧ 65535 < x) := by omega
        clear hg2
        rcases hg3 with h1 | ⟨h1, h2⟩
        all_goals
          go_wp2_with fail
          rw [HB.out]
          exact bodyPost_ret (v := .tuple #[.string ⟨#[]⟩, .agg #[.int .i64 1, .int .i64 k]]) (by simp [results, Tryd.results16, go_sem, y0, y1]) rfl ⟨rfl, (t1.setCell (by simp) _).setCell (by simp) _⟩
      · obtain ⟨h1, h2⟩ := good_iff.1 hg
        have HT := Lib.hid (bytesL_take (big := big) hkz)
        have HAN : Hid (∀ j, j < k + 1 → good (zs.getD j 0) = true) := Lib.hid (fun j hj => by
          rcases Nat.lt_or_ge j k with h | h
          · exact HA.out j h
          · obtain rfl : j = k := by omega
            rw [HX.out]; exact hg)
        clear hg g1
        go_wp2_with fail
        refine (app_any h1 h2 rfl rfl (by omega) _ ho hbs).mono ?_
        rintro e w1 ⟨v1, rfl, o1, b1⟩
        go_wp2_with fail
        go_roundw
        case rel => exact ⟨k + 1, m + 2, _, by omega, by omega, by go_num, o1, hb.trans b1, Lib.hid (by rw [HD.out, HT.out, HX.out, List.append_assoc]), HAN⟩
        case measure => simp [intOf]; omega
    · obtain rfl : k = n := by omega
      have HE : Hid (bytesR zs big false = (done, 0, 0)) := Lib.hid (by
        have e : zs.take k = zs := List.take_of_length_le (by rw [← HC.out]; exact Nat.le_refl _)
        rw [HD.out, e, bytesR, if_neg]
        rw [badB_none (fun j hj => HA.out j (by rw [HC.out]; exact hj))]
        omega)
      obtain ⟨⟨y0, y1⟩, f0, f1⟩ := box2 g1
      obtain ⟨E, g, rfl, hl, hf⟩ := ho.sl_from
      have hcv := conv_bytes hl
      go_wp2_with fail
      rw [HE.out]
      exact bodyPost_ret (v := .tuple #[.string (strOfNums done), .agg #[.int .i64 0, .int .i64 0]]) (by simp [results, Tryd.results16, go_sem, y0, y1]) rfl ⟨rfl, (t1.setCell (by simp) _).setCell (by simp) _⟩

set_option maxRecDepth 100000 in
set_option maxHeartbeats 1000000 in
theorem bytes_true (A : Option Addr) (n c : Nat) (zs : List Int) (big : Bool) (w : World) (h : Sl w A n c 1 (ints zs)) (hn : n ≤ 5000) :
    Calls Tryd.prog 16 #[.slice A n c, .bool big, .bool true] w (StrFault (strOfNums (bytesR zs big true).1) (bytesR zs big true).2.1 (bytesR zs big true).2.2 w) := by
  have hcap := h.cap
  have hmax := h.max
  have HC := Lib.hid h.count
  obtain ⟨W, hW⟩ : ∃ W, W = w.alloc (.cells #[.int .i64 0, .int .i64 0] 26) := ⟨_, rfl⟩
  have bW : Below w.heap.size w W := by rw [hW]; exact (Below.refl _ _).alloc (Nat.le_refl _) _
  have gW : W.heap[w.heap.size]? = some (.cells #[.int .i64 0, .int .i64 0] 26 (0, 0)) := by rw [hW]; exact heap_alloc_new w _
  have sW : w.heap.size < W.heap.size := by rw [hW]; simp
  have hxW := h.keep bW
  have HW := Lib.hid hW
  have GW := Lib.hid gW
  clear hW gW
  go_enter Tryd.func16, Tryd.ntmps16
  go_wp2_with fail
  refine (app_any (u := 65279) (base := W.heap.size) (n := 0) (xs := []) (by omega) (by omega) rfl rfl (by omega) _ (Own.nil _ _ _ _) (by rw [HW.out]; exact Nat.le_refl _)).mono ?_
  rintro e w0 ⟨v0, rfl, o0, b0⟩
  have b0W : Below W.heap.size W w0 := by rw [HW.out] at b0 ⊢; exact b0
  clear b0
  go_wp2_with fail
  go_loopw [8, 17] (fun v i wr => ∃ (k m : Nat) (done : List Int), k ≤ n ∧ m ≤ 2 + 2 * k ∧ i = .int .i64 k ∧ Own wr W.heap.size 5 1 v m (bys done) ∧ Below W.heap.size W wr ∧ Hid (done = markL big true ++ bytesL (zs.take k) big) ∧ Hid (∀ j, j < k → good (zs.getD j 0) = true)) (fun _ i _ => n - (intOf i).toNat)
  case atStart => exact ⟨0, 2, _, by omega, by omega, rfl, o0, b0W, Lib.hid (by simp [bytesL, markL]), Lib.hid (fun j hj => by omega)⟩
  case round =>
    obtain ⟨k, m, done, hkn, hm, rfl, ho, hb, HD, HA⟩ := hrel
    have hbs := hb.size
    have hxr := hxW.keep hb
    have g1 := (hb.block w.heap.size sW).trans GW.out
    have t1 := bW.trans (hb.mono (Nat.le_of_lt sW))
    by_cases hlt : k < n
    · have hkz : k < zs.length := by rw [← HC.out]; exact hlt
      obtain ⟨b, off, rfl, _, hcell⟩ := hxr.int_at hlt
      obtain ⟨x, hx⟩ : ∃ x, zs.getD k 0 = x := ⟨_, rfl⟩
      have HX := Lib.hid hx
      rw [hx] at hcell
      clear hx
      rcases hg : good x with _ | _
      · have HB : Hid (bytesR zs big true = ([], 1, (k : Int))) := Lib.hid (by
          have hb := badB_take hkz HA.out (by rw [HX.out]; exact hg)
          rw [bytesR, if_pos (by rw [hb]; exact hkz), hb])
        have hg2 := good_not.1 hg
        clear hg
        obtain ⟨⟨y0, y1⟩, f0, f1⟩ := box2 g1
        have hg3 : x < 0 ∨ (0 ≤ x ∧ 65535 < x) := by omega
        clear hg2
        rcases hg3 with h1 | ⟨h1, h2⟩
        all_goals
          go_wp2_with fail
          rw [HB.out]
          exact bodyPost_ret (v := .tuple #[.string ⟨#[]⟩, .agg #[.int .i64 1, .int .i64 k]]) (by simp [results, Tryd.results16, go_sem, y0, y1]) rfl ⟨rfl, (t1.setCell (by simp) _).setCell (by simp) _⟩
      · obtain ⟨h1, h2⟩ := good_iff.1 hg
        have HT := Lib.hid (bytesL_take (big := big) hkz)
        have HAN : Hid (∀ j, j < k + 1 → good (zs.getD j 0) = true) := Lib.hid (fun j hj => by
          rcases Nat.lt_or_ge j k with h | h
          · exact HA.out j h
          · obtain rfl : j = k := by omega
            rw [HX.out]; exact hg)
        clear hg g1
        go_wp2_with fail
        refine (app_any h1 h2 rfl rfl (by omega) _ ho hbs).mono ?_
        rintro e w1 ⟨v1, rfl, o1, b1⟩
        go_wp2_with fail
        go_roundw
        case rel => exact ⟨k + 1, m + 2, _, by omega, by omega, by go_num, o1, hb.trans b1, Lib.hid (by rw [HD.out, HT.out, HX.out, List.append_assoc]), HAN⟩
        case measure => simp [intOf]; omega
    · obtain rfl : k = n := by omega
      have HE : Hid (bytesR zs big true = (done, 0, 0)) := Lib.hid (by
        have e : zs.take k = zs := List.take_of_length_le (by rw [← HC.out]; exact Nat.le_refl _)
        rw [HD.out, e, bytesR, if_neg]
        rw [badB_none (fun j hj => HA.out j (by rw [HC.out]; exact hj))]
        omega)
      obtain ⟨⟨y0, y1⟩, f0, f1⟩ := box2 g1
      obtain ⟨E, g, rfl, hl, hf⟩ := ho.sl_from
      have hcv := conv_bytes hl
      go_wp2_with fail
      rw [HE.out]
      exact bodyPost_ret (v := .tuple #[.string (strOfNums done), .agg #[.int .i64 0, .int .i64 0]]) (by simp [results, Tryd.results16, go_sem, y0, y1]) rfl ⟨rfl, (t1.setCell (by simp) _).setCell (by simp) _⟩

theorem bytes_any (A : Option Addr) (n c : Nat) (zs : List Int) (big mark : Bool) (w : World) (h : Sl w A n c 1 (ints zs)) (hn : n ≤ 5000) :
    Calls Tryd.prog 16 #[.slice A n c, .bool big, .bool mark] w (StrFault (strOfNums (bytesR zs big mark).1) (bytesR zs big mark).2.1 (bytesR zs big mark).2.2 w) := by
  cases mark
  · exact bytes_false A n c zs big w h hn
  · exact bytes_true A n c zs big w h hn
end Go.Proofs.YtjfhhcaikapfiaaDoor.Ux
