/-
  The contract of Units of package utf16text, for every string of bounded length.
-/
import Derived.Test.YtjfhhcaikapfiaaDoorUxByt
import Derived.Test.YtjfhhcaikapfiaaDoorUxProgD
namespace Go.Proofs.YtjfhhcaikapfiaaDoor.Ux
open Go.RowKit
set_option linter.unusedVariables false

theorem unitsR_odd {l : List Int} (h : l.length % 2 = 1) (big : Bool) : unitsR l big = ([], false, 9, (l.length : Int) - 1) := by rw [unitsR, if_pos h]
theorem unitsR_nil (big : Bool) : unitsR [] big = ([], big, 0, 0) := by rw [unitsR]; simp [rd]
theorem unitsR_other {l : List Int} (h : l.length % 2 = 0) (h1 : 1 < l.length) {big : Bool} (hv : val (l.getD 0 0) (l.getD 1 0) big = 65534) : unitsR l big = (rd (!big) (l.drop 2), !big, 0, 0) := by
  rw [unitsR, if_neg (by omega), if_pos (by rw [rd_head h1, hv]), rd_drop]
theorem unitsR_mark {l : List Int} (h : l.length % 2 = 0) (h1 : 1 < l.length) {big : Bool} (hv : val (l.getD 0 0) (l.getD 1 0) big = 65279) : unitsR l big = (rd big (l.drop 2), big, 0, 0) := by
  rw [unitsR, if_neg (by omega), if_neg (by rw [rd_head h1, hv]; decide), if_pos (by rw [rd_head h1, hv]), rd_drop]
theorem unitsR_plain {l : List Int} (h : l.length % 2 = 0) (h1 : 1 < l.length) {big : Bool} (hv : val (l.getD 0 0) (l.getD 1 0) big ≠ 65534) (hw : val (l.getD 0 0) (l.getD 1 0) big ≠ 65279) : unitsR l big = (rd big l, big, 0, 0) := by
  rw [unitsR, if_neg (by omega), if_neg (by rw [rd_head h1]; simpa using hv), if_neg (by rw [rd_head h1]; simpa using hw)]
theorem strInts_drop (s : ByteArray) (k : Nat) : strInts (s.extract k s.size) = (strInts s).drop k := by
  simp only [strInts, ByteArray.data_extract, Array.toList_extract, List.extract, List.map_take, List.map_drop]
  exact List.take_of_length_le (by simp)
theorem str_some {s : ByteArray} (h : 0 < s.size) : s.toList.isEmpty = false := by
  rw [ByteArray.toList_eq]
  cases hl : s.data.toList with
  | nil => exfalso; have : s.data.toList.length = s.size := by simp
           rw [hl] at this; simp at this; omega
  | cons _ _ => rfl
/-- The call returns a list of ints, a Bool and a fault, all old memory as it was. -/
def UnitsRes (zs : List Int) (b : Bool) (r a : Int) (w : World) (e : Ending) (w' : World) : Prop :=
  ∃ A n c, e = .returned (.tuple #[.slice A n c, .bool b, .agg #[.int .i64 r, .int .i64 a]]) ∧ Sl w' A n c 1 (ints zs) ∧ Below w.heap.size w w'

theorem str_none {s : ByteArray} (h : s.size = 0) : s.toList.isEmpty = true := by
  rw [ByteArray.toList_eq]
  have : s.data.toList.length = 0 := by simpa using h
  rw [List.eq_nil_of_length_eq_zero this]
  rfl

set_option maxRecDepth 100000 in
set_option maxHeartbeats 2000000 in
theorem units_empty (s : ByteArray) (big : Bool) (w : World) (h0 : s.size = 0) : Calls Tryd.prog 18 #[.string s, .bool big] w (UnitsRes (unitsR (strInts s) big).1 (unitsR (strInts s) big).2.1 (unitsR (strInts s) big).2.2.1 (unitsR (strInts s) big).2.2.2 w) := by
  have HL := Lib.hid (strInts_len s)
  obtain ⟨W, hW⟩ : ∃ W, W = w.alloc (.cells #[.int .i64 0, .int .i64 0] 26) := ⟨_, rfl⟩
  have bW : Below w.heap.size w W := by rw [hW]; exact (Below.refl _ _).alloc (Nat.le_refl _) _
  have gW : W.heap[w.heap.size]? = some (.cells #[.int .i64 0, .int .i64 0] 26 (0, 0)) := by rw [hW]; exact heap_alloc_new w _
  have sW : w.heap.size < W.heap.size := by rw [hW]; simp
  have HW := Lib.hid hW
  have GW := Lib.hid gW
  clear hW gW
  have HE : Hid (unitsR (strInts s) big = (rd big (strInts s), big, 0, 0)) := Lib.hid (by
    have : strInts s = [] := List.eq_nil_of_length_eq_zero (by rw [HL.out]; exact h0)
    rw [this]; exact unitsR_nil big)
  have hemp := str_none h0
  have m2 : (s.size : Int) % 2 = 0 := by omega
  have H2 : Hid (s.size % 2 = 0) := Lib.hid (by omega)
  go_enter Tryd.func18, Tryd.ntmps18
  go_wp2_with fail
  clear m2 hemp
  go_loopw [7, 8] (fun v i wr => ∃ (k m : Nat) (done : List Int), Hid (k = 2 * m) ∧ m ≤ k ∧ k ≤ s.size ∧ i = .int .i64 k ∧ Own wr W.heap.size 3 1 v m (ints done) ∧ Below W.heap.size W wr ∧ Hid (rd big (strInts s) = done ++ rd big ((strInts s).drop k))) (fun _ i _ => s.size - (intOf i).toNat)
  case atStart => exact ⟨0, 0, [], Lib.hid rfl, by omega, by omega, rfl, Own.nil _ _ _ _, by rw [HW.out]; exact Below.refl _ _, Lib.hid rfl⟩
  case round =>
    obtain ⟨k, m, done, HK, hmk, hkn, rfl, ho, hb, HD⟩ := hrel
    have hbs := hb.size
    by_cases hlt : k < s.size
    · exfalso; omega
    · have HF : Hid (rd big (strInts s) = done) := Lib.hid (by rw [HD.out, rd_end (by rw [strInts_len]; omega), List.append_nil])
      have g1 := (hb.block w.heap.size sW).trans GW.out
      obtain ⟨⟨y0, y1⟩, f0, f1⟩ := box2 g1
      have t1 := bW.trans (hb.mono (Nat.le_of_lt sW))
      obtain ⟨E, g, rfl, hl, hf⟩ := ho.sl_from
      obtain rfl : k = s.size := by omega
      go_wp2_with fail
      rw [HE.out, HF.out]
      refine bodyPost_ret (v := .tuple #[.slice E m g, .bool big, .agg #[.int .i64 0, .int .i64 0]]) (by simp [results, Tryd.results18, go_sem, y0, y1]) rfl ⟨E, m, g, rfl, ?_, (t1.setCell (by simp) _).setCell (by simp) _⟩
      exact (hl.setCell hf sW _).setCell hf sW _

set_option maxRecDepth 100000 in
set_option maxHeartbeats 2000000 in
theorem units_other (s : ByteArray) (big : Bool) (w : World) (h1 : 1 < s.size) (h2 : s.size % 2 = 0) (hn : s.size ≤ 10000) (hv : val ((strInts s).getD 0 0) ((strInts s).getD 1 0) big = 65534) : Calls Tryd.prog 18 #[.string s, .bool big] w (UnitsRes (unitsR (strInts s) big).1 (unitsR (strInts s) big).2.1 (unitsR (strInts s) big).2.2.1 (unitsR (strInts s) big).2.2.2 w) := by
  have HL := Lib.hid (strInts_len s)
  obtain ⟨W, hW⟩ : ∃ W, W = w.alloc (.cells #[.int .i64 0, .int .i64 0] 26) := ⟨_, rfl⟩
  have bW : Below w.heap.size w W := by rw [hW]; exact (Below.refl _ _).alloc (Nat.le_refl _) _
  have gW : W.heap[w.heap.size]? = some (.cells #[.int .i64 0, .int .i64 0] 26 (0, 0)) := by rw [hW]; exact heap_alloc_new w _
  have sW : w.heap.size < W.heap.size := by rw [hW]; simp
  have HW := Lib.hid hW
  have GW := Lib.hid gW
  clear hW gW
  have HI : Hid (1 < (strInts s).length) := Lib.hid (by rw [HL.out]; exact h1)
  have HM : Hid ((strInts s).length % 2 = 0) := Lib.hid (by rw [HL.out]; exact h2)
  have m2 : (s.size : Int) % 2 = 0 := by omega
  have hne := str_some (s := s) (by omega)
  have H2s := Lib.hid h2
  clear h2
  have HV := Lib.hid hv
  obtain ⟨s2, hs2⟩ : ∃ s2, s2 = s.extract 2 s.size := ⟨_, rfl⟩
  have hz2 : s2.size = s.size - 2 := by rw [hs2, ByteArray.size_extract]; omega
  have HS2 := Lib.hid hs2
  obtain ⟨b2, hb2⟩ : ∃ b2, b2 = !big := ⟨_, rfl⟩
  have HB2 := Lib.hid hb2
  have H2 : Hid (s2.size % 2 = 0) := Lib.hid (by have := H2s.out; omega)
  have HE : Hid (unitsR (strInts s) big = (rd b2 (strInts s2), b2, 0, 0)) := Lib.hid (by rw [unitsR_other HM.out HI.out hv, HS2.out, strInts_drop, HB2.out])
  clear hs2 hb2 hv
  go_enter Tryd.func18, Tryd.ntmps18
  go_wp2_with fail
  refine (uat_any (k := 0) (by omega) (by omega) HV.out _).mono ?_
  rintro e w0 ⟨rfl, hd0⟩
  have b0 : Below W.heap.size W w0 := by rw [HW.out]; exact hd0.below _
  go_wp2_with fail
  clear m2 hne
  rw [← HS2.out, ← HB2.out]
  go_loopw [7, 8] (fun v i wr => ∃ (k m : Nat) (done : List Int), Hid (k = 2 * m) ∧ m ≤ k ∧ k ≤ s2.size ∧ i = .int .i64 k ∧ Own wr W.heap.size 3 1 v m (ints done) ∧ Below W.heap.size W wr ∧ Hid (rd b2 (strInts s2) = done ++ rd b2 ((strInts s2).drop k))) (fun _ i _ => s2.size - (intOf i).toNat)
  case atStart => exact ⟨0, 0, [], Lib.hid rfl, by omega, by omega, rfl, Own.nil _ _ _ _, b0, Lib.hid rfl⟩
  case round =>
    obtain ⟨k, m, done, HK, hmk, hkn, rfl, ho, hb, HD⟩ := hrel
    have hbs := hb.size
    by_cases hlt : k < s2.size
    · have hlt2 : k + 1 < s2.size := by have := HK.out; have := H2.out; omega
      obtain ⟨x, hx⟩ : ∃ x, val ((strInts s2).getD k 0) ((strInts s2).getD (k + 1) 0) b2 = x := ⟨_, rfl⟩
      have HX := Lib.hid hx
      have HT : Hid (rd b2 ((strInts s2).drop k) = [x] ++ rd b2 ((strInts s2).drop (k + 2))) := Lib.hid (by rw [rd_step (by rw [strInts_len]; exact hlt2), hx])
      clear hx
      go_wp2_with fail
      refine (uat_any hlt2 (by omega) HX.out _).mono ?_
      rintro e w1 ⟨rfl, hd1⟩
      have ho1 := ho.drawn hd1
      have hb1 := hb.trans (hd1.below _)
      have hb1s := hb1.size
      go_wp2_with (at_builtin; refine wpList_append_ints rfl (.tmp 36) (.tmp 41) rfl W.heap.size u7 m done rfl (ho1.alloc _) _ 1 1 [x] rfl (Sl.built w1 3 1 1 _ rfl (by unfold maxLen; omega)) (m + 1) rfl (done ++ [x]) rfl (by omega) (by simp; omega) ?_; intro v2 w2 o2 b2)
      have hb2 := (hb1.alloc hb1s _).trans b2
      go_roundw
      case rel => exact ⟨k + 2, m + 1, done ++ [x], Lib.hid (by have := HK.out; omega), by omega, by omega, vint (by omega), o2, hb2, Lib.hid (by rw [HD.out, HT.out, List.append_assoc])⟩
      case measure => simp [intOf]; omega
    · have HF : Hid (rd b2 (strInts s2) = done) := Lib.hid (by rw [HD.out, rd_end (by rw [strInts_len]; omega), List.append_nil])
      have g1 := (hb.block w.heap.size sW).trans GW.out
      obtain ⟨⟨y0, y1⟩, f0, f1⟩ := box2 g1
      have t1 := bW.trans (hb.mono (Nat.le_of_lt sW))
      obtain ⟨E, g, rfl, hl, hf⟩ := ho.sl_from
      obtain rfl : k = s2.size := by omega
      go_wp2_with fail
      rw [HE.out, HF.out]
      refine bodyPost_ret (v := .tuple #[.slice E m g, .bool b2, .agg #[.int .i64 0, .int .i64 0]]) (by simp [results, Tryd.results18, go_sem, y0, y1]) rfl ⟨E, m, g, rfl, ?_, (t1.setCell (by simp) _).setCell (by simp) _⟩
      exact (hl.setCell hf sW _).setCell hf sW _

set_option maxRecDepth 100000 in
set_option maxHeartbeats 2000000 in
theorem units_mark (s : ByteArray) (big : Bool) (w : World) (h1 : 1 < s.size) (h2 : s.size % 2 = 0) (hn : s.size ≤ 10000) (hv : val ((strInts s).getD 0 0) ((strInts s).getD 1 0) big = 65279) : Calls Tryd.prog 18 #[.string s, .bool big] w (UnitsRes (unitsR (strInts s) big).1 (unitsR (strInts s) big).2.1 (unitsR (strInts s) big).2.2.1 (unitsR (strInts s) big).2.2.2 w) := by
  have HL := Lib.hid (strInts_len s)
  obtain ⟨W, hW⟩ : ∃ W, W = w.alloc (.cells #[.int .i64 0, .int .i64 0] 26) := ⟨_, rfl⟩
  have bW : Below w.heap.size w W := by rw [hW]; exact (Below.refl _ _).alloc (Nat.le_refl _) _
  have gW : W.heap[w.heap.size]? = some (.cells #[.int .i64 0, .int .i64 0] 26 (0, 0)) := by rw [hW]; exact heap_alloc_new w _
  have sW : w.heap.size < W.heap.size := by rw [hW]; simp
  have HW := Lib.hid hW
  have GW := Lib.hid gW
  clear hW gW
  have HI : Hid (1 < (strInts s).length) := Lib.hid (by rw [HL.out]; exact h1)
  have HM : Hid ((strInts s).length % 2 = 0) := Lib.hid (by rw [HL.out]; exact h2)
  have m2 : (s.size : Int) % 2 = 0 := by omega
  have hne := str_some (s := s) (by omega)
  have H2s := Lib.hid h2
  clear h2
  have HV := Lib.hid hv
  obtain ⟨s2, hs2⟩ : ∃ s2, s2 = s.extract 2 s.size := ⟨_, rfl⟩
  have hz2 : s2.size = s.size - 2 := by rw [hs2, ByteArray.size_extract]; omega
  have HS2 := Lib.hid hs2
  have H2 : Hid (s2.size % 2 = 0) := Lib.hid (by have := H2s.out; omega)
  have HE : Hid (unitsR (strInts s) big = (rd big (strInts s2), big, 0, 0)) := Lib.hid (by rw [unitsR_mark HM.out HI.out hv, HS2.out, strInts_drop])
  clear hs2 hv
  go_enter Tryd.func18, Tryd.ntmps18
  go_wp2_with fail
  refine (uat_any (k := 0) (by omega) (by omega) HV.out _).mono ?_
  rintro e w0 ⟨rfl, hd0⟩
  have b0 : Below W.heap.size W w0 := by rw [HW.out]; exact hd0.below _
  go_wp2_with fail
  clear m2 hne
  rw [← HS2.out]
  go_loopw [7, 8] (fun v i wr => ∃ (k m : Nat) (done : List Int), Hid (k = 2 * m) ∧ m ≤ k ∧ k ≤ s2.size ∧ i = .int .i64 k ∧ Own wr W.heap.size 3 1 v m (ints done) ∧ Below W.heap.size W wr ∧ Hid (rd big (strInts s2) = done ++ rd big ((strInts s2).drop k))) (fun _ i _ => s2.size - (intOf i).toNat)
  case atStart => exact ⟨0, 0, [], Lib.hid rfl, by omega, by omega, rfl, Own.nil _ _ _ _, b0, Lib.hid rfl⟩
  case round =>
    obtain ⟨k, m, done, HK, hmk, hkn, rfl, ho, hb, HD⟩ := hrel
    have hbs := hb.size
    by_cases hlt : k < s2.size
    · have hlt2 : k + 1 < s2.size := by have := HK.out; have := H2.out; omega
      obtain ⟨x, hx⟩ : ∃ x, val ((strInts s2).getD k 0) ((strInts s2).getD (k + 1) 0) big = x := ⟨_, rfl⟩
      have HX := Lib.hid hx
      have HT : Hid (rd big ((strInts s2).drop k) = [x] ++ rd big ((strInts s2).drop (k + 2))) := Lib.hid (by rw [rd_step (by rw [strInts_len]; exact hlt2), hx])
      clear hx
      go_wp2_with fail
      refine (uat_any hlt2 (by omega) HX.out _).mono ?_
      rintro e w1 ⟨rfl, hd1⟩
      have ho1 := ho.drawn hd1
      have hb1 := hb.trans (hd1.below _)
      have hb1s := hb1.size
      go_wp2_with (at_builtin; refine wpList_append_ints rfl (.tmp 36) (.tmp 41) rfl W.heap.size u7 m done rfl (ho1.alloc _) _ 1 1 [x] rfl (Sl.built w1 3 1 1 _ rfl (by unfold maxLen; omega)) (m + 1) rfl (done ++ [x]) rfl (by omega) (by simp; omega) ?_; intro v2 w2 o2 b2)
      have hb2 := (hb1.alloc hb1s _).trans b2
      go_roundw
      case rel => exact ⟨k + 2, m + 1, done ++ [x], Lib.hid (by have := HK.out; omega), by omega, by omega, vint (by omega), o2, hb2, Lib.hid (by rw [HD.out, HT.out, List.append_assoc])⟩
      case measure => simp [intOf]; omega
    · have HF : Hid (rd big (strInts s2) = done) := Lib.hid (by rw [HD.out, rd_end (by rw [strInts_len]; omega), List.append_nil])
      have g1 := (hb.block w.heap.size sW).trans GW.out
      obtain ⟨⟨y0, y1⟩, f0, f1⟩ := box2 g1
      have t1 := bW.trans (hb.mono (Nat.le_of_lt sW))
      obtain ⟨E, g, rfl, hl, hf⟩ := ho.sl_from
      obtain rfl : k = s2.size := by omega
      go_wp2_with fail
      rw [HE.out, HF.out]
      refine bodyPost_ret (v := .tuple #[.slice E m g, .bool big, .agg #[.int .i64 0, .int .i64 0]]) (by simp [results, Tryd.results18, go_sem, y0, y1]) rfl ⟨E, m, g, rfl, ?_, (t1.setCell (by simp) _).setCell (by simp) _⟩
      exact (hl.setCell hf sW _).setCell hf sW _

set_option maxRecDepth 100000 in
set_option maxHeartbeats 2000000 in
theorem units_plain (s : ByteArray) (big : Bool) (w : World) (h1 : 1 < s.size) (h2 : s.size % 2 = 0) (hn : s.size ≤ 10000) (v : Int) (hv : val ((strInts s).getD 0 0) ((strInts s).getD 1 0) big = v) (hv1 : v ≠ 65534) (hv2 : v ≠ 65279) : Calls Tryd.prog 18 #[.string s, .bool big] w (UnitsRes (unitsR (strInts s) big).1 (unitsR (strInts s) big).2.1 (unitsR (strInts s) big).2.2.1 (unitsR (strInts s) big).2.2.2 w) := by
  have HL := Lib.hid (strInts_len s)
  obtain ⟨W, hW⟩ : ∃ W, W = w.alloc (.cells #[.int .i64 0, .int .i64 0] 26) := ⟨_, rfl⟩
  have bW : Below w.heap.size w W := by rw [hW]; exact (Below.refl _ _).alloc (Nat.le_refl _) _
  have gW : W.heap[w.heap.size]? = some (.cells #[.int .i64 0, .int .i64 0] 26 (0, 0)) := by rw [hW]; exact heap_alloc_new w _
  have sW : w.heap.size < W.heap.size := by rw [hW]; simp
  have HW := Lib.hid hW
  have GW := Lib.hid gW
  clear hW gW
  have HI : Hid (1 < (strInts s).length) := Lib.hid (by rw [HL.out]; exact h1)
  have HM : Hid ((strInts s).length % 2 = 0) := Lib.hid (by rw [HL.out]; exact h2)
  have m2 : (s.size : Int) % 2 = 0 := by omega
  have hne := str_some (s := s) (by omega)
  have H2s := Lib.hid h2
  clear h2
  have HV := Lib.hid hv
  have H2 := H2s
  have q1 : (v == 65534) = false := by rw [beq_eq_false_iff_ne]; exact hv1
  have q2 : (v == 65279) = false := by rw [beq_eq_false_iff_ne]; exact hv2
  have HE : Hid (unitsR (strInts s) big = (rd big (strInts s), big, 0, 0)) := Lib.hid (unitsR_plain HM.out HI.out (by rw [hv]; exact hv1) (by rw [hv]; exact hv2))
  clear hv hv1 hv2
  go_enter Tryd.func18, Tryd.ntmps18
  go_wp2_with fail
  refine (uat_any (k := 0) (by omega) (by omega) HV.out _).mono ?_
  rintro e w0 ⟨rfl, hd0⟩
  have b0 : Below W.heap.size W w0 := by rw [HW.out]; exact hd0.below _
  go_wp2_with fail
  clear m2 hne
  go_loopw [7, 8] (fun v i wr => ∃ (k m : Nat) (done : List Int), Hid (k = 2 * m) ∧ m ≤ k ∧ k ≤ s.size ∧ i = .int .i64 k ∧ Own wr W.heap.size 3 1 v m (ints done) ∧ Below W.heap.size W wr ∧ Hid (rd big (strInts s) = done ++ rd big ((strInts s).drop k))) (fun _ i _ => s.size - (intOf i).toNat)
  case atStart => exact ⟨0, 0, [], Lib.hid rfl, by omega, by omega, rfl, Own.nil _ _ _ _, b0, Lib.hid rfl⟩
  case round =>
    obtain ⟨k, m, done, HK, hmk, hkn, rfl, ho, hb, HD⟩ := hrel
    have hbs := hb.size
    by_cases hlt : k < s.size
    · have hlt2 : k + 1 < s.size := by have := HK.out; have := H2.out; omega
      obtain ⟨x, hx⟩ : ∃ x, val ((strInts s).getD k 0) ((strInts s).getD (k + 1) 0) big = x := ⟨_, rfl⟩
      have HX := Lib.hid hx
      have HT : Hid (rd big ((strInts s).drop k) = [x] ++ rd big ((strInts s).drop (k + 2))) := Lib.hid (by rw [rd_step (by rw [strInts_len]; exact hlt2), hx])
      clear hx
      go_wp2_with fail
      refine (uat_any hlt2 (by omega) HX.out _).mono ?_
      rintro e w1 ⟨rfl, hd1⟩
      have ho1 := ho.drawn hd1
      have hb1 := hb.trans (hd1.below _)
      have hb1s := hb1.size
      go_wp2_with (at_builtin; refine wpList_append_ints rfl (.tmp 36) (.tmp 41) rfl W.heap.size u7 m done rfl (ho1.alloc _) _ 1 1 [x] rfl (Sl.built w1 3 1 1 _ rfl (by unfold maxLen; omega)) (m + 1) rfl (done ++ [x]) rfl (by omega) (by simp; omega) ?_; intro v2 w2 o2 b2)
      have hb2 := (hb1.alloc hb1s _).trans b2
      go_roundw
      case rel => exact ⟨k + 2, m + 1, done ++ [x], Lib.hid (by have := HK.out; omega), by omega, by omega, vint (by omega), o2, hb2, Lib.hid (by rw [HD.out, HT.out, List.append_assoc])⟩
      case measure => simp [intOf]; omega
    · have HF : Hid (rd big (strInts s) = done) := Lib.hid (by rw [HD.out, rd_end (by rw [strInts_len]; omega), List.append_nil])
      have g1 := (hb.block w.heap.size sW).trans GW.out
      obtain ⟨⟨y0, y1⟩, f0, f1⟩ := box2 g1
      have t1 := bW.trans (hb.mono (Nat.le_of_lt sW))
      obtain ⟨E, g, rfl, hl, hf⟩ := ho.sl_from
      obtain rfl : k = s.size := by omega
      go_wp2_with fail
      rw [HE.out, HF.out]
      refine bodyPost_ret (v := .tuple #[.slice E m g, .bool big, .agg #[.int .i64 0, .int .i64 0]]) (by simp [results, Tryd.results18, go_sem, y0, y1]) rfl ⟨E, m, g, rfl, ?_, (t1.setCell (by simp) _).setCell (by simp) _⟩
      exact (hl.setCell hf sW _).setCell hf sW _

set_option maxRecDepth 100000 in
set_option maxHeartbeats 2000000 in
theorem units_odd (s : ByteArray) (big : Bool) (w : World) (h2 : s.size % 2 = 1) (hn : s.size ≤ 10000) : Calls Tryd.prog 18 #[.string s, .bool big] w (UnitsRes (unitsR (strInts s) big).1 (unitsR (strInts s) big).2.1 (unitsR (strInts s) big).2.2.1 (unitsR (strInts s) big).2.2.2 w) := by
  have HL := Lib.hid (strInts_len s)
  obtain ⟨W, hW⟩ : ∃ W, W = w.alloc (.cells #[.int .i64 0, .int .i64 0] 26) := ⟨_, rfl⟩
  have bW : Below w.heap.size w W := by rw [hW]; exact (Below.refl _ _).alloc (Nat.le_refl _) _
  have gW : W.heap[w.heap.size]? = some (.cells #[.int .i64 0, .int .i64 0] 26 (0, 0)) := by rw [hW]; exact heap_alloc_new w _
  have sW : w.heap.size < W.heap.size := by rw [hW]; simp
  have HW := Lib.hid hW
  have GW := Lib.hid gW
  clear hW gW
  have HE : Hid (unitsR (strInts s) big = ([], false, 9, (s.size : Int) - 1)) := Lib.hid (by rw [unitsR_odd (by rw [HL.out]; exact h2), HL.out])
  have m2 : (s.size : Int) % 2 = 1 := by omega
  have t1 : Below w.heap.size w (w.alloc (.cells #[.int .i64 9, .int .i64 ((s.size : Int) - 1)] 26)) := (Below.refl _ _).alloc (Nat.le_refl _) _
  clear h2
  go_enter Tryd.func18, Tryd.ntmps18
  go_wp2_with fail
  rw [HE.out]
  exact bodyPost_ret (v := .tuple #[.slice none 0 0, .bool false, .agg #[.int .i64 9, .int .i64 ((s.size : Int) - 1)]]) (by simp [results, Tryd.results18, go_sem]) rfl ⟨none, 0, 0, rfl, Sl.nil _ _, t1⟩

theorem units_any (s : ByteArray) (big : Bool) (w : World) (hn : s.size ≤ 10000) : Calls Tryd.prog 18 #[.string s, .bool big] w (UnitsRes (unitsR (strInts s) big).1 (unitsR (strInts s) big).2.1 (unitsR (strInts s) big).2.2.1 (unitsR (strInts s) big).2.2.2 w) := by
  rcases Nat.mod_two_eq_zero_or_one s.size with h2 | h2
  · rcases Nat.eq_zero_or_pos s.size with h0 | h0
    · exact units_empty s big w h0
    · have h1 : 1 < s.size := by omega
      obtain ⟨v, hv⟩ : ∃ v, val ((strInts s).getD 0 0) ((strInts s).getD 1 0) big = v := ⟨_, rfl⟩
      by_cases hv1 : v = 65534
      · exact units_other s big w h1 h2 hn (hv.trans hv1)
      · by_cases hv2 : v = 65279
        · exact units_mark s big w h1 h2 hn (hv.trans hv2)
        · exact units_plain s big w h1 h2 hn v hv hv1 hv2
  · exact units_odd s big w h2 hn
end Go.Proofs.YtjfhhcaikapfiaaDoor.Ux
