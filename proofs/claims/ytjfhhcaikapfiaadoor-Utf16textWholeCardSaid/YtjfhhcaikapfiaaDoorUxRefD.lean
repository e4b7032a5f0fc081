/-
  The contracts of the reference's Pair, Bytes, Read and Units of layer 4.
-/
import Derived.Test.YtjfhhcaikapfiaaDoorUxBytA
import Derived.Test.YtjfhhcaikapfiaaDoorUxBytB
import Derived.Test.YtjfhhcaikapfiaaDoorUxRefA
import Derived.Test.YtjfhhcaikapfiaaDoorMemStep
import Derived.Deep.RegionHeld3
namespace Go.Proofs.YtjfhhcaikapfiaaDoor.Ux
open Go.RowKit
set_option linter.unusedVariables false

theorem conv_two (w : World) (a b : Int) : (convert 51 9 (.slice (some ⟨w.heap.size, 0, none⟩) 2 2)).run Tryd.prog (w.alloc (.cells #[.int .u8 a, .int .u8 b] 5)) = .ok (.string (strOfNums [a, b])) (w.alloc (.cells #[.int .u8 a, .int .u8 b] 5)) :=
  conv_bytes (Sl.built w 5 1 2 (bys [a, b]) rfl (by unfold maxLen; omega))

theorem ref_pair_x {u : Int} {big : Bool} {l : List Int} (h0 : 0 ≤ u) (h1 : u ≤ 65535) (hl : two u big = l) (w : World) : Calls Tryd.prog 32 #[.int .i64 u, .bool big] w (Makes (.string (strOfNums l)) w) := by
  have hc1 := conv_two w (u / 256) (u % 256)
  have hc2 := conv_two w (u % 256) (u / 256)
  rcases big with _ | _
  · have HL : Hid (l = [u % 256, u / 256]) := Lib.hid (by rw [← hl]; rfl)
    clear hl
    go_enter Tryd.func32, Tryd.ntmps32
    go_wp2_with fail
    go_ret
    exact ⟨by rw [HL.out]; rfl, (Below.refl _ _).alloc (Nat.le_refl _) _⟩
  · have HL : Hid (l = [u / 256, u % 256]) := Lib.hid (by rw [← hl]; rfl)
    clear hl
    go_enter Tryd.func32, Tryd.ntmps32
    go_wp2_with fail
    go_ret
    exact ⟨by rw [HL.out]; rfl, (Below.refl _ _).alloc (Nat.le_refl _) _⟩

theorem two_size (x : Int) (big : Bool) : (strOfNums (two x big)).size = 2 := by cases big <;> rfl

set_option maxRecDepth 100000 in
set_option maxHeartbeats 1000000 in
theorem ref_bytes_false (A : Option Addr) (n c : Nat) (zs : List Int) (big : Bool) (w : World) (h : Sl w A n c 1 (ints zs)) (hn : n ≤ 5000) :
    Calls Tryd.prog 17 #[.slice A n c, .bool big, .bool false] w (StrFault (strOfNums (bytesR zs big false).1) (bytesR zs big false).2.1 (bytesR zs big false).2.2 w) := by
  have hcap := h.cap
  have hmax := h.max
  have HC := Lib.hid h.count
  obtain ⟨W, hW⟩ : ∃ W, W = w.alloc (.cells #[.int .i64 0, .int .i64 0] 26) := ⟨_, rfl⟩
  have bW : Below w.heap.size w W := by rw [hW]; exact (Below.refl _ _).alloc (Nat.le_refl _) _
  have gW : W.heap[w.heap.size]? = some (.cells #[.int .i64 0, .int .i64 0] 26 (0, 0)) := by rw [hW]; exact heap_alloc_new w _
  have sW : w.heap.size < W.heap.size := by rw [hW]; simp
  have hxW := h.keep bW
  have HW := Lib.hid hW
  have GW := Lib.hid gW
  clear hW gW
  go_enter Tryd.func17, Tryd.ntmps17
  go_wp2_with fail
  go_loopw [8, 9] (fun v i wr => ∃ (k : Nat) (done : List Int), k ≤ n ∧ (strOfNums done).size ≤ 2 + 2 * k ∧ i = .int .i64 k ∧ v = .string (strOfNums done) ∧ Below W.heap.size W wr ∧ Hid (done = markL big false ++ bytesL (zs.take k) big) ∧ Hid (∀ j, j < k → good (zs.getD j 0) = true)) (fun _ i _ => n - (intOf i).toNat)
  case atStart => exact ⟨0, [], by omega, by decide, rfl, by rw [show strOfNums [] = (⟨#[]⟩ : ByteArray) from rfl], by rw [HW.out]; exact Below.refl _ _, Lib.hid (by simp [bytesL, markL]), Lib.hid (fun j hj => by omega)⟩
  case round =>
    obtain ⟨k, done, hkn, hsz, rfl, rfl, hb, HD, HA⟩ := hrel
    have hbs := hb.size
    have hxr := hxW.keep hb
    have g1 := (hb.block w.heap.size sW).trans GW.out
    have t1 := bW.trans (hb.mono (Nat.le_of_lt sW))
    by_cases hlt : k < n
    · have hkz : k < zs.length := by rw [← HC.out]; exact hlt
      obtain ⟨b, off, rfl, _, hcell⟩ := hxr.int_at hlt
      obtain ⟨x, hx⟩ : ∃ x, zs.getD k 0 = x := ⟨_, rfl⟩
      have HX := Lib.hid hx
      rw [hx] at hcell
      clear hx
      rcases hg : good x with _ | _
      · have HB : Hid (bytesR zs big false = ([], 1, (k : Int))) := Lib.hid (by
          have hb := badB_take hkz HA.out (by rw [HX.out]; exact hg)
          rw [bytesR, if_pos (by rw [hb]; exact hkz), hb])
        have hg2 := good_not.1 hg
        clear hg
        obtain ⟨⟨y0, y1⟩, f0, f1⟩ := box2 g1
        have hg3 : x < 0 ∨ (0 ≤ x ∧ 65535 < x) := by omega
        clear hg2
        rcases hg3 with h1 | ⟨h1, h2⟩
        all_goals
          go_wp2_with fail
          rw [HB.out]
          exact bodyPost_ret (v := .tuple #[.string ⟨#[]⟩, .agg #[.int .i64 1, .int .i64 k]]) (by simp [results, Tryd.results17, go_sem, y0, y1]) rfl ⟨rfl, (t1.setCell (by simp) _).setCell (by simp) _⟩
      · obtain ⟨h1, h2⟩ := good_iff.1 hg
        have HT := Lib.hid (bytesL_take (big := big) hkz)
        have HAN : Hid (∀ j, j < k + 1 → good (zs.getD j 0) = true) := Lib.hid (fun j hj => by
          rcases Nat.lt_or_ge j k with h | h
          · exact HA.out j h
          · obtain rfl : j = k := by omega
            rw [HX.out]; exact hg)
        have hs2 : (strOfNums (two x big)).size = 2 := two_size x big
        clear hg g1
        go_wp2_with fail
        refine (ref_pair_x h1 h2 rfl _).mono ?_
        rintro e w1 ⟨rfl, b1⟩
        go_wp2_with fail
        go_roundw
        case rel => exact ⟨k + 1, done ++ two x big, by omega, by rw [← strOf_append, ByteArray.size_append]; omega, by go_num, by rw [strOf_append], hb.trans (b1.mono hbs), Lib.hid (by rw [HD.out, HT.out, HX.out, List.append_assoc]), HAN⟩
        case measure => simp [intOf]; omega
    · obtain rfl : k = n := by omega
      have HE : Hid (bytesR zs big false = (done, 0, 0)) := Lib.hid (by
        have e : zs.take k = zs := List.take_of_length_le (by rw [← HC.out]; exact Nat.le_refl _)
        rw [HD.out, e, bytesR, if_neg]
        rw [badB_none (fun j hj => HA.out j (by rw [HC.out]; exact hj))]
        omega)
      obtain ⟨⟨y0, y1⟩, f0, f1⟩ := box2 g1
      go_wp2_with fail
      rw [HE.out]
      exact bodyPost_ret (v := .tuple #[.string (strOfNums done), .agg #[.int .i64 0, .int .i64 0]]) (by simp [results, Tryd.results17, go_sem, y0, y1]) rfl ⟨rfl, (t1.setCell (by simp) _).setCell (by simp) _⟩

set_option maxRecDepth 100000 in
set_option maxHeartbeats 1000000 in
theorem ref_bytes_true (A : Option Addr) (n c : Nat) (zs : List Int) (big : Bool) (w : World) (h : Sl w A n c 1 (ints zs)) (hn : n ≤ 5000) :
    Calls Tryd.prog 17 #[.slice A n c, .bool big, .bool true] w (StrFault (strOfNums (bytesR zs big true).1) (bytesR zs big true).2.1 (bytesR zs big true).2.2 w) := by
  have hcap := h.cap
  have hmax := h.max
  have HC := Lib.hid h.count
  obtain ⟨W, hW⟩ : ∃ W, W = w.alloc (.cells #[.int .i64 0, .int .i64 0] 26) := ⟨_, rfl⟩
  have bW : Below w.heap.size w W := by rw [hW]; exact (Below.refl _ _).alloc (Nat.le_refl _) _
  have gW : W.heap[w.heap.size]? = some (.cells #[.int .i64 0, .int .i64 0] 26 (0, 0)) := by rw [hW]; exact heap_alloc_new w _
  have sW : w.heap.size < W.heap.size := by rw [hW]; simp
  have hxW := h.keep bW
  have HW := Lib.hid hW
  have GW := Lib.hid gW
  clear hW gW
  go_enter Tryd.func17, Tryd.ntmps17
  go_wp2_with fail
  refine (ref_pair_x (u := 65279) (by omega) (by omega) rfl _).mono ?_
  rintro e w0 ⟨rfl, b0⟩
  have b0W : Below W.heap.size W w0 := by rw [HW.out]; exact b0
  clear b0
  go_wp2_with fail
  go_loopw [8, 9] (fun v i wr => ∃ (k : Nat) (done : List Int), k ≤ n ∧ (strOfNums done).size ≤ 2 + 2 * k ∧ i = .int .i64 k ∧ v = .string (strOfNums done) ∧ Below W.heap.size W wr ∧ Hid (done = markL big true ++ bytesL (zs.take k) big) ∧ Hid (∀ j, j < k → good (zs.getD j 0) = true)) (fun _ i _ => n - (intOf i).toNat)
  case atStart => exact ⟨0, _, by omega, by rw [two_size]; omega, rfl, rfl, b0W, Lib.hid (by simp [bytesL, markL]), Lib.hid (fun j hj => by omega)⟩
  case round =>
    obtain ⟨k, done, hkn, hsz, rfl, rfl, hb, HD, HA⟩ := hrel
    have hbs := hb.size
    have hxr := hxW.keep hb
    have g1 := (hb.block w.heap.size sW).trans GW.out
    have t1 := bW.trans (hb.mono (Nat.le_of_lt sW))
    by_cases hlt : k < n
    · have hkz : k < zs.length := by rw [← HC.out]; exact hlt
      obtain ⟨b, off, rfl, _, hcell⟩ := hxr.int_at hlt
      obtain ⟨x, hx⟩ : ∃ x, zs.getD k 0 = x := ⟨_, rfl⟩
      have HX := Lib.hid hx
      rw [hx] at hcell
      clear hx
      rcases hg : good x with _ | _
      · have HB : Hid (bytesR zs big true = ([], 1, (k : Int))) := Lib.hid (by
          have hb := badB_take hkz HA.out (by rw [HX.out]; exact hg)
          rw [bytesR, if_pos (by rw [hb]; exact hkz), hb])
        have hg2 := good_not.1 hg
        clear hg
        obtain ⟨⟨y0, y1⟩, f0, f1⟩ := box2 g1
        have hg3 : x < 0 ∨ (0 ≤ x ∧ 65535 < x) := by omega
        clear hg2
        rcases hg3 with h1 | ⟨h1, h2⟩
        all_goals
          go_wp2_with fail
          rw [HB.out]
          exact bodyPost_ret (v := .tuple #[.string ⟨#[]⟩, .agg #[.int .i64 1, .int .i64 k]]) (by simp [results, Tryd.results17, go_sem, y0, y1]) rfl ⟨rfl, (t1.setCell (by simp) _).setCell (by simp) _⟩
      · obtain ⟨h1, h2⟩ := good_iff.1 hg
        have HT := Lib.hid (bytesL_take (big := big) hkz)
        have HAN : Hid (∀ j, j < k + 1 → good (zs.getD j 0) = true) := Lib.hid (fun j hj => by
          rcases Nat.lt_or_ge j k with h | h
          · exact HA.out j h
          · obtain rfl : j = k := by omega
            rw [HX.out]; exact hg)
        have hs2 : (strOfNums (two x big)).size = 2 := two_size x big
        clear hg g1
        go_wp2_with fail
        refine (ref_pair_x h1 h2 rfl _).mono ?_
        rintro e w1 ⟨rfl, b1⟩
        go_wp2_with fail
        go_roundw
        case rel => exact ⟨k + 1, done ++ two x big, by omega, by rw [← strOf_append, ByteArray.size_append]; omega, by go_num, by rw [strOf_append], hb.trans (b1.mono hbs), Lib.hid (by rw [HD.out, HT.out, HX.out, List.append_assoc]), HAN⟩
        case measure => simp [intOf]; omega
    · obtain rfl : k = n := by omega
      have HE : Hid (bytesR zs big true = (done, 0, 0)) := Lib.hid (by
        have e : zs.take k = zs := List.take_of_length_le (by rw [← HC.out]; exact Nat.le_refl _)
        rw [HD.out, e, bytesR, if_neg]
        rw [badB_none (fun j hj => HA.out j (by rw [HC.out]; exact hj))]
        omega)
      obtain ⟨⟨y0, y1⟩, f0, f1⟩ := box2 g1
      go_wp2_with fail
      rw [HE.out]
      exact bodyPost_ret (v := .tuple #[.string (strOfNums done), .agg #[.int .i64 0, .int .i64 0]]) (by simp [results, Tryd.results17, go_sem, y0, y1]) rfl ⟨rfl, (t1.setCell (by simp) _).setCell (by simp) _⟩

theorem ref_bytes_any (A : Option Addr) (n c : Nat) (zs : List Int) (big mark : Bool) (w : World) (h : Sl w A n c 1 (ints zs)) (hn : n ≤ 5000) :
    Calls Tryd.prog 17 #[.slice A n c, .bool big, .bool mark] w (StrFault (strOfNums (bytesR zs big mark).1) (bytesR zs big mark).2.1 (bytesR zs big mark).2.2 w) := by
  cases mark
  · exact ref_bytes_false A n c zs big w h hn
  · exact ref_bytes_true A n c zs big w h hn

/-- Two bytes as the program reckons them. -/
def rdv (a b : Nat) : Int := IntKind.i64.wrap (IntKind.i64.wrap (256 * IntKind.i64.wrap (a : Int)) + IntKind.i64.wrap (b : Int))
theorem rdv_eq {a b : Nat} (ha : a ≤ 255) (hb : b ≤ 255) : rdv a b = 256 * (a : Int) + (b : Int) := by
  unfold rdv
  rw [IntWalk.i64_in (a : Int) (by omega), IntWalk.i64_in (b : Int) (by omega), IntWalk.i64_in (256 * (a : Int)) (by omega), IntWalk.i64_in _ (by omega)]

/-- The bytes of a string of an even size, as units. -/
theorem read_any (s : ByteArray) (big : Bool) (w : World) (hs : s.size ≤ 10000) : Calls Tryd.prog 34 #[.string s, .bool big] w (ListsNew (rd big (strInts s)) w) := by
  have HB := Lib.hid (rfl : big = big)
  go_enter Tryd.func34, Tryd.ntmps34
  go_wp2_with fail
  go_loopw [5, 6] (fun v i wr => ∃ (k m : Nat) (done : List Int), Hid (k = 2 * m) ∧ m ≤ k ∧ k ≤ s.size + 1 ∧ i = .int .i64 k ∧ Own wr w.heap.size 3 1 v m (ints done) ∧ Below w.heap.size w wr ∧ Hid (rd big (strInts s) = done ++ rd big ((strInts s).drop k))) (fun _ i _ => s.size - (intOf i).toNat)
  case atStart => exact ⟨0, 0, [], Lib.hid rfl, by omega, by omega, rfl, Own.nil _ _ _ _, Below.refl _ _, Lib.hid rfl⟩
  case round =>
    obtain ⟨k, m, done, HK, hmk, hkn, rfl, ho, hb, HD⟩ := hrel
    have hbs := hb.size
    by_cases hlt : k + 1 < s.size
    · have h1 : k < s.size := by omega
      have HT : Hid (rd big ((strInts s).drop k) = [val ((strInts s).getD k 0) ((strInts s).getD (k + 1) 0) big] ++ rd big ((strInts s).drop (k + 2))) := Lib.hid (rd_step (by rw [strInts_len]; exact hlt))
      obtain ⟨a, ha, ea, ga⟩ := strInts_byte h1
      obtain ⟨b, hb', eb, gb⟩ := strInts_byte hlt
      have GA := Lib.hid ga
      have GB := Lib.hid gb
      have EA := Lib.hid ea
      have EB := Lib.hid eb
      have h2 : (k : Int) + 1 < (s.size : Int) := by omega
      have h3 : (0 : Int) ≤ (k : Int) + 1 := by omega
      have h4 : ((k : Int) + 1).toNat = k + 1 := by omega
      have h5 : IntKind.i64.wrap ((k : Int) + 1) = (k : Int) + 1 := IntWalk.i64_in _ (by omega)
      clear ga gb ea eb
      rcases big with _ | _
      · obtain ⟨x, hx⟩ : ∃ x, val ((strInts s).getD k 0) ((strInts s).getD (k + 1) 0) false = x := ⟨_, rfl⟩
        have HX : Hid (rdv (s[k + 1]'hlt).toNat (s[k]'h1).toNat = x) := Lib.hid (by
          rw [EA.out, EB.out, rdv_eq (by omega) (by omega), ← hx, GA.out, GB.out]; simp [val])
        rw [hx] at HT
        clear hx
        go_wp2_with fail
        go_region_held3 (fun W => True) (first | trivial) (first | (refine step_append_ints (by rfl) (.tmp 29) (.tmp 41) (by rfl) w.heap.size u5 m done (by rfl) (ho.drew.alloc _) _ 1 1 [rdv (s[k + 1]'hlt).toNat (s[k]'h1).toNat] (by rfl) (Sl.built wr.drew 3 1 1 (ints [rdv (s[k + 1]'hlt).toNat (s[k]'h1).toNat]) rfl (by unfold maxLen; omega)) (m + 1) rfl (done ++ [rdv (s[k + 1]'hlt).toNat (s[k]'h1).toNat]) rfl (by omega) (by simp; omega) ?_; intro v2 w2 o2 b2))
        all_goals
          have hb2 := (hb.drew.alloc (by simpa using hbs) _).trans b2
          rw [HX.out] at o2
          go_wp2_with fail
          exact ⟨⟨k + 2, m + 1, done ++ [x], Lib.hid (by have := HK.out; omega), by omega, by omega, vint (by omega), o2, hb2, Lib.hid (by rw [HD.out, HT.out, List.append_assoc])⟩, by simp [intOf]; omega⟩
      · obtain ⟨x, hx⟩ : ∃ x, val ((strInts s).getD k 0) ((strInts s).getD (k + 1) 0) true = x := ⟨_, rfl⟩
        have HX : Hid (rdv (s[k]'h1).toNat (s[k + 1]'hlt).toNat = x) := Lib.hid (by
          rw [EA.out, EB.out, rdv_eq (by omega) (by omega), ← hx, GA.out, GB.out]; simp [val])
        rw [hx] at HT
        clear hx
        go_wp2_with fail
        go_region_held3 (fun W => True) (first | trivial) (first | (refine step_append_ints (by rfl) (.tmp 15) (.tmp 27) (by rfl) w.heap.size u5 m done (by rfl) (ho.drew.alloc _) _ 1 1 [rdv (s[k]'h1).toNat (s[k + 1]'hlt).toNat] (by rfl) (Sl.built wr.drew 3 1 1 (ints [rdv (s[k]'h1).toNat (s[k + 1]'hlt).toNat]) rfl (by unfold maxLen; omega)) (m + 1) rfl (done ++ [rdv (s[k]'h1).toNat (s[k + 1]'hlt).toNat]) rfl (by omega) (by simp; omega) ?_; intro v2 w2 o2 b2))
        all_goals
          have hb2 := (hb.drew.alloc (by simpa using hbs) _).trans b2
          rw [HX.out] at o2
          go_wp2_with fail
          exact ⟨⟨k + 2, m + 1, done ++ [x], Lib.hid (by have := HK.out; omega), by omega, by omega, vint (by omega), o2, hb2, Lib.hid (by rw [HD.out, HT.out, List.append_assoc])⟩, by simp [intOf]; omega⟩
    · have h2 : ¬ (k : Int) + 1 < (s.size : Int) := by omega
      have HF : Hid (rd big (strInts s) = done) := Lib.hid (by rw [HD.out, rd_end (by rw [strInts_len]; exact hlt), List.append_nil])
      obtain ⟨E, g, rfl, hl, hf⟩ := ho.sl_from
      go_wp2_with fail
      go_ret
      exact ⟨E, _, g, rfl, by rw [HF.out]; exact hl, hb, hf⟩
theorem head_cell {w : World} {A : Option Addr} {n c : Nat} {zs : List Int} {v : Int} (h : Sl w A n c 1 (ints zs)) (hh : zs.head? = some v) : 0 < n ∧ ∃ b off, A = some ⟨b, off, none⟩ ∧ b < w.heap.size ∧ w.cell? ⟨b, off, none⟩ = some (.int .i64 v) := by
  have hc := h.count
  cases zs with
  | nil => simp at hh
  | cons x r =>
    have hp : 0 < n := by rw [hc]; simp
    obtain ⟨b, off, e, hl, hcell⟩ := h.int_at hp
    obtain rfl : x = v := by simpa using hh
    exact ⟨hp, b, off, e, hl, by simpa using hcell⟩


theorem read_x {s : ByteArray} {big : Bool} {zs : List Int} (h : rd big (strInts s) = zs) (hs : s.size ≤ 10000) (w : World) : Calls Tryd.prog 34 #[.string s, .bool big] w (ListsNew zs w) := by
  rw [← h]
  exact read_any s big w hs
theorem val_turn {s : ByteArray} (h : 1 < s.size) {big : Bool} (hv : val ((strInts s).getD 0 0) ((strInts s).getD 1 0) big = 65534) : val ((strInts s).getD 0 0) ((strInts s).getD 1 0) (!big) = 65279 := by
  obtain ⟨a, ha, ea, ga⟩ := strInts_byte (s := s) (k := 0) (by omega)
  obtain ⟨b, hb, eb, gb⟩ := strInts_byte h
  rw [ga, gb] at hv ⊢
  cases big
  · simp only [val, Bool.false_eq_true, if_false, Bool.not_false, if_true] at hv ⊢
    omega
  · simp only [val, Bool.false_eq_true, if_false, Bool.not_true, if_true] at hv ⊢
    omega

theorem ref_units_odd (s : ByteArray) (big : Bool) (w : World) (h2 : s.size % 2 = 1) (hn : s.size ≤ 10000) : Calls Tryd.prog 19 #[.string s, .bool big] w (UnitsRes (unitsR (strInts s) big).1 (unitsR (strInts s) big).2.1 (unitsR (strInts s) big).2.2.1 (unitsR (strInts s) big).2.2.2 w) := by
  have HE : Hid (unitsR (strInts s) big = ([], false, 9, (s.size : Int) - 1)) := Lib.hid (by rw [unitsR_odd (by rw [strInts_len]; exact h2), strInts_len])
  have m2 : (s.size : Int) % 2 = 1 := by omega
  have t1 : Below w.heap.size w (w.alloc (.cells #[.int .i64 9, .int .i64 ((s.size : Int) - 1)] 26)) := (Below.refl _ _).alloc (Nat.le_refl _) _
  clear h2
  go_enter Tryd.func19, Tryd.ntmps19
  go_wp2_with fail
  rw [HE.out]
  exact bodyPost_ret (v := .tuple #[.slice none 0 0, .bool false, .agg #[.int .i64 9, .int .i64 ((s.size : Int) - 1)]]) (by simp [results, Tryd.results19, go_sem]) rfl ⟨none, 0, 0, rfl, Sl.nil _ _, t1⟩

set_option maxRecDepth 100000 in
set_option maxHeartbeats 1000000 in
theorem ref_units_empty (s : ByteArray) (big : Bool) (w : World) (h0 : s.size = 0) : Calls Tryd.prog 19 #[.string s, .bool big] w (UnitsRes (unitsR (strInts s) big).1 (unitsR (strInts s) big).2.1 (unitsR (strInts s) big).2.2.1 (unitsR (strInts s) big).2.2.2 w) := by
  have HE : Hid (unitsR (strInts s) big = ([], big, 0, 0)) := Lib.hid (by
    have : strInts s = [] := List.eq_nil_of_length_eq_zero (by rw [strInts_len]; exact h0)
    rw [this]; exact unitsR_nil big)
  have HR : Hid (rd big (strInts s) = []) := Lib.hid (by
    have : strInts s = [] := List.eq_nil_of_length_eq_zero (by rw [strInts_len]; exact h0)
    rw [this]; rfl)
  have m2 : (s.size : Int) % 2 = 0 := by omega
  obtain ⟨W, hW⟩ : ∃ W, W = w.alloc (.cells #[.int .i64 0, .int .i64 0] 26) := ⟨_, rfl⟩
  have bW : Below w.heap.size w W := by rw [hW]; exact (Below.refl _ _).alloc (Nat.le_refl _) _
  have gW : W.heap[w.heap.size]? = some (.cells #[.int .i64 0, .int .i64 0] 26 (0, 0)) := by rw [hW]; exact heap_alloc_new w _
  have sW : w.heap.size < W.heap.size := by rw [hW]; simp
  have HW := Lib.hid hW
  have GW := Lib.hid gW
  clear hW gW
  go_enter Tryd.func19, Tryd.ntmps19
  go_wp2_with fail
  refine (read_x HR.out (by omega) _).mono ?_
  rintro e w1 ⟨A, n, c, rfl, l1, b1, f1'⟩
  obtain rfl : n = 0 := l1.count
  have b1W : Below W.heap.size W w1 := by rw [HW.out]; exact b1
  have fA : From W.heap.size A := by rw [HW.out]; exact f1'
  have g1 := (b1W.block w.heap.size sW).trans GW.out
  obtain ⟨⟨y0, y1⟩, f0, f1⟩ := box2 g1
  have t1 := bW.trans (b1W.mono (Nat.le_of_lt sW))
  clear b1 f1'
  go_wp2_with fail
  rw [HE.out]
  refine bodyPost_ret (v := .tuple #[.slice A 0 c, .bool big, .agg #[.int .i64 0, .int .i64 0]]) (by simp [results, Tryd.results19, go_sem, y0, y1]) rfl ⟨A, 0, c, rfl, ?_, (t1.setCell (by simp) _).setCell (by simp) _⟩
  exact (l1.setCell fA sW _).setCell fA sW _

set_option maxRecDepth 100000 in
set_option maxHeartbeats 1000000 in
theorem ref_units_plain (s : ByteArray) (big : Bool) (w : World) (h1 : 1 < s.size) (h2 : s.size % 2 = 0) (hn : s.size ≤ 10000) (v : Int) (hv : val ((strInts s).getD 0 0) ((strInts s).getD 1 0) big = v) (hv1 : v ≠ 65534) (hv2 : v ≠ 65279) : Calls Tryd.prog 19 #[.string s, .bool big] w (UnitsRes (unitsR (strInts s) big).1 (unitsR (strInts s) big).2.1 (unitsR (strInts s) big).2.2.1 (unitsR (strInts s) big).2.2.2 w) := by
  have HI : Hid (1 < (strInts s).length) := Lib.hid (by rw [strInts_len]; exact h1)
  have HM : Hid ((strInts s).length % 2 = 0) := Lib.hid (by rw [strInts_len]; exact h2)
  have m2 : (s.size : Int) % 2 = 0 := by omega
  have HE : Hid (unitsR (strInts s) big = (rd big (strInts s), big, 0, 0)) := Lib.hid (unitsR_plain HM.out HI.out (by rw [hv]; exact hv1) (by rw [hv]; exact hv2))
  obtain ⟨zs, hz⟩ : ∃ zs, rd big (strInts s) = zs := ⟨_, rfl⟩
  have HZ := Lib.hid hz
  have HH : Hid (zs.head? = some v) := Lib.hid (by rw [← hz, rd_head HI.out, hv])
  have q1 : (v == 65534) = false := by rw [beq_eq_false_iff_ne]; exact hv1
  have q2 : (v == 65279) = false := by rw [beq_eq_false_iff_ne]; exact hv2
  clear hv hv1 hv2 hz h2
  obtain ⟨W, hW⟩ : ∃ W, W = w.alloc (.cells #[.int .i64 0, .int .i64 0] 26) := ⟨_, rfl⟩
  have bW : Below w.heap.size w W := by rw [hW]; exact (Below.refl _ _).alloc (Nat.le_refl _) _
  have gW : W.heap[w.heap.size]? = some (.cells #[.int .i64 0, .int .i64 0] 26 (0, 0)) := by rw [hW]; exact heap_alloc_new w _
  have sW : w.heap.size < W.heap.size := by rw [hW]; simp
  have HW := Lib.hid hW
  have GW := Lib.hid gW
  clear hW gW
  go_enter Tryd.func19, Tryd.ntmps19
  go_wp2_with fail
  refine (read_x HZ.out hn _).mono ?_
  rintro e w1 ⟨A, n, c, rfl, l1, b1, f1'⟩
  have b1W : Below W.heap.size W w1 := by rw [HW.out]; exact b1
  have fA : From W.heap.size A := by rw [HW.out]; exact f1'
  have g1 := (b1W.block w.heap.size sW).trans GW.out
  obtain ⟨⟨y0, y1⟩, f0, f1⟩ := box2 g1
  have t1 := bW.trans (b1W.mono (Nat.le_of_lt sW))
  obtain ⟨hp, hcell⟩ := head_cell l1 HH.out
  obtain ⟨bb, off, rfl, _, hc0⟩ := hcell
  have hcap := l1.cap
  have hmax := l1.max
  clear b1 f1'
  go_wp2_with fail
  rw [HE.out]
  refine bodyPost_ret (v := .tuple #[.slice (some ⟨bb, off, none⟩) n c, .bool big, .agg #[.int .i64 0, .int .i64 0]]) (by simp [results, Tryd.results19, go_sem, y0, y1]) rfl ⟨(some ⟨bb, off, none⟩), n, c, rfl, ?_, (t1.setCell (by simp) _).setCell (by simp) _⟩
  rw [HZ.out]
  exact (l1.setCell fA sW _).setCell fA sW _

set_option maxRecDepth 100000 in
set_option maxHeartbeats 1000000 in
theorem ref_units_mark (s : ByteArray) (big : Bool) (w : World) (h1 : 1 < s.size) (h2 : s.size % 2 = 0) (hn : s.size ≤ 10000) (hv : val ((strInts s).getD 0 0) ((strInts s).getD 1 0) big = 65279) : Calls Tryd.prog 19 #[.string s, .bool big] w (UnitsRes (unitsR (strInts s) big).1 (unitsR (strInts s) big).2.1 (unitsR (strInts s) big).2.2.1 (unitsR (strInts s) big).2.2.2 w) := by
  have HI : Hid (1 < (strInts s).length) := Lib.hid (by rw [strInts_len]; exact h1)
  have HM : Hid ((strInts s).length % 2 = 0) := Lib.hid (by rw [strInts_len]; exact h2)
  have m2 : (s.size : Int) % 2 = 0 := by omega
  have HE : Hid (unitsR (strInts s) big = (rd big ((strInts s).drop 2), big, 0, 0)) := Lib.hid (unitsR_mark HM.out HI.out hv)
  obtain ⟨zs, hz⟩ : ∃ zs, rd big (strInts s) = zs := ⟨_, rfl⟩
  have HZ := Lib.hid hz
  have HH : Hid (zs.head? = some 65279) := Lib.hid (by rw [← hz, rd_head HI.out, hv])
  have HD : Hid (rd big ((strInts s).drop 2) = zs.drop 1) := Lib.hid (by rw [← hz, rd_drop])
  clear hv hz h2
  obtain ⟨W, hW⟩ : ∃ W, W = w.alloc (.cells #[.int .i64 0, .int .i64 0] 26) := ⟨_, rfl⟩
  have bW : Below w.heap.size w W := by rw [hW]; exact (Below.refl _ _).alloc (Nat.le_refl _) _
  have gW : W.heap[w.heap.size]? = some (.cells #[.int .i64 0, .int .i64 0] 26 (0, 0)) := by rw [hW]; exact heap_alloc_new w _
  have sW : w.heap.size < W.heap.size := by rw [hW]; simp
  have HW := Lib.hid hW
  have GW := Lib.hid gW
  clear hW gW
  go_enter Tryd.func19, Tryd.ntmps19
  go_wp2_with fail
  refine (read_x HZ.out hn _).mono ?_
  rintro e w1 ⟨A, n, c, rfl, l1, b1, f1'⟩
  have b1W : Below W.heap.size W w1 := by rw [HW.out]; exact b1
  have fA : From W.heap.size A := by rw [HW.out]; exact f1'
  obtain ⟨hp, hcell⟩ := head_cell l1 HH.out
  obtain ⟨bb, off, rfl, _, hc0⟩ := hcell
  have hcap := l1.cap
  have hmax := l1.max
  clear b1 f1'
  have g1 := (b1W.block w.heap.size sW).trans GW.out
  obtain ⟨⟨y0, y1⟩, f0, f1⟩ := box2 g1
  have t1 := bW.trans (b1W.mono (Nat.le_of_lt sW))
  have htl := l1.tail1 (k := 1) hp
  rcases Nat.lt_or_ge 1 c with hc1 | hc1
  · have hne : ¬ c = 1 := by omega
    have HL : Hid (Sl w1 (some ⟨bb, off + 1, none⟩) (n - 1) (c - 1) 1 (ints (zs.drop 1))) := Lib.hid (by rw [if_neg hne] at htl; simpa only [Option.map_some, addr_add] using htl)
    have fA' : From W.heap.size (some ⟨bb, off + 1, none⟩) := fun a ha => by cases ha; exact fA ⟨bb, off, none⟩ rfl
    clear htl
    go_wp2_with fail
    rw [HE.out]
    refine bodyPost_ret (v := .tuple #[.slice (some ⟨bb, off + 1, none⟩) (n - 1) (c - 1), .bool big, .agg #[.int .i64 0, .int .i64 0]]) (by simp [results, Tryd.results19, go_sem, y0, y1]) rfl ⟨_, _, _, rfl, ?_, (t1.setCell (by simp) _).setCell (by simp) _⟩
    rw [HD.out]
    exact (HL.out.setCell fA' sW _).setCell fA' sW _
  · obtain rfl : c = 1 := by omega
    obtain rfl : n = 1 := by omega
    have HL : Hid (Sl w1 (some ⟨bb, off, none⟩) 0 0 1 (ints (zs.drop 1))) := Lib.hid (by rw [if_pos rfl] at htl; exact htl)
    clear htl
    go_wp2_with fail
    rw [HE.out]
    refine bodyPost_ret (v := .tuple #[.slice (some ⟨bb, off, none⟩) 0 0, .bool big, .agg #[.int .i64 0, .int .i64 0]]) (by simp [results, Tryd.results19, go_sem, y0, y1]) rfl ⟨_, _, _, rfl, ?_, (t1.setCell (by simp) _).setCell (by simp) _⟩
    rw [HD.out]
    exact (HL.out.setCell fA sW _).setCell fA sW _

set_option maxRecDepth 100000 in
set_option maxHeartbeats 1000000 in
theorem ref_units_other (s : ByteArray) (big : Bool) (w : World) (h1 : 1 < s.size) (h2 : s.size % 2 = 0) (hn : s.size ≤ 10000) (hv : val ((strInts s).getD 0 0) ((strInts s).getD 1 0) big = 65534) : Calls Tryd.prog 19 #[.string s, .bool big] w (UnitsRes (unitsR (strInts s) big).1 (unitsR (strInts s) big).2.1 (unitsR (strInts s) big).2.2.1 (unitsR (strInts s) big).2.2.2 w) := by
  have HI : Hid (1 < (strInts s).length) := Lib.hid (by rw [strInts_len]; exact h1)
  have HM : Hid ((strInts s).length % 2 = 0) := Lib.hid (by rw [strInts_len]; exact h2)
  have m2 : (s.size : Int) % 2 = 0 := by omega
  have hv' := val_turn h1 hv
  have HE : Hid (unitsR (strInts s) big = (rd (!big) ((strInts s).drop 2), !big, 0, 0)) := Lib.hid (unitsR_other HM.out HI.out hv)
  obtain ⟨zs0, hz0⟩ : ∃ zs, rd big (strInts s) = zs := ⟨_, rfl⟩
  have HZ := Lib.hid hz0
  have HH : Hid (zs0.head? = some 65534) := Lib.hid (by rw [← hz0, rd_head HI.out, hv])
  obtain ⟨zs, hz⟩ : ∃ zs, rd (!big) (strInts s) = zs := ⟨_, rfl⟩
  have HZ2 := Lib.hid hz
  have HH2 : Hid (zs.head? = some 65279) := Lib.hid (by rw [← hz, rd_head HI.out, hv'])
  have HD : Hid (rd (!big) ((strInts s).drop 2) = zs.drop 1) := Lib.hid (by rw [← hz, rd_drop])
  clear hz0 hv'
  clear hv hz h2
  obtain ⟨W, hW⟩ : ∃ W, W = w.alloc (.cells #[.int .i64 0, .int .i64 0] 26) := ⟨_, rfl⟩
  have bW : Below w.heap.size w W := by rw [hW]; exact (Below.refl _ _).alloc (Nat.le_refl _) _
  have gW : W.heap[w.heap.size]? = some (.cells #[.int .i64 0, .int .i64 0] 26 (0, 0)) := by rw [hW]; exact heap_alloc_new w _
  have sW : w.heap.size < W.heap.size := by rw [hW]; simp
  have HW := Lib.hid hW
  have GW := Lib.hid gW
  clear hW gW
  go_enter Tryd.func19, Tryd.ntmps19
  go_wp2_with fail
  refine (read_x HZ.out hn _).mono ?_
  rintro e w1 ⟨A, n, c, rfl, l1, b1, f1'⟩
  have b1W : Below W.heap.size W w1 := by rw [HW.out]; exact b1
  have fA : From W.heap.size A := by rw [HW.out]; exact f1'
  obtain ⟨hp, hcell⟩ := head_cell l1 HH.out
  obtain ⟨bb, off, rfl, _, hc0⟩ := hcell
  have hcap := l1.cap
  have hmax := l1.max
  clear b1 f1'
  go_wp2_with fail
  refine (read_x HZ2.out hn _).mono ?_
  clear hc0 hcap hmax l1 hp fA
  rintro e w2 ⟨A, n, c, rfl, l1, b2, f2'⟩
  have fA : From W.heap.size A := fun a ha => Nat.le_trans b1W.size (f2' a ha)
  have b1W := b1W.trans (b2.mono b1W.size)
  obtain ⟨hp, hcell⟩ := head_cell l1 HH2.out
  obtain ⟨bb, off, rfl, _, hc0⟩ := hcell
  have hcap := l1.cap
  have hmax := l1.max
  have g1 := (b1W.block w.heap.size sW).trans GW.out
  obtain ⟨⟨y0, y1⟩, f0, f1⟩ := box2 g1
  have t1 := bW.trans (b1W.mono (Nat.le_of_lt sW))
  have htl := l1.tail1 (k := 1) hp
  rcases Nat.lt_or_ge 1 c with hc1 | hc1
  · have hne : ¬ c = 1 := by omega
    have HL : Hid (Sl w2 (some ⟨bb, off + 1, none⟩) (n - 1) (c - 1) 1 (ints (zs.drop 1))) := Lib.hid (by rw [if_neg hne] at htl; simpa only [Option.map_some, addr_add] using htl)
    have fA' : From W.heap.size (some ⟨bb, off + 1, none⟩) := fun a ha => by cases ha; exact fA ⟨bb, off, none⟩ rfl
    clear htl
    go_wp2_with fail
    rw [HE.out]
    refine bodyPost_ret (v := .tuple #[.slice (some ⟨bb, off + 1, none⟩) (n - 1) (c - 1), .bool (!big), .agg #[.int .i64 0, .int .i64 0]]) (by simp [results, Tryd.results19, go_sem, y0, y1]) rfl ⟨_, _, _, rfl, ?_, (t1.setCell (by simp) _).setCell (by simp) _⟩
    rw [HD.out]
    exact (HL.out.setCell fA' sW _).setCell fA' sW _
  · obtain rfl : c = 1 := by omega
    obtain rfl : n = 1 := by omega
    have HL : Hid (Sl w2 (some ⟨bb, off, none⟩) 0 0 1 (ints (zs.drop 1))) := Lib.hid (by rw [if_pos rfl] at htl; exact htl)
    clear htl
    go_wp2_with fail
    rw [HE.out]
    refine bodyPost_ret (v := .tuple #[.slice (some ⟨bb, off, none⟩) 0 0, .bool (!big), .agg #[.int .i64 0, .int .i64 0]]) (by simp [results, Tryd.results19, go_sem, y0, y1]) rfl ⟨_, _, _, rfl, ?_, (t1.setCell (by simp) _).setCell (by simp) _⟩
    rw [HD.out]
    exact (HL.out.setCell fA sW _).setCell fA sW _

theorem ref_units_any (s : ByteArray) (big : Bool) (w : World) (hn : s.size ≤ 10000) : Calls Tryd.prog 19 #[.string s, .bool big] w (UnitsRes (unitsR (strInts s) big).1 (unitsR (strInts s) big).2.1 (unitsR (strInts s) big).2.2.1 (unitsR (strInts s) big).2.2.2 w) := by
  rcases Nat.mod_two_eq_zero_or_one s.size with h2 | h2
  · rcases Nat.eq_zero_or_pos s.size with h0 | h0
    · exact ref_units_empty s big w h0
    · have h1 : 1 < s.size := by omega
      obtain ⟨v, hv⟩ : ∃ v, val ((strInts s).getD 0 0) ((strInts s).getD 1 0) big = v := ⟨_, rfl⟩
      by_cases hv1 : v = 65534
      · exact ref_units_other s big w h1 h2 hn (hv.trans hv1)
      · by_cases hv2 : v = 65279
        · exact ref_units_mark s big w h1 h2 hn (hv.trans hv2)
        · exact ref_units_plain s big w h1 h2 hn v hv hv1 hv2
  · exact ref_units_odd s big w h2 hn
end Go.Proofs.YtjfhhcaikapfiaaDoor.Ux
