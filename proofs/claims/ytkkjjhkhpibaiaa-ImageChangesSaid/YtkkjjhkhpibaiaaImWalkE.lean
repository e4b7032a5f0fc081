/-
  The walk of ImageChanges.
-/
import Derived.Test.YtkkjjhkhpibaiaaImAwake
import Derived.Lib.ConvBytes
import Derived.Laws.AppendOwn
namespace Go.Proofs.Ytkkjjhkhpibaiaa.Im
open Go.RowKit
set_option linter.unusedVariables false

/-- A block of the call's own that begins with these bytes. -/
def BB (w : World) (g cp : Nat) (l : List Int) : Prop := ∃ (xs : List Value) (f : Nat × Nat), w.heap[g]? = some (.cells (bys l ++ xs).toArray 5 f) ∧ (bys l ++ xs).length = f.1 ∧ l.length ≤ cp ∧ cp ≤ maxLen
theorem BB.cell {w : World} {g cp k : Nat} {l : List Int} (h : BB w g cp l) (hk : k < l.length) : w.cell? ⟨g, k, none⟩ = some (.int .u8 (l.getD k 0)) := by
  obtain ⟨xs, f, h1, h2, h3, h4⟩ := h
  have hk2 : k < (bys l).length := by simpa [bys] using hk
  rw [cell_of_row _ _ _ _ _ _ h1]
  simp only [List.getElem?_toArray]
  rw [List.getElem?_append_left hk2]
  simp [bys, List.getD, hk]
theorem BB.free {w : World} {g cp k : Nat} {l : List Int} (h : BB w g cp l) (hk : k < l.length) : w.frozen? ⟨g, k, none⟩ = false := by
  obtain ⟨xs, f, h1, h2, h3, h4⟩ := h
  have e : l.length ≤ f.1 := by rw [← h2, List.length_append]; simp [bys]
  simp [World.frozen?, h1]
  omega
theorem BB.set {w : World} {g cp k : Nat} {l : List Int} (h : BB w g cp l) (hk : k < l.length) (x : Int) : BB (w.setCell ⟨g, k, none⟩ (.int .u8 x)) g cp (l.set k x) := by
  obtain ⟨xs, f, h1, h2, h3, h4⟩ := h
  have hk2 : k < (bys l).length := by simpa [bys] using hk
  refine ⟨xs, f, ?_, by rw [← h2]; simp [bys], by simpa using h3, h4⟩
  simp only [World.setCell, Array.getElem?_modify, h1]
  simp [bys, List.map_set]
  exact List.set_append_left _ _ (by simpa using hk)
theorem BB.sl {w : World} {g cp n : Nat} {l : List Int} (h : BB w g cp l) (hn : n = l.length) : Sl w (some ⟨g, 0, none⟩) n cp 1 (bys l) := by
  obtain ⟨xs, f, h1, h2, h3, h4⟩ := h
  refine ⟨by simp [bys]; omega, by omega, h4, (fun e => by cases e), ?_⟩
  refine CellsAt.of_row h1 (fun j u hj => ?_)
  have hlt := (List.getElem?_eq_some_iff.1 hj).1
  simp only [List.getElem?_toArray]
  rw [List.getElem?_append_left hlt]
  exact hj
theorem conv_str (s : ByteArray) (w : World) (hs : s.size ≤ 1000000) : ∃ (cp : Nat) (w' : World), (convert 9 39 (.string s)).run Try.prog w = .ok (.slice (some ⟨w.heap.size, 0, none⟩) s.size cp) w' ∧ BB w' w.heap.size cp (strInts s) ∧ Below w.heap.size w w' := by
  have h := Lib.run_convert_string_bytes (P := Try.prog) w 9 39 5 s Try.underlying9 Try.underlying39 Try.underlying5
  refine ⟨_, _, h, ⟨List.replicate (grownCap w s.size 0 5 - s.size) (.int .u8 0), ((Lib.bytesCells w 5 s).size, (Lib.bytesCells w 5 s).size + 1), ?_, ?_, ?_, ?_⟩, ?_⟩
  · rw [Lib.bytesWorld_at_new]
    congr 2
    apply Array.ext'
    simp [Lib.bytesCells, bys, strInts]
  · simp [Lib.bytesCells, bys, strInts]
  · rw [strInts_len]; exact grownCap_ge _ _ _ _
  · exact grownCap_le_maxLen _ _ _ _ (by unfold maxLen; omega)
  · exact ⟨rfl, rfl, rfl, by rw [Lib.bytesWorld_size]; omega, fun k hk => Lib.bytesWorld_at_old _ _ _ _ hk⟩

theorem set_at {l : List Int} {k : Nat} {y : Int} (h : k < l.length) : l.set k y = l.take k ++ y :: l.drop (k + 1) := by
  rw [List.set_eq_take_append_cons_drop, if_pos h]
theorem split_at {l : List Int} {k : Nat} (h : k < l.length) : l = l.take k ++ l.getD k 0 :: l.drop (k + 1) := by
  have e : l.getD k 0 = l[k] := by simp [List.getD, h]
  rw [e, List.getElem_cons_drop, List.take_append_drop]
theorem changed {b : ByteArray} {k : Nat} {y : Int} (hk : k < (strInts (sealS b)).length) (hy : 0 ≤ y ∧ y ≤ 255) (hne : y ≠ (strInts (sealS b)).getD k 0) : openS (strOfNums ((strInts (sealS b)).set k y)) = (⟨#[]⟩, 14) := by
  have hlt := sumL_lt (strInts b)
  have hB : ∀ x ∈ strInts b, 0 ≤ x ∧ x ≤ 255 := by
    intro x hx
    obtain ⟨c, _, rfl⟩ := List.mem_map.1 hx
    have := c.toNat_lt
    omega
  have hl : strInts (sealS b) = b4 (sumL (strInts b)) ++ strInts b := by
    have e : strInts (sealS b) = strInts (strOfNums (b4 (sumL (strInts b)))) ++ strInts b := by simp [strInts, sealS]
    rw [e, strOf_ints (b4_range hlt)]
  rw [hl] at hk hne ⊢
  obtain ⟨B, hBB⟩ : ∃ B, strInts b = B := ⟨_, rfl⟩
  rw [hBB] at hk hne hB hlt ⊢
  have hS := b4_len (sumL B)
  have hr : ∀ x ∈ (b4 (sumL B) ++ B).set k y, 0 ≤ x ∧ x ≤ 255 := by
    intro x hx
    rcases List.mem_or_eq_of_mem_set hx with h | h
    · rcases List.mem_append.1 h with h | h
      · exact b4_range hlt x h
      · exact hB x h
    · rw [h]; exact hy
  have hsi : strInts (strOfNums ((b4 (sumL B) ++ B).set k y)) = (b4 (sumL B) ++ B).set k y := strOf_ints hr
  have hsz : (strOfNums ((b4 (sumL B) ++ B).set k y)).size = 4 + B.length := by rw [strOf_size]; simp [hS]
  rw [openS, if_neg (by omega), if_neg]
  intro h
  have h2 := congrArg strInts h
  have e1 : strInts ((strOfNums ((b4 (sumL B) ++ B).set k y)).extract 4 (strOfNums ((b4 (sumL B) ++ B).set k y)).size) = ((b4 (sumL B) ++ B).set k y).drop 4 := by rw [strInts_drop, hsi]
  have e2 : strInts ((strOfNums ((b4 (sumL B) ++ B).set k y)).extract 0 4) = ((b4 (sumL B) ++ B).set k y).take 4 := by
    conv => rhs; rw [← hsi]
    simp only [strInts, ByteArray.data_extract, Array.toList_extract, List.extract, List.map_take, List.drop_zero, Nat.sub_zero]
  rw [e1, e2, strOf_ints (b4_range (sumL_lt _))] at h2
  rcases Nat.lt_or_ge k 4 with h4 | h4
  · rw [List.set_append_left _ _ (by rw [hS]; exact h4)] at h2
    rw [List.drop_left' (by simp [hS]), List.take_left' (by simp [hS])] at h2
    have h5 : (b4 (sumL B)).getD k 0 = y := by
      rw [h2]
      simp [List.getD, hS, h4]
    apply hne
    rw [← h5]
    simp [List.getD, List.getElem?_append_left (show k < (b4 (sumL B)).length by omega)]
  · rw [List.set_append_right _ _ (by rw [hS]; exact h4), hS] at h2
    rw [List.drop_left' hS, List.take_left' hS] at h2
    have h5 := b4_inj h2
    have hk3 : k - 4 < B.length := by rw [List.length_append, hS] at hk; omega
    rw [set_at hk3] at h5
    conv at h5 => rhs; rw [split_at hk3]
    have h6 := sum_changes (fun z hz => hB z (List.mem_of_mem_take hz)) (fun z hz => hB z (List.mem_of_mem_drop hz)) hy (by
      have : B.getD (k - 4) 0 ∈ B := by simp [List.getD, hk3]
      exact hB _ this) h5
    apply hne
    rw [h6]
    simp [List.getD, List.getElem?_append_right (show (b4 (sumL B)).length ≤ k by omega), hS]
theorem xor_byte {x d : Int} (hx : 0 ≤ x ∧ x ≤ 255) (hd : 1 ≤ d ∧ d ≤ 255) : ∃ y, bits .xor .u8 x d = y ∧ (0 ≤ y ∧ y ≤ 255) ∧ y ≠ x := by
  obtain ⟨a, rfl⟩ : ∃ a : Nat, x = (a : Int) := ⟨x.toNat, by omega⟩
  obtain ⟨b, rfl⟩ : ∃ b : Nat, d = (b : Int) := ⟨d.toNat, by omega⟩
  refine ⟨_, u8_xor_nat a b (by omega) (by omega), ?_, ?_⟩
  · have : a ^^^ b < 2 ^ 8 := Nat.xor_lt_two_pow (by omega) (by omega)
    omega
  · intro h
    have h2 : a ^^^ b = a := by omega
    have h3 : (a ^^^ b) ^^^ a = b := by rw [Nat.xor_comm a b, xor_back]
    rw [h2, Nat.xor_self] at h3
    omega

set_option maxRecDepth 100000 in
set_option maxHeartbeats 2000000 in
theorem changes_walk (b : ByteArray) (at' by' : Int) (W : World) (hw : b.size ≤ 9223372036854775807) (h1 : (Lit.int .u16 at').wf = true) (h2 : (Lit.int .u8 by').wf = true) :
    Calls Try.prog 8 #[.string b, .int .u16 at', .int .u8 by'] W (Makes (.bool true) W) := by
  have ha : 0 ≤ at' ∧ at' ≤ 65535 := by simpa [Lit.wf, IntKind.min, IntKind.max, IntKind.signed, IntKind.bits] using h1
  have hb : 0 ≤ by' ∧ by' ≤ 255 := by simpa [Lit.wf, IntKind.min, IntKind.max, IntKind.signed, IntKind.bits] using h2
  clear h1 h2
  obtain ⟨ha0, ha1⟩ := ha
  obtain ⟨hb0, hb1⟩ := hb
  rcases Nat.lt_or_ge 2000 b.size with h | h
  · have i1 : (2000 : Int) < (b.size : Int) := by omega
    go_enter Try.func8, Try.ntmps8
    go_wp2_with (first
      | (go_at_call 15; refine (alive_any _).mono ?_; rintro e w2 ⟨rfl, b2⟩))
    go_ret
    exact ⟨rfl, b2⟩
  · have i1 : ¬ (2000 : Int) < (b.size : Int) := by omega
    obtain ⟨r, hr⟩ : ∃ r, sealS b = r := ⟨_, rfl⟩
    have hz : r.size = b.size + 4 := by rw [← hr, sealS, ByteArray.size_append, b4_size]; omega
    have hzi : (r.size : Int) = (b.size : Int) + 4 := by omega
    obtain ⟨k, hk1, hk2⟩ : ∃ k : Nat, at'.tmod ((b.size : Int) + 4) = (k : Int) ∧ k < r.size := by
      have hne : (b.size : Int) + 4 ≠ 0 := by omega
      have p1 := Int.emod_nonneg at' hne
      have p2 := Int.emod_lt_of_pos at' (show (0 : Int) < (b.size : Int) + 4 by omega)
      exact ⟨(at' % ((b.size : Int) + 4)).toNat, by rw [Int.tmod_eq_emod_of_nonneg ha0]; omega, by omega⟩
    obtain ⟨d, hd1, hd2, hd3⟩ : ∃ d : Int, by'.tmod 255 = d ∧ 0 ≤ d ∧ d ≤ 254 := ⟨_, rfl, by rw [Int.tmod_eq_emod_of_nonneg hb0]; omega, by rw [Int.tmod_eq_emod_of_nonneg hb0]; omega⟩
    have hkl : k < (strInts r).length := by rw [strInts_len]; exact hk2
    obtain ⟨x, hx⟩ : ∃ x, (strInts r).getD k 0 = x := ⟨_, rfl⟩
    have hxr : 0 ≤ x ∧ x ≤ 255 := by
      rw [← hx, strInts_at hk2]
      have := r[k].toNat_lt
      omega
    obtain ⟨y, hy1, hy2, hy3⟩ := xor_byte (d := 1 + d) hxr (by omega)
    have HCH : Hid (openS (strOfNums ((strInts r).set k y)) = (⟨#[]⟩, 14)) := Lib.hid (by
      rw [← hr]
      rw [← hr] at hkl hx
      exact changed hkl hy2 (by rw [hx]; exact hy3))
    have HR := Lib.hid hr
    have HX := Lib.hid hx
    have HKL := Lib.hid hkl
    have HSZ : Hid (r.size ≤ 1000000) := Lib.hid (by omega)
    obtain ⟨l2, hl2⟩ : ∃ l2, (strInts r).set k y = l2 := ⟨_, rfl⟩
    have HL2 := Lib.hid hl2
    have HLL : Hid (r.size = l2.length) := Lib.hid (by rw [← hl2, List.length_set, strInts_len])
    have HS2 : Hid ((strOfNums l2).size ≤ 1000000) := Lib.hid (by rw [strOf_size, ← HLL.out]; omega)
    rw [hl2] at HCH
    obtain ⟨t, ht⟩ : ∃ t, strOfNums l2 = t := ⟨_, rfl⟩
    rw [ht] at HCH HS2
    have HT := Lib.hid ht
    obtain ⟨q, hq⟩ : ∃ q, r.size = q := ⟨_, rfl⟩
    have HQ := Lib.hid hq
    rw [hq] at hk2 hzi
    have hk3 : at'.tmod (q : Int) = (k : Int) := by rw [hzi]; exact hk1
    have i4 : ((q : Int) != (b.size : Int) + 4) = false := by rw [hzi]; simp
    have i5 : ¬ (q : Int) = 0 := by omega
    have hq2 : q ≤ 2004 := by omega
    clear hk1 hr hz hkl hx hxr hy2 hy3 hl2 ht hq hzi
    have HDO : Hid (∀ w1 : World, ∃ (cp : Nat) (w2 w3 : World), (convert 9 39 (.string r)).run Try.prog w1 = .ok (.slice (some ⟨w1.heap.size, 0, none⟩) q cp) w2 ∧ w2.cell? ⟨w1.heap.size, k, none⟩ = some (.int .u8 x) ∧ w2.frozen? ⟨w1.heap.size, k, none⟩ = false ∧ w2.setCell ⟨w1.heap.size, k, none⟩ (.int .u8 y) = w3 ∧ (convert 39 9 (.slice (some ⟨w1.heap.size, 0, none⟩) q cp)).run Try.prog w3 = .ok (.string t) w3 ∧ Below w1.heap.size w1 w3) := Lib.hid (fun w1 => by
      obtain ⟨cp, w2, e1, e2, e3⟩ := conv_str r w1 HSZ.out
      have e4 := e2.set HKL.out y
      rw [HL2.out] at e4
      refine ⟨cp, w2, _, by rw [e1, HQ.out], by rw [e2.cell HKL.out, HX.out], e2.free HKL.out, rfl, ?_, e3.setCell (p := ⟨w1.heap.size, k, none⟩) (Nat.le_refl _) _⟩
      rw [conv_bytes (e4.sl (by rw [← HQ.out]; exact HLL.out)), HT.out])
    go_enter Try.func8, Try.ntmps8
    go_wp2_with (first
      | (go_at_call 20; refine (seal_any b _ (by omega)).mono ?_; rintro e w1 ⟨rfl, b1⟩; rw [HR.out]; obtain ⟨cp, w2, w3, c1, c2, c3, c4, c5, b3⟩ := HDO.out w1; have t3 := b1.trans (b3.mono b1.size))
      | (go_at_call 21; refine (open_any t _ HS2.out HCH.out).mono ?_; rintro e w4 ⟨rfl, b4⟩; have t4 := t3.trans (b4.mono t3.size))
      | (go_at_call 15; refine (alive_any _).mono ?_; rintro e w5 ⟨rfl, b5⟩))
    go_ret
    exact ⟨rfl, t4.trans (b5.mono t4.size)⟩
end Go.Proofs.Ytkkjjhkhpibaiaa.Im
