/-
  The contracts of the reference of package escape: Cut, digits, Text, Codes, ParseCodes.
-/
import Derived.Test.YtkfchcmbpgcncaaDoorEsRead
namespace Go.Proofs.YtkfchcmbpgcncaaDoor.Es
open Go.RowKit
set_option linter.unusedVariables false

/-- Some whole pieces are out, and what is between the last cut and here has no blank. -/
structure Cutting (c : UInt8) (l : List UInt8) (f k : Nat) (out : List (List UInt8)) : Prop where
  le : f ≤ k
  hi : k ≤ l.length
  free : c ∉ (l.drop f).take (k - f)
  eq : cutL c l = out ++ cutL c (l.drop f)
theorem Cutting.zero (c : UInt8) (l : List UInt8) : Cutting c l 0 0 [] := ⟨Nat.le_refl _, Nat.zero_le _, by simp, by simp⟩
theorem Cutting.split {c : UInt8} {l : List UInt8} {f k : Nat} {out : List (List UInt8)} (h : Cutting c l f k out) (hk : k < l.length) : l.drop f = (l.drop f).take (k - f) ++ l[k] :: l.drop (k + 1) := by
  have e : (l.drop f).drop (k - f) = l[k] :: l.drop (k + 1) := by
    have := h.le
    rw [List.drop_drop, show f + (k - f) = k by omega, List.drop_eq_getElem_cons hk]
  rw [← e, List.take_append_drop]
theorem Cutting.hit {c : UInt8} {l : List UInt8} {f k : Nat} {out : List (List UInt8)} (h : Cutting c l f k out) (hk : k < l.length) (e : l[k] = c) : Cutting c l (k + 1) (k + 1) (out ++ [(l.drop f).take (k - f)]) := by
  have hs := h.split hk
  refine ⟨Nat.le_refl _, hk, by simp, ?_⟩
  rw [h.eq]
  conv => lhs; rw [hs, e, cutL_piece c _ _ h.free]
  simp
theorem Cutting.miss {c : UInt8} {l : List UInt8} {f k : Nat} {out : List (List UInt8)} (h : Cutting c l f k out) (hk : k < l.length) (e : l[k] ≠ c) : Cutting c l f (k + 1) out := by
  have hs := h.split hk
  have := h.le
  refine ⟨by omega, hk, ?_, h.eq⟩
  have hl : ((l.drop f).take (k - f)).length = k - f := by rw [List.length_take, List.length_drop]; omega
  have e2 : (l.drop f).take (k + 1 - f) = (l.drop f).take (k - f) ++ [l[k]] := by
    rw [show k + 1 - f = (k - f) + 1 by omega, List.take_succ_eq_append_getElem (by rw [List.length_drop]; omega), List.getElem_drop]
    congr 3
    omega
  rw [e2]
  intro hm
  rcases List.mem_append.1 hm with hm | hm
  · exact h.free hm
  · simp at hm; exact e hm.symm
theorem Cutting.done {c : UInt8} {l : List UInt8} {f k : Nat} {out : List (List UInt8)} (h : Cutting c l f k out) (hk : l.length ≤ k) : cutL c l = out ++ [l.drop f] := by
  rw [h.eq]
  have e : (l.drop f).take (k - f) = l.drop f := List.take_of_length_le (by rw [List.length_drop]; omega)
  have := h.free
  rw [e] at this
  rw [cutL_last c _ this]
theorem piece_str (s : ByteArray) (f k : Nat) (hf : f ≤ k) : s.extract f k = bytesOf ((s.data.toList.drop f).take (k - f)) := by
  apply ByteArray.ext
  apply Array.ext'
  simp [bytesOf, ByteArray.data_extract, Array.toList_extract, List.extract]
theorem piece_end (s : ByteArray) (f : Nat) : s.extract f s.size = bytesOf (s.data.toList.drop f) := by
  have := drop_bytes s f
  rw [← this, bytesOf_data]

set_option maxRecDepth 100000 in
set_option maxHeartbeats 2000000 in
theorem ref_cut_any (s : ByteArray) (c : UInt8) (hs : s.size ≤ 100000) (w : World) : Calls Tryd.prog 31 #[.string s, .int .u8 (c.toNat : Int)] w (StrLists (cutL c s.data.toList) w) := by
  have hclt := c.toNat_lt
  go_enter Tryd.func31, Tryd.ntmps31
  go_wp2
  go_loopw [5, 6, 7] (fun v fr i wr => ∃ (f k m : Nat) (out : List (List UInt8)), i = .int .i64 k ∧ fr = .int .i64 f ∧ m ≤ k ∧ f ≤ k ∧ k ≤ s.size ∧ Own wr w.heap.size 9 1 v m (strs out) ∧ Below w.heap.size w wr ∧ Hid (Cutting c s.data.toList f k out)) (fun _ _ i _ => s.size - (intOf i).toNat)
  case atStart => exact ⟨0, 0, 0, [], rfl, rfl, Nat.le_refl _, Nat.le_refl _, Nat.zero_le _, Own.nil _ _ _ _, Below.refl _ _, Lib.hid (Cutting.zero _ _)⟩
  case round =>
    obtain ⟨f, k, m, out, rfl, rfl, hm, hf, hk, ho, hb, HC⟩ := hrel
    have hbs := hb.size
    by_cases hlt : k < s.size
    · have hlt' : k < s.data.toList.length := by rw [length_of]; exact hlt
      have hget : s.data.toList[k] = s[k] := by have := byte_at s k hlt; rw [this, List.getD, List.getElem?_eq_getElem hlt']; rfl
      have hlo := (s[k]).toNat_lt
      by_cases he : s[k] = c
      · have t1 : (((s[k]).toNat : Int) == (c.toNat : Int)) = true := by simp [he]
        have HS := Lib.hid (HC.out.hit hlt' (hget.trans he))
        have hp := piece_str s f k hf
        obtain ⟨p, hpp⟩ : ∃ p, (s.data.toList.drop f).take (k - f) = p := ⟨_, rfl⟩
        rw [hpp] at hp
        have HP := Lib.hid hpp
        clear hpp he
        have HX := Lib.hid hp
        clear hp
        go_wp2_with (at_builtin; rw [HX.out]; refine wpList_append_strs rfl (.tmp 19) (.tmp 24) rfl w.heap.size _ m out rfl (ho.alloc _) _ 1 1 [p] rfl (Sl.built wr 9 1 1 _ rfl (by unfold maxLen; omega)) (m + 1) rfl (out ++ [p]) rfl (by omega) (by simp; omega) ?_; intro v2 w2 o2 b2)
        go_roundw
        case rel => exact ⟨k + 1, k + 1, m + 1, out ++ [p], by go_num, by go_num, by omega, by omega, by omega, o2, (hb.alloc hbs _).trans b2, Lib.hid (by rw [← HP.out]; exact HS.out)⟩
        case measure => simp [intOf]; omega
      · have t1 : (((s[k]).toNat : Int) == (c.toNat : Int)) = false := by
          rw [beq_eq_false_iff_ne]
          intro e
          exact he (UInt8.toNat.inj (by omega))
        have HS := Lib.hid (HC.out.miss hlt' (fun e => he (hget.symm.trans e)))
        clear he
        go_wp2
        go_roundw
        case rel => exact ⟨f, k + 1, m, out, by go_num, rfl, by omega, by omega, by omega, ho, hb, HS⟩
        case measure => simp [intOf]; omega
    · have HS := Lib.hid (HC.out.done (by rw [length_of]; omega))
      have hp := piece_end s f
      obtain ⟨p, hpp⟩ : ∃ p, s.data.toList.drop f = p := ⟨_, rfl⟩
      rw [hpp] at hp
      have HP := Lib.hid hpp
      have HX := Lib.hid hp
      clear hpp hp
      go_wp2_with (at_builtin; rw [HX.out]; refine wpList_append_strs rfl (.tmp 28) (.tmp 32) rfl w.heap.size _ m out rfl (ho.alloc _) _ 1 1 [p] rfl (Sl.built wr 9 1 1 _ rfl (by unfold maxLen; omega)) (m + 1) rfl (out ++ [p]) rfl (by omega) (by simp; omega) ?_; intro v2 w2 o2 b2)
      obtain ⟨E, g, rfl, hlo⟩ := o2.sl
      go_ret
      exact ⟨E, _, g, rfl, by rw [HS.out, HP.out]; exact hlo, (hb.alloc hbs _).trans b2⟩
end Go.Proofs.YtkfchcmbpgcncaaDoor.Es
