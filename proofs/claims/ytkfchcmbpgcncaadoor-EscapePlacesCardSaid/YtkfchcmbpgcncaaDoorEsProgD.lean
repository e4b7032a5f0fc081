/-
  The contracts of package escape's allCodePoints and item.
-/
import Derived.Test.YtkfchcmbpgcncaaDoorEsProgC
import Derived.Test.YtkfchcmbpgcncaaDoorStr
import Derived.Test.YtkfchcmbpgcncaaDoorBld
namespace Go.Proofs.YtkfchcmbpgcncaaDoor.Es
open Go.RowKit
set_option linter.unusedVariables false

/-- All are code points. -/
def allV (zs : List Int) : Bool := zs.all isValid
theorem allV_bad {zs : List Int} {k : Nat} (hk : k < zs.length) (h : isValid (zs.getD k 0) = false) : allV zs = false := by
  rw [← Bool.not_eq_true]
  intro h2
  have := List.all_eq_true.1 h2 (zs.getD k 0) (by rw [List.getD, List.getElem?_eq_getElem hk]; exact List.getElem_mem hk)
  rw [h] at this
  cases this
/-- The first k are. -/
def Upto (zs : List Int) (k : Nat) : Prop := (zs.take k).all isValid = true
theorem Upto.step {zs : List Int} {k : Nat} (h : Upto zs k) (hk : k < zs.length) (hv : isValid (zs.getD k 0) = true) : Upto zs (k + 1) := by
  unfold Upto at h ⊢
  rw [List.take_succ_eq_append_getElem hk, List.all_append, h]
  rw [List.getD, List.getElem?_eq_getElem hk] at hv
  simpa using hv
theorem Upto.all {zs : List Int} {k : Nat} (h : Upto zs k) (hk : zs.length ≤ k) : allV zs = true := by
  unfold Upto at h
  rwa [List.take_of_length_le hk] at h
theorem all_any (A : Option Addr) (n c : Nat) (zs : List Int) (w : World) (hl : Sl w A n c 1 (ints zs)) (hn : n ≤ 1000000) :
    Calls Tryd.prog 22 #[.slice A n c] w (Gives (.bool (allV zs)) w) := by
  have hc := Lib.hid hl.count
  go_enter Tryd.func22, Tryd.ntmps22
  go_wp2
  go_loop [7] (fun i => ∃ k : Nat, k ≤ n ∧ i = .int .i64 k ∧ Upto zs k) (fun i => n - (intOf i).toNat)
  case atStart => exact ⟨0, Nat.zero_le _, rfl, by simp [Upto]⟩
  case round =>
    obtain ⟨k, hk, rfl, hu⟩ := hrel
    by_cases hlt : k < n
    · obtain ⟨b, off, rfl, _, hcell⟩ := hl.int_at hlt
      obtain ⟨x, hx⟩ : ∃ x, zs.getD k 0 = x := ⟨_, rfl⟩
      rw [hx] at hcell
      rcases hv : isValid x with _ | _
      · have HB := Lib.hid (allV_bad (zs := zs) (k := k) (by rw [← hc.out]; exact hlt) (by rw [hx]; exact hv))
        have HV := Lib.hid hv
        clear hv hu hx
        go_wp2_with (go_at_call 37; refine (valid_x HV.out _).mono ?_; rintro e w' ⟨rfl, rfl⟩)
        go_ret
        exact gives_bool HB.out
      · have HB := Lib.hid (hu.step (by rw [← hc.out]; exact hlt) (by rw [hx]; exact hv))
        have HV := Lib.hid hv
        clear hv hu hx
        go_wp2_with (go_at_call 37; refine (valid_x HV.out _).mono ?_; rintro e w' ⟨rfl, rfl⟩)
        go_round
        case rel => exact ⟨k + 1, by omega, by go_num, HB.out⟩
        case measure => simp [intOf]; omega
    · have HB := Lib.hid (hu.all (by rw [← hc.out]; omega))
      clear hu
      go_wp2
      go_ret
      exact gives_bool HB.out
theorem all_x {A : Option Addr} {n c : Nat} {zs : List Int} {w : World} {b : Bool} (h : allV zs = b) (hl : Sl w A n c 1 (ints zs)) (hn : n ≤ 1000000) :
    Calls Tryd.prog 22 #[.slice A n c] w (Gives (.bool b) w) := by
  rw [← h]
  exact all_any A n c zs w hl hn

theorem itemL_a {c : Int} (h : c = 34 ∨ c = 92) : itemL c = [92, u8 c] := by unfold itemL; rw [if_pos h]
theorem itemL_b {c : Int} (h : ¬ (c = 34 ∨ c = 92)) (h2 : 32 ≤ c ∧ c ≤ 126) : itemL c = [u8 c] := by unfold itemL; rw [if_neg h, if_pos h2]
theorem itemL_c : itemL 0 = [92, 117, 123, 48, 125] := by decide
theorem itemL_d {c : Int} (h : ¬ (c = 34 ∨ c = 92)) (h2 : ¬ (32 ≤ c ∧ c ≤ 126)) (h3 : c ≠ 0) : itemL c = [92, 117, 123] ++ trimZ (hexL c) ++ [125] := by unfold itemL; rw [if_neg h, if_neg h2, if_neg h3]
theorem strOf_bytes (l : List Int) : strOfNums l = bytesOf (l.map u8) := by
  apply ByteArray.ext
  simp [strOfNums, bytesOf, u8]
theorem bytesOf_append (a b : List UInt8) : bytesOf a ++ bytesOf b = bytesOf (a ++ b) := by
  apply ByteArray.ext
  simp [bytesOf]
theorem makes_string {a b : ByteArray} {w w' : World} (h : a = b) (hb : Below w.heap.size w w') : Makes (.string a) w (.returned (.string b)) w' := by rw [h]; exact ⟨rfl, hb⟩
theorem trim_any (l : List UInt8) (w : World) : Calls Tryd.prog 47 #[.string (bytesOf l), .string ⟨#[48]⟩] w (Gives (.string (bytesOf (trimZ l))) w) := by
  refine (Tryd.strings_TrimLeft_one (bytesOf l) 48 (by decide) w).mono ?_
  rintro e w' ⟨rfl, rfl⟩
  exact ⟨by rw [bytesOf_list]; rfl, rfl⟩
set_option maxHeartbeats 1000000 in
theorem item_any (c : Int) (hc : isCode c = true) (w : World) (ht : Tab w) : Calls Tryd.prog 39 #[.int .i64 c] w (Makes (.string (bytesOf (itemL c))) w) := by
  obtain ⟨h0, h1⟩ := isCode_bounds hc
  by_cases ha : c = 34 ∨ c = 92
  · have H := Lib.hid (itemL_a ha)
    have hcv := conv_bytes (Sl.built w 5 1 2 (bys [92, c]) rfl (ml 2 (by omega)))
    rw [strOf_bytes] at hcv
    simp only [bys, List.map_cons, List.map_nil] at hcv
    rcases ha with rfl | rfl
    all_goals
      go_enter Tryd.func39, Tryd.ntmps39
      go_wp2
      go_ret
      exact makes_string (by rw [H.out]; rfl) ((Below.refl _ _).alloc (Nat.le_refl _) _)
  · by_cases hb : 32 ≤ c ∧ c ≤ 126
    · have H := Lib.hid (itemL_b ha hb)
      have hP := Lib.hid (isPrint_of hb.1 hb.2)
      have e1 : (c == 34) = false := by simp; omega
      have e2 : (c == 92) = false := by simp; omega
      have hcv := conv_bytes (Sl.built w 5 1 1 (bys [c]) rfl (ml 1 (by omega)))
      rw [strOf_bytes] at hcv
      simp only [bys, List.map_cons, List.map_nil] at hcv
      obtain ⟨hb1, hb2⟩ := hb
      clear ha
      go_enter Tryd.func39, Tryd.ntmps39
      go_wp2_with (go_at_call 36; refine (printable_x hP.out _).mono ?_; rintro e w' ⟨rfl, rfl⟩)
      go_ret
      exact makes_string (by rw [H.out]) ((Below.refl _ _).alloc (Nat.le_refl _) _)
    · have hP : Hid (isPrint c = false) := Lib.hid (by simp [isPrint]; omega)
      have e1 : (c == 34) = false := by simp; omega
      have e2 : (c == 92) = false := by simp; omega
      by_cases hz : c = 0
      · subst hz
        have H := Lib.hid itemL_c
        clear ha hb
        go_enter Tryd.func39, Tryd.ntmps39
        go_wp2_with (go_at_call 36; refine (printable_x hP.out _).mono ?_; rintro e w' ⟨rfl, rfl⟩)
        go_ret
        exact makes_string (by rw [H.out]; rfl) (Below.refl _ _)
      · have H := Lib.hid (itemL_d ha hb hz)
        have e3 : (c == 0) = false := by simp [hz]
        have hl : (bytesOf (trimZ (hexL c))).size ≤ 6 := by
          rw [bytesOf_size]
          have := trimZ_length (hexL c)
          rw [hexL_length hc] at this
          have := nd_range c.toNat
          omega
        obtain ⟨r, hr⟩ : ∃ r, bytesOf (trimZ (hexL c)) = r := ⟨_, rfl⟩
        have HR := Lib.hid hr
        rw [hr] at hl
        clear ha hb hz hr
        go_enter Tryd.func39, Tryd.ntmps39
        go_wp2_with (first | (go_at_call 36; refine (printable_x hP.out _).mono ?_; rintro e w' ⟨rfl, rfl⟩) | (go_at_call 28; refine (hex_any c _ ht).mono ?_; rintro e w1 ⟨rfl, hb1⟩) | (go_at_call 47; refine (trim_any _ _).mono ?_; rintro e w2 ⟨rfl, rfl⟩; rw [HR.out]))
        go_ret
        exact makes_string (by rw [H.out, ← HR.out, ← bytesOf_append, ← bytesOf_append]; rfl) hb1
end Go.Proofs.YtkfchcmbpgcncaaDoor.Es
