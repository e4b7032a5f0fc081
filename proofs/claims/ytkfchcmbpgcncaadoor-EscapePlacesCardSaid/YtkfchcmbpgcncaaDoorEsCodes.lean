/-
  The contracts of package escape's Codes and ParseCodes.
-/
import Derived.Test.YtkfchcmbpgcncaaDoorEsText
import Derived.Test.YtkfchcmbpgcncaaDoorEsMathC
import Derived.Test.YtkfchcmbpgcncaaDoorCut
namespace Go.Proofs.YtkfchcmbpgcncaaDoor.Es
open Go.RowKit
set_option linter.unusedVariables false

/-- What a call may count on of old memory: the table, the library's variable. -/
structure Env (w : World) : Prop where
  tab : Tab w
  max : MaxL w
theorem Env.next {w w1 : World} (h : Env w) (hb : Below w.heap.size w w1) : Env w1 := ⟨h.tab.below h.tab.lt hb, h.max.below h.max.lt hb⟩
theorem Env.alloc {w : World} (h : Env w) (o : Obj) : Env (w.alloc o) := h.next ((Below.refl _ _).alloc (Nat.le_refl _) _)
theorem Bd.below {B b : Nat} {l : List UInt8} {W W' : World} (h : Bd B b l W) (hb : Below W.heap.size W W') : Bd B b l W' := Bd.grown h (grown_of hb) (fun r e => by cases e)
theorem allV_code {zs : List Int} (h : allV zs = true) {k : Nat} (hk : k < zs.length) : isCode (zs.getD k 0) = true := isCode_at (fun x hx => List.all_eq_true.1 h x hx) hk
def codesR (zs : List Int) : ByteArray × Int := if allV zs = true then (bytesOf (codesL zs), 0) else (⟨#[]⟩, 1)
theorem codes_step0 {zs : List Int} (h : 0 < zs.length) : codesL (zs.take 1) = hexL (zs.getD 0 0) := by
  cases zs with
  | nil => simp at h
  | cons x r => simp [codesL, joinL]
theorem codes_step {zs : List Int} {k : Nat} (h0 : 0 < k) (h : k < zs.length) : codesL (zs.take (k + 1)) = codesL (zs.take k) ++ 32 :: hexL (zs.getD k 0) := by
  rw [List.take_succ_eq_append_getElem h, codesL_snoc, if_neg (by intro e; have := congrArg List.length e; rw [List.length_take] at this; simp only [List.length_nil] at this; omega)]
  simp [List.getD, List.getElem?_eq_getElem h]
theorem take_len (zs : List Int) (k : Nat) : (codesL (zs.take k)).length ≤ 7 * k := by
  have := codesL_len (zs.take k)
  rw [List.length_take] at this
  omega

set_option maxRecDepth 100000 in
set_option maxHeartbeats 2000000 in
theorem codes_good (A : Option Addr) (n c : Nat) (zs : List Int) (w : World) (hl : Sl w A n c 1 (ints zs)) (hn : n ≤ 1000) (hv : allV zs = true) (ht : Tab w) :
    Calls Tryd.prog 15 #[.slice A n c] w (StrErr (bytesOf (codesL zs), 0) w) := by
  have HV := Lib.hid hv
  have hc := Lib.hid hl.count
  clear hv
  go_enter Tryd.func15, Tryd.ntmps15
  go_wp2_with (go_at_call 22; refine (all_x HV.out hl (by omega)).mono ?_; rintro e w' ⟨rfl, rfl⟩)
  go_loopw [12] (fun i wr => ∃ k : Nat, k ≤ n ∧ i = .int .i64 k ∧ Bd w.heap.size w.heap.size (codesL (zs.take k)) wr ∧ Below w.heap.size w wr) (fun i _ => n - (intOf i).toNat)
  case atStart => exact ⟨0, Nat.zero_le _, rfl, Bd.fresh w (Nat.le_refl _), (Below.refl _ _).alloc (Nat.le_refl _) _⟩
  case round =>
    obtain ⟨k, hk, rfl, hbd, hB⟩ := hrel
    have hbs := hB.size
    have htk := take_len zs k
    by_cases hlt : k < n
    · have hlt' : k < zs.length := by have := hc.out; omega
      obtain ⟨b, off, rfl, hb, hcell⟩ := (hl.keep hB).int_at hlt
      obtain ⟨x, hx⟩ : ∃ x, zs.getD k 0 = x := ⟨_, rfl⟩
      rw [hx] at hcell
      have HX := Lib.hid hx
      have htr : Tab wr := ht.below ht.lt hB
      have hxl := hexL_le x
      clear hx
      rcases Nat.eq_zero_or_pos k with h0 | h0
      · subst h0
        rw [Nat.add_zero] at hcell
        have HS : Hid (codesL (zs.take 1) = codesL (zs.take 0) ++ (bytesOf (hexL x)).data.toList) := Lib.hid (by rw [codes_step0 hlt', HX.out, bytesOf_list]; rfl)
        go_wp2_with (first | (go_at_call 28; refine (hex_any x _ htr).mono ?_; rintro e w1 ⟨rfl, hb1⟩) | (go_at_call 24; refine (write_any _ _ _ _ _ (Bd.below hbd hb1) (by rw [bytesOf_size]; omega) (by have := hb1.size; omega) _ HS.out).mono ?_; rintro e w3 ⟨rfl, hb3, hbl3, hk3⟩))
        go_roundw
        case rel => exact ⟨1, by omega, by simp, hb3, (hB.trans (hb1.mono hbs)).trans hbl3⟩
        case measure => simp [intOf]; omega
      · obtain ⟨r, hr⟩ : ∃ r, codesL (zs.take k) ++ [32] = r := ⟨_, rfl⟩
        have HS : Hid (codesL (zs.take (k + 1)) = r ++ (bytesOf (hexL x)).data.toList) := Lib.hid (by rw [codes_step h0 hlt', HX.out, bytesOf_list, ← hr]; simp)
        have hrl : r.length ≤ 7 * k + 1 := by rw [← hr]; simp; omega
        have HR := Lib.hid hr
        clear hr
        go_wp2_with fail
        refine (write_any _ _ _ ⟨#[32]⟩ _ hbd (by show _ + 1 ≤ _; omega) hbs r HR.out.symm).mono ?_
        rintro e w0 ⟨rfl, hbd0, hbl0, hk0⟩
        have htr0 : Tab w0 := ht.below ht.lt (hB.trans hbl0)
        have hbs0 := (hB.trans hbl0).size
        go_wp2_with (first | (go_at_call 28; refine (hex_any x _ htr0).mono ?_; rintro e w1 ⟨rfl, hb1⟩) | (go_at_call 24; refine (write_any _ _ _ _ _ (Bd.below hbd0 hb1) (by rw [bytesOf_size]; omega) (by have := hb1.size; omega) _ HS.out).mono ?_; rintro e w3 ⟨rfl, hb3, hbl3, hk3⟩))
        go_roundw
        case rel => exact ⟨k + 1, by omega, by simp, hb3, ((hB.trans hbl0).trans (hb1.mono hbs0)).trans hbl3⟩
        case measure => simp [intOf]; omega
    · have HE : Hid (codesL (zs.take k) = codesL zs) := Lib.hid (by rw [List.take_of_length_le (by have := hc.out; omega)])
      go_wp2_with (go_at_call 25; refine (string_any _ _ _ _ hbd hbs).mono ?_; rintro e w5 ⟨rfl, hb5, hbl5, hk5⟩)
      go_ret2
      exact ⟨by rw [HE.out]; rfl, hB.trans hbl5⟩
theorem codes_bad (A : Option Addr) (n c : Nat) (zs : List Int) (w : World) (hl : Sl w A n c 1 (ints zs)) (hn : n ≤ 1000) (hv : allV zs = false) :
    Calls Tryd.prog 15 #[.slice A n c] w (StrErr (⟨#[]⟩, 1) w) := by
  have HV := Lib.hid hv
  clear hv
  go_enter Tryd.func15, Tryd.ntmps15
  go_wp2_with (go_at_call 22; refine (all_x HV.out hl (by omega)).mono ?_; rintro e w' ⟨rfl, rfl⟩)
  go_ret2
  exact ⟨rfl, Below.refl _ _⟩
theorem codes_any (A : Option Addr) (n c : Nat) (zs : List Int) (w : World) (hl : Sl w A n c 1 (ints zs)) (hn : n ≤ 1000) (ht : Tab w) :
    Calls Tryd.prog 15 #[.slice A n c] w (StrErr (codesR zs) w) := by
  rcases hv : allV zs with _ | _
  · have e : codesR zs = (⟨#[]⟩, 1) := by unfold codesR; rw [hv]; rfl
    rw [e]
    exact codes_bad A n c zs w hl hn hv
  · have e : codesR zs = (bytesOf (codesL zs), 0) := by unfold codesR; rw [hv]; rfl
    rw [e]
    exact codes_good A n c zs w hl hn hv ht
end Go.Proofs.YtkfchcmbpgcncaaDoor.Es
