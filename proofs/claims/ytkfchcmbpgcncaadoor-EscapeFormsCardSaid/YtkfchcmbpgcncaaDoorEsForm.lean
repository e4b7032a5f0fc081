/-
  The digits of a code point: with zeros before them, and in small letters.
-/
import Derived.Test.YtkfchcmbpgcncaaDoorEsWalkE
namespace Go.Proofs.YtkfchcmbpgcncaaDoor.Es
open Go.RowKit
set_option linter.unusedVariables false

/-- Digits and capital letters that read as c, six at most. -/
structure Dg (ds : List UInt8) (c : Int) : Prop where
  pos : 0 < ds.length
  le : ds.length ≤ 6
  dig : ∀ b ∈ ds, 0 ≤ dig b.toNat
  val : valD ds 0 = c
/-- The same, in whatever letters. -/
structure Dg2 (ds : List UInt8) (c : Int) : Prop where
  pos : 0 < ds.length
  le : ds.length ≤ 6
  dig : ∀ b ∈ ds, 0 ≤ dig2 b.toNat
  val : valD ds 0 = c
theorem scan_dig : ∀ (ds : List UInt8) (c z : Int), scan ds c = some z → ∀ b ∈ ds, 0 ≤ dig b.toNat
  | [], c, z, h => by simp
  | b :: r, c, z, h => by
    rw [scan] at h
    split at h
    · cases h
    · rename_i hb
      intro x hx
      rcases List.mem_cons.1 hx with rfl | hx
      · omega
      · exact scan_dig r _ z h x hx
theorem Dg.first {c : Int} (hc : isCode c = true) : Dg (hexL c) c :=
  ⟨by rw [hexL_length hc]; have := nd_range c.toNat; omega, hexL_le c, scan_dig _ _ _ (scan_hexL hc), (valD_scan _ _ _ (scan_hexL hc)).1⟩
theorem Dg.pad {ds : List UInt8} {c : Int} (h : Dg ds c) (hl : ds.length < 6) : Dg (48 :: ds) c :=
  ⟨by simp, by simp; omega, fun b hb => by
    rcases List.mem_cons.1 hb with rfl | hb
    · decide
    · exact h.dig b hb, by
    have : valD (48 :: ds) 0 = valD ds 0 := rfl
    rw [this]
    exact h.val⟩
theorem Dg.same {ds : List UInt8} {c : Int} (h : Dg ds c) : Dg2 ds c := ⟨h.pos, h.le, fun b hb => by rw [dig2_of (h.dig b hb)]; exact h.dig b hb, h.val⟩
def lowI (b : Int) : Int := if 65 ≤ b then b + 32 else b
theorem low_dig {b : UInt8} (h : 0 ≤ dig b.toNat) : dig2 (u8 (lowI b.toNat)).toNat = dig b.toNat := by
  have hb := b.toNat_lt
  have h2 : (u8 (lowI b.toNat)).toNat = (lowI b.toNat).toNat := by
    unfold u8
    rw [UInt8.toNat_ofNat_of_lt']
    unfold dig at h
    show (lowI b.toNat).toNat < 256
    unfold lowI
    split at h
    · split <;> omega
    · split at h
      · split <;> omega
      · omega
  rw [h2]
  unfold dig at h ⊢
  unfold dig2 lowI
  split at h
  · rename_i h1
    rw [if_pos h1, if_neg (show ¬ 65 ≤ ((b.toNat : Nat) : Int) by omega), Int.toNat_natCast, if_pos h1]
  · rename_i h1
    split at h
    · rename_i h3
      rw [if_neg h1, if_pos h3, if_pos h3.1, if_neg (by omega), if_neg (by omega), if_pos (by omega)]
      omega
    · omega
/-- In small letters. -/
def lowL (ds : List UInt8) : List UInt8 := ds.map fun b => u8 (lowI b.toNat)
theorem valD_low : ∀ (ds : List UInt8) (z : Int), (∀ b ∈ ds, 0 ≤ dig b.toNat) → valD (lowL ds) z = valD ds z
  | [], _, _ => rfl
  | b :: r, z, h => by
    have e := low_dig (h b (by simp))
    have e2 := dig2_of (h b (by simp))
    have ih := valD_low r (z * 16 + dig b.toNat) (fun x hx => h x (by simp [hx]))
    unfold valD lowL at ih ⊢
    simp only [List.map_cons, List.foldl_cons, e, e2]
    exact ih
theorem Dg.low {ds : List UInt8} {c : Int} (h : Dg ds c) : Dg2 (lowL ds) c :=
  ⟨by simp only [lowL, List.length_map]; exact h.pos, by simp only [lowL, List.length_map]; exact h.le, fun b hb => by
    obtain ⟨x, hx, rfl⟩ := List.mem_map.1 hb
    rw [low_dig (h.dig x hx)]
    exact h.dig x hx, by rw [lowL, ← lowL, valD_low _ _ h.dig]; exact h.val⟩
/-- The bytes in small letters, as numbers. -/
def lowN (s : ByteArray) (k : Nat) : List Int := ((strInts s).take k).map lowI
theorem lowN_step {s : ByteArray} {k : Nat} (h : k < s.size) : lowN s (k + 1) = lowN s k ++ [lowI ((s[k]'h).toNat : Int)] := by
  have hl : k < (strInts s).length := by simpa [strInts] using h
  unfold lowN
  have e := strInts_at h
  rw [List.getD, List.getElem?_eq_getElem hl] at e
  simp only [Option.getD_some] at e
  rw [List.take_succ_eq_append_getElem hl, List.map_append, e]
  rfl
theorem lowN_all {s : ByteArray} {k : Nat} (h : s.size ≤ k) : strOfNums (lowN s k) = bytesOf (lowL s.data.toList) := by
  have hl : (strInts s).length = s.size := by simp [strInts]
  unfold lowN
  rw [List.take_of_length_le (by omega), strOf_bytes]
  congr 1
  simp [strInts, lowL, List.map_map, Function.comp_def]
theorem lowI_small {b : Int} (h : ¬ 65 ≤ b) : lowI b = b := by unfold lowI; rw [if_neg h]
theorem lowI_big {b : Int} (h : 65 ≤ b) : lowI b = b + 32 := by unfold lowI; rw [if_pos h]
theorem dig_small {b : Int} (h : 0 ≤ dig b) : b ≤ 70 := by unfold dig at h; split at h; omega; split at h <;> omega
theorem pad_str (r : ByteArray) : ((⟨#[48]⟩ : ByteArray) ++ r).data.toList = 48 :: r.data.toList := by simp
theorem form_str (a r b : ByteArray) : (a ++ r ++ b).data.toList = a.data.toList ++ r.data.toList ++ b.data.toList := by simp
/-- What Parse gives for it. -/
theorem Dg2.lits {r : ByteArray} {c : Int} (h : Dg2 r.data.toList c) (hc : isCode c = true) :
    Hid (litR ((⟨#[34, 92, 117, 123]⟩ : ByteArray) ++ r ++ ⟨#[125, 34]⟩).data.toList = ⟨[c], 0, 0⟩) ∧ Hid (litR ((⟨#[34, 92, 117, 123]⟩ : ByteArray) ++ r ++ ⟨#[125]⟩).data.toList = ⟨[], 3, r.size + 5⟩) ∧ Hid (litR ((⟨#[34, 92, 117, 123]⟩ : ByteArray) ++ r ++ ⟨#[59, 125, 34]⟩).data.toList = ⟨[], 3, 1⟩) := by
  obtain ⟨a, b, d⟩ := brace_ok h.pos h.le h.dig h.val hc
  rw [length_of] at b
  refine ⟨Lib.hid ?_, Lib.hid ?_, Lib.hid ?_⟩ <;> rw [form_str]
  · exact a
  · exact b
  · exact d
theorem lit_at {s : ByteArray} {t : List Int} {e0 : Int} {k : Nat} {z : Int} (h : litR s.data.toList = ⟨t, e0, k⟩) (hz : (k : Int) = z) (w : World) (hs : s.size ≤ 60000) : Calls Tryd.prog 20 #[.string s] w (ListFault t e0 z w) := by
  subst hz
  exact lit_x h w hs
end Go.Proofs.YtkfchcmbpgcncaaDoor.Es
