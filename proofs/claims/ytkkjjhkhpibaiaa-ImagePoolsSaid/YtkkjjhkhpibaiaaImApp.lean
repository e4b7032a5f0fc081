/-
  The contracts of appendNumbers, appendLists and Ints of package image.
-/
import Derived.Test.YtkkjjhkhpibaiaaImNum
import Derived.Test.YtkkjjhkhpibaiaaBytRow
namespace Go.Proofs.Ytkkjjhkhpibaiaa.Im
open Go.RowKit
set_option linter.unusedVariables false

theorem bit_or {u x : Nat} (h : u % 128 + 128 = x) : bits .or .u8 ((u : Int) % 256) 128 = (x : Int) := by
  have e : (u : Int) % 256 = ((u % 256 : Nat) : Int) := by omega
  rw [e, show (128 : Int) = ((128 : Nat) : Int) from rfl, u8_or_nat _ _ (by omega) (by omega), or_128 _ (by omega)]
  omega
theorem one_byte (w : World) (x : Int) : Sl (w.alloc (.cells #[.int .u8 x] 5)) (some ⟨w.heap.size, 0, none⟩) 1 1 1 (bys [x]) :=
  Sl.built w 5 1 1 (bys [x]) rfl (by unfold maxLen; omega)
def nums (zs : List Int) : List Int := (zs.map num).flatten
theorem nums_step {zs : List Int} {k : Nat} (h : k < zs.length) : nums (zs.take (k + 1)) = nums (zs.take k) ++ num (zs.getD k 0) := by
  rw [nums, List.take_succ_eq_append_getElem h, List.map_append, List.flatten_append, nums]
  simp [List.getD, h]
theorem nums_len (zs : List Int) : (nums zs).length ≤ 10 * zs.length := by
  induction zs with
  | nil => simp [nums]
  | cons x l ih =>
    have := (numB_len 9 (fold x)).1
    simp only [nums, List.map_cons, List.flatten_cons, List.length_append, List.length_cons] at ih ⊢
    have e : (num x).length = (numB 9 (fold x)).length := rfl
    omega
theorem nums_take (zs : List Int) (k : Nat) : (nums (zs.take k)).length ≤ 10 * k := by
  have := nums_len (zs.take k)
  rw [List.length_take] at this
  omega

/-- The call returns bytes of the caller's own. -/
def AppRes (base : Nat) (v0 : Value) (xs : List Int) (w : World) (e : Ending) (w' : World) : Prop := ∃ A k c, e = .returned (.slice A k c) ∧ Own w' base 5 1 (.slice A k c) k (bys xs) ∧ Below base w w' ∧ Kept w w' v0 (.slice A k c)
theorem I64_at {zs : List Int} (h : ∀ z ∈ zs, I64 z) {j : Nat} (hj : j < zs.length) : I64 (zs.getD j 0) := h _ (by simp [List.getD, hj])

set_option maxRecDepth 100000 in
set_option maxHeartbeats 2000000 in
theorem numbers_any {A V : Option Addr} {m ca cv : Nat} {zs : List Int} (base : Nat) (n : Nat) (bs : List Int) (w : World) (ho : Own w base 5 1 (.slice V n cv) n (bys bs)) (hbase : base ≤ w.heap.size) (hx : Sl w A m ca 1 (ints zs)) (hz : ∀ z ∈ zs, I64 z) (hsz : n + 10 * m ≤ 900000) (hA : 0 < m → ∀ a, A = some a → (Value.slice V n cv).ownBlock ≠ some a.block) :
    Calls Try.prog 50 #[.slice V n cv, .slice A m ca] w (AppRes base (.slice V n cv) (bs ++ nums zs) w) := by
  have HC := Lib.hid hx.count
  have HZ := Lib.hid hz
  have HA := Lib.hid hA
  have hcx := hx.cap
  have hmx := hx.max
  clear hz hA
  go_enter Try.func50, Try.ntmps50
  go_wp2_with fail
  go_loopw [0, 6, 7, 10] (fun o a b i wr => ∃ (j k : Nat) (V1 : Option Addr) (c1 : Nat), j ≤ m ∧ o = .slice V1 k c1 ∧ i = .int .i64 (j : Int) ∧ Hid (Own wr base 5 1 (.slice V1 k c1) k (bys (bs ++ nums (zs.take j)))) ∧ Below base w wr ∧ Hid (Kept w wr (.slice V n cv) (.slice V1 k c1)) ∧ k ≤ n + 10 * j) (fun _ _ _ i _ => m - (intOf i).toNat)
  case atStart => exact ⟨0, n, V, cv, Nat.zero_le _, rfl, rfl, Lib.hid (by rw [List.take_zero, nums]; simpa using ho), Below.refl _ _, Lib.hid (Kept.refl _ _), by omega⟩
  case round =>
    obtain ⟨j, k, V1, c1, hj, rfl, rfl, HO, hb, HKK, hk⟩ := hrel
    by_cases hlt : j < m
    · have hjl : j < zs.length := by rw [← HC.out]; exact hlt
      have hsl := HKK.out.sl hx (HA.out (by omega))
      obtain ⟨b, off, rfl, _, hcell⟩ := hsl.int_at hlt
      have hI := I64_at HZ.out hjl
      obtain ⟨u0, hu0, hu1⟩ := fold_of hI
      have HT : Hid (bs ++ nums (zs.take (j + 1)) = (bs ++ nums (zs.take j)) ++ numB 9 u0) := Lib.hid (by rw [nums_step hjl, ← List.append_assoc, num, hu0])
      obtain ⟨z, hzz⟩ : ∃ z, zs.getD j 0 = z := ⟨_, rfl⟩
      rw [hzz] at hcell hI hu0
      have HU := Lib.hid hu0
      clear hu0 hzz
      obtain ⟨wo, rfl⟩ : ∃ wo : World, wo = wr := ⟨_, rfl⟩
      go_wp2_with (first | (go_at_call 63; refine (fold_any _ _ hI).mono ?_; rintro e w1 ⟨rfl, rfl⟩; rw [HU.out]))
      obtain ⟨T, hT⟩ : ∃ T, bs ++ nums (zs.take (j + 1)) = T := ⟨_, rfl⟩
      rw [hT] at HT
      go_loopw [0, 7] (fun o b wr => ∃ (f u k1 : Nat) (V2 : Option Addr) (c2 : Nat) (cs : List Int), o = .slice V2 k1 c2 ∧ b = .int .u64 (u : Int) ∧ Hid (Own wr base 5 1 (.slice V2 k1 c2) k1 (bys cs)) ∧ Hid (T = cs ++ numB f u) ∧ Hid (u < 128 ^ (f + 1)) ∧ u < 18446744073709551616 ∧ Below base w wr ∧ Hid (Kept w wr (.slice V n cv) (.slice V2 k1 c2)) ∧ k1 + f + 1 ≤ n + 10 * (j + 1)) (fun _ b _ => (intOf b).toNat)
      case atStart => exact ⟨9, u0, k, V1, c1, _, rfl, rfl, HO, HT, Lib.hid (Nat.lt_trans hu1 (by decide)), hu1, hb, HKK, by omega⟩
      case round =>
        clear hcell
        obtain ⟨f, u, k1, V2, c2, cs, rfl, rfl, HO2, HT2, HP2, hu, hb2, HK2, hk2⟩ := hrel
        have hb2s := hb2.size
        rcases Nat.lt_or_ge u 128 with h128 | h128
        · have i1 : ¬ (128 : Int) ≤ (u : Int) := by omega
          have HE : Hid (T = cs ++ [(u : Int)]) := Lib.hid (by rw [HT2.out, numB_small h128])
          go_wp2_with (first
            | (at_builtin; refine wpList_append_rowb rfl (.tmp 26) (.tmp 29) rfl base (.slice V2 k1 c2) k1 cs rfl (HO2.out.alloc _) _ 1 1 [(u : Int)] rfl (one_byte _ _) (k1 + 1) rfl T HE.out (by omega) (by simp; omega) ?_; intro v3 w3 g3 o3; have b3 := grewb_below g3 (HO2.out.alloc _) (by simp; omega); have kk3 := (HK2.out.alloc _).grew g3; obtain ⟨V3, c3, rfl, _⟩ := o3.sl))
          go_roundw
          case rel => exact ⟨j + 1, k1 + 1, V3, c3, by omega, rfl, by push_cast; rfl, Lib.hid (by rw [hT]; exact o3), (hb2.alloc (by omega) _).trans b3, Lib.hid kk3, by omega⟩
          case measure => simp [intOf] <;> omega
        · have i1 : (128 : Int) ≤ (u : Int) := by omega
          obtain ⟨g, rfl, hg1, hg2⟩ := numB_big h128 HP2.out
          obtain ⟨x, hx2⟩ : ∃ x : Nat, u % 128 + 128 = x := ⟨_, rfl⟩
          have hbo := bit_or hx2
          rw [hx2] at hg1
          have HE : Hid (T = (cs ++ [(x : Int)]) ++ numB g (u / 128)) := Lib.hid (by rw [HT2.out, hg1, List.append_assoc]; rfl)
          have HG := Lib.hid hg2
          clear hg1 hg2 hx2
          go_wp2_with (first
            | (at_builtin; refine wpList_append_rowb rfl (.tmp 20) (.tmp 24) rfl base (.slice V2 k1 c2) k1 cs rfl (HO2.out.alloc _) _ 1 1 [(x : Int)] rfl (one_byte _ _) (k1 + 1) rfl (cs ++ [(x : Int)]) rfl (by omega) (by simp; omega) ?_; intro v3 w3 g3 o3; have b3 := grewb_below g3 (HO2.out.alloc _) (by simp; omega); have kk3 := (HK2.out.alloc _).grew g3; obtain ⟨V3, c3, rfl, _⟩ := o3.sl))
          go_roundw
          case rel => exact ⟨g, u / 128, k1 + 1, V3, c3, _, rfl, by push_cast; rfl, Lib.hid o3, HE, HG, by omega, (hb2.alloc (by omega) _).trans b3, Lib.hid kk3, by omega⟩
          case measure => simp [intOf] <;> omega
    · have i9 : ¬ ((j : Int) < (m : Int)) := by omega
      have HE : Hid (nums (zs.take j) = nums zs) := Lib.hid (by rw [List.take_of_length_le (by rw [← HC.out]; omega)])
      go_wp2_with fail
      go_ret
      exact ⟨_, k, _, rfl, by rw [← HE.out]; exact HO.out, hb, HKK.out⟩
end Go.Proofs.Ytkkjjhkhpibaiaa.Im
