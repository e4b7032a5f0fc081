/-
  The walk of ImageRounds.
-/
import Derived.Test.YtkkjjhkhpibaiaaImWalkC
namespace Go.Proofs.Ytkkjjhkhpibaiaa.Im
open Go.RowKit
set_option linter.unusedVariables false

/-- The bytes of a number are read as that number. -/
theorem rdn_fwd (rest : List Int) : ∀ (f i u v : Nat), i + f = 9 → u < 128 ^ i → (0 < i → 0 < v) → u + v * 128 ^ i < 18446744073709551616 → rdn i u (numB f v ++ rest) = .ok (unf (u + v * 128 ^ i), rest)
  | 0, i, u, v, hi, hu, hv, hb => by
    have h9 : i = 9 := by omega
    subst h9
    have h1 : v = 1 := by
      have h0 := hv (by omega)
      have : (128 : Nat) ^ 9 = 9223372036854775808 := by decide
      rw [this] at hb
      omega
    subst h1
    rw [numB, List.cons_append, List.nil_append, rdn, if_neg (by omega), if_pos (by omega)]
    rfl
  | f + 1, i, u, v, hi, hu, hv, hb => by
    rcases Nat.lt_or_ge v 128 with h | h
    · have et : ((v : Int) % 128).toNat = v := by omega
      rw [numB, if_pos h, List.cons_append, List.nil_append, rdn, if_neg (by omega), if_pos (by omega), et]
    · have et : (((v % 128 + 128 : Nat) : Int) % 128).toNat = v % 128 := by omega
      have hu2 : u + v % 128 * 128 ^ i < 128 ^ (i + 1) := by
        have h2 : v % 128 * 128 ^ i ≤ 127 * 128 ^ i := Nat.mul_le_mul (by omega) (Nat.le_refl _)
        rw [Nat.pow_succ]
        omega
      have e : u + v % 128 * 128 ^ i + v / 128 * 128 ^ (i + 1) = u + v * 128 ^ i := by
        have e1 : v * 128 ^ i = (v % 128 + 128 * (v / 128)) * 128 ^ i := by rw [Nat.mod_add_div]
        rw [e1, Nat.pow_succ, Nat.add_mul, Nat.add_assoc]
        congr 2
        rw [Nat.mul_comm (128 ^ i) 128, ← Nat.mul_assoc, Nat.mul_comm (v / 128) 128]
      rw [numB_cons f h, List.cons_append, rdn, if_neg (by omega), if_neg (by omega), et]
      rw [rdn_fwd rest f (i + 1) _ (v / 128) (by omega) hu2 (by omega) (by rw [e]; exact hb), e]
theorem rdn_of_num {n : Int} (h : I64 n) (rest : List Int) : rdn 0 0 (num n ++ rest) = .ok (n, rest) := by
  have hf := fold_lt h.1 h.2
  rw [num, rdn_fwd rest 9 0 0 (fold n) (by omega) (by decide) (by omega) (by rw [Nat.pow_zero]; omega)]
  rw [Nat.pow_zero, Nat.mul_one, Nat.zero_add, unf_fold]
theorem rdMany_of_nums (rest : List Int) : ∀ zs : List Int, (∀ z ∈ zs, I64 z) → rdMany zs.length (nums zs ++ rest) = .ok (zs, rest)
  | [], _ => rfl
  | z :: zs, h => by
    have e : nums (z :: zs) ++ rest = num z ++ (nums zs ++ rest) := by simp [nums]
    rw [List.length_cons, rdMany, e, rdn_of_num (h z (List.mem_cons_self ..))]
    simp only
    rw [rdMany_of_nums rest zs (fun y hy => h y (List.mem_cons_of_mem _ hy))]
theorem rdList_of_ints {zs : List Int} (h : ∀ z ∈ zs, I64 z) (hn : zs.length ≤ 1000000) (rest : List Int) : rdList (intsB zs ++ rest) = .ok (zs, rest) := by
  have e : intsB zs ++ rest = num zs.length ++ (nums zs ++ rest) := by simp [intsB, nums]
  have h2 := nums_ge zs
  have h3 : zs.length ≤ (nums zs).length := h2
  rw [rdList, e, rdn_of_num (by unfold I64; omega)]
  simp only
  rw [if_neg (by rw [List.length_append]; omega), Int.toNat_natCast, rdMany_of_nums rest zs h]

theorem rdn_more (m : List Int) : ∀ (l : List Int) (i u : Nat), (rdn i u l = .error 3 → rdn i u (l ++ m) = .error 3) ∧ (∀ n l1, rdn i u l = .ok (n, l1) → rdn i u (l ++ m) = .ok (n, l1 ++ m))
  | [], i, u => ⟨fun h => (by rw [rdn] at h; cases h), fun n l1 h => (by rw [rdn] at h; cases h)⟩
  | x :: l, i, u => by
    have ih := rdn_more m l (i + 1) (u + (x % 128).toNat * 128 ^ i)
    rw [List.cons_append, rdn, rdn]
    split
    · exact ⟨fun _ => rfl, fun n l1 h => (by cases h)⟩
    · split
      · exact ⟨fun h => (by cases h), fun n l1 h => (by cases h; rfl)⟩
      · exact ih
theorem rdMany_more (m : List Int) : ∀ (k : Nat) (l : List Int), (rdMany k l = .error 3 → rdMany k (l ++ m) = .error 3) ∧ (∀ zs l1, rdMany k l = .ok (zs, l1) → rdMany k (l ++ m) = .ok (zs, l1 ++ m))
  | 0, l => ⟨fun h => (by rw [rdMany] at h; cases h), fun zs l1 h => (by rw [rdMany] at h; cases h; rfl)⟩
  | k + 1, l => by
    have h1 := rdn_more m l 0 0
    cases hq : rdn 0 0 l with
    | error c =>
      refine ⟨fun h => ?_, fun zs l1 h => ?_⟩
      · rw [rdMany, hq] at h
        cases h
        rw [rdMany, h1.1 hq]
      · rw [rdMany, hq] at h; cases h
    | ok p =>
      obtain ⟨x, l1⟩ := p
      have h2 := rdMany_more m k l1
      rw [rdMany, rdMany, hq, h1.2 x l1 hq]
      simp only
      cases hm : rdMany k l1 with
      | error c =>
        refine ⟨fun h => ?_, fun zs l2 h => (by cases h)⟩
        cases h
        rw [h2.1 hm]
      | ok q =>
        obtain ⟨ys, l3⟩ := q
        refine ⟨fun h => (by cases h), fun zs l2 h => ?_⟩
        cases h
        rw [h2.2 ys l3 hm]
theorem rdList_more (m l : List Int) (h : rdList l = .error 3) : rdList (l ++ m) = .error 3 := by
  have h1 := rdn_more m l 0 0
  rw [rdList] at h
  cases hq : rdn 0 0 l with
  | error c =>
    rw [hq] at h
    cases h
    rw [rdList, h1.1 hq]
  | ok p =>
    obtain ⟨n, l1⟩ := p
    rw [hq] at h
    simp only at h
    rw [rdList, h1.2 n l1 hq]
    simp only
    split at h
    · cases h
    · rename_i hn
      rw [if_neg (by rw [List.length_append]; omega), (rdMany_more m _ l1).1 h]
theorem rdList_codes {l : List Int} {c : Int} (h : rdList l = .error c) : c = 1 ∨ c = 2 ∨ c = 3 := by
  rw [rdList] at h
  cases hq : rdn 0 0 l with
  | error d => rw [hq] at h; cases h; exact .inr (rdn_err _ _ _ _ hq)
  | ok p =>
    rw [hq] at h
    simp only at h
    split at h
    · cases h; exact .inl rfl
    · exact .inr (rdMany_err _ _ _ h)
/-- A part of a list's bytes is too short. -/
theorem rdList_short {zs : List Int} (h : ∀ z ∈ zs, I64 z) (hn0 : zs.length ≤ 1000) {k : Nat} (hk : k < (intsB zs).length) : ∃ c, rdList ((intsB zs).take k) = .error c ∧ (c = 1 ∨ c = 2) := by
  have hn : zs.length ≤ 1000000 := by omega
  have hall := rdList_of_ints h hn []
  rw [List.append_nil] at hall
  have hr := intsB_range h hn
  cases hq : rdList ((intsB zs).take k) with
  | error c =>
    refine ⟨c, rfl, ?_⟩
    rcases rdList_codes hq with h1 | h1 | h1
    · exact .inl h1
    · exact .inr h1
    · subst h1
      have := rdList_more ((intsB zs).drop k) _ hq
      rw [List.take_append_drop, hall] at this
      cases this
  | ok p =>
    exfalso
    obtain ⟨ys, l2⟩ := p
    obtain ⟨e1, e2⟩ := rdList_ints (fun x hx => hr x (List.mem_of_mem_take hx)) hq
    have e3 : intsB zs = intsB ys ++ (l2 ++ (intsB zs).drop k) := by rw [← List.append_assoc, ← e1, List.take_append_drop]
    have e4 : ys.length ≤ 1000000 := by
      have h1 := nums_ge ys
      have h2 : (intsB ys).length = (num ys.length).length + ((ys.map num).flatten).length := by rw [intsB, List.length_append]
      have h3 := congrArg List.length e1
      have h4 := intsB_len zs
      rw [List.length_append, List.length_take] at h3
      rw [h2] at h3
      omega
    have e5 := rdList_of_ints e2 e4 (l2 ++ (intsB zs).drop k)
    rw [← e3, hall] at e5
    injection e5 with e7
    have e8 := congrArg List.length (Prod.mk.inj e7).2
    rw [List.length_append, List.length_drop, List.length_nil] at e8
    omega
theorem intsB_pos (zs : List Int) : 1 ≤ (intsB zs).length := by
  have h := (num_len zs.length).2
  rw [intsB, List.length_append]
  omega
theorem strInts_append (a b : ByteArray) : strInts (a ++ b) = strInts a ++ strInts b := by simp [strInts]
theorem strInts_front (s : ByteArray) (k : Nat) : strInts (s.extract 0 k) = (strInts s).take k := by
  simp only [strInts, ByteArray.data_extract, Array.toList_extract, List.extract, List.map_take, List.drop_zero, Nat.sub_zero]

set_option maxRecDepth 100000 in
set_option maxHeartbeats 2000000 in
theorem rounds_walk (A : Option Addr) (n c : Nat) (zs : List Int) (t : ByteArray) (a : Int) (W : World) (hx : Sl W A n c 1 (ints zs)) (hz : ∀ z ∈ zs, I64 z) (hw : t.size ≤ 9223372036854775807) (ha : (Lit.int .u16 a).wf = true) :
    Calls Try.prog 5 #[.slice A n c, .string t, .int .u16 a] W (Makes (.bool true) W) := by
  have ha2 : 0 ≤ a ∧ a ≤ 65535 := by simpa [Lit.wf, IntKind.min, IntKind.max, IntKind.signed, IntKind.bits] using ha
  clear ha
  obtain ⟨ha0, ha1⟩ := ha2
  have HZ := Lib.hid hz
  have HC := Lib.hid hx.count
  have hcx := hx.cap
  have hmx := hx.max
  clear hz
  rcases Nat.lt_or_ge 60 n with h | h
  · have i1 : (60 : Int) < (n : Int) := by omega
    go_enter Try.func5, Try.ntmps5
    go_wp2_with (first
      | (go_at_call 15; refine (alive_any _).mono ?_; rintro e w2 ⟨rfl, b2⟩))
    go_ret
    exact ⟨rfl, b2⟩
  · have i1 : ¬ (60 : Int) < (n : Int) := by omega
    rcases Nat.lt_or_ge 100 t.size with h2 | h2
    · have i2 : (100 : Int) < (t.size : Int) := by omega
      go_enter Try.func5, Try.ntmps5
      go_wp2_with (first
        | (go_at_call 15; refine (alive_any _).mono ?_; rintro e w2 ⟨rfl, b2⟩))
      go_ret
      exact ⟨rfl, b2⟩
    · have i2 : ¬ (100 : Int) < (t.size : Int) := by omega
      have hzl : zs.length ≤ 60 := by have := HC.out; omega
      obtain ⟨r, hr⟩ : ∃ r, strOfNums (intsB zs) = r := ⟨_, rfl⟩
      have hsi : strInts r = intsB zs := by rw [← hr, strOf_ints (intsB_range HZ.out (by omega))]
      have hrs : r.size = (intsB zs).length := by rw [← strInts_len, hsi]
      have hlen := intsB_len zs
      have hpos := intsB_pos zs
      have HF : Hid (rdList (strInts (r ++ t)) = .ok (zs, strInts t)) := Lib.hid (by rw [strInts_append, hsi]; exact rdList_of_ints HZ.out (by omega) _)
      have HM : Hid (((r ++ t).size : Int) - ((strInts t).length : Int) = (r.size : Int)) := Lib.hid (by rw [strInts_len, ByteArray.size_append]; omega)
      have HS1 : Hid ((r ++ t).size ≤ 1000000) := Lib.hid (by rw [ByteArray.size_append]; omega)
      obtain ⟨k, hk⟩ : ∃ k : Nat, a.tmod (r.size : Int) = (k : Int) ∧ k < r.size := by
        refine ⟨(a % (r.size : Int)).toNat, ?_, ?_⟩
        · rw [Int.tmod_eq_emod_of_nonneg ha0]
          have := Int.emod_nonneg a (show (r.size : Int) ≠ 0 by omega)
          omega
        · have := Int.emod_nonneg a (show (r.size : Int) ≠ 0 by omega)
          have := Int.emod_lt_of_pos a (show (0 : Int) < r.size by omega)
          omega
      obtain ⟨hk1, hk2⟩ := hk
      obtain ⟨q, hq, hqc⟩ := rdList_short HZ.out (by omega) (k := k) (by omega)
      have HQ : Hid (rdList (strInts (r.extract 0 k)) = .error q) := Lib.hid (by rw [strInts_front, hsi]; exact hq)
      have HS2 : Hid ((r.extract 0 k).size ≤ 1000000) := Lib.hid (by simp; omega)
      have HR := Lib.hid hr
      have HN : Hid (zs.length = n) := Lib.hid HC.out.symm
      have hr0 : 0 < r.size := by omega
      have hr1 : r.size ≤ 700 := by omega
      have i3 : ¬ (r.size : Int) = 0 := by omega
      clear hr hsi hrs hlen hpos hq hzl
      have main : ∀ qq : Int, qq = q → (qq = 1 ∨ qq = 2) → Calls Try.prog 5 #[.slice A n c, .string t, .int .u16 a] W (Makes (.bool true) W) := by
        rintro qq rfl (rfl | rfl)
        all_goals
          clear hqc
          go_enter Try.func5, Try.ntmps5
          go_wp2_with (first
            | (go_at_call 16; refine (ints_any _ hx HZ.out (by omega) HR.out).mono ?_; rintro e w1 ⟨rfl, b1⟩)
            | (go_at_call 18; (with_reducible refine (read_gives _ HS1.out HF.out HM.out HN.out).mono ?_); rintro e w2 ⟨g, rfl, hz2, b2⟩; have t2 := b1.trans (b2.mono b1.size))
            | (go_at_call 18; (with_reducible refine (read_fails _ HS2.out HQ.out).mono ?_); rintro e w4 ⟨rfl, b4⟩; have t4 := t3.trans (b4.mono t3.size))
            | (go_at_call 19; refine (same_any _ (hz2.sl HN.out.symm (by unfold maxLen; omega)) (hx.keep t2) (decide_eq_true rfl)).mono ?_; rintro e w3 ⟨rfl, d3⟩; have t3 := t2.trans (d3.below _))
            | (go_at_call 15; refine (alive_any _).mono ?_; rintro e w5 ⟨rfl, b5⟩))
          go_ret
          exact ⟨rfl, t4.trans (b5.mono t4.size)⟩
      exact main q rfl hqc
end Go.Proofs.Ytkkjjhkhpibaiaa.Im
