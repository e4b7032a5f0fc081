/-
  The contracts of the reference's number, Ints and SameInts (layer 15).
-/
import Derived.Test.YtkkjjhkhpibaiaaImLists
import Derived.BigQuiet
import Derived.Deep.QuietTactic
namespace Go.Proofs.Ytkkjjhkhpibaiaa.Im
open Go.RowKit
set_option linter.unusedVariables false

theorem conv_one (x : Int) (w : World) : (convert 39 9 (.slice (some ⟨w.heap.size, 0, none⟩) 1 1)).run Try.prog (w.alloc (.cells #[.int .u8 x] 5)) = .ok (.string (strOfNums [x])) (w.alloc (.cells #[.int .u8 x] 5)) :=
  conv_bytes (l := [x]) (one_byte w x)
theorem strOf_size (l : List Int) : (strOfNums l).size = l.length := by
  rw [← strInts_len, strInts, strOfNums_data]
  simp
theorem num_len (n : Int) : (num n).length ≤ 10 ∧ 1 ≤ (num n).length := numB_len 9 (fold n)

set_option maxHeartbeats 2000000 in
theorem number_any (n : Int) (w : World) (h : I64 n) {r : ByteArray} (hr : strOfNums (num n) = r) : Calls Try.prog 37 #[.int .i64 n] w (Makes (.string r) w) := by
  obtain ⟨u0, hu0, hu1⟩ := fold_of h
  have HU := Lib.hid hu0
  have HR := Lib.hid hr
  have HT : Hid (num n = [] ++ numB 9 u0) := Lib.hid (by rw [num, hu0]; rfl)
  obtain ⟨T, hT⟩ : ∃ T, num n = T := ⟨_, rfl⟩
  rw [hT] at HT HR
  clear hu0 hr hT
  go_enter Try.func37, Try.ntmps37
  go_wp2_with (first | (go_at_call 51; refine (folded_any _ _ h).mono ?_; rintro e w1 ⟨rfl, rfl⟩; rw [HU.out]))
  go_loopw [3, 4] (fun b o wr => ∃ (f u : Nat) (t : ByteArray) (cs : List Int), o = .string t ∧ b = .int .u64 (u : Int) ∧ Hid (t = strOfNums cs) ∧ Hid (T = cs ++ numB f u) ∧ Hid (u < 128 ^ (f + 1)) ∧ u < 18446744073709551616 ∧ Below w.heap.size w wr ∧ t.size + f ≤ 9) (fun b _ _ => (intOf b).toNat)
  case atStart => exact ⟨9, u0, _, [], rfl, rfl, Lib.hid rfl, HT, Lib.hid (Nat.lt_trans hu1 (by decide)), hu1, Below.refl _ _, by decide⟩
  case round =>
    obtain ⟨f, u, t, cs, rfl, rfl, HTT, HT2, HP2, hu, hb, hk⟩ := hrel
    rcases Nat.lt_or_ge u 128 with h128 | h128
    · have i1 : ¬ (127 : Int) < (u : Int) := by omega
      have HE : Hid (r = t ++ strOfNums [(u : Int)]) := Lib.hid (by rw [← HR.out, HT2.out, numB_small h128, HTT.out, strOf_append])
      have hc := conv_one (u : Int) wr
      have hsz : (strOfNums [(u : Int)]).size = 1 := by rw [strOf_size]; rfl
      obtain ⟨q, hq⟩ : ∃ q, strOfNums [(u : Int)] = q := ⟨_, rfl⟩
      rw [hq] at HE hc hsz
      have hsz2 : q.size ≤ 1 := by omega
      clear hq hsz
      go_wp2_with fail
      go_ret
      exact makes_str2 HE.out (hb.alloc hb.size _)
    · have i1 : (127 : Int) < (u : Int) := by omega
      obtain ⟨g, rfl, hg1, hg2⟩ := numB_big h128 HP2.out
      have hx : ((u % 128 + 128 : Nat) : Int) = 128 + (u : Int) % 128 := by omega
      rw [hx] at hg1
      have HE : Hid (T = (cs ++ [128 + (u : Int) % 128]) ++ numB g (u / 128)) := Lib.hid (by rw [HT2.out, hg1, List.append_assoc]; rfl)
      have HG := Lib.hid hg2
      have hc := conv_one (128 + (u : Int) % 128) wr
      have hsz : (strOfNums [128 + (u : Int) % 128]).size = 1 := by rw [strOf_size]; rfl
      have HS : Hid (t ++ strOfNums [128 + (u : Int) % 128] = strOfNums (cs ++ [128 + (u : Int) % 128])) := Lib.hid (by rw [HTT.out, strOf_append])
      obtain ⟨q, hq⟩ : ∃ q, strOfNums [128 + (u : Int) % 128] = q := ⟨_, rfl⟩
      rw [hq] at HS hc hsz
      have hsz2 : q.size ≤ 1 := by omega
      have HSZ := Lib.hid hsz
      clear hg1 hg2 hx hq hsz
      go_wp2_with fail
      go_roundw
      case rel => exact ⟨g, u / 128, t ++ q, cs ++ [128 + (u : Int) % 128], rfl, by push_cast; rfl, HS, HE, HG, by omega, hb.alloc hb.size _, by rw [ByteArray.size_append, HSZ.out]; omega⟩
      case measure => simp [intOf] <;> omega

set_option maxHeartbeats 2000000 in
theorem rints_any {A : Option Addr} {n c : Nat} {zs : List Int} (w : World) (hx : Sl w A n c 1 (ints zs)) (hz : ∀ z ∈ zs, I64 z) (hn : n ≤ 1000) {r : ByteArray} (hr : strOfNums (intsB zs) = r) :
    Calls Try.prog 17 #[.slice A n c] w (Makes (.string r) w) := by
  have HC := Lib.hid hx.count
  have HZ := Lib.hid hz
  have HR := Lib.hid hr
  have hcx := hx.cap
  have hmx := hx.max
  have hI : I64 (n : Int) := by unfold I64; omega
  obtain ⟨t0, ht0⟩ : ∃ t0, strOfNums (num (n : Int)) = t0 := ⟨_, rfl⟩
  have HT0 := Lib.hid ht0
  have hs0 : t0.size ≤ 10 := by rw [← ht0, strOf_size]; exact (num_len _).1
  clear hz hr ht0
  go_enter Try.func17, Try.ntmps17
  go_wp2_with (first | (go_at_call 37; refine (number_any _ _ hI HT0.out).mono ?_; rintro e w1 ⟨rfl, b1⟩))
  go_loopw [3, 4] (fun o i wr => ∃ (j : Nat) (t : ByteArray), j ≤ n ∧ o = .string t ∧ i = .int .i64 (j : Int) ∧ Hid (t = strOfNums (num n ++ nums (zs.take j))) ∧ Below w.heap.size w wr ∧ t.size ≤ 10 + 10 * j) (fun _ i _ => n - (intOf i).toNat)
  case atStart => exact ⟨0, t0, Nat.zero_le _, rfl, rfl, Lib.hid (by rw [List.take_zero, nums]; simp [HT0.out]), b1, by omega⟩
  case round =>
    obtain ⟨j, t, hj, rfl, rfl, HT, hb, hk⟩ := hrel
    by_cases hlt : j < n
    · have hjl : j < zs.length := by rw [← HC.out]; exact hlt
      obtain ⟨b, off, rfl, _, hcell⟩ := (hx.keep hb).int_at hlt
      have hI2 := I64_at HZ.out hjl
      obtain ⟨q, hq⟩ : ∃ q, strOfNums (num (zs.getD j 0)) = q := ⟨_, rfl⟩
      have HQ := Lib.hid hq
      have HS : Hid (t ++ q = strOfNums (num n ++ nums (zs.take (j + 1)))) := Lib.hid (by rw [nums_step hjl, ← List.append_assoc, ← strOf_append, ← HT.out, hq])
      have hqs : q.size ≤ 10 := by rw [← hq, strOf_size]; exact (num_len _).1
      obtain ⟨z, hzz⟩ : ∃ z, zs.getD j 0 = z := ⟨_, rfl⟩
      rw [hzz] at hcell hI2 HQ
      clear hq hzz
      go_wp2_with (first | (go_at_call 37; refine (number_any _ _ hI2 HQ.out).mono ?_; rintro e w2 ⟨rfl, b2⟩))
      go_roundw
      case rel => exact ⟨j + 1, t ++ q, by omega, rfl, by push_cast; rfl, HS, hb.trans (b2.mono hb.size), by rw [ByteArray.size_append]; omega⟩
      case measure => simp [intOf] <;> omega
    · have i9 : ¬ ((j : Int) < (n : Int)) := by omega
      have HE : Hid (r = t) := Lib.hid (by
        have e : num n ++ nums (zs.take j) = intsB zs := by rw [List.take_of_length_le (by rw [← HC.out]; omega), HC.out]; rfl
        rw [← HR.out, HT.out, e])
      go_wp2_with fail
      go_ret
      exact makes_str2 HE.out hb

theorem same_at {xs ys : List Int} (h : xs.length = ys.length) (he : ∀ i, i < xs.length → xs.getD i 0 = ys.getD i 0) : xs = ys := by
  apply List.ext_getElem h
  intro i h1 h2
  have := he i h1
  simpa [List.getD, h1, h2] using this

set_option maxHeartbeats 2000000 in
theorem same_any {A B : Option Addr} {n m c d : Nat} {xs ys : List Int} (w : World) (hx : Sl w A n c 1 (ints xs)) (hy : Sl w B m d 1 (ints ys)) {r : Bool} (hr : decide (xs = ys) = r) :
    Calls Try.prog 19 #[.slice A n c, .slice B m d] w (Tells (.bool r) w) := by
  have HR := Lib.hid hr
  have HA := Lib.hid hx.count
  have HB := Lib.hid hy.count
  have h1 : n ≤ 9223372036854775807 := Nat.le_trans hx.cap hx.max
  have h2 : m ≤ 9223372036854775807 := Nat.le_trans hy.cap hy.max
  clear hr
  by_cases hnm : n = m
  · subst hnm
    have q0 : ((n : Int) != (n : Int)) = false := by simp
    go_enter Try.func19, Try.ntmps19
    go_wp2_with fail
    go_loopw [5] (fun i wr => ∃ j : Nat, j ≤ n ∧ i = .int .i64 (j : Int) ∧ Drawn w wr ∧ Hid (∀ i, i < j → xs.getD i 0 = ys.getD i 0)) (fun i _ => n - (intOf i).toNat)
    case atStart => exact ⟨0, Nat.zero_le _, rfl, Drawn.refl _, Lib.hid (fun i hi => absurd hi (Nat.not_lt_zero _))⟩
    case round =>
      obtain ⟨j, hj, rfl, hd, HJ⟩ := hrel
      by_cases hlt : j < n
      · obtain ⟨b1, o1, rfl, _, hc1⟩ := (hx.drawn hd).int_at hlt
        obtain ⟨b2, o2, rfl, _, hc2⟩ := (hy.drawn hd).int_at hlt
        obtain ⟨x, hxk⟩ : ∃ x, xs.getD j 0 = x := ⟨_, rfl⟩
        obtain ⟨y, hyk⟩ : ∃ y, ys.getD j 0 = y := ⟨_, rfl⟩
        rw [hxk] at hc1
        rw [hyk] at hc2
        by_cases he : x = y
        · have hz : (x != y) = false := by simp [he]
          have HJ2 : Hid (∀ i, i < j + 1 → xs.getD i 0 = ys.getD i 0) := Lib.hid (fun i hi => by
            rcases Nat.lt_or_ge i j with h3 | h3
            · exact HJ.out i h3
            · obtain rfl : i = j := by omega
              rw [hxk, hyk, he])
          clear he hxk hyk
          go_wp2_with fail
          go_quiet (fail)
          go_wp2_with fail
          go_roundw
          case rel => exact ⟨j + 1, by omega, by push_cast; rfl, hd.more _, HJ2⟩
          case measure => simp [intOf] <;> omega
        · have hz : (x != y) = true := by simp [he]
          have HF : Hid (r = false) := Lib.hid (by
            rw [← HR.out, decide_eq_false_iff_not]
            intro e
            rw [e] at hxk
            exact he (hxk.symm.trans hyk))
          clear he hxk hyk
          go_wp2_with fail
          go_quiet (fail)
          go_wp2_with fail
          go_ret
          exact ⟨ret_bool' HF.out, hd.more _⟩
      · have i9 : ¬ ((j : Int) < (n : Int)) := by omega
        have HT : Hid (r = true) := Lib.hid (by
          rw [← HR.out, decide_eq_true_eq]
          exact same_at (by rw [← HA.out, HB.out]) (fun i hi => HJ.out i (by have := HA.out; omega)))
        go_wp2_with fail
        go_ret
        exact ⟨ret_bool' HT.out, hd⟩
  · have q0 : ((n : Int) != (m : Int)) = true := by rw [bne_iff_ne]; omega
    have HF : Hid (r = false) := Lib.hid (by
      rw [← HR.out, decide_eq_false_iff_not]
      intro e
      rw [e, ← HB.out] at HA
      exact hnm HA.out)
    go_enter Try.func19, Try.ntmps19
    go_wp2_with fail
    go_ret
    exact ⟨ret_bool' HF.out, Drawn.refl _⟩
end Go.Proofs.Ytkkjjhkhpibaiaa.Im
