/-
  The walk of ImageMinimal.
-/
import Derived.Test.YtkkjjhkhpibaiaaImAwake
import Derived.BigQuiet
import Derived.Deep.QuietTactic
import Derived.Deep.RegionHeld3
namespace Go.Proofs.Ytkkjjhkhpibaiaa.Im
open Go.RowKit
set_option linter.unusedVariables false

theorem numB_cons {u : Nat} (f : Nat) (h : 128 ≤ u) : numB (f + 1) u = ((u % 128 + 128 : Nat) : Int) :: numB f (u / 128) := by rw [numB, if_neg (by omega)]
theorem unf_inj {u : Nat} : fold (unf u) = u := by
  unfold unf fold
  split <;> split <;> omega
theorem unf_range {u : Nat} (h : u < 18446744073709551616) : I64 (unf u) := by
  unfold unf I64
  split <;> omega
/-- What has been read as a number from the i'th group on: the bits, and the bytes of their rest. -/
theorem rdn_bytes : ∀ (l : List Int) (i u : Nat) (n : Int) (l1 : List Int), i ≤ 9 → u < 128 ^ i → (∀ x ∈ l, 0 ≤ x ∧ x ≤ 255) → rdn i u l = .ok (n, l1) →
    ∃ v : Nat, n = unf (u + v * 128 ^ i) ∧ u + v * 128 ^ i < 18446744073709551616 ∧ (0 < i → 0 < v) ∧ l = numB (9 - i) v ++ l1
  | [], _, _, _, _, _, _, _, h => by rw [rdn] at h; cases h
  | x :: l, i, u, n, l1, hi, hu, hl, h => by
    have hx := hl x (List.mem_cons_self ..)
    obtain ⟨y, rfl⟩ : ∃ y : Nat, x = (y : Int) := ⟨x.toNat, by omega⟩
    have et : ((y : Int) % 128).toNat = y % 128 := by omega
    rw [rdn] at h
    split at h
    · cases h
    · rename_i hbad
      rw [et] at h
      have hor := (or_step hi hu (Nat.mod_lt y (by omega : 0 < 128)) (fun h9 => by omega)).2
      split at h
      · rename_i h128
        have hy : y % 128 = y := Nat.mod_eq_of_lt (by omega)
        cases h
        rw [hy] at hor
        exact ⟨y, by rw [hy], hor, fun h0 => by omega, by rw [numB_small (by omega)]; rfl⟩
      · rename_i h128
        have hi9 : i < 9 := by omega
        have hu2 : u + y % 128 * 128 ^ i < 128 ^ (i + 1) := by
          have h2 : y % 128 * 128 ^ i ≤ 127 * 128 ^ i := Nat.mul_le_mul (by omega) (Nat.le_refl _)
          rw [Nat.pow_succ]
          omega
        obtain ⟨v, h1, h2, h3, h4⟩ := rdn_bytes l (i + 1) _ n l1 (by omega) hu2 (fun z hz => hl z (List.mem_cons_of_mem _ hz)) h
        have hv := h3 (by omega)
        have e : u + y % 128 * 128 ^ i + v * 128 ^ (i + 1) = u + (y % 128 + 128 * v) * 128 ^ i := by
          rw [Nat.pow_succ, Nat.add_mul, Nat.add_assoc]
          congr 2
          rw [Nat.mul_comm (128 ^ i) 128, ← Nat.mul_assoc, Nat.mul_comm v 128]
        rw [e] at h1 h2
        refine ⟨y % 128 + 128 * v, h1, h2, fun _ => by omega, ?_⟩
        obtain ⟨g, hg⟩ : ∃ g, 9 - i = g + 1 := ⟨9 - i - 1, by omega⟩
        have hg2 : 9 - (i + 1) = g := by omega
        rw [hg, numB_cons g (by omega), h4, hg2]
        have e1 : (y % 128 + 128 * v) % 128 + 128 = y := by omega
        have e2 : (y % 128 + 128 * v) / 128 = v := by omega
        rw [e1, e2]
        rfl
theorem rdn_num {l l1 : List Int} {n : Int} (hl : ∀ x ∈ l, 0 ≤ x ∧ x ≤ 255) (h : rdn 0 0 l = .ok (n, l1)) : l = num n ++ l1 ∧ I64 n := by
  obtain ⟨v, h1, h2, _, h4⟩ := rdn_bytes l 0 0 n l1 (by omega) (by decide) hl h
  rw [Nat.pow_zero, Nat.mul_one, Nat.zero_add] at h1 h2
  subst h1
  exact ⟨by rw [num, unf_inj]; exact h4, unf_range h2⟩
theorem rdMany_nums : ∀ (k : Nat) (l zs l2 : List Int), (∀ x ∈ l, 0 ≤ x ∧ x ≤ 255) → rdMany k l = .ok (zs, l2) → l = nums zs ++ l2 ∧ zs.length = k ∧ ∀ z ∈ zs, I64 z
  | 0, l, zs, l2, hl, h => by rw [rdMany] at h; cases h; exact ⟨by simp [nums], rfl, by simp⟩
  | k + 1, l, zs, l2, hl, h => by
    rw [rdMany] at h
    cases hq : rdn 0 0 l with
    | error d => rw [hq] at h; cases h
    | ok p =>
      obtain ⟨x, l1⟩ := p
      rw [hq] at h
      simp only at h
      obtain ⟨e1, hx⟩ := rdn_num hl hq
      cases hm : rdMany k l1 with
      | error d => rw [hm] at h; cases h
      | ok q =>
        obtain ⟨ys, l3⟩ := q
        rw [hm] at h
        cases h
        obtain ⟨e2, e3, e4⟩ := rdMany_nums k l1 ys l2 (fun z hz => hl z (by rw [e1]; exact List.mem_append_right _ hz)) hm
        refine ⟨by rw [e1, e2]; simp [nums], by simp [e3], ?_⟩
        intro z hz
        rcases List.mem_cons.1 hz with rfl | hz
        · exact hx
        · exact e4 z hz
theorem rdList_ints {l zs l2 : List Int} (hl : ∀ x ∈ l, 0 ≤ x ∧ x ≤ 255) (h : rdList l = .ok (zs, l2)) : l = intsB zs ++ l2 ∧ ∀ z ∈ zs, I64 z := by
  rw [rdList] at h
  cases hq : rdn 0 0 l with
  | error d => rw [hq] at h; cases h
  | ok p =>
    obtain ⟨n, l1⟩ := p
    rw [hq] at h
    simp only at h
    obtain ⟨e1, hx⟩ := rdn_num hl hq
    split at h
    · cases h
    · rename_i hn
      obtain ⟨e2, e3, e4⟩ := rdMany_nums _ l1 zs l2 (fun z hz => hl z (by rw [e1]; exact List.mem_append_right _ hz)) h
      refine ⟨?_, e4⟩
      have e5 : (zs.length : Int) = n := by omega
      rw [e1, e2, intsB, e5]
      simp [nums]
theorem strInts_bytes (s : ByteArray) : ∀ x ∈ strInts s, 0 ≤ x ∧ x ≤ 255 := by
  intro x hx
  obtain ⟨b, _, rfl⟩ := List.mem_map.1 hx
  have := b.toNat_lt
  omega
theorem strInts_inj {a b : ByteArray} (h : strInts a = strInts b) : a = b := by
  apply ByteArray.ext
  apply Array.ext'
  have e : ∀ s : ByteArray, s.data.toList = (strInts s).map (fun x => UInt8.ofNat x.toNat) := fun s => by
    simp only [strInts, List.map_map]
    conv => lhs; rw [← List.map_id s.data.toList]
    refine List.map_congr_left fun x _ => ?_
    simp
  rw [e a, e b, h]
theorem intsB_range {zs : List Int} (hz : ∀ z ∈ zs, I64 z) (hn : zs.length ≤ 1000000) : ∀ x ∈ intsB zs, 0 ≤ x ∧ x ≤ 255 := by
  intro x hx
  rw [intsB] at hx
  rcases List.mem_append.1 hx with h | h
  · exact num_range (by omega) (by omega) x h
  · obtain ⟨l, hl, hx2⟩ := List.mem_flatten.1 h
    obtain ⟨z, hz2, rfl⟩ := List.mem_map.1 hl
    exact num_range (hz z hz2).1 (hz z hz2).2 x hx2
theorem nums_ge : ∀ zs : List Int, zs.length ≤ ((zs.map num).flatten).length
  | [] => by simp
  | z :: zs => by
    have h1 := nums_ge zs
    have h2 := (num_len z).2
    simp only [List.map_cons, List.flatten_cons, List.length_append, List.length_cons]
    omega
/-- What a successful reading says of the string. -/
theorem read_says {s : ByteArray} {zs l2 : List Int} (hs : s.size ≤ 1000000) (h : rdList (strInts s) = .ok (zs, l2)) :
    ∃ m : Nat, (s.size : Int) - (l2.length : Int) = (m : Int) ∧ 1 ≤ m ∧ m ≤ s.size ∧ zs.length ≤ s.size ∧ (∀ z ∈ zs, I64 z) ∧ strOfNums (intsB zs) = s.extract 0 m := by
  obtain ⟨h1, h2⟩ := rdList_ints (strInts_bytes s) h
  have e1 := strInts_len s
  have e2 := congrArg List.length h1
  rw [e1, List.length_append] at e2
  have e3 := (num_len zs.length).2
  have e4 := nums_ge zs
  have e5 : (intsB zs).length = (num zs.length).length + ((zs.map num).flatten).length := by rw [intsB, List.length_append]
  refine ⟨(intsB zs).length, by omega, by omega, by omega, by omega, h2, ?_⟩
  apply strInts_inj
  rw [strOf_ints (intsB_range h2 (by omega))]
  have e6 : strInts (s.extract 0 (intsB zs).length) = (strInts s).take (intsB zs).length := by
    simp only [strInts, ByteArray.data_extract, Array.toList_extract, List.extract, List.map_take, List.drop_zero, Nat.sub_zero]
  rw [e6, h1, List.take_left']
  rfl
theorem read_fails {s : ByteArray} {c : Int} (w : World) (hs : s.size ≤ 1000000) (h : rdList (strInts s) = .error c) :
    Calls Try.prog 18 #[.string s] w (fun e w' => e = .returned (.tuple #[.slice none 0 0, .int .i64 0, .int .i64 c]) ∧ Below w.heap.size w w') := readInts_any w hs h
theorem read_gives {s : ByteArray} {zs l2 : List Int} {m n : Nat} (w : World) (hs : s.size ≤ 1000000) (h : rdList (strInts s) = .ok (zs, l2)) (hm : (s.size : Int) - (l2.length : Int) = (m : Int)) (hn : zs.length = n) :
    Calls Try.prog 18 #[.string s] w (fun e w' => ∃ g, e = .returned (.tuple #[.slice (some ⟨g, 0, none⟩) n n, .int .i64 (m : Int), .int .i64 0]) ∧ Blk w' g zs ∧ Below w.heap.size w w') := by
  refine (readInts_any w hs h).mono ?_
  rintro e w' ⟨⟨g, rfl, hz⟩, hb⟩
  exact ⟨g, by rw [hm, hn], hz, hb⟩

set_option maxRecDepth 100000 in
set_option maxHeartbeats 2000000 in
theorem minimal_walk (s : ByteArray) (W : World) (hw : s.size ≤ 9223372036854775807) : Calls Try.prog 6 #[.string s] W (Makes (.bool true) W) := by
  rcases Nat.lt_or_ge 300 s.size with h | h
  · have i1 : (300 : Int) < (s.size : Int) := by omega
    go_enter Try.func6, Try.ntmps6
    go_wp2_with (first
      | (go_at_call 15; refine (alive_any _).mono ?_; rintro e w2 ⟨rfl, b2⟩))
    go_ret
    exact ⟨rfl, b2⟩
  · have i1 : ¬ (300 : Int) < (s.size : Int) := by omega
    cases hr : rdList (strInts s) with
    | error c =>
      have HR := Lib.hid hr
      have hc : (c != 0) = true := by rw [bne_iff_ne]; exact rdList_err hr
      clear hr
      go_enter Try.func6, Try.ntmps6
      go_wp2_with (first
        | (go_at_call 18; refine (read_fails _ (by omega) HR.out).mono ?_; rintro e w1 ⟨rfl, b1⟩)
        | (go_at_call 15; refine (alive_any _).mono ?_; rintro e w2 ⟨rfl, b2⟩))
      go_ret
      exact ⟨rfl, b1.trans (b2.mono b1.size)⟩
    | ok p =>
      obtain ⟨zs, l2⟩ := p
      obtain ⟨m, hm, h1, h2, h3, hz, he⟩ := read_says (by omega) hr
      obtain ⟨n, hn⟩ : ∃ n, zs.length = n := ⟨_, rfl⟩
      rw [hn] at h3
      have HR := Lib.hid hr
      have HM := Lib.hid hm
      have HZ := Lib.hid hz
      have HE := Lib.hid he
      have HN := Lib.hid hn
      have hq := beq_yes (rfl : s.extract 0 m = s.extract 0 m)
      have d1 : decide ((1 : Int) ≤ (m : Int)) = true := decide_eq_true (by omega)
      have d2 : decide ((m : Int) ≤ (s.size : Int)) = true := decide_eq_true (by omega)
      clear hr hm hz he hn
      go_enter Try.func6, Try.ntmps6
      go_wp2_with (first
        | (go_at_call 18; refine (read_gives _ (by omega) HR.out HM.out HN.out).mono ?_; rintro e w1 ⟨g, rfl, hz1, b1⟩))
      have HS := Lib.hid (hz1.sl HN.out.symm (by unfold maxLen; omega))
      go_region_held3 (fun _ => True) (trivial) (first
        | (go_at_call 16; refine (ints_any _ HS.out HZ.out (by omega) HE.out).mono ?_; rintro e w2 ⟨rfl, b2⟩; have t2 := b1.trans (b2.mono b1.size))
        | (go_at_call 16; refine (ints_any _ HS.out.drew HZ.out (by omega) HE.out).mono ?_; rintro e w2 ⟨rfl, b2⟩; have t2 := b1.drew.trans (b2.mono b1.drew.size))
        | (go_at_call 15; refine (alive_any _).mono ?_; rintro e w3 ⟨rfl, b3⟩; have t3 := t2.trans (b3.mono t2.size)))
      go_wp2_with fail
      go_ret
      exact ⟨rfl, t3⟩
end Go.Proofs.Ytkkjjhkhpibaiaa.Im
