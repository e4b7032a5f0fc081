/-
  The contracts of the reader of package image: group, number, list, run, ReadInts, where they are not stopped.
-/
import Derived.Test.YtkkjjhkhpibaiaaImRef
namespace Go.Proofs.Ytkkjjhkhpibaiaa.Im
open Go.RowKit
set_option linter.unusedVariables false

/-- The reader whose rest has these bytes. -/
def Rd (w : World) (b : Nat) (l : List Int) : Prop := ∃ r : ByteArray, w.heap[b]? = some (.cells #[.string r] 61 (0, 0)) ∧ strInts r = l
/-- Nothing but the reader's block has changed. -/
structure Only (b : Nat) (w w' : World) : Prop where
  below : Below b w w'
  off : ∀ k, k ≠ b → k < w.heap.size → w'.heap[k]? = w.heap[k]?
theorem Only.trans {b : Nat} {u v w : World} (h : Only b u v) (k : Only b v w) : Only b u w :=
  ⟨h.below.trans k.below, fun i hi hl => (k.off i hi (Nat.lt_of_lt_of_le hl h.below.size)).trans (h.off i hi hl)⟩
theorem Only.refl (b : Nat) (w : World) : Only b w w := ⟨Below.refl _ _, fun _ _ _ => rfl⟩
theorem Only.set (w : World) (b : Nat) (v : Value) : Only b w (w.setCell ⟨b, 0, none⟩ v) :=
  ⟨(Below.refl b w).setCell (p := ⟨b, 0, none⟩) (Nat.le_refl b) v, fun k hk _ => Below.heap_setCell _ _ _ _ hk⟩
theorem strInts_first {s : ByteArray} {x : Int} {l : List Int} (h : strInts s = x :: l) : ∃ h0 : 0 < s.size, (s[0].toNat : Int) = x ∧ strInts (s.extract 1 s.size) = l ∧ x ≤ 255 ∧ 0 ≤ x := by
  have h0 : 0 < s.size := by rw [← strInts_len, h]; simp
  have e := strInts_at h0
  rw [h] at e
  have e2 : x = (s[0].toNat : Int) := e
  have := s[0].toNat_lt
  exact ⟨h0, e2.symm, by rw [strInts_drop, h]; rfl, by omega, by omega⟩
def GroupRes (b : Nat) (x : Int) (l : List Int) (w : World) (e : Ending) (w' : World) : Prop := e = .returned (.int .u8 x) ∧ Rd w' b l ∧ Only b w w'

set_option maxHeartbeats 1000000 in
theorem group_ok {b : Nat} {x : Int} {l : List Int} (w : World) (h : Rd w b (x :: l)) : Calls Try.prog 64 #[.pointer (some ⟨b, 0, none⟩)] w (GroupRes b x l w) := by
  obtain ⟨r, hc, hr⟩ := h
  obtain ⟨h0, h1, h2, h3, h4⟩ := strInts_first hr
  have hcell : w.cell? ⟨b, 0, none⟩ = some (.string r) := by rw [cell_of_row _ _ _ _ _ _ hc]; rfl
  have hfr : w.frozen? ⟨b, 0, none⟩ = false := by simp [World.frozen?, hc]
  have he := str_some h0
  have i1 : (1 : Int) ≤ (r.size : Int) := by omega
  have H1 := Lib.hid h1
  have H2 := Lib.hid h2
  have HC := Lib.hid hc
  clear h1 h2 hr hc
  go_enter Try.func64, Try.ntmps64
  go_wp2_with fail
  go_ret
  exact ⟨by rw [← H1.out]; rfl, ⟨_, one_setCell HC.out, H2.out⟩, Only.set _ _ _⟩

/-- The number of these bits. -/
def unf (u : Nat) : Int := if u % 2 = 1 then -((u / 2 : Nat) : Int) - 1 else ((u / 2 : Nat) : Int)
theorem unf_fold (n : Int) : unf (fold n) = n := by
  unfold unf fold
  split <;> split <;> omega
/-- Reading a number: its i'th group on, with these bits. -/
def rdn : Nat → Nat → List Int → Except Int (Int × List Int)
  | _, _, [] => .error 2
  | i, u, x :: l => if (i = 9 ∧ x ≠ 1) ∨ (0 < i ∧ x = 0) then .error 3 else if x < 128 then .ok (unf (u + (x % 128).toNat * 128 ^ i), l) else rdn (i + 1) (u + (x % 128).toNat * 128 ^ i) l
theorem or_step {u i x : Nat} (hi : i ≤ 9) (hu : u < 128 ^ i) (hx : x < 128) (h9 : i = 9 → x = 1) : bits .or .u64 (u : Int) (IntKind.u64.wrap ((x : Int) * 2 ^ (i * 7))) = ((u + x * 128 ^ i : Nat) : Int) ∧ u + x * 128 ^ i < 18446744073709551616 := by
  have e : (2 : Int) ^ (i * 7) = ((128 ^ i : Nat) : Int) := by
    rw [Nat.mul_comm, Int.pow_mul]
    push_cast
    rfl
  have hb : x * 128 ^ i < 18446744073709551616 ∧ u + x * 128 ^ i < 18446744073709551616 := by
    rcases Nat.lt_or_ge i 9 with h | h
    · have h3 : 128 ^ i ≤ 128 ^ 8 := Nat.pow_le_pow_right (by omega) (by omega)
      have h4 : x * 128 ^ i ≤ 127 * 128 ^ 8 := Nat.mul_le_mul (by omega) h3
      omega
    · obtain rfl : i = 9 := by omega
      rw [h9 rfl]
      omega
  refine ⟨?_, hb.2⟩
  rw [e, ← Int.natCast_mul, wrap_u64x, Int.emod_eq_of_lt (by omega) (by omega), u64_or_nat _ _ (by omega) hb.1]
  congr 1
  have e2 : 128 ^ i = 2 ^ (7 * i) := by rw [Nat.pow_mul]
  rw [e2, Nat.or_comm, Nat.mul_comm x, ← Nat.two_pow_add_eq_or_of_lt (by rw [← e2]; exact hu), Nat.add_comm]
theorem xor_ones_i64 (v : Nat) (h : v < 9223372036854775808) : bits .xor .i64 (v : Int) (-1) = -(v : Int) - 1 := by
  show IntKind.i64.wrap ((BitVec.ofInt 64 (v : Int) ^^^ BitVec.ofInt 64 (-1)).toNat : Int) = _
  have e : BitVec.ofInt 64 (-1) = BitVec.allOnes 64 := by decide
  rw [e, BitVec.xor_allOnes, BitVec.toNat_not, ofInt_u64 v (by omega)]
  simp only [IntKind.wrap, IntKind.bits, IntKind.signed]
  simp
  omega
theorem xor_zero_i64 (v : Nat) (h : v < 9223372036854775808) : bits .xor .i64 (v : Int) 0 = (v : Int) := by
  show IntKind.i64.wrap ((BitVec.ofInt 64 (v : Int) ^^^ BitVec.ofInt 64 0).toNat : Int) = _
  have e : BitVec.ofInt 64 0 = 0#64 := by decide
  rw [e, BitVec.xor_zero, ofInt_u64 v (by omega)]
  simp only [IntKind.wrap, IntKind.bits, IntKind.signed]
  simp
  omega
theorem and_one_u64 {u : Nat} (h : u < 18446744073709551616) : bits .and .u64 (u : Int) 1 = ((u % 2 : Nat) : Int) := by
  have := u64_and_nat u 1 h (by omega)
  rw [nat_mask1] at this
  exact this

/-- What a stopped reader's panic carries. -/
def stopped (c : Int) : List PanicEntry := [{ v := .iface 71 (.agg #[.int .i64 c]), recovered := false }]
theorem gives_i64 {a b : Int} {w : World} (h : a = b) : Gives (.int .i64 a) w (.returned (.int .i64 b)) w := by rw [h]; exact ⟨rfl, rfl⟩
set_option maxHeartbeats 1000000 in
theorem unfold_any (u : Nat) (w : World) (h : u < 18446744073709551616) : Calls Try.prog 65 #[.int .u64 (u : Int)] w (Gives (.int .i64 (unf u)) w) := by
  have ha := and_one_u64 h
  have E0 : Hid ((u : Int) / 2 = ((u / 2 : Nat) : Int)) := Lib.hid (by omega)
  rcases Nat.mod_two_eq_zero_or_one u with h2 | h2
  · have HX := Lib.hid (xor_zero_i64 (u / 2) (by omega))
    have ha2 : bits .and .u64 (u : Int) 1 = 0 := by rw [ha, h2]; rfl
    clear ha
    go_enter Try.func65, Try.ntmps65
    go_wp2_with fail
    go_ret
    exact gives_i64 (by rw [unf, if_neg (by omega), E0.out]; exact HX.out.symm)
  · have HX := Lib.hid (xor_ones_i64 (u / 2) (by omega))
    have ha2 : bits .and .u64 (u : Int) 1 = 1 := by rw [ha, h2]; rfl
    clear ha
    go_enter Try.func65, Try.ntmps65
    go_wp2_with fail
    go_ret
    exact gives_i64 (by rw [unf, if_pos h2, E0.out]; exact HX.out.symm)

set_option maxHeartbeats 1000000 in
theorem group_end {b : Nat} (w : World) (h : Rd w b []) : Calls Try.prog 64 #[.pointer (some ⟨b, 0, none⟩)] w (fun e w' => e = .panicked (stopped 2) ∧ w' = w) := by
  obtain ⟨r, hc, hr⟩ := h
  have hcell : w.cell? ⟨b, 0, none⟩ = some (.string r) := by rw [cell_of_row _ _ _ _ _ _ hc]; rfl
  have he := str_none (s := r) (by rw [← strInts_len, hr]; rfl)
  clear hr hc
  go_enter Try.func64, Try.ntmps64
  go_wp2_with fail
  exact ⟨rfl, rfl, rfl⟩

def NumRes (b : Nat) (r : Except Int (Int × List Int)) (w : World) (e : Ending) (w' : World) : Prop := match r with
  | .ok (n, l) => e = .returned (.int .i64 n) ∧ Rd w' b l ∧ Only b w w'
  | .error c => e = .panicked (stopped c) ∧ Only b w w'
theorem num_err {b : Nat} {r : Except Int (Int × List Int)} {w w' : World} {c : Int} (h : r = .error c) (ho : Only b w w') : NumRes b r w (.panicked (stopped c)) w' := by rw [h]; exact ⟨rfl, ho⟩
theorem num_ok {b : Nat} {r : Except Int (Int × List Int)} {w w' : World} {n : Int} {l : List Int} (h : r = .ok (n, l)) (hr : Rd w' b l) (ho : Only b w w') : NumRes b r w (.returned (.int .i64 n)) w' := by rw [h]; exact ⟨rfl, hr, ho⟩

set_option maxHeartbeats 4000000 in
theorem rnum_any {b : Nat} {l : List Int} {r : Except Int (Int × List Int)} (w : World) (h : Rd w b l) (hn : rdn 0 0 l = r) : Calls Try.prog 53 #[.pointer (some ⟨b, 0, none⟩)] w (NumRes b r w) := by
  have HN0 := Lib.hid hn
  clear hn
  go_enter Try.func53, Try.ntmps53
  go_wp2_with fail
  go_loopw [3, 4, 5] (fun o i _ wr => ∃ (j u : Nat) (lr : List Int), o = .int .u64 (u : Int) ∧ i = .int .i64 (j : Int) ∧ j ≤ 9 ∧ Hid (rdn j u lr = r) ∧ Hid (u < 128 ^ j) ∧ Rd wr b lr ∧ Only b w wr) (fun _ i _ _ => 10 - (intOf i).toNat)
  case atStart => exact ⟨0, 0, l, rfl, rfl, by omega, HN0, Lib.hid (by decide), h, Only.refl _ _⟩
  case round =>
    obtain ⟨j, u, lr, rfl, rfl, hj, HN, HU, hrd, ho⟩ := hrel
    cases lr with
    | nil =>
      have HE : Hid (r = .error 2) := Lib.hid (by rw [← HN.out, rdn])
      go_wp2_with (first | (go_at_call 64; refine (group_end _ hrd).mono ?_; rintro e w1 ⟨rfl, rfl⟩; rw [stopped]))
      exact ⟨rfl, num_err HE.out ho⟩
    | cons x lr =>
      have hx : ∃ y : Nat, x = (y : Int) ∧ y ≤ 255 := by
        obtain ⟨s, _, hs⟩ := hrd
        obtain ⟨_, _, _, h3, h4⟩ := strInts_first hs
        exact ⟨x.toNat, by omega, by omega⟩
      obtain ⟨y, rfl, hy⟩ := hx
      have HN2 := HN.out
      rw [rdn] at HN2
      by_cases hbad : (j = 9 ∧ (y : Int) ≠ 1) ∨ (0 < j ∧ (y : Int) = 0)
      · rw [if_pos hbad] at HN2
        have HE : Hid (r = .error 3) := Lib.hid HN2.symm
        clear HN2 HN
        by_cases h9 : j = 9
        · subst h9
          by_cases hy1 : y = 1
          · omega
          · have i1 : ((y : Int) != 1) = true := by simp; omega
            go_wp2_with (first | (go_at_call 64; refine (group_ok _ hrd).mono ?_; rintro e w1 ⟨rfl, r1, o1⟩))
            exact ⟨rfl, num_err HE.out (ho.trans o1)⟩
        · have i1 : ((j : Int) == 9) = false := by simp; omega
          have i2 : 0 < j := by omega
          have hy1 : y = 0 := by omega
          subst hy1
          go_wp2_with (first | (go_at_call 64; refine (group_ok _ hrd).mono ?_; rintro e w1 ⟨rfl, r1, o1⟩))
          exact ⟨rfl, num_err HE.out (ho.trans o1)⟩
      · rw [if_neg hbad] at HN2
        have hor := or_step hj HU.out (Nat.mod_lt y (by omega : 0 < 128)) (fun h9 => by omega)
        have et : ((y : Int) % 128).toNat = y % 128 := by omega
        have et2 : (y : Int).tmod 128 = ((y % 128 : Nat) : Int) := by rw [Int.tmod_eq_emod_of_nonneg (by omega)]; omega
        have hm : y % 128 < 128 := Nat.mod_lt _ (by omega)
        have HB : Hid (y % 128 ≤ 127) := Lib.hid (by omega)
        have HY : Hid (y < 128 → y % 128 = y) := Lib.hid (fun h => Nat.mod_eq_of_lt h)
        rw [et] at HN2
        obtain ⟨m, hmm⟩ : ∃ m, y % 128 = m := ⟨_, rfl⟩
        rw [hmm] at HN2 hor et2 hm HY
        have HU2 : Hid (u + m * 128 ^ j < 128 ^ (j + 1)) := Lib.hid (by
          have h1 := HU.out
          have h2 : m * 128 ^ j ≤ 127 * 128 ^ j := Nat.mul_le_mul (by omega) (Nat.le_refl _)
          rw [Nat.pow_succ]
          omega)
        clear hmm HB et
        obtain ⟨v, hv⟩ : ∃ v, u + m * 128 ^ j = v := ⟨_, rfl⟩
        rw [hv] at HN2 hor HU2
        obtain ⟨hor, hv2⟩ := hor
        clear hv
        have HV2 := Lib.hid hv2
        clear hv2
        have HBAD := Lib.hid hbad
        clear hbad
        have H9 : Hid (j = 9 → m = 1 ∧ bits .or .u64 (u : Int) 9223372036854775808 = (v : Int)) := Lib.hid (fun h9 => by
          have hm1 : m = 1 := by have := HBAD.out; have h1 : y = 1 := (by omega); have h2 := HY.out (by omega); omega
          subst h9 hm1
          refine ⟨rfl, ?_⟩
          have e : IntKind.u64.wrap (((1 : Nat) : Int) * 2 ^ (9 * 7)) = 9223372036854775808 := by rw [wrap_u64x]; rfl
          rw [e] at hor
          exact hor)
        have H0 : Hid (j = 0 → bits .or .u64 (u : Int) (m : Int) = (v : Int)) := Lib.hid (fun h0 => by
          subst h0
          have e : IntKind.u64.wrap ((m : Int) * 2 ^ (0 * 7)) = (m : Int) := by rw [wrap_u64x]; simp; omega
          rw [e] at hor
          exact hor)
        have HBAD2 : Hid ((j = 9 → (y : Int) = 1) ∧ (0 < j → ¬ (y : Int) = 0)) := Lib.hid (by have := HBAD.out; omega)
        have HC : Hid (((y : Int) < 128 → r = .ok (unf v, lr)) ∧ (¬ (y : Int) < 128 → rdn (j + 1) v lr = r)) := Lib.hid ⟨fun h => by rw [← HN2, if_pos h], fun h => by rw [← HN2, if_neg h]⟩
        clear HBAD HN2 HN HY
        have hy0 : 0 ≤ (y : Int) ∧ (y : Int) ≤ 255 := by omega
        generalize (y : Int) = x at *
        clear hy
        obtain ⟨hx0, hx1⟩ := hy0
        by_cases h128 : x < 128
        · have HE : Hid (r = .ok (unf v, lr)) := Lib.hid (HC.out.1 h128)
          by_cases h9 : j = 9
          · subst h9
            obtain rfl : x = 1 := HBAD2.out.1 rfl
            obtain ⟨_, hor9⟩ := H9.out rfl
            clear hor et2 hm
            go_wp2_with (first
              | (go_at_call 64; refine (group_ok _ hrd).mono ?_; rintro e w1 ⟨rfl, r1, o1⟩)
              | (go_at_call 65; refine (unfold_any _ _ HV2.out).mono ?_; rintro e w2 ⟨rfl, rfl⟩))
            go_ret
            exact num_ok HE.out r1 (ho.trans o1)
          · have i1 : ((j : Int) == 9) = false := by simp; omega
            by_cases hj0 : j = 0
            · subst hj0
              have hor0 := H0.out rfl
              clear hor
              go_wp2_with (first
                | (go_at_call 64; refine (group_ok _ hrd).mono ?_; rintro e w1 ⟨rfl, r1, o1⟩)
                | (go_at_call 65; refine (unfold_any _ _ HV2.out).mono ?_; rintro e w2 ⟨rfl, rfl⟩))
              go_ret
              exact num_ok HE.out r1 (ho.trans o1)
            · have i2 : 0 < j := by omega
              have i3 : (x == 0) = false := by rw [beq_eq_false_iff_ne]; exact HBAD2.out.2 i2
              go_wp2_with (first
                | (go_at_call 64; refine (group_ok _ hrd).mono ?_; rintro e w1 ⟨rfl, r1, o1⟩)
                | (go_at_call 65; refine (unfold_any _ _ HV2.out).mono ?_; rintro e w2 ⟨rfl, rfl⟩))
              go_ret
              exact num_ok HE.out r1 (ho.trans o1)
        · have HE : Hid (rdn (j + 1) v lr = r) := Lib.hid (HC.out.2 h128)
          have h9 : ¬ j = 9 := fun h9 => by have := HBAD2.out.1 h9; omega
          have i1 : ((j : Int) == 9) = false := by simp; omega
          by_cases hj0 : j = 0
          · subst hj0
            have hor0 := H0.out rfl
            clear hor
            go_wp2_with (first
              | (go_at_call 64; refine (group_ok _ hrd).mono ?_; rintro e w1 ⟨rfl, r1, o1⟩))
            go_roundw
            case rel => exact ⟨1, v, lr, rfl, rfl, by omega, HE, HU2, r1, ho.trans o1⟩
            case measure => simp [intOf] <;> omega
          · have i2 : 0 < j := by omega
            have i3 : (x == 0) = false := by rw [beq_eq_false_iff_ne]; exact HBAD2.out.2 i2
            go_wp2_with (first
              | (go_at_call 64; refine (group_ok _ hrd).mono ?_; rintro e w1 ⟨rfl, r1, o1⟩))
            go_roundw
            case rel => exact ⟨j + 1, v, lr, rfl, by push_cast; rfl, by omega, HE, HU2, r1, ho.trans o1⟩
            case measure => simp [intOf] <;> omega
end Go.Proofs.Ytkkjjhkhpibaiaa.Im
