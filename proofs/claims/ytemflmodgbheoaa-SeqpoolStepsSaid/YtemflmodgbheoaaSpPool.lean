/-
  The contracts of Valid and sequence of package seqpool.
-/
import Derived.Test.YtemflmodgbheoaaSpPlaceB
import Derived.Test.YtemflmodgbheoaaBox
import Derived.Test.YtemflmodgbheoaaCode
import Derived.Test.YtemflmodgbheoaaClone
namespace Go.Proofs.Ytemflmodgbheoaa.Sp
open Go.RowKit
set_option linter.unusedVariables false

/-- One sequence lies within n codes. -/
def ok1 (n : Nat) (s l : Int) : Bool := decide (0 ≤ s ∧ 0 ≤ l ∧ l ≤ (n : Int) ∧ s ≤ (n : Int) - l)
/-- The first i do. -/
def okTo (n : Nat) (starts lens : List Int) (i : Nat) : Prop := ∀ j, j < i → ok1 n (starts.getD j 0) (lens.getD j 0) = true
instance (n : Nat) (starts lens : List Int) (i : Nat) : Decidable (okTo n starts lens i) := Nat.decidableBallLT i fun j _ => ok1 n (starts.getD j 0) (lens.getD j 0) = true
def validL (n : Nat) (starts lens : List Int) : Bool := decide (starts.length = lens.length ∧ okTo n starts lens starts.length)
theorem okTo.next {n : Nat} {starts lens : List Int} {i : Nat} (h : okTo n starts lens i) (h1 : ok1 n (starts.getD i 0) (lens.getD i 0) = true) : okTo n starts lens (i + 1) := fun j hj => by
  rcases Nat.lt_or_ge j i with h2 | h2
  · exact h j h2
  · obtain rfl : j = i := by omega
    exact h1
theorem valid_no {n : Nat} {starts lens : List Int} {i : Nat} (hi : i < starts.length) (h1 : ok1 n (starts.getD i 0) (lens.getD i 0) = false) : validL n starts lens = false := by
  rw [validL, decide_eq_false_iff_not]
  rintro ⟨_, h2⟩
  rw [h2 i hi] at h1
  cases h1
theorem valid_len {n : Nat} {starts lens : List Int} (h : starts.length ≠ lens.length) : validL n starts lens = false := by
  rw [validL, decide_eq_false_iff_not]
  exact fun h2 => h h2.1
theorem valid_yes {n : Nat} {starts lens : List Int} (h : starts.length = lens.length) (h2 : okTo n starts lens starts.length) : validL n starts lens = true := by
  rw [validL, decide_eq_true_eq]
  exact ⟨h, h2⟩
theorem makes_bool {a b : Bool} {w w' : World} (h : a = b) (hb : Below w.heap.size w w') : Makes (.bool a) w (.returned (.bool b)) w' := by rw [h]; exact ⟨rfl, hb⟩

/-- The pool in three slices. -/
structure PoolIs (w : World) (A : Option Addr) (n ca : Nat) (B : Option Addr) (m cb : Nat) (C : Option Addr) (k cc : Nat) (codes starts lens : List Int) : Prop where
  codes : Sl w A n ca 1 (ints codes)
  starts : Sl w B m cb 1 (ints starts)
  lens : Sl w C k cc 1 (ints lens)
  n_le : n ≤ 1000
  m_le : m ≤ 1000
  k_le : k ≤ 1000
theorem PoolIs.keep {w w' : World} {A B C : Option Addr} {n ca m cb k cc : Nat} {codes starts lens : List Int} (h : PoolIs w A n ca B m cb C k cc codes starts lens) (hb : Below w.heap.size w w') : PoolIs w' A n ca B m cb C k cc codes starts lens :=
  ⟨h.codes.keep hb, h.starts.keep hb, h.lens.keep hb, h.n_le, h.m_le, h.k_le⟩

set_option maxRecDepth 100000 in
set_option maxHeartbeats 2000000 in
theorem valid_any {A B C : Option Addr} {n ca m cb k cc : Nat} {codes starts lens : List Int} {r : Bool} (w : World) (hp : PoolIs w A n ca B m cb C k cc codes starts lens) (hr : validL n starts lens = r) :
    Calls Try.prog 22 #[.agg #[.slice A n ca, .slice B m cb, .slice C k cc]] w (Makes (.bool r) w) := by
  have HR := Lib.hid hr
  have HB := Lib.hid hp.starts.count
  have HC := Lib.hid hp.lens.count
  have hn := hp.n_le
  have hm := hp.m_le
  have hk := hp.k_le
  have hcb := hp.starts.cap
  have hmb := hp.starts.max
  have hcc := hp.lens.cap
  have hmc := hp.lens.max
  have k0 := Bk.fresh (Below.refl w.heap.size w) #[.slice A n ca, .slice B m cb, .slice C k cc] 27
  clear hr
  by_cases hmk : m = k
  · subst hmk
    go_enter Try.func22, Try.ntmps22
    go_wp2_with fail
    go_loopw [16] (fun i wr => ∃ j : Nat, j ≤ m ∧ i = .int .i64 (j : Int) ∧ Hid (Bk w wr w.heap.size #[.slice A n ca, .slice B m cb, .slice C m cc]) ∧ Hid (okTo n starts lens j)) (fun i _ => m - (intOf i).toNat)
    case atStart => exact ⟨0, Nat.zero_le _, rfl, Lib.hid k0, Lib.hid (fun j hj => absurd hj (Nat.not_lt_zero _))⟩
    case round =>
      obtain ⟨j, hj, rfl, KB, HO⟩ := hrel
      by_cases hlt : j < m
      · obtain ⟨x0, x1, x2⟩ := KB.out.three
        obtain ⟨b, off, rfl, _, hc1⟩ := (hp.starts.keep KB.out.below).int_at hlt
        obtain ⟨b2, off2, rfl, _, hc2⟩ := (hp.lens.keep KB.out.below).int_at hlt
        obtain ⟨s, hs⟩ : ∃ s, starts.getD j 0 = s := ⟨_, rfl⟩
        obtain ⟨l, hl⟩ : ∃ l, lens.getD j 0 = l := ⟨_, rfl⟩
        have HS := Lib.hid hs
        have HL := Lib.hid hl
        rw [hs] at hc1
        rw [hl] at hc2
        clear hs hl
        have HN : ok1 n s l = false → Hid (r = false) := fun h => Lib.hid (by rw [← HR.out]; exact valid_no (by rw [← HB.out]; exact hlt) (by rw [HS.out, HL.out]; exact h))
        have hcase : s < 0 ∨ (0 ≤ s ∧ l < 0) ∨ (0 ≤ s ∧ 0 ≤ l ∧ (n : Int) < l) ∨ (0 ≤ s ∧ 0 ≤ l ∧ l ≤ n ∧ (n : Int) - l < s) ∨ (0 ≤ s ∧ 0 ≤ l ∧ l ≤ n ∧ s ≤ (n : Int) - l) := by omega
        rcases hcase with h1 | ⟨h1, h2⟩ | ⟨h1, h2, h3⟩ | ⟨h1, h2, h3, h4⟩ | ⟨h1, h2, h3, h4⟩
        · have HF := HN (by rw [ok1, decide_eq_false_iff_not]; omega)
          clear HN
          go_wp2_with fail
          go_ret
          exact makes_bool HF.out KB.out.below
        · have HF := HN (by rw [ok1, decide_eq_false_iff_not]; omega)
          clear HN
          go_wp2_with fail
          go_ret
          exact makes_bool HF.out KB.out.below
        · have HF := HN (by rw [ok1, decide_eq_false_iff_not]; omega)
          clear HN
          go_wp2_with fail
          go_ret
          exact makes_bool HF.out KB.out.below
        · have HF := HN (by rw [ok1, decide_eq_false_iff_not]; omega)
          clear HN
          go_wp2_with fail
          go_ret
          exact makes_bool HF.out KB.out.below
        · have HO2 : Hid (okTo n starts lens (j + 1)) := Lib.hid (HO.out.next (by rw [HS.out, HL.out, ok1, decide_eq_true_eq]; omega))
          clear HN
          go_wp2_with fail
          go_roundw
          case rel => exact ⟨j + 1, by omega, by push_cast; rfl, KB, HO2⟩
          case measure => simp [intOf] <;> omega
      · have i9 : ¬ ((j : Int) < (m : Int)) := by omega
        have hjm : j = m := by omega
        have HT : Hid (r = true) := Lib.hid (by rw [← HR.out]; exact valid_yes (by rw [← HB.out, HC.out]) (by rw [← HB.out, ← hjm]; exact HO.out))
        go_wp2_with fail
        go_ret
        exact makes_bool HT.out KB.out.below
  · have hz : ((m : Int) != (k : Int)) = true := by rw [bne_iff_ne]; omega
    have HF : Hid (r = false) := Lib.hid (by rw [← HR.out]; exact valid_len (by rw [← HB.out, ← HC.out]; exact hmk))
    go_enter Try.func22, Try.ntmps22
    go_wp2_with fail
    go_ret
    exact makes_bool HF.out k0.below

theorem sl_cut {w : World} {A : Option Addr} {n c : Nat} {zs : List Int} (h : Sl w A n c 1 (ints zs)) {k : Nat} (hk : k ≤ n) : Sl w A k k 1 (ints (zs.take k)) := by
  have h1 := h.head1 hk
  obtain ⟨e1, e2, e3, e4, e5⟩ := h1
  exact ⟨e1, Nat.le_refl _, by omega, fun e => by have := e4 e; omega, e5⟩
theorem sl_mid {w : World} {A : Option Addr} {n c : Nat} {zs : List Int} (h : Sl w A n c 1 (ints zs)) {p q : Nat} (hp : p < q) (hq : q ≤ n) : Sl w (A.map (fun x => x.add p)) (q - p) (q - p) 1 (ints ((zs.drop p).take (q - p))) :=
  sl_cut (h.tail_in (by omega)) (by omega)

/-- A part that is read. -/
def Reads (zs : List Int) (w : World) (e : Ending) (w' : World) : Prop := ∃ D q c, e = .returned (.slice D q c) ∧ Sl w' D q c 1 (ints zs) ∧ Below w.heap.size w w'
set_option maxRecDepth 100000 in
set_option maxHeartbeats 2000000 in
theorem sequence_x {A B C : Option Addr} {n ca m cb k cc i s l : Nat} {codes starts lens zs : List Int} (w : World) (hp : PoolIs w A n ca B m cb C k cc codes starts lens) (him : i < m) (hik : i < k)
    (hs : starts.getD i 0 = (s : Int)) (hl : lens.getD i 0 = (l : Int)) (h : s + l ≤ n) (hz : (codes.drop s).take l = zs) :
    Calls Try.prog 28 #[.agg #[.slice A n ca, .slice B m cb, .slice C k cc], .int .i64 (i : Int)] w (Reads zs w) := by
  have HZ := Lib.hid hz
  have HN := Lib.hid hp.codes.count
  have hn := hp.n_le
  have hm := hp.m_le
  have hk := hp.k_le
  have hca := hp.codes.cap
  have hma := hp.codes.max
  have hcb := hp.starts.cap
  have hmb := hp.starts.max
  have hcc := hp.lens.cap
  have hmc := hp.lens.max
  have k0 := Bk.fresh (Below.refl w.heap.size w) #[.slice A n ca, .slice B m cb, .slice C k cc] 27
  obtain ⟨x0, x1, x2⟩ := k0.three
  obtain ⟨b, off, rfl, _, hc1⟩ := (hp.starts.keep k0.below).int_at him
  obtain ⟨b2, off2, rfl, _, hc2⟩ := (hp.lens.keep k0.below).int_at hik
  have hp0 := hp.codes
  rw [hs] at hc1
  rw [hl] at hc2
  clear hz hs hl hp
  have i1 : (s : Int) + (l : Int) ≤ (n : Int) := by omega
  have i2 : IntKind.i64.wrap ((s : Int) + (l : Int)) = ((s + l : Nat) : Int) := by rw [← Int.natCast_add]; exact IntWalk.i64_in _ (by omega)
  have i3 : (i : Int) < (m : Int) := by omega
  have i4 : (i : Int) < (k : Int) := by omega
  have kd := drewN_below k0.below
  rcases Nat.eq_zero_or_pos l with h0 | h0
  · subst h0
    have HS : Hid (Sl w A 0 0 1 (ints zs)) := Lib.hid (by rw [← HZ.out, List.take_zero]; have := sl_cut hp0 (Nat.zero_le n); rwa [List.take_zero] at this)
    go_enter Try.func28, Try.ntmps28
    go_wp2_with fail
    go_quiet (fail)
    go_wp2_with fail
    all_goals
      go_ret
      exact ⟨_, _, _, rfl, HS.out.keep (kd _), kd _⟩
  · have HS : Hid (Sl w (A.map (fun x => x.add s)) l l 1 (ints zs)) := Lib.hid (by
      have := sl_mid hp0 (p := s) (q := s + l) (by omega) h
      rw [Nat.add_sub_cancel_left, HZ.out] at this
      exact this)
    have HS2 : Hid (Sl w (A.map (fun x => x.add s)) (s + l - s) (s + l - s) 1 (ints zs)) := Lib.hid (by rw [Nat.add_sub_cancel_left]; exact HS.out)
    have hl0 : ¬ (l : Int) = 0 := by omega
    have hl1 : ¬ l = 0 := by omega
    go_enter Try.func28, Try.ntmps28
    go_wp2_with fail
    go_quiet (fail)
    go_wp2_with fail
    all_goals
      first
        | (exfalso; omega)
        | (go_ret; exact ⟨_, _, _, rfl, HS.out.keep (kd _), kd _⟩)
        | (go_ret; exact ⟨_, _, _, rfl, HS2.out.keep (kd _), kd _⟩)
end Go.Proofs.Ytemflmodgbheoaa.Sp
