/-
  The contract of place of package seqpool.
-/
import Derived.Test.YtemflmodgbheoaaSpPlace
namespace Go.Proofs.Ytemflmodgbheoaa.Sp
open Go.RowKit
set_option linter.unusedVariables false

/-- How many elements of the sequence stand at its start already. -/
def present (codes seq : List Int) : Nat := min seq.length (codes.length - startOf codes seq)
theorem G_full {seq t : List Int} (h : G seq t = seq.length) : seq <:+ t := by
  have := (G_suf seq t).2
  rw [h, List.take_of_length_le (Nat.le_refl _)] at this
  exact this
theorem full_G {seq t : List Int} (h : seq <:+ t) : G seq t = seq.length :=
  Nat.le_antisymm (G_le _ _) (G_max ⟨Nat.le_refl _, by rw [List.take_of_length_le (Nat.le_refl _)]; exact h⟩)
theorem start_nil (codes : List Int) : startOf codes [] = 0 := by
  refine start_is (Nat.zero_le _) (fun j h => absurd h (Nat.not_lt_zero _)) (.inr ?_)
  simp [agree]
theorem start_le (codes seq : List Int) : startOf codes seq ≤ codes.length := by
  by_cases h : ∃ j, j ≤ codes.length ∧ seq <:+ codes.take j
  · have : ∀ m, ∀ j, j ≤ m → j ≤ codes.length → seq <:+ codes.take j → startOf codes seq ≤ codes.length := by
      intro m
      induction m with
      | zero =>
        intro j hj hl hs
        rw [start_full hl hs (fun i hi => by omega)]
        omega
      | succ m ih =>
        intro j hj hl hs
        by_cases hx : ∃ i, i < j ∧ seq <:+ codes.take i
        · obtain ⟨i, hi, hs'⟩ := hx
          exact ih i (by omega) (by omega) hs'
        · rw [start_full hl hs (fun i hi hs' => hx ⟨i, hi, hs'⟩)]
          omega
    obtain ⟨j, hl, hs⟩ := h
    exact this j j (Nat.le_refl _) hl hs
  · rw [start_part (fun i hi hs => h ⟨i, hi, hs⟩)]
    omega
/-- What place gives. -/
def Placed (codes seq : List Int) (w : World) (e : Ending) (w' : World) : Prop :=
  e = .returned (.tuple #[.int .i64 (startOf codes seq : Int), .int .i64 (present codes seq : Int)]) ∧ Below w.heap.size w w'
/-- Nowhere whole, as far as read. -/
def NotYet (codes seq : List Int) (i : Nat) : Prop := ∀ j, j ≤ i → ¬ seq <:+ codes.take j
theorem NotYet.start {codes seq : List Int} (h : 0 < seq.length) : NotYet codes seq 0 := fun j hj hs => by
  have := hs.length_le
  rw [List.length_take] at this
  omega
theorem NotYet.lt {codes seq : List Int} {i : Nat} (h : NotYet codes seq i) : G seq (codes.take i) < seq.length := by
  have := G_le seq (codes.take i)
  rcases Nat.lt_or_ge (G seq (codes.take i)) seq.length with h1 | h1
  · exact h1
  · exact absurd (G_full (Nat.le_antisymm this h1)) (h i (Nat.le_refl _))
theorem NotYet.next {codes seq : List Int} {i : Nat} (h : NotYet codes seq i) (hg : G seq (codes.take (i + 1)) ≠ seq.length) : NotYet codes seq (i + 1) := fun j hj hs => by
  rcases Nat.lt_or_ge i j with h1 | h1
  · obtain rfl : j = i + 1 := by omega
    exact hg (full_G hs)
  · exact h j h1 hs

set_option maxRecDepth 100000 in
set_option maxHeartbeats 1000000 in
theorem place_any {A B : Option Addr} {n ca m cb : Nat} {codes seq : List Int} (w : World) (hx : Sl w A n ca 1 (ints codes)) (hy : Sl w B m cb 1 (ints seq)) (hn : n ≤ 100000) (hm : m ≤ 10000) :
    Calls Try.prog 31 #[.slice A n ca, .slice B m cb] w (Placed codes seq w) := by
  have HN := Lib.hid hx.count
  have HM := Lib.hid hy.count
  rcases Nat.eq_zero_or_pos m with h0 | h0
  · subst h0
    have e0 : seq = [] := List.eq_nil_of_length_eq_zero HM.out.symm
    subst e0
    go_enter Try.func31, Try.ntmps31
    go_wp2_with fail
    refine bodyPost_ret (v := .tuple #[.int .i64 0, .int .i64 0]) (by simp [results, Try.results31, go_sem]) rfl ⟨?_, Below.refl _ _⟩
    rw [start_nil, present, start_nil]
    simp
  · have hcx := hx.cap
    have hmx := hx.max
    have hcy := hy.cap
    have hmy := hy.max
    have h0i : (0 : Int) < (m : Int) := by omega
    have h0b : ((m : Int) == 0) = false := by rw [beq_eq_false_iff_ne]; omega
    have HP : Hid (0 < seq.length) := Lib.hid (by rw [← HM.out]; exact h0)
    go_enter Try.func31, Try.ntmps31
    go_wp2_with (first | (go_at_call 33; refine (borders_any _ hy h0 hm).mono ?_; rintro e w1 ⟨C, k, cc, rfl, hc, hb, hf⟩))
    have HK : Hid (k = m) := Lib.hid (by have := hc.count; rw [bordL_len] at this; rw [this, HM.out])
    have hkm := HK.out
    subst hkm
    go_wp2_with fail
    go_loopw [7, 17] (fun v i wr => ∃ j d : Nat, j ≤ n ∧ v = .int .i64 (d : Int) ∧ i = .int .i64 (j : Int) ∧ wr = w1 ∧ Hid (NotYet codes seq j) ∧ Hid (G seq (codes.take j) = d)) (fun _ i _ => n - (intOf i).toNat)
    case atStart => exact ⟨0, 0, Nat.zero_le _, rfl, rfl, rfl, Lib.hid (NotYet.start HP.out), Lib.hid (Nat.le_zero.1 (by simpa using G_le_len seq (codes.take 0)))⟩
    case round =>
      obtain ⟨j, d, hj, rfl, rfl, rfl, HY, HD⟩ := hrel
      by_cases hlt : j < n
      · have hjl : j < codes.length := by rw [← HN.out]; exact hlt
        have hdm : d < k := by have := HY.out.lt; rw [HD.out] at this; rw [HM.out]; exact this
        obtain ⟨b, off, rfl, _, hcell⟩ := (hx.keep hb).int_at hlt
        obtain ⟨x, hxx⟩ : ∃ x, codes.getD j 0 = x := ⟨_, rfl⟩
        have HX := Lib.hid hxx
        rw [hxx] at hcell
        have hC : Hid (Cand seq (codes.take j) x d) := Lib.hid (by rw [← HD.out]; exact Cand.start x)
        obtain ⟨r, hr⟩ : ∃ r, G seq (codes.take j ++ [x]) = r := ⟨_, rfl⟩
        have HR := Lib.hid hr
        have HT : Hid (G seq (codes.take (j + 1)) = r) := Lib.hid (by rw [take_snoc hjl, hxx]; exact hr)
        have hrk : r ≤ k := by rw [← hr, HM.out]; exact G_le _ _
        have HBB : Hid (∀ j', 0 < j' → j' ≤ d → (bordL seq).getD (j' - 1) 0 = (border seq j' : Int)) := Lib.hid (fun j' h1 h2 => by
          rw [bordL_at (by have := HM.out; omega), Nat.sub_add_cancel h1])
        have hy' := hy.keep hb
        clear hr hxx
        by_cases hrk2 : r = k
        · subst hrk2
          have HS : Hid (startOf codes seq = j + 1 - r) := Lib.hid (by
            have hs := G_full (HT.out.trans HM.out)
            rw [HM.out]
            exact start_full (by omega) hs (fun i hi => HY.out i (by omega)))
          have hle : r ≤ j + 1 := by have := G_le_len seq (codes.take (j + 1)); rw [HT.out, List.length_take] at this; omega
          have hQ : Hid (present codes seq = r) := Lib.hid (by rw [present, HS.out, ← HM.out]; omega)
          have i1 : ((j : Int) + 1 - (r : Int)) = ((j + 1 - r : Nat) : Int) := by omega
          go_wp2_with (first | (go_at_call 34; refine (extend_x _ hy' hc HBB.out hdm (by omega) (by omega) hC.out HR.out).mono ?_; rintro e w' ⟨rfl, rfl⟩))
          refine bodyPost_ret (v := .tuple #[.int .i64 ((j + 1 - r : Nat) : Int), .int .i64 (r : Int)]) (by simp [results, Try.results31, go_sem]) rfl ⟨?_, hb⟩
          rw [HS.out, hQ.out]
        · have hq : ((r : Int) == (k : Int)) = false := by rw [beq_eq_false_iff_ne]; omega
          have HY2 : Hid (NotYet codes seq (j + 1)) := Lib.hid (HY.out.next (by rw [HT.out, ← HM.out]; exact hrk2))
          have hne : ¬ (r : Int) = (k : Int) := by omega
          go_wp2_with (first | (go_at_call 34; refine (extend_x _ hy' hc HBB.out hdm (by omega) (by omega) hC.out HR.out).mono ?_; rintro e w' ⟨rfl, rfl⟩))
          go_roundw
          case rel => exact ⟨j + 1, r, by omega, rfl, by simp, trivial, HY2, HT⟩
          case measure => simp [intOf] <;> omega
      · have i9 : ¬ ((j : Int) < (n : Int)) := by omega
        have hjn : j = n := by omega
        subst hjn
        have ht : codes.take j = codes := by rw [HN.out]; exact List.take_length
        have HS : Hid (startOf codes seq = j - d) := Lib.hid (by
          have hd := HD.out
          rw [ht] at hd
          rw [HN.out, ← hd]
          exact start_part (fun i hi => HY.out i (by rw [HN.out]; exact hi)))
        have hdk : d < k := by have := HY.out.lt; rw [HD.out] at this; rw [HM.out]; exact this
        have hdj : d ≤ j := by have := G_le_len seq (codes.take j); rw [HD.out, List.length_take] at this; omega
        have hQ : Hid (present codes seq = d) := Lib.hid (by rw [present, HS.out, ← HM.out, ← HN.out]; omega)
        have i1 : ((j : Int) - (d : Int)) = ((j - d : Nat) : Int) := by omega
        go_wp2_with fail
        refine bodyPost_ret (v := .tuple #[.int .i64 ((j - d : Nat) : Int), .int .i64 (d : Int)]) (by simp [results, Try.results31, go_sem]) rfl ⟨?_, hb⟩
        rw [HS.out, hQ.out]
end Go.Proofs.Ytemflmodgbheoaa.Sp
