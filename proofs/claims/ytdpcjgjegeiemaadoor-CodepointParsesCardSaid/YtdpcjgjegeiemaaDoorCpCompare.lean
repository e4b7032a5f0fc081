/-
  The contracts of codepoint.order, Compare and Equal, and of the reference's Compare, for every two slices of ints.
-/
import Derived.Test.YtdpcjgjegeiemaaDoorCpKinds
import Derived.Test.YtdpcjgjegeiemaaDoorCpOrder
import Derived.Deep.QuietTactic
import Derived.BigQuiet
import Derived.Deep.Draws
import Derived.WalkLawsBesides
import Derived.Deep.DeepFit
namespace Go.Proofs.YtdpcjgjegeiemaaDoor
open Go.RowKit
set_option linter.unusedVariables false

/-- The slice at A reads as these ints in the world w. -/
def IntsAt (w : World) (A : Option Addr) (zs : List Int) : Prop :=
  ∀ k, k < zs.length → ∃ b off, A = some ⟨b, off, none⟩ ∧ b < w.heap.size ∧ w.cell? ⟨b, off + k, none⟩ = some (.int .i64 (zs.getD k 0))

theorem IntsAt.drewN {w : World} {A : Option Addr} {zs : List Int} (h : IntsAt w A zs) (n : Nat) : IntsAt (w.drewN n) A zs := h

theorem order_any (a b : Int) (w : World) : Calls Tryd.prog 30 #[.int .i64 a, .int .i64 b] w (Gives (.int .i64 (ord2 a b)) w) := by
  rcases Int.lt_or_le a b with h | h
  · have H := Lib.hid (ord2_less h)
    go_enter Tryd.func30, Tryd.ntmps30
    go_wp2
    go_ret
    exact gives_int H.out
  · rcases Int.lt_or_le b a with h2 | h2
    · have H := Lib.hid (ord2_more h2)
      go_enter Tryd.func30, Tryd.ntmps30
      go_wp2
      go_ret
      exact gives_int H.out
    · have e : a = b := by omega
      subst e
      have H := Lib.hid (ord2_same a)
      go_enter Tryd.func30, Tryd.ntmps30
      go_wp2
      go_ret
      exact gives_int H.out

/-- What a comparison gives: this number, and nothing but draws. -/
def Tells (v : Value) (w : World) (e : Ending) (w' : World) : Prop := e = .returned v ∧ ∃ n, w' = w.drewN n

/-- A step of the comparison, kept out of the walk's sight. -/
def Left (xs ys : List Int) (k : Nat) : Prop := cmpL xs ys = cmpL (xs.drop k) (ys.drop k)
theorem Left.zero (xs ys : List Int) : Left xs ys 0 := rfl
theorem Left.step {xs ys : List Int} {k : Nat} (h : Left xs ys k) (hx : k < xs.length) (hy : k < ys.length) (e : xs.getD k 0 = ys.getD k 0) : Left xs ys (k + 1) :=
  Eq.trans h (cmp_step hx hy e)
theorem Left.differ {xs ys : List Int} {k : Nat} (h : Left xs ys k) (hx : k < xs.length) (hy : k < ys.length) (e : xs.getD k 0 ≠ ys.getD k 0) : cmpL xs ys = ord2 (xs.getD k 0) (ys.getD k 0) :=
  Eq.trans h (cmp_differ hx hy e)
theorem Left.stop {xs ys : List Int} {k : Nat} (h : Left xs ys k) (hx : k ≤ xs.length) (hy : k ≤ ys.length) (e : k = xs.length ∨ k = ys.length) : cmpL xs ys = ord2 xs.length ys.length :=
  Eq.trans h (cmp_end hx hy e)
theorem ret_int' {a b : Int} (h : a = b) : Ending.returned (.int .i64 b) = .returned (.int .i64 a) := by rw [h]
/-- The world has been drawn from, and nothing else. -/
def Drawn (w w' : World) : Prop := ∃ n, w' = w.drewN n
theorem Drawn.refl (w : World) : Drawn w w := ⟨0, rfl⟩
theorem Drawn.more {w w' : World} (h : Drawn w w') (n : Nat) : Drawn w (w'.drewN n) := by
  obtain ⟨m, rfl⟩ := h
  exact ⟨m + n, by rw [World.drewN_drewN]⟩
theorem Drawn.ints {w w' : World} (h : Drawn w w') {A : Option Addr} {zs : List Int} (ha : IntsAt w A zs) : IntsAt w' A zs := by
  obtain ⟨m, rfl⟩ := h
  exact ha

set_option maxHeartbeats 400000 in
theorem compare_any (A B : Option Addr) (c d : Nat) (xs ys : List Int) (w : World) (hx : xs.length ≤ maxLen) (hy : ys.length ≤ maxLen) (ha : IntsAt w A xs) (hb : IntsAt w B ys) :
    Calls Tryd.prog 25 #[.slice A xs.length c, .slice B ys.length d] w (Tells (.int .i64 (cmpL xs ys)) w) := by
  unfold maxLen at hx hy
  obtain ⟨n1, hn1⟩ : ∃ n, n = xs.length := ⟨_, rfl⟩
  obtain ⟨n2, hn2⟩ : ∃ n, n = ys.length := ⟨_, rfl⟩
  rw [← hn1] at hx
  rw [← hn2] at hy
  rw [← hn1, ← hn2]
  have H1 := Lib.hid hn1
  have H2 := Lib.hid hn2
  clear hn1 hn2
  rcases Nat.lt_or_ge n2 n1 with hle | hle
  all_goals
    go_enter Tryd.func25, Tryd.ntmps25
    go_wp2
    go_loopw [11] (fun i wr => ∃ k : Nat, k ≤ n1 ∧ k ≤ n2 ∧ i = .int .i64 k ∧ Drawn w wr ∧ Left xs ys k) (fun i _ => n1 - (intOf i).toNat)
    case atStart => exact ⟨0, Nat.zero_le _, Nat.zero_le _, rfl, Drawn.refl w, Left.zero xs ys⟩
    case round =>
      obtain ⟨k, hk1, hk2, rfl, hd, hl⟩ := hrel
      by_cases hlt : k < n1 ∧ k < n2
      · obtain ⟨hlt1, hlt2⟩ := hlt
        have ha' := hd.ints ha
        have hb' := hd.ints hb
        obtain ⟨b1, o1, rfl, _, hc1⟩ := ha' k (by rw [← H1.out]; exact hlt1)
        obtain ⟨b2, o2, rfl, _, hc2⟩ := hb' k (by rw [← H2.out]; exact hlt2)
        clear ha' hb'
        have HS := Lib.hid (hl.step (by rw [← H1.out]; exact hlt1) (by rw [← H2.out]; exact hlt2))
        have HD := Lib.hid (hl.differ (by rw [← H1.out]; exact hlt1) (by rw [← H2.out]; exact hlt2))
        obtain ⟨x, hxk⟩ : ∃ x, x = xs.getD k 0 := ⟨_, rfl⟩
        obtain ⟨y, hyk⟩ : ∃ y, y = ys.getD k 0 := ⟨_, rfl⟩
        rw [← hxk] at hc1
        rw [← hyk] at hc2
        have HX := Lib.hid hxk
        have HY := Lib.hid hyk
        clear hxk hyk hl
        by_cases he : x = y
        · have hz : (x != y) = false := by simp [he]
          have HE := Lib.hid he
          clear he
          go_wp2
          go_quiet (fail)
          go_wp2
          go_roundw
          case rel => exact ⟨k + 1, by omega, by omega, by go_num, hd.more _, HS.out (by rw [← HX.out, ← HY.out]; exact HE.out)⟩
          case measure => simp [intOf]; omega
        · have hz : (x != y) = true := by simp [he]
          have HE := Lib.hid he
          clear he
          go_wp2
          go_quiet (fail)
          go_wp2
          go_quiet ((go_at_call 30; exact (order_any _ _ _).mono fun _ _ ⟨he, hw⟩ => ⟨he, _, hw.symm⟩))
          go_wp2
          go_ret
          exact ⟨ret_int' (by rw [HD.out (by rw [← HX.out, ← HY.out]; exact HE.out), ← HX.out, ← HY.out]), (hd.more _).more _⟩
      · have HF := Lib.hid (hl.stop (by rw [← H1.out]; exact hk1) (by rw [← H2.out]; exact hk2) (by rw [← H1.out, ← H2.out]; omega))
        clear hl
        go_wp2_with (go_at_call 30; refine (order_any _ _ _).mono ?_; rintro e w' ⟨rfl, rfl⟩)
        go_ret
        exact ⟨ret_int' (by rw [HF.out, ← H1.out, ← H2.out]), hd⟩

theorem equal_any (A B : Option Addr) (c d : Nat) (xs ys : List Int) (w : World) (hx : xs.length ≤ maxLen) (hy : ys.length ≤ maxLen) (ha : IntsAt w A xs) (hb : IntsAt w B ys) :
    Calls Tryd.prog 27 #[.slice A xs.length c, .slice B ys.length d] w (Tells (.bool (decide (cmpL xs ys = 0))) w) := by
  go_enter Tryd.func27, Tryd.ntmps27
  go_wp2_with (go_at_call 25; refine (compare_any A B c d xs ys _ hx hy ha hb).mono ?_; rintro e w' ⟨rfl, hd⟩)
  go_ret
  exact ⟨by congr 2 <;> simp [beq_eq_decide], hd⟩

set_option maxHeartbeats 400000 in
theorem ref_compare_any (A B : Option Addr) (c d : Nat) (xs ys : List Int) (w : World) (hx : xs.length ≤ maxLen) (hy : ys.length ≤ maxLen) (ha : IntsAt w A xs) (hb : IntsAt w B ys) :
    Calls Tryd.prog 26 #[.slice A xs.length c, .slice B ys.length d] w (Tells (.int .i64 (cmpL xs ys)) w) := by
  unfold maxLen at hx hy
  obtain ⟨n1, hn1⟩ : ∃ n, n = xs.length := ⟨_, rfl⟩
  obtain ⟨n2, hn2⟩ : ∃ n, n = ys.length := ⟨_, rfl⟩
  rw [← hn1] at hx
  rw [← hn2] at hy
  rw [← hn1, ← hn2]
  have H1 := Lib.hid hn1
  have H2 := Lib.hid hn2
  clear hn1 hn2
  go_enter Tryd.func26, Tryd.ntmps26
  go_wp2
  go_loopw [5] (fun i wr => ∃ k : Nat, k ≤ n1 ∧ k ≤ n2 ∧ i = .int .i64 k ∧ Drawn w wr ∧ Left xs ys k) (fun i _ => n1 - (intOf i).toNat)
  case atStart => exact ⟨0, Nat.zero_le _, Nat.zero_le _, rfl, Drawn.refl w, Left.zero xs ys⟩
  case round =>
    obtain ⟨k, hk1, hk2, rfl, hd, hl⟩ := hrel
    by_cases hlt : k < n1 ∧ k < n2
    · obtain ⟨hlt1, hlt2⟩ := hlt
      have ha' := hd.ints ha
      have hb' := hd.ints hb
      obtain ⟨b1, o1, rfl, _, hc1⟩ := ha' k (by rw [← H1.out]; exact hlt1)
      obtain ⟨b2, o2, rfl, _, hc2⟩ := hb' k (by rw [← H2.out]; exact hlt2)
      clear ha' hb'
      have HS := Lib.hid (hl.step (by rw [← H1.out]; exact hlt1) (by rw [← H2.out]; exact hlt2))
      have HD := Lib.hid (hl.differ (by rw [← H1.out]; exact hlt1) (by rw [← H2.out]; exact hlt2))
      obtain ⟨x, hxk⟩ : ∃ x, x = xs.getD k 0 := ⟨_, rfl⟩
      obtain ⟨y, hyk⟩ : ∃ y, y = ys.getD k 0 := ⟨_, rfl⟩
      rw [← hxk] at hc1
      rw [← hyk] at hc2
      have HX := Lib.hid hxk
      have HY := Lib.hid hyk
      clear hxk hyk hl
      rcases Int.lt_trichotomy x y with he | he | he
      · have HE := Lib.hid (ord2_less he)
        have HN : Hid (¬ x = y) := Lib.hid (by omega)
        go_wp2
        go_quiet (fail)
        go_wp2
        go_ret
        exact ⟨ret_int' (by rw [HD.out (by rw [← HX.out, ← HY.out]; exact HN.out), ← HX.out, ← HY.out]; exact HE.out), hd.more _⟩
      · have h1 : x ≤ y := by omega
        have h2 : y ≤ x := by omega
        have HE := Lib.hid he
        clear he
        go_wp2
        go_quiet (fail)
        go_wp2
        go_quiet (fail)
        go_wp2
        go_roundw
        case rel => exact ⟨k + 1, by omega, by omega, by go_num, by first | exact hd.more _ | exact (hd.more _).more _, HS.out (by rw [← HX.out, ← HY.out]; exact HE.out)⟩
        case measure => simp [intOf]; omega
      · have HE := Lib.hid (ord2_more he)
        have HN : Hid (¬ x = y) := Lib.hid (by omega)
        go_wp2
        go_quiet (fail)
        go_wp2
        go_quiet (fail)
        go_wp2
        go_ret
        exact ⟨ret_int' (by rw [HD.out (by rw [← HX.out, ← HY.out]; exact HN.out), ← HX.out, ← HY.out]; exact HE.out), by first | exact hd.more _ | exact (hd.more _).more _⟩
    · have HF := Lib.hid (hl.stop (by rw [← H1.out]; exact hk1) (by rw [← H2.out]; exact hk2) (by rw [← H1.out, ← H2.out]; omega))
      clear hl
      have h3 : k < n1 ∨ n1 ≤ k := by omega
      rcases Nat.lt_trichotomy n1 n2 with he | he | he
      all_goals
        rcases h3 with h3 | h3
        all_goals (try (exfalso; omega))
        all_goals
          go_wp2
          go_ret
          exact ⟨ret_int' (by rw [HF.out, ← H1.out, ← H2.out]; unfold ord2; split <;> (try split) <;> omega), hd⟩
end Go.Proofs.YtdpcjgjegeiemaaDoor
