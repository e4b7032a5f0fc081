/-
  The walk of Utf16textPieces.
-/
import Derived.Test.YtjfhhcaikapfiaaDoorUxWalkB
namespace Go.Proofs.YtjfhhcaikapfiaaDoor.Ux
open Go.RowKit
set_option linter.unusedVariables false

theorem pieces_cut {p : Int} {zs : List Int} {k : Nat} (h : k = 0 ∨ k = zs.length ∨ (0 < k ∧ k < zs.length ∧ ¬ (high (zs.getD (k - 1) 0) = true ∧ low (zs.getD k 0) = true))) : decL p (zs.take k) ++ decL p (zs.drop k) = decL p zs := by
  have e := List.take_append_drop k zs
  rw [← dec_append p _ _ ?_, e]
  rintro ⟨u, v, hu, hv, h1, h2⟩
  rcases h with rfl | rfl | ⟨h0, hk, hn⟩
  · simp at hu
  · simp at hv
  · apply hn
    rw [List.getLast?_eq_getElem?, List.length_take, Nat.min_eq_left (by omega), List.getElem?_take, if_pos (by omega)] at hu
    rw [List.head?_eq_getElem?, List.getElem?_drop, Nat.add_zero] at hv
    rw [List.getD, hu, List.getD, hv]
    exact ⟨h1, h2⟩
/-- The policies that are asked. -/
theorem known_of {p : Int} (h1 : 2 ≤ p) (h2 : p ≤ 4) : known p = true := by simp only [known, decide_eq_true_eq]; omega

set_option maxRecDepth 100000 in
set_option maxHeartbeats 1000000 in
theorem pieces_long (A : Option Addr) (n c : Nat) (zs : List Int) (p : Int) (w : World) (ht : Tab w) (hx : Sl w A n c 1 (ints zs)) (at' : Int) (hn : 300 < n) : Calls Tryd.prog 8 #[.slice A n c, .int .i64 at', .int .i64 p] w (Makes (.bool true) w) := by
  have hcap := hx.cap
  have hmax := hx.max
  go_enter Tryd.func8, Tryd.ntmps8
  go_wp2_with fail
  refine (awake_any _ ht).mono ?_
  rintro e w1 ⟨rfl, b1⟩
  go_wp2_with fail
  go_ret
  exact ⟨rfl, b1⟩

set_option maxRecDepth 100000 in
set_option maxHeartbeats 1000000 in
theorem pieces_neg (A : Option Addr) (n c : Nat) (zs : List Int) (p : Int) (w : World) (ht : Tab w) (hx : Sl w A n c 1 (ints zs)) (at' : Int) (hn : n ≤ 300) (h0 : at' < 0) : Calls Tryd.prog 8 #[.slice A n c, .int .i64 at', .int .i64 p] w (Makes (.bool true) w) := by
  have hcap := hx.cap
  have hmax := hx.max
  go_enter Tryd.func8, Tryd.ntmps8
  go_wp2_with fail
  refine (awake_any _ ht).mono ?_
  rintro e w1 ⟨rfl, b1⟩
  go_wp2_with fail
  go_ret
  exact ⟨rfl, b1⟩

set_option maxRecDepth 100000 in
set_option maxHeartbeats 1000000 in
theorem pieces_far (A : Option Addr) (n c : Nat) (zs : List Int) (p : Int) (w : World) (ht : Tab w) (hx : Sl w A n c 1 (ints zs)) (at' : Int) (hn : n ≤ 300) (h0 : 0 ≤ at') (h1 : (n : Int) < at') : Calls Tryd.prog 8 #[.slice A n c, .int .i64 at', .int .i64 p] w (Makes (.bool true) w) := by
  have hcap := hx.cap
  have hmax := hx.max
  go_enter Tryd.func8, Tryd.ntmps8
  go_wp2_with fail
  refine (awake_any _ ht).mono ?_
  rintro e w1 ⟨rfl, b1⟩
  go_wp2_with fail
  go_ret
  exact ⟨rfl, b1⟩

set_option maxRecDepth 100000 in
set_option maxHeartbeats 1000000 in
theorem pieces_few (A : Option Addr) (n c : Nat) (zs : List Int) (p : Int) (w : World) (ht : Tab w) (hx : Sl w A n c 1 (ints zs)) (at' : Int) (hn : n ≤ 300) (h0 : 0 ≤ at') (h1 : at' ≤ (n : Int)) (h2 : p < 2) : Calls Tryd.prog 8 #[.slice A n c, .int .i64 at', .int .i64 p] w (Makes (.bool true) w) := by
  have hcap := hx.cap
  have hmax := hx.max
  go_enter Tryd.func8, Tryd.ntmps8
  go_wp2_with fail
  refine (awake_any _ ht).mono ?_
  rintro e w1 ⟨rfl, b1⟩
  go_wp2_with fail
  go_ret
  exact ⟨rfl, b1⟩

set_option maxRecDepth 100000 in
set_option maxHeartbeats 1000000 in
theorem pieces_many (A : Option Addr) (n c : Nat) (zs : List Int) (p : Int) (w : World) (ht : Tab w) (hx : Sl w A n c 1 (ints zs)) (at' : Int) (hn : n ≤ 300) (h0 : 0 ≤ at') (h1 : at' ≤ (n : Int)) (h2 : 2 ≤ p) (h3 : 4 < p) : Calls Tryd.prog 8 #[.slice A n c, .int .i64 at', .int .i64 p] w (Makes (.bool true) w) := by
  have hcap := hx.cap
  have hmax := hx.max
  go_enter Tryd.func8, Tryd.ntmps8
  go_wp2_with fail
  refine (awake_any _ ht).mono ?_
  rintro e w1 ⟨rfl, b1⟩
  go_wp2_with fail
  go_ret
  exact ⟨rfl, b1⟩

set_option maxRecDepth 100000 in
set_option maxHeartbeats 1000000 in
theorem pieces_0_0 (A : Option Addr) (n c : Nat) (zs : List Int) (p : Int) (w : World) (ht : Tab w) (hx : Sl w A n c 1 (ints zs)) (hc : c = 0) (hn : n ≤ 300) (h2 : 2 ≤ p) (h3 : p ≤ 4) : Calls Tryd.prog 8 #[.slice A n c, .int .i64 0, .int .i64 p] w (Makes (.bool true) w) := by
  have hcap := hx.cap
  have hmax := hx.max
  have hcnt := hx.count
  have HKN := Lib.hid (known_of h2 h3)
  have HC : Hid (decL p (zs.take 0) ++ decL p (zs.drop 0) = decL p zs) := Lib.hid (pieces_cut (.inl rfl))
  have H1 := Lib.hid (decR_skip (zs := zs.take 0) HKN.out (by omega))
  have H2 := Lib.hid (decR_skip (zs := zs.drop 0) HKN.out (by omega))
  have H3 := Lib.hid (decR_skip (zs := zs) HKN.out (by omega))
  have hl1 := decL_len p (zs.take 0)
  have hl2 := decL_len p (zs.drop 0)
  rw [List.length_take] at hl1
  rw [List.length_drop] at hl2
  have L1 : Hid ((decL p (zs.take 0)).length ≤ 3000) := Lib.hid (by omega)
  have L2 : Hid ((decL p (zs.drop 0)).length ≤ 3000) := Lib.hid (by omega)
  have hh := hx.head1 (k := 0) (by omega)
  have hT0 := hx.tail1 (k := 0) (by omega)
  have hT : Hid (Sl w A n 0 1 (ints (zs.drop 0))) := Lib.hid (by rw [if_pos hc] at hT0; simpa [hc] using hT0)
  obtain rfl : n = 0 := by omega
  subst hc
  clear hT0
  clear hl1 hl2 hcnt
  go_enter Tryd.func8, Tryd.ntmps8
  go_wp2_with fail
  refine (decode_x H1.out _ ht hh (by omega)).mono ?_
  rintro e w1 ⟨A1, n1, c1, rfl, l1, b1⟩
  have hx1 := Sl.alloc (hx.keep b1) (.cells #[.int .i64 0, .int .i64 0] 26)
  have hT1 := Sl.alloc (hT.out.keep b1) (.cells #[.int .i64 0, .int .i64 0] 26)
  have m1 := Sl.alloc l1 (.cells #[.int .i64 0, .int .i64 0] 26)
  have t1 : Below w.heap.size w (w1.alloc (.cells #[.int .i64 0, .int .i64 0] 26)) := b1.alloc b1.size _
  have hn1 : n1 ≤ 3000 := by rw [l1.count]; exact L1.out
  clear l1 b1
  go_wp2_with fail
  refine (decode_x H2.out _ (Tab.next ht t1) hT1 (by omega)).mono ?_
  rintro e w2 ⟨A2, n2, c2, rfl, l2, b2⟩
  have hx2 := Sl.alloc (hx1.keep b2) (.cells #[.int .i64 0, .int .i64 0] 26)
  have m1' := Sl.alloc (m1.keep b2) (.cells #[.int .i64 0, .int .i64 0] 26)
  have m2 := Sl.alloc l2 (.cells #[.int .i64 0, .int .i64 0] 26)
  have t2' := Below.then t1 b2
  have t2 : Below w.heap.size w (w2.alloc (.cells #[.int .i64 0, .int .i64 0] 26)) := t2'.alloc t2'.size _
  have hn2 : n2 ≤ 3000 := by rw [l2.count]; exact L2.out
  clear l2 b2 hx1 hT1 m1 t1 t2' hT hh
  go_wp2_with fail
  refine (decode_x H3.out _ (Tab.next ht t2) hx2 (by omega)).mono ?_
  rintro e w3 ⟨A3, n3, c3, rfl, l3, b3⟩
  have m1 := Sl.alloc (m1'.keep b3) (.cells #[.int .i64 0, .int .i64 0] 26)
  have m2' := Sl.alloc (m2.keep b3) (.cells #[.int .i64 0, .int .i64 0] 26)
  have m3 := Sl.alloc l3 (.cells #[.int .i64 0, .int .i64 0] 26)
  have t3' := Below.then t2 b3
  have t3 : Below w.heap.size w (w3.alloc (.cells #[.int .i64 0, .int .i64 0] 26)) := t3'.alloc t3'.size _
  clear l3 b3 hx2 m1' m2 t2 t3'
  go_wp2_with (first
    | (at_builtin; refine wpList_append_ints rfl (.tmp 81) (.tmp 82) rfl (w3.alloc (.cells #[.int .i64 0, .int .i64 0] 26)).heap.size _ 0 [] rfl (Own.nil _ _ _ _) A1 n1 c1 (decL p (zs.take 0)) rfl m1 n1 (by omega) (decL p (zs.take 0)) rfl (by omega) (Nat.le_refl _) ?_; intro v4 w4 o4 b4)
    | (at_builtin; refine wpList_append_ints rfl (.tmp 84) (.tmp 85) rfl (w3.alloc (.cells #[.int .i64 0, .int .i64 0] 26)).heap.size v4 n1 (decL p (zs.take 0)) rfl o4 A2 n2 c2 (decL p (zs.drop 0)) rfl (m2'.keep b4) (n1 + n2) rfl (decL p (zs.take 0) ++ decL p (zs.drop 0)) rfl (by omega) b4.size ?_; intro v5 w5 o5 b5))
  have b5' := b4.trans b5
  have m3' := m3.keep b5'
  have t5 := Below.then t3 b5'
  obtain ⟨E, g, rfl, hl⟩ := o5.sl
  clear m1 m2' m3 t3 b4 b5 o4 b5' o5
  go_wp2_with fail
  refine (ref_equal_x (b := true) (by rw [HC.out]; simp) hl m3').mono ?_
  rintro e w6 ⟨rfl, d6⟩
  have t6 := Below.then t5 (d6.below _)
  clear hl m3' d6 t5
  go_wp2_with fail
  refine (awake_any _ (Tab.next ht t6)).mono ?_
  rintro e w7 ⟨rfl, b7⟩
  go_wp2_with fail
  go_ret
  exact ⟨rfl, Below.then t6 b7⟩

set_option maxRecDepth 100000 in
set_option maxHeartbeats 1000000 in
theorem pieces_0_c (A : Option Addr) (n c : Nat) (zs : List Int) (p : Int) (w : World) (ht : Tab w) (hx : Sl w A n c 1 (ints zs)) (hc : 0 < c) (hn : n ≤ 300) (h2 : 2 ≤ p) (h3 : p ≤ 4) : Calls Tryd.prog 8 #[.slice A n c, .int .i64 0, .int .i64 p] w (Makes (.bool true) w) := by
  have hcap := hx.cap
  have hmax := hx.max
  have hcnt := hx.count
  have HKN := Lib.hid (known_of h2 h3)
  have HC : Hid (decL p (zs.take 0) ++ decL p (zs.drop 0) = decL p zs) := Lib.hid (pieces_cut (.inl rfl))
  have H1 := Lib.hid (decR_skip (zs := zs.take 0) HKN.out (by omega))
  have H2 := Lib.hid (decR_skip (zs := zs.drop 0) HKN.out (by omega))
  have H3 := Lib.hid (decR_skip (zs := zs) HKN.out (by omega))
  have hl1 := decL_len p (zs.take 0)
  have hl2 := decL_len p (zs.drop 0)
  rw [List.length_take] at hl1
  rw [List.length_drop] at hl2
  have L1 : Hid ((decL p (zs.take 0)).length ≤ 3000) := Lib.hid (by omega)
  have L2 : Hid ((decL p (zs.drop 0)).length ≤ 3000) := Lib.hid (by omega)
  have hh := hx.head1 (k := 0) (by omega)
  have hT0 := hx.tail1 (k := 0) (by omega)
  have hne : ¬ c = 0 := by omega
  have hT : Hid (Sl w A n c 1 (ints (zs.drop 0))) := Lib.hid (by rw [List.drop_zero]; exact hx)
  clear hT0
  clear hl1 hl2 hcnt
  go_enter Tryd.func8, Tryd.ntmps8
  go_wp2_with fail
  refine (decode_x H1.out _ ht hh (by omega)).mono ?_
  rintro e w1 ⟨A1, n1, c1, rfl, l1, b1⟩
  have hx1 := Sl.alloc (hx.keep b1) (.cells #[.int .i64 0, .int .i64 0] 26)
  have hT1 := Sl.alloc (hT.out.keep b1) (.cells #[.int .i64 0, .int .i64 0] 26)
  have m1 := Sl.alloc l1 (.cells #[.int .i64 0, .int .i64 0] 26)
  have t1 : Below w.heap.size w (w1.alloc (.cells #[.int .i64 0, .int .i64 0] 26)) := b1.alloc b1.size _
  have hn1 : n1 ≤ 3000 := by rw [l1.count]; exact L1.out
  clear l1 b1
  go_wp2_with fail
  refine (decode_x H2.out _ (Tab.next ht t1) hT1 (by omega)).mono ?_
  rintro e w2 ⟨A2, n2, c2, rfl, l2, b2⟩
  have hx2 := Sl.alloc (hx1.keep b2) (.cells #[.int .i64 0, .int .i64 0] 26)
  have m1' := Sl.alloc (m1.keep b2) (.cells #[.int .i64 0, .int .i64 0] 26)
  have m2 := Sl.alloc l2 (.cells #[.int .i64 0, .int .i64 0] 26)
  have t2' := Below.then t1 b2
  have t2 : Below w.heap.size w (w2.alloc (.cells #[.int .i64 0, .int .i64 0] 26)) := t2'.alloc t2'.size _
  have hn2 : n2 ≤ 3000 := by rw [l2.count]; exact L2.out
  clear l2 b2 hx1 hT1 m1 t1 t2' hT hh
  go_wp2_with fail
  refine (decode_x H3.out _ (Tab.next ht t2) hx2 (by omega)).mono ?_
  rintro e w3 ⟨A3, n3, c3, rfl, l3, b3⟩
  have m1 := Sl.alloc (m1'.keep b3) (.cells #[.int .i64 0, .int .i64 0] 26)
  have m2' := Sl.alloc (m2.keep b3) (.cells #[.int .i64 0, .int .i64 0] 26)
  have m3 := Sl.alloc l3 (.cells #[.int .i64 0, .int .i64 0] 26)
  have t3' := Below.then t2 b3
  have t3 : Below w.heap.size w (w3.alloc (.cells #[.int .i64 0, .int .i64 0] 26)) := t3'.alloc t3'.size _
  clear l3 b3 hx2 m1' m2 t2 t3'
  go_wp2_with (first
    | (at_builtin; refine wpList_append_ints rfl (.tmp 81) (.tmp 82) rfl (w3.alloc (.cells #[.int .i64 0, .int .i64 0] 26)).heap.size _ 0 [] rfl (Own.nil _ _ _ _) A1 n1 c1 (decL p (zs.take 0)) rfl m1 n1 (by omega) (decL p (zs.take 0)) rfl (by omega) (Nat.le_refl _) ?_; intro v4 w4 o4 b4)
    | (at_builtin; refine wpList_append_ints rfl (.tmp 84) (.tmp 85) rfl (w3.alloc (.cells #[.int .i64 0, .int .i64 0] 26)).heap.size v4 n1 (decL p (zs.take 0)) rfl o4 A2 n2 c2 (decL p (zs.drop 0)) rfl (m2'.keep b4) (n1 + n2) rfl (decL p (zs.take 0) ++ decL p (zs.drop 0)) rfl (by omega) b4.size ?_; intro v5 w5 o5 b5))
  have b5' := b4.trans b5
  have m3' := m3.keep b5'
  have t5 := Below.then t3 b5'
  obtain ⟨E, g, rfl, hl⟩ := o5.sl
  clear m1 m2' m3 t3 b4 b5 o4 b5' o5
  go_wp2_with fail
  refine (ref_equal_x (b := true) (by rw [HC.out]; simp) hl m3').mono ?_
  rintro e w6 ⟨rfl, d6⟩
  have t6 := Below.then t5 (d6.below _)
  clear hl m3' d6 t5
  go_wp2_with fail
  refine (awake_any _ (Tab.next ht t6)).mono ?_
  rintro e w7 ⟨rfl, b7⟩
  go_wp2_with fail
  go_ret
  exact ⟨rfl, Below.then t6 b7⟩

set_option maxRecDepth 100000 in
set_option maxHeartbeats 1000000 in
theorem pieces_n_n (A : Option Addr) (n c : Nat) (zs : List Int) (p : Int) (w : World) (ht : Tab w) (hx : Sl w A n c 1 (ints zs)) (h0 : 0 < n) (hc : n = c) (hn : n ≤ 300) (h2 : 2 ≤ p) (h3 : p ≤ 4) : Calls Tryd.prog 8 #[.slice A n c, .int .i64 (n : Int), .int .i64 p] w (Makes (.bool true) w) := by
  have hcap := hx.cap
  have hmax := hx.max
  have hcnt := hx.count
  have HKN := Lib.hid (known_of h2 h3)
  have HC : Hid (decL p (zs.take n) ++ decL p (zs.drop n) = decL p zs) := Lib.hid (pieces_cut (.inr (.inl hcnt)))
  have H1 := Lib.hid (decR_skip (zs := zs.take n) HKN.out (by omega))
  have H2 := Lib.hid (decR_skip (zs := zs.drop n) HKN.out (by omega))
  have H3 := Lib.hid (decR_skip (zs := zs) HKN.out (by omega))
  have hl1 := decL_len p (zs.take n)
  have hl2 := decL_len p (zs.drop n)
  rw [List.length_take] at hl1
  rw [List.length_drop] at hl2
  have L1 : Hid ((decL p (zs.take n)).length ≤ 3000) := Lib.hid (by omega)
  have L2 : Hid ((decL p (zs.drop n)).length ≤ 3000) := Lib.hid (by omega)
  have hh := hx.head1 (k := n) (by omega)
  have hT0 := hx.tail1 (k := n) (by omega)
  have hT : Hid (Sl w A 0 0 1 (ints (zs.drop n))) := Lib.hid (by rw [if_pos hc.symm] at hT0; simpa [hc] using hT0)
  have h0i : (0 : Int) < (n : Int) := by omega
  subst hc
  clear hT0
  clear hl1 hl2 hcnt
  go_enter Tryd.func8, Tryd.ntmps8
  go_wp2_with fail
  refine (decode_x H1.out _ ht hh (by omega)).mono ?_
  rintro e w1 ⟨A1, n1, c1, rfl, l1, b1⟩
  have hx1 := Sl.alloc (hx.keep b1) (.cells #[.int .i64 0, .int .i64 0] 26)
  have hT1 := Sl.alloc (hT.out.keep b1) (.cells #[.int .i64 0, .int .i64 0] 26)
  have m1 := Sl.alloc l1 (.cells #[.int .i64 0, .int .i64 0] 26)
  have t1 : Below w.heap.size w (w1.alloc (.cells #[.int .i64 0, .int .i64 0] 26)) := b1.alloc b1.size _
  have hn1 : n1 ≤ 3000 := by rw [l1.count]; exact L1.out
  clear l1 b1
  go_wp2_with fail
  refine (decode_x H2.out _ (Tab.next ht t1) hT1 (by omega)).mono ?_
  rintro e w2 ⟨A2, n2, c2, rfl, l2, b2⟩
  have hx2 := Sl.alloc (hx1.keep b2) (.cells #[.int .i64 0, .int .i64 0] 26)
  have m1' := Sl.alloc (m1.keep b2) (.cells #[.int .i64 0, .int .i64 0] 26)
  have m2 := Sl.alloc l2 (.cells #[.int .i64 0, .int .i64 0] 26)
  have t2' := Below.then t1 b2
  have t2 : Below w.heap.size w (w2.alloc (.cells #[.int .i64 0, .int .i64 0] 26)) := t2'.alloc t2'.size _
  have hn2 : n2 ≤ 3000 := by rw [l2.count]; exact L2.out
  clear l2 b2 hx1 hT1 m1 t1 t2' hT hh
  go_wp2_with fail
  refine (decode_x H3.out _ (Tab.next ht t2) hx2 (by omega)).mono ?_
  rintro e w3 ⟨A3, n3, c3, rfl, l3, b3⟩
  have m1 := Sl.alloc (m1'.keep b3) (.cells #[.int .i64 0, .int .i64 0] 26)
  have m2' := Sl.alloc (m2.keep b3) (.cells #[.int .i64 0, .int .i64 0] 26)
  have m3 := Sl.alloc l3 (.cells #[.int .i64 0, .int .i64 0] 26)
  have t3' := Below.then t2 b3
  have t3 : Below w.heap.size w (w3.alloc (.cells #[.int .i64 0, .int .i64 0] 26)) := t3'.alloc t3'.size _
  clear l3 b3 hx2 m1' m2 t2 t3'
  go_wp2_with (first
    | (at_builtin; refine wpList_append_ints rfl (.tmp 81) (.tmp 82) rfl (w3.alloc (.cells #[.int .i64 0, .int .i64 0] 26)).heap.size _ 0 [] rfl (Own.nil _ _ _ _) A1 n1 c1 (decL p (zs.take n)) rfl m1 n1 (by omega) (decL p (zs.take n)) rfl (by omega) (Nat.le_refl _) ?_; intro v4 w4 o4 b4)
    | (at_builtin; refine wpList_append_ints rfl (.tmp 84) (.tmp 85) rfl (w3.alloc (.cells #[.int .i64 0, .int .i64 0] 26)).heap.size v4 n1 (decL p (zs.take n)) rfl o4 A2 n2 c2 (decL p (zs.drop n)) rfl (m2'.keep b4) (n1 + n2) rfl (decL p (zs.take n) ++ decL p (zs.drop n)) rfl (by omega) b4.size ?_; intro v5 w5 o5 b5))
  have b5' := b4.trans b5
  have m3' := m3.keep b5'
  have t5 := Below.then t3 b5'
  obtain ⟨E, g, rfl, hl⟩ := o5.sl
  clear m1 m2' m3 t3 b4 b5 o4 b5' o5
  go_wp2_with fail
  refine (ref_equal_x (b := true) (by rw [HC.out]; simp) hl m3').mono ?_
  rintro e w6 ⟨rfl, d6⟩
  have t6 := Below.then t5 (d6.below _)
  clear hl m3' d6 t5
  go_wp2_with fail
  refine (awake_any _ (Tab.next ht t6)).mono ?_
  rintro e w7 ⟨rfl, b7⟩
  go_wp2_with fail
  go_ret
  exact ⟨rfl, Below.then t6 b7⟩

set_option maxRecDepth 100000 in
set_option maxHeartbeats 1000000 in
theorem pieces_n_c (A : Option Addr) (n c : Nat) (zs : List Int) (p : Int) (w : World) (ht : Tab w) (hx : Sl w A n c 1 (ints zs)) (h0 : 0 < n) (hc : n < c) (hn : n ≤ 300) (h2 : 2 ≤ p) (h3 : p ≤ 4) : Calls Tryd.prog 8 #[.slice A n c, .int .i64 (n : Int), .int .i64 p] w (Makes (.bool true) w) := by
  have hcap := hx.cap
  have hmax := hx.max
  have hcnt := hx.count
  have HKN := Lib.hid (known_of h2 h3)
  have HC : Hid (decL p (zs.take n) ++ decL p (zs.drop n) = decL p zs) := Lib.hid (pieces_cut (.inr (.inl hcnt)))
  have H1 := Lib.hid (decR_skip (zs := zs.take n) HKN.out (by omega))
  have H2 := Lib.hid (decR_skip (zs := zs.drop n) HKN.out (by omega))
  have H3 := Lib.hid (decR_skip (zs := zs) HKN.out (by omega))
  have hl1 := decL_len p (zs.take n)
  have hl2 := decL_len p (zs.drop n)
  rw [List.length_take] at hl1
  rw [List.length_drop] at hl2
  have L1 : Hid ((decL p (zs.take n)).length ≤ 3000) := Lib.hid (by omega)
  have L2 : Hid ((decL p (zs.drop n)).length ≤ 3000) := Lib.hid (by omega)
  have hh := hx.head1 (k := n) (by omega)
  have hT0 := hx.tail1 (k := n) (by omega)
  have hne : ¬ c = n := by omega
  have hT : Hid (Sl w (A.map (fun x => x.add n)) 0 (c - n) 1 (ints (zs.drop n))) := Lib.hid (by rw [if_neg hne, Nat.sub_self] at hT0; exact hT0)
  have h0i : (0 : Int) < (n : Int) := by omega
  clear hT0
  clear hl1 hl2 hcnt
  go_enter Tryd.func8, Tryd.ntmps8
  go_wp2_with fail
  refine (decode_x H1.out _ ht hh (by omega)).mono ?_
  rintro e w1 ⟨A1, n1, c1, rfl, l1, b1⟩
  have hx1 := Sl.alloc (hx.keep b1) (.cells #[.int .i64 0, .int .i64 0] 26)
  have hT1 := Sl.alloc (hT.out.keep b1) (.cells #[.int .i64 0, .int .i64 0] 26)
  have m1 := Sl.alloc l1 (.cells #[.int .i64 0, .int .i64 0] 26)
  have t1 : Below w.heap.size w (w1.alloc (.cells #[.int .i64 0, .int .i64 0] 26)) := b1.alloc b1.size _
  have hn1 : n1 ≤ 3000 := by rw [l1.count]; exact L1.out
  clear l1 b1
  go_wp2_with fail
  refine (decode_x H2.out _ (Tab.next ht t1) hT1 (by omega)).mono ?_
  rintro e w2 ⟨A2, n2, c2, rfl, l2, b2⟩
  have hx2 := Sl.alloc (hx1.keep b2) (.cells #[.int .i64 0, .int .i64 0] 26)
  have m1' := Sl.alloc (m1.keep b2) (.cells #[.int .i64 0, .int .i64 0] 26)
  have m2 := Sl.alloc l2 (.cells #[.int .i64 0, .int .i64 0] 26)
  have t2' := Below.then t1 b2
  have t2 : Below w.heap.size w (w2.alloc (.cells #[.int .i64 0, .int .i64 0] 26)) := t2'.alloc t2'.size _
  have hn2 : n2 ≤ 3000 := by rw [l2.count]; exact L2.out
  clear l2 b2 hx1 hT1 m1 t1 t2' hT hh
  go_wp2_with fail
  refine (decode_x H3.out _ (Tab.next ht t2) hx2 (by omega)).mono ?_
  rintro e w3 ⟨A3, n3, c3, rfl, l3, b3⟩
  have m1 := Sl.alloc (m1'.keep b3) (.cells #[.int .i64 0, .int .i64 0] 26)
  have m2' := Sl.alloc (m2.keep b3) (.cells #[.int .i64 0, .int .i64 0] 26)
  have m3 := Sl.alloc l3 (.cells #[.int .i64 0, .int .i64 0] 26)
  have t3' := Below.then t2 b3
  have t3 : Below w.heap.size w (w3.alloc (.cells #[.int .i64 0, .int .i64 0] 26)) := t3'.alloc t3'.size _
  clear l3 b3 hx2 m1' m2 t2 t3'
  go_wp2_with (first
    | (at_builtin; refine wpList_append_ints rfl (.tmp 81) (.tmp 82) rfl (w3.alloc (.cells #[.int .i64 0, .int .i64 0] 26)).heap.size _ 0 [] rfl (Own.nil _ _ _ _) A1 n1 c1 (decL p (zs.take n)) rfl m1 n1 (by omega) (decL p (zs.take n)) rfl (by omega) (Nat.le_refl _) ?_; intro v4 w4 o4 b4)
    | (at_builtin; refine wpList_append_ints rfl (.tmp 84) (.tmp 85) rfl (w3.alloc (.cells #[.int .i64 0, .int .i64 0] 26)).heap.size v4 n1 (decL p (zs.take n)) rfl o4 A2 n2 c2 (decL p (zs.drop n)) rfl (m2'.keep b4) (n1 + n2) rfl (decL p (zs.take n) ++ decL p (zs.drop n)) rfl (by omega) b4.size ?_; intro v5 w5 o5 b5))
  have b5' := b4.trans b5
  have m3' := m3.keep b5'
  have t5 := Below.then t3 b5'
  obtain ⟨E, g, rfl, hl⟩ := o5.sl
  clear m1 m2' m3 t3 b4 b5 o4 b5' o5
  go_wp2_with fail
  refine (ref_equal_x (b := true) (by rw [HC.out]; simp) hl m3').mono ?_
  rintro e w6 ⟨rfl, d6⟩
  have t6 := Below.then t5 (d6.below _)
  clear hl m3' d6 t5
  go_wp2_with fail
  refine (awake_any _ (Tab.next ht t6)).mono ?_
  rintro e w7 ⟨rfl, b7⟩
  go_wp2_with fail
  go_ret
  exact ⟨rfl, Below.then t6 b7⟩

set_option maxRecDepth 100000 in
set_option maxHeartbeats 1000000 in
theorem pieces_unit (A : Option Addr) (n c : Nat) (zs : List Int) (p : Int) (w : World) (ht : Tab w) (hx : Sl w A n c 1 (ints zs)) (j : Nat) (hj : j + 1 < n) (hp : unit (zs.getD j 0) = true) (hp' : ¬ (high (zs.getD (j + 1 - 1) 0) = true ∧ low (zs.getD (j + 1) 0) = true)) (hn : n ≤ 300) (h2 : 2 ≤ p) (h3 : p ≤ 4) : Calls Tryd.prog 8 #[.slice A n c, .int .i64 ((j : Int) + 1), .int .i64 p] w (Makes (.bool true) w) := by
  have hcap := hx.cap
  have hmax := hx.max
  have hcnt := hx.count
  have HKN := Lib.hid (known_of h2 h3)
  have HC : Hid (decL p (zs.take (j + 1)) ++ decL p (zs.drop (j + 1)) = decL p zs) := Lib.hid (pieces_cut (.inr (.inr ⟨by omega, by omega, hp'⟩)))
  have H1 := Lib.hid (decR_skip (zs := zs.take (j + 1)) HKN.out (by omega))
  have H2 := Lib.hid (decR_skip (zs := zs.drop (j + 1)) HKN.out (by omega))
  have H3 := Lib.hid (decR_skip (zs := zs) HKN.out (by omega))
  have hl1 := decL_len p (zs.take (j + 1))
  have hl2 := decL_len p (zs.drop (j + 1))
  rw [List.length_take] at hl1
  rw [List.length_drop] at hl2
  have L1 : Hid ((decL p (zs.take (j + 1))).length ≤ 3000) := Lib.hid (by omega)
  have L2 : Hid ((decL p (zs.drop (j + 1))).length ≤ 3000) := Lib.hid (by omega)
  have hh := hx.head1 (k := (j + 1)) (by omega)
  have hT0 := hx.tail1 (k := (j + 1)) (by omega)
  have hne : ¬ c = j + 1 := by omega
  have hT : Hid (Sl w (A.map (fun x => x.add (j + 1))) (n - (j + 1)) (c - (j + 1)) 1 (ints (zs.drop (j + 1)))) := Lib.hid (by rw [if_neg hne] at hT0; exact hT0)
  have j1 : (0 : Int) < (j : Int) + 1 := by omega
  have j2 : (j : Int) + 1 < (n : Int) := by omega
  have j3 : (j : Int) + 1 - 1 = (j : Int) := by omega
  have j4 : ((j : Int) + 1).toNat = j + 1 := by omega
  have htl := hx.tail_in (k := j) (by omega)
  have hbeg := beg_unit _ _ _ _ w htl (by omega) (by rw [getD_drop, Nat.add_zero]; exact hp)
  have HBG := Lib.hid hbeg
  clear hT0 htl hbeg hp
  clear hl1 hl2 hcnt
  go_enter Tryd.func8, Tryd.ntmps8
  go_wp2_with fail
  refine HBG.out.mono ?_
  rintro e w' ⟨rfl, rfl⟩
  go_wp2_with fail
  refine (decode_x H1.out _ ht hh (by omega)).mono ?_
  rintro e w1 ⟨A1, n1, c1, rfl, l1, b1⟩
  have hx1 := Sl.alloc (hx.keep b1) (.cells #[.int .i64 0, .int .i64 0] 26)
  have hT1 := Sl.alloc (hT.out.keep b1) (.cells #[.int .i64 0, .int .i64 0] 26)
  have m1 := Sl.alloc l1 (.cells #[.int .i64 0, .int .i64 0] 26)
  have t1 : Below w.heap.size w (w1.alloc (.cells #[.int .i64 0, .int .i64 0] 26)) := b1.alloc b1.size _
  have hn1 : n1 ≤ 3000 := by rw [l1.count]; exact L1.out
  clear l1 b1
  go_wp2_with fail
  refine (decode_x H2.out _ (Tab.next ht t1) hT1 (by omega)).mono ?_
  rintro e w2 ⟨A2, n2, c2, rfl, l2, b2⟩
  have hx2 := Sl.alloc (hx1.keep b2) (.cells #[.int .i64 0, .int .i64 0] 26)
  have m1' := Sl.alloc (m1.keep b2) (.cells #[.int .i64 0, .int .i64 0] 26)
  have m2 := Sl.alloc l2 (.cells #[.int .i64 0, .int .i64 0] 26)
  have t2' := Below.then t1 b2
  have t2 : Below w.heap.size w (w2.alloc (.cells #[.int .i64 0, .int .i64 0] 26)) := t2'.alloc t2'.size _
  have hn2 : n2 ≤ 3000 := by rw [l2.count]; exact L2.out
  clear l2 b2 hx1 hT1 m1 t1 t2' hT hh
  go_wp2_with fail
  refine (decode_x H3.out _ (Tab.next ht t2) hx2 (by omega)).mono ?_
  rintro e w3 ⟨A3, n3, c3, rfl, l3, b3⟩
  have m1 := Sl.alloc (m1'.keep b3) (.cells #[.int .i64 0, .int .i64 0] 26)
  have m2' := Sl.alloc (m2.keep b3) (.cells #[.int .i64 0, .int .i64 0] 26)
  have m3 := Sl.alloc l3 (.cells #[.int .i64 0, .int .i64 0] 26)
  have t3' := Below.then t2 b3
  have t3 : Below w.heap.size w (w3.alloc (.cells #[.int .i64 0, .int .i64 0] 26)) := t3'.alloc t3'.size _
  clear l3 b3 hx2 m1' m2 t2 t3'
  go_wp2_with (first
    | (at_builtin; refine wpList_append_ints rfl (.tmp 81) (.tmp 82) rfl (w3.alloc (.cells #[.int .i64 0, .int .i64 0] 26)).heap.size _ 0 [] rfl (Own.nil _ _ _ _) A1 n1 c1 (decL p (zs.take (j + 1))) rfl m1 n1 (by omega) (decL p (zs.take (j + 1))) rfl (by omega) (Nat.le_refl _) ?_; intro v4 w4 o4 b4)
    | (at_builtin; refine wpList_append_ints rfl (.tmp 84) (.tmp 85) rfl (w3.alloc (.cells #[.int .i64 0, .int .i64 0] 26)).heap.size v4 n1 (decL p (zs.take (j + 1))) rfl o4 A2 n2 c2 (decL p (zs.drop (j + 1))) rfl (m2'.keep b4) (n1 + n2) rfl (decL p (zs.take (j + 1)) ++ decL p (zs.drop (j + 1))) rfl (by omega) b4.size ?_; intro v5 w5 o5 b5))
  have b5' := b4.trans b5
  have m3' := m3.keep b5'
  have t5 := Below.then t3 b5'
  obtain ⟨E, g, rfl, hl⟩ := o5.sl
  clear m1 m2' m3 t3 b4 b5 o4 b5' o5
  go_wp2_with fail
  refine (ref_equal_x (b := true) (by rw [HC.out]; simp) hl m3').mono ?_
  rintro e w6 ⟨rfl, d6⟩
  have t6 := Below.then t5 (d6.below _)
  clear hl m3' d6 t5
  go_wp2_with fail
  refine (awake_any _ (Tab.next ht t6)).mono ?_
  rintro e w7 ⟨rfl, b7⟩
  go_wp2_with fail
  go_ret
  exact ⟨rfl, Below.then t6 b7⟩

set_option maxRecDepth 100000 in
set_option maxHeartbeats 1000000 in
theorem pieces_bad (A : Option Addr) (n c : Nat) (zs : List Int) (p : Int) (w : World) (ht : Tab w) (hx : Sl w A n c 1 (ints zs)) (j : Nat) (hj : j + 1 < n) (hp : ¬ unit (zs.getD j 0) = true) (hp' : ¬ (high (zs.getD (j + 1 - 1) 0) = true ∧ low (zs.getD (j + 1) 0) = true)) (hn : n ≤ 300) (h2 : 2 ≤ p) (h3 : p ≤ 4) : Calls Tryd.prog 8 #[.slice A n c, .int .i64 ((j : Int) + 1), .int .i64 p] w (Makes (.bool true) w) := by
  have hcap := hx.cap
  have hmax := hx.max
  have hcnt := hx.count
  have HKN := Lib.hid (known_of h2 h3)
  have HC : Hid (decL p (zs.take (j + 1)) ++ decL p (zs.drop (j + 1)) = decL p zs) := Lib.hid (pieces_cut (.inr (.inr ⟨by omega, by omega, hp'⟩)))
  have H1 := Lib.hid (decR_skip (zs := zs.take (j + 1)) HKN.out (by omega))
  have H2 := Lib.hid (decR_skip (zs := zs.drop (j + 1)) HKN.out (by omega))
  have H3 := Lib.hid (decR_skip (zs := zs) HKN.out (by omega))
  have hl1 := decL_len p (zs.take (j + 1))
  have hl2 := decL_len p (zs.drop (j + 1))
  rw [List.length_take] at hl1
  rw [List.length_drop] at hl2
  have L1 : Hid ((decL p (zs.take (j + 1))).length ≤ 3000) := Lib.hid (by omega)
  have L2 : Hid ((decL p (zs.drop (j + 1))).length ≤ 3000) := Lib.hid (by omega)
  have hh := hx.head1 (k := (j + 1)) (by omega)
  have hT0 := hx.tail1 (k := (j + 1)) (by omega)
  have hne : ¬ c = j + 1 := by omega
  have hT : Hid (Sl w (A.map (fun x => x.add (j + 1))) (n - (j + 1)) (c - (j + 1)) 1 (ints (zs.drop (j + 1)))) := Lib.hid (by rw [if_neg hne] at hT0; exact hT0)
  have j1 : (0 : Int) < (j : Int) + 1 := by omega
  have j2 : (j : Int) + 1 < (n : Int) := by omega
  have j3 : (j : Int) + 1 - 1 = (j : Int) := by omega
  have j4 : ((j : Int) + 1).toNat = j + 1 := by omega
  have htl := hx.tail_in (k := j) (by omega)
  have hbeg := beg_bad _ _ _ _ w htl (by omega) (by rw [getD_drop, Nat.add_zero]; exact hp) (by rw [getD_drop, getD_drop, Nat.add_zero]; exact fun e => hp' e.2)
  have HBG := Lib.hid hbeg
  clear hT0 htl hbeg hp
  clear hl1 hl2 hcnt
  go_enter Tryd.func8, Tryd.ntmps8
  go_wp2_with fail
  refine HBG.out.mono ?_
  rintro e w' ⟨rfl, rfl⟩
  go_wp2_with fail
  refine (decode_x H1.out _ ht hh (by omega)).mono ?_
  rintro e w1 ⟨A1, n1, c1, rfl, l1, b1⟩
  have hx1 := Sl.alloc (hx.keep b1) (.cells #[.int .i64 0, .int .i64 0] 26)
  have hT1 := Sl.alloc (hT.out.keep b1) (.cells #[.int .i64 0, .int .i64 0] 26)
  have m1 := Sl.alloc l1 (.cells #[.int .i64 0, .int .i64 0] 26)
  have t1 : Below w.heap.size w (w1.alloc (.cells #[.int .i64 0, .int .i64 0] 26)) := b1.alloc b1.size _
  have hn1 : n1 ≤ 3000 := by rw [l1.count]; exact L1.out
  clear l1 b1
  go_wp2_with fail
  refine (decode_x H2.out _ (Tab.next ht t1) hT1 (by omega)).mono ?_
  rintro e w2 ⟨A2, n2, c2, rfl, l2, b2⟩
  have hx2 := Sl.alloc (hx1.keep b2) (.cells #[.int .i64 0, .int .i64 0] 26)
  have m1' := Sl.alloc (m1.keep b2) (.cells #[.int .i64 0, .int .i64 0] 26)
  have m2 := Sl.alloc l2 (.cells #[.int .i64 0, .int .i64 0] 26)
  have t2' := Below.then t1 b2
  have t2 : Below w.heap.size w (w2.alloc (.cells #[.int .i64 0, .int .i64 0] 26)) := t2'.alloc t2'.size _
  have hn2 : n2 ≤ 3000 := by rw [l2.count]; exact L2.out
  clear l2 b2 hx1 hT1 m1 t1 t2' hT hh
  go_wp2_with fail
  refine (decode_x H3.out _ (Tab.next ht t2) hx2 (by omega)).mono ?_
  rintro e w3 ⟨A3, n3, c3, rfl, l3, b3⟩
  have m1 := Sl.alloc (m1'.keep b3) (.cells #[.int .i64 0, .int .i64 0] 26)
  have m2' := Sl.alloc (m2.keep b3) (.cells #[.int .i64 0, .int .i64 0] 26)
  have m3 := Sl.alloc l3 (.cells #[.int .i64 0, .int .i64 0] 26)
  have t3' := Below.then t2 b3
  have t3 : Below w.heap.size w (w3.alloc (.cells #[.int .i64 0, .int .i64 0] 26)) := t3'.alloc t3'.size _
  clear l3 b3 hx2 m1' m2 t2 t3'
  go_wp2_with (first
    | (at_builtin; refine wpList_append_ints rfl (.tmp 81) (.tmp 82) rfl (w3.alloc (.cells #[.int .i64 0, .int .i64 0] 26)).heap.size _ 0 [] rfl (Own.nil _ _ _ _) A1 n1 c1 (decL p (zs.take (j + 1))) rfl m1 n1 (by omega) (decL p (zs.take (j + 1))) rfl (by omega) (Nat.le_refl _) ?_; intro v4 w4 o4 b4)
    | (at_builtin; refine wpList_append_ints rfl (.tmp 84) (.tmp 85) rfl (w3.alloc (.cells #[.int .i64 0, .int .i64 0] 26)).heap.size v4 n1 (decL p (zs.take (j + 1))) rfl o4 A2 n2 c2 (decL p (zs.drop (j + 1))) rfl (m2'.keep b4) (n1 + n2) rfl (decL p (zs.take (j + 1)) ++ decL p (zs.drop (j + 1))) rfl (by omega) b4.size ?_; intro v5 w5 o5 b5))
  have b5' := b4.trans b5
  have m3' := m3.keep b5'
  have t5 := Below.then t3 b5'
  obtain ⟨E, g, rfl, hl⟩ := o5.sl
  clear m1 m2' m3 t3 b4 b5 o4 b5' o5
  go_wp2_with fail
  refine (ref_equal_x (b := true) (by rw [HC.out]; simp) hl m3').mono ?_
  rintro e w6 ⟨rfl, d6⟩
  have t6 := Below.then t5 (d6.below _)
  clear hl m3' d6 t5
  go_wp2_with fail
  refine (awake_any _ (Tab.next ht t6)).mono ?_
  rintro e w7 ⟨rfl, b7⟩
  go_wp2_with fail
  go_ret
  exact ⟨rfl, Below.then t6 b7⟩

set_option maxRecDepth 100000 in
set_option maxHeartbeats 1000000 in
theorem pieces_pair (A : Option Addr) (n c : Nat) (zs : List Int) (p : Int) (w : World) (ht : Tab w) (hx : Sl w A n c 1 (ints zs)) (j : Nat) (hj : j + 1 < n) (hu : high (zs.getD j 0) = true) (hv : low (zs.getD (j + 1) 0) = true) (hn : n ≤ 300) (h2 : 2 ≤ p) (h3 : p ≤ 4) : Calls Tryd.prog 8 #[.slice A n c, .int .i64 ((j : Int) + 1), .int .i64 p] w (Makes (.bool true) w) := by
  have hcap := hx.cap
  have hmax := hx.max
  have j1 : (0 : Int) < (j : Int) + 1 := by omega
  have j2 : (j : Int) + 1 < (n : Int) := by omega
  have j3 : (j : Int) + 1 - 1 = (j : Int) := by omega
  have htl := hx.tail_in (k := j) (by omega)
  have hbeg := beg_pair _ _ _ _ w htl (by omega) (by rw [getD_drop, Nat.add_zero]; exact hu) (by rw [getD_drop]; exact hv)
  have HBG := Lib.hid hbeg
  clear htl hbeg hu hv
  go_enter Tryd.func8, Tryd.ntmps8
  go_wp2_with fail
  refine HBG.out.mono ?_
  rintro e w' ⟨rfl, rfl⟩
  go_wp2_with fail
  refine (awake_any _ ht).mono ?_
  rintro e w1 ⟨rfl, b1⟩
  go_wp2_with fail
  go_ret
  exact ⟨rfl, b1⟩

theorem pieces_walk (A : Option Addr) (n c : Nat) (zs : List Int) (at' p : Int) (w : World) (ht : Tab w) (hx : Sl w A n c 1 (ints zs)) :
    Calls Tryd.prog 8 #[.slice A n c, .int .i64 at', .int .i64 p] w (Makes (.bool true) w) := by
  have hcap := hx.cap
  have hcnt := hx.count
  rcases Nat.lt_or_ge 300 n with hn | hn
  · exact pieces_long A n c zs p w ht hx at' hn
  · rcases Int.lt_or_le at' 0 with h0 | h0
    · exact pieces_neg A n c zs p w ht hx at' hn h0
    · rcases Int.lt_or_le n at' with h1 | h1
      · exact pieces_far A n c zs p w ht hx at' hn h0 h1
      · rcases Int.lt_or_le p 2 with h2 | h2
        · exact pieces_few A n c zs p w ht hx at' hn h0 h1 h2
        · rcases Int.lt_or_le 4 p with h3 | h3
          · exact pieces_many A n c zs p w ht hx at' hn h0 h1 h2 h3
          · obtain ⟨k, rfl⟩ : ∃ k : Nat, at' = (k : Int) := ⟨at'.toNat, by omega⟩
            rcases Nat.eq_zero_or_pos k with rfl | hk0
            · rcases Nat.eq_zero_or_pos c with hc | hc
              · exact pieces_0_0 A n c zs p w ht hx hc hn h2 h3
              · exact pieces_0_c A n c zs p w ht hx hc hn h2 h3
            · rcases Nat.lt_or_ge k n with hk | hk
              · obtain ⟨j, rfl⟩ : ∃ j, k = j + 1 := ⟨k - 1, by omega⟩
                by_cases hp : high (zs.getD j 0) = true ∧ low (zs.getD (j + 1) 0) = true
                · exact pieces_pair A n c zs p w ht hx j hk hp.1 hp.2 hn h2 h3
                · by_cases hu : unit (zs.getD j 0) = true
                  · exact pieces_unit A n c zs p w ht hx j hk hu hp hn h2 h3
                  · exact pieces_bad A n c zs p w ht hx j hk hu hp hn h2 h3
              · obtain rfl : k = n := by omega
                rcases Nat.lt_or_ge k c with hc | hc
                · exact pieces_n_c A k c zs p w ht hx hk0 hc hn h2 h3
                · exact pieces_n_n A k c zs p w ht hx hk0 (by omega) hn h2 h3
end Go.Proofs.YtjfhhcaikapfiaaDoor.Ux
