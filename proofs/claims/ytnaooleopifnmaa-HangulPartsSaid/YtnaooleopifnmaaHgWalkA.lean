/-
  The walks of HangulKinds, HangulComposes, HangulReturns, HangulParts and HangulNumbers.
-/
import Derived.Test.YtnaooleopifnmaaHgAwake
import Derived.Deep.RegionHeld3
namespace Go.Proofs.Ytnaooleopifnmaa.Hg
open Go.RowKit
set_option linter.unusedVariables false

theorem ref_compose_x {a b x : Int} {ok : Bool} (h : comp a b = (x, ok)) (w : World) : Calls Try.prog 22 #[.int .i64 a, .int .i64 b] w (Gives (.tuple #[.int .i64 x, .bool ok]) w) := by
  have := ref_compose_any a b w
  rw [h] at this
  exact this
theorem ref_decompose_x {c : Int} {zs : List Int} (h : dec c = zs) (w : World) : Calls Try.prog 19 #[.int .i64 c] w (Lists zs w) := by
  rw [← h]
  exact ref_decompose_any c w

set_option maxHeartbeats 1000000 in
theorem kinds_walk (c : Int) (w : World) : Calls Try.prog 3 #[.int .i64 c] w (Makes (.bool true) w) := by
  obtain ⟨k, hk⟩ : ∃ k, kind c = k := ⟨_, rfl⟩
  obtain ⟨zs, hz⟩ : ∃ zs, dec c = zs := ⟨_, rfl⟩
  have HK := Lib.hid hk
  have HZ := Lib.hid hz
  have b1 : (k == k) = true := beq_self_eq_true _
  clear hk hz
  go_enter Try.func3, Try.ntmps3
  go_wp2_with (first
    | (go_at_call 15; refine (pkind_x HK.out _).mono ?_; rintro e w' ⟨rfl, rfl⟩)
    | (go_at_call 16; refine (ref_kind_x HK.out _).mono ?_; rintro e w' ⟨rfl, rfl⟩))
  refine (pdecompose_x HZ.out _).mono ?_
  rintro e w1 ⟨A, n, c1, rfl, h1, hb1⟩
  go_wp2_with fail
  refine (ref_decompose_x HZ.out _).mono ?_
  rintro e w2 ⟨B, m, c2, rfl, h2, hb2⟩
  have b2 := hb1.trans (hb2.mono hb1.size)
  go_wp2_with fail
  refine (ref_equal_x (b := true) (by simp) (h1.keep hb2) h2).mono ?_
  rintro e w3 ⟨rfl, hd3⟩
  have b3 := b2.trans (hd3.below _)
  go_wp2_with fail
  refine (awake_any _).mono ?_
  rintro e w4 ⟨rfl, hb4⟩
  go_wp2_with fail
  go_ret
  exact ⟨rfl, b3.trans (hb4.mono b3.size)⟩

set_option maxHeartbeats 1000000 in
theorem composes_walk (a b : Int) (w : World) : Calls Try.prog 4 #[.int .i64 a, .int .i64 b] w (Makes (.bool true) w) := by
  obtain ⟨⟨x, ok⟩, hx⟩ : ∃ p, comp a b = p := ⟨_, rfl⟩
  have HX := Lib.hid hx
  have b1 : (x == x) = true := beq_self_eq_true _
  have b2 : (ok == ok) = true := beq_self_eq_true _
  clear hx
  go_enter Try.func4, Try.ntmps4
  go_wp2_with (first
    | (go_at_call 21; refine (pcompose_x HX.out _).mono ?_; rintro e w1 ⟨rfl, b0⟩)
    | (go_at_call 22; refine (ref_compose_x HX.out _).mono ?_; rintro e w' ⟨rfl, rfl⟩)
    | (go_at_call 20; refine (awake_any _).mono ?_; rintro e w4 ⟨rfl, hb4⟩))
  go_ret
  exact ⟨rfl, b0.trans (hb4.mono b0.size)⟩

set_option maxHeartbeats 1000000 in
theorem returns_walk (c : Int) (w : World) : Calls Try.prog 6 #[.int .i64 c] w (Makes (.bool true) w) := by
  obtain ⟨k, hk⟩ : ∃ k, kind c = k := ⟨_, rfl⟩
  have hr := kind_range c
  have hcase : k < 4 ∨ k = 4 ∨ k = 5 := by omega
  rcases hcase with h | h | h
  · have HK := Lib.hid hk
    clear hk hr
    go_enter Try.func6, Try.ntmps6
    go_wp2_with (first
      | (go_at_call 16; refine (ref_kind_x HK.out _).mono ?_; rintro e w' ⟨rfl, rfl⟩)
      | (go_at_call 20; refine (awake_any _).mono ?_; rintro e w4 ⟨rfl, hb4⟩))
    go_ret
    exact ⟨rfl, hb4⟩
  · rw [h] at hk
    obtain ⟨x, hx⟩ : ∃ x, 4352 + (c - 44032) / 28 / 21 = x := ⟨_, rfl⟩
    obtain ⟨y, hy⟩ : ∃ y, 4449 + (c - 44032) / 28 % 21 = y := ⟨_, rfl⟩
    have HD : Hid (dec c = [x, y]) := Lib.hid (by rw [← hx, ← hy]; exact dec_open hk)
    have HC : Hid (comp x y = (c, true)) := Lib.hid (by rw [← hx, ← hy]; exact comp_open hk)
    have HK := Lib.hid hk
    have hcc : (c == c) = true := beq_self_eq_true _
    clear hk hx hy hr h
    go_enter Try.func6, Try.ntmps6
    go_wp2_with (go_at_call 16; refine (ref_kind_x HK.out _).mono ?_; rintro e w' ⟨rfl, rfl⟩)
    refine (pdecompose_x HD.out _).mono ?_
    rintro e w1 ⟨A, n, c1, rfl, h1, hb1⟩
    obtain rfl : n = 2 := h1.count
    obtain ⟨b, off, rfl, _, e0⟩ := h1.int_at (k := 0) (by omega)
    obtain ⟨b', off', e, _, e1⟩ := h1.int_at (k := 1) (by omega)
    cases e
    have g0 : w1.cell? ⟨b, off, none⟩ = some (.int .i64 x) := e0
    have g1 : w1.cell? ⟨b, off + 1, none⟩ = some (.int .i64 y) := e1
    have hcap := h1.cap
    have hmax := h1.max
    clear e0 e1
    go_wp2_with fail
    have hlt := h1.int_at (k := 0) (by omega)
    obtain ⟨_, _, hA, hbl, _⟩ := hlt
    cases hA
    go_region_held3 (fun W => W.cell? ⟨b, off, none⟩ = some (.int .i64 x) ∧ W.cell? ⟨b, off + 1, none⟩ = some (.int .i64 y)) (first | exact ⟨g0, g1⟩ | exact ⟨(hb.cell (p := ⟨b, off, none⟩) hbl).trans g0, (hb.cell (p := ⟨b, off + 1, none⟩) hbl).trans g1⟩)
      (first | (go_at_call 21; refine (pcompose_x HC.out _).mono ?_; rintro e w2 ⟨rfl, hb⟩))
    have t2 := hb1.trans ((undrew hb).mono hb1.size)
    go_wp2_with fail
    refine (awake_any _).mono ?_
    rintro e w4 ⟨rfl, hb4⟩
    go_wp2_with fail
    go_ret
    exact ⟨rfl, t2.trans (hb4.mono t2.size)⟩
  · rw [h] at hk
    obtain ⟨x, hx⟩ : ∃ x, 4352 + (c - 44032) / 28 / 21 = x := ⟨_, rfl⟩
    obtain ⟨y, hy⟩ : ∃ y, 4449 + (c - 44032) / 28 % 21 = y := ⟨_, rfl⟩
    obtain ⟨z, hz⟩ : ∃ z, 4520 + (c - 44032) % 28 - 1 = z := ⟨_, rfl⟩
    obtain ⟨m, hm⟩ : ∃ m, c - (c - 44032) % 28 = m := ⟨_, rfl⟩
    have HD : Hid (dec c = [x, y, z]) := Lib.hid (by rw [← hx, ← hy, ← hz]; exact dec_shut hk)
    have HC : Hid (comp x y = (m, true)) := Lib.hid (by rw [← hx, ← hy, ← hm]; exact comp_first hk)
    have HC2 : Hid (comp m z = (c, true)) := Lib.hid (by rw [← hz, ← hm]; exact comp_then hk)
    have HK := Lib.hid hk
    have hcc : (c == c) = true := beq_self_eq_true _
    clear hk hx hy hz hm hr h
    go_enter Try.func6, Try.ntmps6
    go_wp2_with (go_at_call 16; refine (ref_kind_x HK.out _).mono ?_; rintro e w' ⟨rfl, rfl⟩)
    refine (pdecompose_x HD.out _).mono ?_
    rintro e w1 ⟨A, n, c1, rfl, h1, hb1⟩
    obtain rfl : n = 3 := h1.count
    obtain ⟨b, off, rfl, _, e0⟩ := h1.int_at (k := 0) (by omega)
    obtain ⟨b', off', e, _, e1⟩ := h1.int_at (k := 1) (by omega)
    cases e
    obtain ⟨b', off', e, _, e2⟩ := h1.int_at (k := 2) (by omega)
    cases e
    have g0 : w1.cell? ⟨b, off, none⟩ = some (.int .i64 x) := e0
    have g1 : w1.cell? ⟨b, off + 1, none⟩ = some (.int .i64 y) := e1
    have g2 : w1.cell? ⟨b, off + 2, none⟩ = some (.int .i64 z) := e2
    have hcap := h1.cap
    have hmax := h1.max
    clear e0 e1 e2
    go_wp2_with fail
    have hlt := h1.int_at (k := 0) (by omega)
    obtain ⟨_, _, hA, hbl, _⟩ := hlt
    cases hA
    go_region_held3 (fun W => W.cell? ⟨b, off, none⟩ = some (.int .i64 x) ∧ W.cell? ⟨b, off + 1, none⟩ = some (.int .i64 y)) (first | exact ⟨g0, g1⟩ | exact ⟨(hb.cell (p := ⟨b, off, none⟩) hbl).trans g0, (hb.cell (p := ⟨b, off + 1, none⟩) hbl).trans g1⟩)
      (first | (go_at_call 21; refine (pcompose_x HC.out _).mono ?_; rintro e w2 ⟨rfl, hb⟩))
    have t2 := hb1.trans ((undrew hb).mono hb1.size)
    have g2' := ((undrew hb).cell (p := ⟨b, off + 2, none⟩) hbl).trans g2
    go_wp2_with fail
    refine (pcompose_x HC2.out _).mono ?_
    rintro e w3 ⟨rfl, b3⟩
    have t3 := t2.trans (b3.mono t2.size)
    go_wp2_with fail
    refine (awake_any _).mono ?_
    rintro e w4 ⟨rfl, hb4⟩
    go_wp2_with fail
    go_ret
    exact ⟨rfl, t3.trans (hb4.mono t3.size)⟩

set_option maxHeartbeats 1000000 in
theorem parts_walk (a b : Int) (w : World) : Calls Try.prog 7 #[.int .i64 a, .int .i64 b] w (Makes (.bool true) w) := by
  obtain ⟨⟨x, ok⟩, hx⟩ : ∃ p, comp a b = p := ⟨_, rfl⟩
  have HX := Lib.hid hx
  rcases ok with _ | _
  · have hx0 : x = 0 := by have := comp_none (a := a) (b := b) (by rw [hx]); rw [hx] at this; exact this
    subst hx0
    clear hx
    go_enter Try.func7, Try.ntmps7
    go_wp2_with (first
      | (go_at_call 21; refine (pcompose_x HX.out _).mono ?_; rintro e w1 ⟨rfl, b0⟩)
      | (go_at_call 20; refine (awake_any _).mono ?_; rintro e w4 ⟨rfl, hb4⟩))
    go_ret
    exact ⟨rfl, b0.trans (hb4.mono b0.size)⟩
  · obtain ⟨us, hu⟩ : ∃ us, dec a = us := ⟨_, rfl⟩
    obtain ⟨vs, hv⟩ : ∃ vs, dec b = vs := ⟨_, rfl⟩
    have HU := Lib.hid hu
    have HV := Lib.hid hv
    have HD : Hid (dec x = us ++ vs) := Lib.hid (by rw [← hu, ← hv]; exact dec_comp hx)
    obtain ⟨k, hk⟩ : ∃ k, kind x = k := ⟨_, rfl⟩
    have hk4 : 4 ≤ k := by rw [← hk]; rcases comp_kind hx with ⟨_, _, h⟩ | ⟨_, _, h⟩ <;> omega
    have lu : us.length ≤ 3 := by rw [← hu]; rcases dec_length a with ⟨_, h⟩ | ⟨_, h⟩ | ⟨_, h⟩ <;> omega
    have lv : vs.length ≤ 3 := by rw [← hv]; rcases dec_length b with ⟨_, h⟩ | ⟨_, h⟩ | ⟨_, h⟩ <;> omega
    have HK := Lib.hid hk
    clear hx hu hv hk
    go_enter Try.func7, Try.ntmps7
    go_wp2_with (go_at_call 21; refine (pcompose_x HX.out _).mono ?_; rintro e w0 ⟨rfl, b0⟩)
    refine (pdecompose_x HU.out _).mono ?_
    rintro e w1 ⟨A, n, c1, rfl, h1, b1'⟩
    have b1 := b0.trans (b1'.mono b0.size)
    clear b0 b1'
    have HN := Lib.hid h1.count
    have hn3 : n ≤ 3 := by rw [HN.out]; exact lu
    go_wp2_with (at_builtin; refine wpList_append_ints rfl (.tmp 21) (.tmp 23) rfl w1.heap.size (.slice none 0 0) 0 [] rfl (Own.nil _ _ _ _) A n c1 us rfl h1 n (by omega) us rfl (by omega) (Nat.le_refl _) ?_; intro v2 w2 o2 b2)
    refine (pdecompose_x HV.out _).mono ?_
    rintro e w3 ⟨B, m, c3, rfl, h3, b3⟩
    have HM := Lib.hid h3.count
    have hm3 : m ≤ 3 := by rw [HM.out]; exact lv
    have bs2 := b2.size
    have bs3 := b3.size
    have o3 := o2.below b3
    go_wp2_with (at_builtin; refine wpList_append_ints rfl (.tmp 25) (.tmp 27) rfl w1.heap.size v2 n us rfl o3 B m c3 vs rfl h3 (n + m) rfl (us ++ vs) rfl (by omega) (by omega) ?_; intro v4 w4 o4 b4; obtain ⟨C, c4, rfl, h4⟩ := o4.sl)
    refine (pdecompose_x HD.out _).mono ?_
    rintro e w5 ⟨D, q, c5, rfl, h5, b5⟩
    have t2 := b1.trans (b2.mono b1.size)
    have t3 := t2.trans (b3.mono t2.size)
    have t4 := t3.trans (b4.mono b1.size)
    have t5 := t4.trans (b5.mono t4.size)
    go_wp2_with fail
    refine (ref_equal_x (b := true) (by simp) h5 (h4.keep b5)).mono ?_
    rintro e w6 ⟨rfl, d6⟩
    have t6 := t5.trans (d6.below _)
    go_wp2_with (first
      | (go_at_call 15; refine (pkind_x HK.out _).mono ?_; rintro e w' ⟨rfl, rfl⟩)
      | (go_at_call 20; refine (awake_any _).mono ?_; rintro e w7 ⟨rfl, b7⟩))
    go_ret
    exact ⟨rfl, t6.trans (b7.mono t6.size)⟩

set_option maxHeartbeats 1000000 in
theorem numbers_walk (p q r : Int) (hp : (Lit.int .u8 p).wf = true) (hq : (Lit.int .u8 q).wf = true) (hr : (Lit.int .u8 r).wf = true) (w : World) :
    Calls Try.prog 9 #[.int .u8 p, .int .u8 q, .int .u8 r] w (Makes (.bool true) w) := by
  have hp' : 0 ≤ p ∧ p ≤ 255 := by simpa [Lit.wf, IntKind.min, IntKind.max, IntKind.signed, IntKind.bits] using hp
  have hq' : 0 ≤ q ∧ q ≤ 255 := by simpa [Lit.wf, IntKind.min, IntKind.max, IntKind.signed, IntKind.bits] using hq
  have hr' : 0 ≤ r ∧ r ≤ 255 := by simpa [Lit.wf, IntKind.min, IntKind.max, IntKind.signed, IntKind.bits] using hr
  obtain ⟨p0, p1⟩ := hp'
  obtain ⟨q0, q1⟩ := hq'
  obtain ⟨r0, r1⟩ := hr'
  clear hp hq hr
  obtain ⟨n1, n2, n3, n4⟩ := comp_numbers (l := p % 19) (v := q % 21) (t := r % 27) (by omega) (by omega) (by omega)
  obtain ⟨m, hm⟩ : ∃ m, 44032 + (21 * (p % 19) + q % 21) * 28 = m := ⟨_, rfl⟩
  have e1 : (m == 44032 + (21 * (p % 19) + q % 21) * 28) = true := by rw [hm]; exact beq_self_eq_true _
  have e2 : (m + 1 + r % 27 == m + 1 + r % 27) = true := beq_self_eq_true _
  have m0 : 0 ≤ m := by omega
  have m1 : m ≤ 60000 := by omega
  rw [hm] at n1 n2 n3 n4
  have N1 := Lib.hid n1
  have N2 := Lib.hid n2
  have N3 := Lib.hid n3
  have N4 := Lib.hid n4
  clear n1 n2 n3 n4 hm
  go_enter Try.func9, Try.ntmps9
  go_wp2_with fail
  refine (pcompose_x N1.out _).mono ?_
  rintro e w1 ⟨rfl, b1⟩
  go_wp2_with fail
  refine (pcompose_x N2.out _).mono ?_
  rintro e w2 ⟨rfl, b2⟩
  have t2 := b1.trans (b2.mono b1.size)
  clear b1 b2
  go_wp2_with fail
  refine (pkind_x N3.out _).mono ?_
  rintro e w' ⟨rfl, rfl⟩
  go_wp2_with fail
  refine (pkind_x N4.out _).mono ?_
  rintro e w' ⟨rfl, rfl⟩
  go_wp2_with fail
  refine (awake_any _).mono ?_
  rintro e w4 ⟨rfl, hb4⟩
  go_wp2_with fail
  go_ret
  exact ⟨rfl, t2.trans (hb4.mono t2.size)⟩
end Go.Proofs.Ytnaooleopifnmaa.Hg
