/-
  The walks of CodepointCompares, CodepointOrders and CodepointPrefixes.
-/
import Derived.Test.YtdpcjgjegeiemaaDoorCpLists
namespace Go.Proofs.YtdpcjgjegeiemaaDoor
open Go.RowKit
set_option linter.unusedVariables false

theorem compare_x {w : World} {A B : Option Addr} {n m c d : Nat} {xs ys : List Int} {x : Int} (hx : cmpL xs ys = x) (ha : Lst w A n c xs) (hb : Lst w B m d ys) (hn : n ≤ 100000) (hm : m ≤ 100000) :
    Calls Tryd.prog 25 #[.slice A n c, .slice B m d] w fun e w' => e = .returned (.int .i64 x) ∧ Drawn w w' := by
  rw [← hx]
  exact compare_l ha hb hn hm
theorem ref_compare_x {w : World} {A B : Option Addr} {n m c d : Nat} {xs ys : List Int} {x : Int} (hx : cmpL xs ys = x) (ha : Lst w A n c xs) (hb : Lst w B m d ys) (hn : n ≤ 100000) (hm : m ≤ 100000) :
    Calls Tryd.prog 26 #[.slice A n c, .slice B m d] w fun e w' => e = .returned (.int .i64 x) ∧ Drawn w w' := by
  rw [← hx]
  exact ref_compare_l ha hb hn hm
theorem equal_x {w : World} {A B : Option Addr} {n m c d : Nat} {xs ys : List Int} {b : Bool} (hx : decide (cmpL xs ys = 0) = b) (ha : Lst w A n c xs) (hb : Lst w B m d ys) (hn : n ≤ 100000) (hm : m ≤ 100000) :
    Calls Tryd.prog 27 #[.slice A n c, .slice B m d] w fun e w' => e = .returned (.bool b) ∧ Drawn w w' := by
  rw [← hx]
  exact equal_l ha hb hn hm

set_option maxHeartbeats 2000000 in
theorem compares_walk (A B : Option Addr) (n m c d : Nat) (xs ys : List Int) (w : World) (ha : Lst w A n c xs) (hb : Lst w B m d ys) (hn : n ≤ maxLen) (hm : m ≤ maxLen) (ht : Tab w) :
    Calls Tryd.prog 6 #[.slice A n c, .slice B m d] w (Makes (.bool true) w) := by
  unfold maxLen at hn hm
  by_cases hs : n ≤ 300 ∧ m ≤ 300
  · obtain ⟨h1, h2⟩ := hs
    have hr := cmp_range xs ys
    have hf := cmp_flip xs ys
    have HS := Lib.hid (cmp_self xs)
    obtain ⟨x, hx⟩ : ∃ x, cmpL xs ys = x := ⟨_, rfl⟩
    have h3 : x = -1 ∨ x = 0 ∨ x = 1 := by omega
    rcases h3 with e | e | e <;> subst e
    all_goals
      rw [hx] at hf
      have HX := Lib.hid hx
      have HF := Lib.hid hf
      clear hr hx hf
      go_enter Tryd.func6, Tryd.ntmps6
      go_wp2_with fail
      refine (compare_x HX.out ha hb (by omega) (by omega)).mono ?_
      rintro e w1 ⟨rfl, d1⟩
      go_wp2_with fail
      refine (ref_compare_x HX.out (ha.drawn d1) (hb.drawn d1) (by omega) (by omega)).mono ?_
      rintro e w2 ⟨rfl, d2⟩
      have d12 := d1.trans d2
      go_wp2_with fail
      first
        | refine (equal_x (b := true) (by rw [HX.out]; rfl) (ha.drawn d12) (hb.drawn d12) (by omega) (by omega)).mono ?_
        | refine (equal_x (b := false) (by rw [HX.out]; rfl) (ha.drawn d12) (hb.drawn d12) (by omega) (by omega)).mono ?_
      rintro e w3 ⟨rfl, d3⟩
      have d13 := d12.trans d3
      go_wp2_with fail
      refine (compare_x HF.out (hb.drawn d13) (ha.drawn d13) (by omega) (by omega)).mono ?_
      rintro e w4 ⟨rfl, d4⟩
      have d14 := d13.trans d4
      go_wp2_with fail
      refine (compare_x HS.out (ha.drawn d14) (ha.drawn d14) (by omega) (by omega)).mono ?_
      rintro e w5 ⟨rfl, d5⟩
      have d15 := d14.trans d5
      go_wp2_with fail
      refine (awake_any _ (d15.tab ht)).mono ?_
      rintro e w6 ⟨rfl, hb6⟩
      go_wp2_with fail
      go_ret
      exact ⟨rfl, (d15.below _).trans (hb6.mono (d15.below w.heap.size).size)⟩
  · rcases Nat.lt_or_ge 300 n with h1 | h1
    all_goals
      have h2 : 300 < n ∨ 300 < m := by omega
      go_enter Tryd.func6, Tryd.ntmps6
      first | have h3 : 300 < m := by omega | skip
      go_wp2_with (go_at_call 20; refine (awake_any _ ht).mono ?_; rintro e w2 ⟨rfl, hb2⟩)
      go_ret
      exact ⟨rfl, hb2⟩
set_option maxHeartbeats 2000000 in
theorem orders_walk (A B C : Option Addr) (n m l c d f : Nat) (xs ys zs : List Int) (w : World) (ha : Lst w A n c xs) (hb : Lst w B m d ys) (hc : Lst w C l f zs) (hn : n ≤ maxLen) (hm : m ≤ maxLen) (hl : l ≤ maxLen) (ht : Tab w) :
    Calls Tryd.prog 7 #[.slice A n c, .slice B m d, .slice C l f] w (Makes (.bool true) w) := by
  unfold maxLen at hn hm hl
  by_cases hs : n ≤ 300 ∧ m ≤ 300 ∧ l ≤ 300
  · obtain ⟨h1, h2, h3⟩ := hs
    have HG := Lib.hid (cmp_grow xs ys)
    have HM := Lib.hid hb.1
    obtain ⟨x, hx⟩ : ∃ x, cmpL xs ys = x := ⟨_, rfl⟩
    obtain ⟨y, hy⟩ : ∃ y, cmpL ys zs = y := ⟨_, rfl⟩
    obtain ⟨z, hz⟩ : ∃ z, cmpL xs zs = z := ⟨_, rfl⟩
    have htr : x ≤ 0 → y ≤ 0 → z ≤ 0 := by rw [← hx, ← hy, ← hz]; exact cmp_trans xs ys zs
    have HX := Lib.hid hx
    have HY := Lib.hid hy
    have HZ := Lib.hid hz
    clear hx hy hz
    have hgm : (((m : Int) == 0) = true ∧ Hid (cmpL xs (xs ++ ys) = 0)) ∨ (((m : Int) == 0) = false ∧ Hid (cmpL xs (xs ++ ys) = -1)) := by
      rcases Nat.eq_zero_or_pos m with h0 | h0
      · exact .inl ⟨by rw [h0]; rfl, Lib.hid (by rw [HG.out, if_pos (by rw [← HM.out]; exact h0)])⟩
      · exact .inr ⟨by rw [beq_eq_false_iff_ne]; omega, Lib.hid (by rw [HG.out, if_neg (by rw [← HM.out]; omega)])⟩
    clear HG HM
    rcases Int.lt_or_le 0 x with hx0 | hx0
    · clear htr
      rcases hgm with ⟨hm0, HE⟩ | ⟨hm0, HE⟩
      · go_enter Tryd.func7, Tryd.ntmps7
        go_wp2_with fail
        refine (compare_x HX.out ha hb (by omega) (by omega)).mono ?_
        rintro e w1 ⟨rfl, d1⟩
        have ha1 := ha.drawn d1
        have hb1 := hb.drawn d1
        go_wp2_with (first
          | (at_builtin; refine wpList_append_ints rfl (.tmp 38) (.tmp 39) rfl w1.heap.size (.slice none 0 0) 0 [] rfl (OwnL.nil _ _) A n c xs rfl ha1 n (by omega) xs rfl (by omega) (Nat.le_refl _) ?_; intro v1 u1 o1 b1; have ha2 := ha1.keep b1; have hb2 := hb1.keep b1)
          | (at_builtin; refine wpList_append_ints rfl (.tmp 41) (.tmp 42) rfl w1.heap.size v1 n xs rfl o1 B m d ys rfl hb2 (n + m) rfl (xs ++ ys) rfl (by omega) b1.size ?_; intro v2 u2 o2 b2; have b12 := b1.trans b2; have ha3 := ha1.keep b12; have hb3 := hb1.keep b12; obtain ⟨D, g, rfl, l2⟩ := o2.lst))
        refine (compare_x (x := 0) (by exact HE.out) ha3 l2 (by omega) (by omega)).mono ?_
        rintro e u3 ⟨rfl, d3⟩
        go_wp2_with fail
        refine (equal_x (b := true) (by rw [HE.out]; rfl) (ha3.drawn d3) (l2.drawn d3) (by omega) (by omega)).mono ?_
        rintro e u4 ⟨rfl, d4⟩
        have b4 := b12.trans ((d3.trans d4).below _)
        have ht4 := (d1.tab ht).below (d1.tab ht).lt b4
        have bw := (d1.below w.heap.size).trans (b4.mono (d1.below w.heap.size).size)
        go_wp2_with fail
        refine (awake_any _ ht4).mono ?_
        rintro e u5 ⟨rfl, b5⟩
        go_wp2_with fail
        go_ret
        exact ⟨rfl, bw.trans (b5.mono bw.size)⟩
      · go_enter Tryd.func7, Tryd.ntmps7
        go_wp2_with fail
        refine (compare_x HX.out ha hb (by omega) (by omega)).mono ?_
        rintro e w1 ⟨rfl, d1⟩
        have ha1 := ha.drawn d1
        have hb1 := hb.drawn d1
        go_wp2_with (first
          | (at_builtin; refine wpList_append_ints rfl (.tmp 38) (.tmp 39) rfl w1.heap.size (.slice none 0 0) 0 [] rfl (OwnL.nil _ _) A n c xs rfl ha1 n (by omega) xs rfl (by omega) (Nat.le_refl _) ?_; intro v1 u1 o1 b1; have ha2 := ha1.keep b1; have hb2 := hb1.keep b1)
          | (at_builtin; refine wpList_append_ints rfl (.tmp 41) (.tmp 42) rfl w1.heap.size v1 n xs rfl o1 B m d ys rfl hb2 (n + m) rfl (xs ++ ys) rfl (by omega) b1.size ?_; intro v2 u2 o2 b2; have b12 := b1.trans b2; have ha3 := ha1.keep b12; have hb3 := hb1.keep b12; obtain ⟨D, g, rfl, l2⟩ := o2.lst))
        refine (compare_x (x := -1) (by exact HE.out) ha3 l2 (by omega) (by omega)).mono ?_
        rintro e u3 ⟨rfl, d3⟩
        go_wp2_with fail
        refine (equal_x (b := false) (by rw [HE.out]; rfl) (ha3.drawn d3) (l2.drawn d3) (by omega) (by omega)).mono ?_
        rintro e u4 ⟨rfl, d4⟩
        have b4 := b12.trans ((d3.trans d4).below _)
        have ht4 := (d1.tab ht).below (d1.tab ht).lt b4
        have bw := (d1.below w.heap.size).trans (b4.mono (d1.below w.heap.size).size)
        go_wp2_with fail
        refine (awake_any _ ht4).mono ?_
        rintro e u5 ⟨rfl, b5⟩
        go_wp2_with fail
        go_ret
        exact ⟨rfl, bw.trans (b5.mono bw.size)⟩
    · rcases Int.lt_or_le 0 y with hy0 | hy0
      · clear htr
        rcases hgm with ⟨hm0, HE⟩ | ⟨hm0, HE⟩
        · go_enter Tryd.func7, Tryd.ntmps7
          go_wp2_with fail
          refine (compare_x HX.out ha hb (by omega) (by omega)).mono ?_
          rintro e w1 ⟨rfl, d1⟩
          go_wp2_with fail
          refine (compare_x HY.out (hb.drawn d1) (hc.drawn d1) (by omega) (by omega)).mono ?_
          rintro e w2 ⟨rfl, d2⟩
          replace d1 := d1.trans d2
          clear d2
          have ha1 := ha.drawn d1
          have hb1 := hb.drawn d1
          go_wp2_with (first
            | (at_builtin; refine wpList_append_ints rfl (.tmp 38) (.tmp 39) rfl w2.heap.size (.slice none 0 0) 0 [] rfl (OwnL.nil _ _) A n c xs rfl ha1 n (by omega) xs rfl (by omega) (Nat.le_refl _) ?_; intro v1 u1 o1 b1; have ha2 := ha1.keep b1; have hb2 := hb1.keep b1)
            | (at_builtin; refine wpList_append_ints rfl (.tmp 41) (.tmp 42) rfl w2.heap.size v1 n xs rfl o1 B m d ys rfl hb2 (n + m) rfl (xs ++ ys) rfl (by omega) b1.size ?_; intro v2 u2 o2 b2; have b12 := b1.trans b2; have ha3 := ha1.keep b12; have hb3 := hb1.keep b12; obtain ⟨D, g, rfl, l2⟩ := o2.lst))
          refine (compare_x (x := 0) (by exact HE.out) ha3 l2 (by omega) (by omega)).mono ?_
          rintro e u3 ⟨rfl, d3⟩
          go_wp2_with fail
          refine (equal_x (b := true) (by rw [HE.out]; rfl) (ha3.drawn d3) (l2.drawn d3) (by omega) (by omega)).mono ?_
          rintro e u4 ⟨rfl, d4⟩
          have b4 := b12.trans ((d3.trans d4).below _)
          have ht4 := (d1.tab ht).below (d1.tab ht).lt b4
          have bw := (d1.below w.heap.size).trans (b4.mono (d1.below w.heap.size).size)
          go_wp2_with fail
          refine (awake_any _ ht4).mono ?_
          rintro e u5 ⟨rfl, b5⟩
          go_wp2_with fail
          go_ret
          exact ⟨rfl, bw.trans (b5.mono bw.size)⟩
        · go_enter Tryd.func7, Tryd.ntmps7
          go_wp2_with fail
          refine (compare_x HX.out ha hb (by omega) (by omega)).mono ?_
          rintro e w1 ⟨rfl, d1⟩
          go_wp2_with fail
          refine (compare_x HY.out (hb.drawn d1) (hc.drawn d1) (by omega) (by omega)).mono ?_
          rintro e w2 ⟨rfl, d2⟩
          replace d1 := d1.trans d2
          clear d2
          have ha1 := ha.drawn d1
          have hb1 := hb.drawn d1
          go_wp2_with (first
            | (at_builtin; refine wpList_append_ints rfl (.tmp 38) (.tmp 39) rfl w2.heap.size (.slice none 0 0) 0 [] rfl (OwnL.nil _ _) A n c xs rfl ha1 n (by omega) xs rfl (by omega) (Nat.le_refl _) ?_; intro v1 u1 o1 b1; have ha2 := ha1.keep b1; have hb2 := hb1.keep b1)
            | (at_builtin; refine wpList_append_ints rfl (.tmp 41) (.tmp 42) rfl w2.heap.size v1 n xs rfl o1 B m d ys rfl hb2 (n + m) rfl (xs ++ ys) rfl (by omega) b1.size ?_; intro v2 u2 o2 b2; have b12 := b1.trans b2; have ha3 := ha1.keep b12; have hb3 := hb1.keep b12; obtain ⟨D, g, rfl, l2⟩ := o2.lst))
          refine (compare_x (x := -1) (by exact HE.out) ha3 l2 (by omega) (by omega)).mono ?_
          rintro e u3 ⟨rfl, d3⟩
          go_wp2_with fail
          refine (equal_x (b := false) (by rw [HE.out]; rfl) (ha3.drawn d3) (l2.drawn d3) (by omega) (by omega)).mono ?_
          rintro e u4 ⟨rfl, d4⟩
          have b4 := b12.trans ((d3.trans d4).below _)
          have ht4 := (d1.tab ht).below (d1.tab ht).lt b4
          have bw := (d1.below w.heap.size).trans (b4.mono (d1.below w.heap.size).size)
          go_wp2_with fail
          refine (awake_any _ ht4).mono ?_
          rintro e u5 ⟨rfl, b5⟩
          go_wp2_with fail
          go_ret
          exact ⟨rfl, bw.trans (b5.mono bw.size)⟩
      · have hz0 := htr hx0 hy0
        clear htr
        rcases hgm with ⟨hm0, HE⟩ | ⟨hm0, HE⟩
        · go_enter Tryd.func7, Tryd.ntmps7
          go_wp2_with fail
          refine (compare_x HX.out ha hb (by omega) (by omega)).mono ?_
          rintro e w1 ⟨rfl, d1⟩
          go_wp2_with fail
          refine (compare_x HY.out (hb.drawn d1) (hc.drawn d1) (by omega) (by omega)).mono ?_
          rintro e w2 ⟨rfl, d2⟩
          replace d1 := d1.trans d2
          clear d2
          go_wp2_with fail
          refine (compare_x HZ.out (ha.drawn d1) (hc.drawn d1) (by omega) (by omega)).mono ?_
          rintro e w3 ⟨rfl, d2⟩
          replace d1 := d1.trans d2
          clear d2
          have ha1 := ha.drawn d1
          have hb1 := hb.drawn d1
          go_wp2_with (first
            | (at_builtin; refine wpList_append_ints rfl (.tmp 38) (.tmp 39) rfl w3.heap.size (.slice none 0 0) 0 [] rfl (OwnL.nil _ _) A n c xs rfl ha1 n (by omega) xs rfl (by omega) (Nat.le_refl _) ?_; intro v1 u1 o1 b1; have ha2 := ha1.keep b1; have hb2 := hb1.keep b1)
            | (at_builtin; refine wpList_append_ints rfl (.tmp 41) (.tmp 42) rfl w3.heap.size v1 n xs rfl o1 B m d ys rfl hb2 (n + m) rfl (xs ++ ys) rfl (by omega) b1.size ?_; intro v2 u2 o2 b2; have b12 := b1.trans b2; have ha3 := ha1.keep b12; have hb3 := hb1.keep b12; obtain ⟨D, g, rfl, l2⟩ := o2.lst))
          refine (compare_x (x := 0) (by exact HE.out) ha3 l2 (by omega) (by omega)).mono ?_
          rintro e u3 ⟨rfl, d3⟩
          go_wp2_with fail
          refine (equal_x (b := true) (by rw [HE.out]; rfl) (ha3.drawn d3) (l2.drawn d3) (by omega) (by omega)).mono ?_
          rintro e u4 ⟨rfl, d4⟩
          have b4 := b12.trans ((d3.trans d4).below _)
          have ht4 := (d1.tab ht).below (d1.tab ht).lt b4
          have bw := (d1.below w.heap.size).trans (b4.mono (d1.below w.heap.size).size)
          go_wp2_with fail
          refine (awake_any _ ht4).mono ?_
          rintro e u5 ⟨rfl, b5⟩
          go_wp2_with fail
          go_ret
          exact ⟨rfl, bw.trans (b5.mono bw.size)⟩
        · go_enter Tryd.func7, Tryd.ntmps7
          go_wp2_with fail
          refine (compare_x HX.out ha hb (by omega) (by omega)).mono ?_
          rintro e w1 ⟨rfl, d1⟩
          go_wp2_with fail
          refine (compare_x HY.out (hb.drawn d1) (hc.drawn d1) (by omega) (by omega)).mono ?_
          rintro e w2 ⟨rfl, d2⟩
          replace d1 := d1.trans d2
          clear d2
          go_wp2_with fail
          refine (compare_x HZ.out (ha.drawn d1) (hc.drawn d1) (by omega) (by omega)).mono ?_
          rintro e w3 ⟨rfl, d2⟩
          replace d1 := d1.trans d2
          clear d2
          have ha1 := ha.drawn d1
          have hb1 := hb.drawn d1
          go_wp2_with (first
            | (at_builtin; refine wpList_append_ints rfl (.tmp 38) (.tmp 39) rfl w3.heap.size (.slice none 0 0) 0 [] rfl (OwnL.nil _ _) A n c xs rfl ha1 n (by omega) xs rfl (by omega) (Nat.le_refl _) ?_; intro v1 u1 o1 b1; have ha2 := ha1.keep b1; have hb2 := hb1.keep b1)
            | (at_builtin; refine wpList_append_ints rfl (.tmp 41) (.tmp 42) rfl w3.heap.size v1 n xs rfl o1 B m d ys rfl hb2 (n + m) rfl (xs ++ ys) rfl (by omega) b1.size ?_; intro v2 u2 o2 b2; have b12 := b1.trans b2; have ha3 := ha1.keep b12; have hb3 := hb1.keep b12; obtain ⟨D, g, rfl, l2⟩ := o2.lst))
          refine (compare_x (x := -1) (by exact HE.out) ha3 l2 (by omega) (by omega)).mono ?_
          rintro e u3 ⟨rfl, d3⟩
          go_wp2_with fail
          refine (equal_x (b := false) (by rw [HE.out]; rfl) (ha3.drawn d3) (l2.drawn d3) (by omega) (by omega)).mono ?_
          rintro e u4 ⟨rfl, d4⟩
          have b4 := b12.trans ((d3.trans d4).below _)
          have ht4 := (d1.tab ht).below (d1.tab ht).lt b4
          have bw := (d1.below w.heap.size).trans (b4.mono (d1.below w.heap.size).size)
          go_wp2_with fail
          refine (awake_any _ ht4).mono ?_
          rintro e u5 ⟨rfl, b5⟩
          go_wp2_with fail
          go_ret
          exact ⟨rfl, bw.trans (b5.mono bw.size)⟩
  · have h4 : 300 < n ∨ n ≤ 300 ∧ 300 < m ∨ n ≤ 300 ∧ m ≤ 300 ∧ 300 < l := by omega
    clear hs
    rcases h4 with h4 | ⟨h4, h5⟩ | ⟨h4, h5, h6⟩
    all_goals
      go_enter Tryd.func7, Tryd.ntmps7
      go_wp2_with (go_at_call 20; refine (awake_any _ ht).mono ?_; rintro e w2 ⟨rfl, hb2⟩)
      go_ret
      exact ⟨rfl, hb2⟩

end Go.Proofs.YtdpcjgjegeiemaaDoor
