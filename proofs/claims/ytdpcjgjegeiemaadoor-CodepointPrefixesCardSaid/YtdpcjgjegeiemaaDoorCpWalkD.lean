/-
  The walk of CodepointPrefixes.
-/
import Derived.Test.YtdpcjgjegeiemaaDoorCpWalkC
namespace Go.Proofs.YtdpcjgjegeiemaaDoor
open Go.RowKit
set_option linter.unusedVariables false

set_option maxHeartbeats 4000000 in
theorem prefixes_walk (A B C : Option Addr) (n m l c d f : Nat) (xs ys zs : List Int) (w : World) (ha : Lst w A n c xs) (hb : Lst w B m d ys) (hc : Lst w C l f zs) (hn : n ≤ maxLen) (hm : m ≤ maxLen) (hl : l ≤ maxLen) (ht : Tab w) :
    Calls Tryd.prog 9 #[.slice A n c, .slice B m d, .slice C l f] w (Makes (.bool true) w) := by
  unfold maxLen at hn hm hl
  by_cases hs : n ≤ 300 ∧ m ≤ 300 ∧ l ≤ 300
  · obtain ⟨h1, h2, h3⟩ := hs
    have HP := Lib.hid (cmp_prefix zs xs ys)
    obtain ⟨x, hx⟩ : ∃ x, cmpL xs ys = x := ⟨_, rfl⟩
    have HX := Lib.hid hx
    clear hx
    have hxx : (x == x) = true := beq_self_eq_true _
    have hnm : (((n : Int) != (m : Int)) = true) ∨ (((n : Int) != (m : Int)) = false ∧ Hid (cmpL (xs ++ zs) (ys ++ zs) = x)) := by
      by_cases e : n = m
      · exact .inr ⟨by simp [e], Lib.hid (by rw [cmp_suffix xs ys zs (by rw [← ha.1, ← hb.1]; exact e)]; exact HX.out)⟩
      · exact .inl (by rw [bne_iff_ne]; omega)
    rcases hnm with hq | ⟨hq, HS⟩
    · go_enter Tryd.func9, Tryd.ntmps9
      go_wp2_with (first
        | (at_builtin; refine wpList_append_ints rfl (.tmp 26) (.tmp 27) rfl w.heap.size (.slice none 0 0) 0 [] rfl (OwnL.nil _ _) C l f zs rfl hc l (by omega) zs rfl (by omega) (Nat.le_refl _) ?_; intro vca u1 o1ca b1ca; have kca := ha.keep b1ca)
        | (at_builtin; refine wpList_append_ints rfl (.tmp 29) (.tmp 30) rfl w.heap.size vca l zs rfl o1ca A n c xs rfl kca (l + n) rfl (zs ++ xs) rfl (by omega) b1ca.size ?_; intro xca u2 o2ca b2ca; have bca := b1ca.trans b2ca; obtain ⟨Dca, gca, rfl, lca⟩ := o2ca.lst; have W2 := bca; have ha_2 := ha.keep W2; have hb_2 := hb.keep W2; have hc_2 := hc.keep W2)
        | (at_builtin; refine wpList_append_ints rfl (.tmp 32) (.tmp 33) rfl u2.heap.size (.slice none 0 0) 0 [] rfl (OwnL.nil _ _) C l f zs rfl hc_2 l (by omega) zs rfl (by omega) (Nat.le_refl _) ?_; intro vcb u3 o1cb b1cb; have kcb := hb_2.keep b1cb)
        | (at_builtin; refine wpList_append_ints rfl (.tmp 35) (.tmp 36) rfl u2.heap.size vcb l zs rfl o1cb B m d ys rfl kcb (l + m) rfl (zs ++ ys) rfl (by omega) b1cb.size ?_; intro xcb u4 o2cb b2cb; have bcb := b1cb.trans b2cb; obtain ⟨Dcb, gcb, rfl, lcb⟩ := o2cb.lst; have W4 := W2.trans (bcb.mono W2.size); have ha_4 := ha.keep W4; have hb_4 := hb.keep W4; have hc_4 := hc.keep W4; have lca_4 := lca.keep bcb)
        | (at_builtin; refine wpList_append_ints rfl (.tmp 38) (.tmp 39) rfl u4.heap.size (.slice none 0 0) 0 [] rfl (OwnL.nil _ _) A n c xs rfl ha_4 n (by omega) xs rfl (by omega) (Nat.le_refl _) ?_; intro vac u5 o1ac b1ac; have kac := hc_4.keep b1ac)
        | (at_builtin; refine wpList_append_ints rfl (.tmp 41) (.tmp 42) rfl u4.heap.size vac n xs rfl o1ac C l f zs rfl kac (n + l) rfl (xs ++ zs) rfl (by omega) b1ac.size ?_; intro xac u6 o2ac b2ac; have bac := b1ac.trans b2ac; obtain ⟨Dac, gac, rfl, lac⟩ := o2ac.lst; have W6 := W4.trans (bac.mono W4.size); have ha_6 := ha.keep W6; have hb_6 := hb.keep W6; have hc_6 := hc.keep W6; have lca_6 := lca_4.keep bac; have lcb_6 := lcb.keep bac)
        | (at_builtin; refine wpList_append_ints rfl (.tmp 44) (.tmp 45) rfl u6.heap.size (.slice none 0 0) 0 [] rfl (OwnL.nil _ _) B m d ys rfl hb_6 m (by omega) ys rfl (by omega) (Nat.le_refl _) ?_; intro vbc u7 o1bc b1bc; have kbc := hc_6.keep b1bc)
        | (at_builtin; refine wpList_append_ints rfl (.tmp 47) (.tmp 48) rfl u6.heap.size vbc m ys rfl o1bc C l f zs rfl kbc (m + l) rfl (ys ++ zs) rfl (by omega) b1bc.size ?_; intro xbc u8 o2bc b2bc; have bbc := b1bc.trans b2bc; obtain ⟨Dbc, gbc, rfl, lbc⟩ := o2bc.lst; have W8 := W6.trans (bbc.mono W6.size); have ha_8 := ha.keep W8; have hb_8 := hb.keep W8; have hc_8 := hc.keep W8; have lca_8 := lca_6.keep bbc; have lcb_8 := lcb_6.keep bbc; have lac_8 := lac.keep bbc))
      refine (compare_x HX.out ha_8 hb_8 (by omega) (by omega)).mono ?_
      rintro e w1 ⟨rfl, d1⟩
      go_wp2_with fail
      refine (compare_x (x := x) (by rw [HP.out]; exact HX.out) (lca_8.drawn d1) (lcb_8.drawn d1) (by omega) (by omega)).mono ?_
      rintro e w2 ⟨rfl, d2⟩
      replace d1 := d1.trans d2
      clear d2
      go_wp2_with fail
      have bw := W8.trans (d1.below _)
      have ht4 := ht.below ht.lt bw
      refine (awake_any _ ht4).mono ?_
      rintro e u9 ⟨rfl, b9⟩
      go_wp2_with fail
      go_ret
      exact ⟨rfl, bw.trans (b9.mono bw.size)⟩
    · go_enter Tryd.func9, Tryd.ntmps9
      go_wp2_with (first
        | (at_builtin; refine wpList_append_ints rfl (.tmp 26) (.tmp 27) rfl w.heap.size (.slice none 0 0) 0 [] rfl (OwnL.nil _ _) C l f zs rfl hc l (by omega) zs rfl (by omega) (Nat.le_refl _) ?_; intro vca u1 o1ca b1ca; have kca := ha.keep b1ca)
        | (at_builtin; refine wpList_append_ints rfl (.tmp 29) (.tmp 30) rfl w.heap.size vca l zs rfl o1ca A n c xs rfl kca (l + n) rfl (zs ++ xs) rfl (by omega) b1ca.size ?_; intro xca u2 o2ca b2ca; have bca := b1ca.trans b2ca; obtain ⟨Dca, gca, rfl, lca⟩ := o2ca.lst; have W2 := bca; have ha_2 := ha.keep W2; have hb_2 := hb.keep W2; have hc_2 := hc.keep W2)
        | (at_builtin; refine wpList_append_ints rfl (.tmp 32) (.tmp 33) rfl u2.heap.size (.slice none 0 0) 0 [] rfl (OwnL.nil _ _) C l f zs rfl hc_2 l (by omega) zs rfl (by omega) (Nat.le_refl _) ?_; intro vcb u3 o1cb b1cb; have kcb := hb_2.keep b1cb)
        | (at_builtin; refine wpList_append_ints rfl (.tmp 35) (.tmp 36) rfl u2.heap.size vcb l zs rfl o1cb B m d ys rfl kcb (l + m) rfl (zs ++ ys) rfl (by omega) b1cb.size ?_; intro xcb u4 o2cb b2cb; have bcb := b1cb.trans b2cb; obtain ⟨Dcb, gcb, rfl, lcb⟩ := o2cb.lst; have W4 := W2.trans (bcb.mono W2.size); have ha_4 := ha.keep W4; have hb_4 := hb.keep W4; have hc_4 := hc.keep W4; have lca_4 := lca.keep bcb)
        | (at_builtin; refine wpList_append_ints rfl (.tmp 38) (.tmp 39) rfl u4.heap.size (.slice none 0 0) 0 [] rfl (OwnL.nil _ _) A n c xs rfl ha_4 n (by omega) xs rfl (by omega) (Nat.le_refl _) ?_; intro vac u5 o1ac b1ac; have kac := hc_4.keep b1ac)
        | (at_builtin; refine wpList_append_ints rfl (.tmp 41) (.tmp 42) rfl u4.heap.size vac n xs rfl o1ac C l f zs rfl kac (n + l) rfl (xs ++ zs) rfl (by omega) b1ac.size ?_; intro xac u6 o2ac b2ac; have bac := b1ac.trans b2ac; obtain ⟨Dac, gac, rfl, lac⟩ := o2ac.lst; have W6 := W4.trans (bac.mono W4.size); have ha_6 := ha.keep W6; have hb_6 := hb.keep W6; have hc_6 := hc.keep W6; have lca_6 := lca_4.keep bac; have lcb_6 := lcb.keep bac)
        | (at_builtin; refine wpList_append_ints rfl (.tmp 44) (.tmp 45) rfl u6.heap.size (.slice none 0 0) 0 [] rfl (OwnL.nil _ _) B m d ys rfl hb_6 m (by omega) ys rfl (by omega) (Nat.le_refl _) ?_; intro vbc u7 o1bc b1bc; have kbc := hc_6.keep b1bc)
        | (at_builtin; refine wpList_append_ints rfl (.tmp 47) (.tmp 48) rfl u6.heap.size vbc m ys rfl o1bc C l f zs rfl kbc (m + l) rfl (ys ++ zs) rfl (by omega) b1bc.size ?_; intro xbc u8 o2bc b2bc; have bbc := b1bc.trans b2bc; obtain ⟨Dbc, gbc, rfl, lbc⟩ := o2bc.lst; have W8 := W6.trans (bbc.mono W6.size); have ha_8 := ha.keep W8; have hb_8 := hb.keep W8; have hc_8 := hc.keep W8; have lca_8 := lca_6.keep bbc; have lcb_8 := lcb_6.keep bbc; have lac_8 := lac.keep bbc))
      refine (compare_x HX.out ha_8 hb_8 (by omega) (by omega)).mono ?_
      rintro e w1 ⟨rfl, d1⟩
      go_wp2_with fail
      refine (compare_x (x := x) (by rw [HP.out]; exact HX.out) (lca_8.drawn d1) (lcb_8.drawn d1) (by omega) (by omega)).mono ?_
      rintro e w2 ⟨rfl, d2⟩
      replace d1 := d1.trans d2
      clear d2
      go_wp2_with fail
      refine (compare_x (x := x) HS.out (lac_8.drawn d1) (lbc.drawn d1) (by omega) (by omega)).mono ?_
      rintro e w3 ⟨rfl, d2⟩
      replace d1 := d1.trans d2
      clear d2
      go_wp2_with fail
      have bw := W8.trans (d1.below _)
      have ht4 := ht.below ht.lt bw
      refine (awake_any _ ht4).mono ?_
      rintro e u9 ⟨rfl, b9⟩
      go_wp2_with fail
      go_ret
      exact ⟨rfl, bw.trans (b9.mono bw.size)⟩
  · have h4 : 300 < n ∨ n ≤ 300 ∧ 300 < m ∨ n ≤ 300 ∧ m ≤ 300 ∧ 300 < l := by omega
    clear hs
    rcases h4 with h4 | ⟨h4, h5⟩ | ⟨h4, h5, h6⟩
    all_goals
      go_enter Tryd.func9, Tryd.ntmps9
      go_wp2_with (go_at_call 20; refine (awake_any _ ht).mono ?_; rintro e w2 ⟨rfl, hb2⟩)
      go_ret
      exact ⟨rfl, hb2⟩
end Go.Proofs.YtdpcjgjegeiemaaDoor
