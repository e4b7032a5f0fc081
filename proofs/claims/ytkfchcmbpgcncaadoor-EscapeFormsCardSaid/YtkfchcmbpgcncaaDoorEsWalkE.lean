/-
  The walk of EscapeJoins.
-/
import Derived.Test.YtkfchcmbpgcncaaDoorEsWalkD
import Derived.Deep.QuietTactic
import Derived.BigQuiet
import Derived.WalkSpells
import Derived.StillTailTactics
import Derived.Laws.DeepStrings4
namespace Go.Proofs.YtkfchcmbpgcncaaDoor.Es
open Go.RowKit
set_option linter.unusedVariables false

theorem allV_join (xs ys : List Int) : allV (xs ++ ys) = (allV xs && allV ys) := by unfold allV; rw [List.all_append]
theorem join_str {xs ys : List Int} : bytesOf (textL (xs ++ ys)) = (bytesOf (textL xs)).extract 0 ((bytesOf (textL xs)).size - 1) ++ (bytesOf (textL ys)).extract 1 (bytesOf (textL ys)).size := by
  rw [textL_join, piece_end, piece_str _ _ _ (Nat.zero_le _), bytesOf_list, bytesOf_list, bytesOf_size, List.drop_zero, Nat.sub_zero]
  apply ByteArray.ext
  simp [bytesOf]
set_option maxRecDepth 100000 in
set_option maxHeartbeats 4000000 in
theorem joins_bad (s t : ByteArray) (k j : Int) (A : Option Addr) (n c : Nat) (xs : List Int) (B : Option Addr) (m d : Nat) (ys : List Int) (w : World) (he : Env w) (hl : Sl w A n c 1 (ints xs)) (hm : Sl w B m d 1 (ints ys)) (h : n ≤ 20) (h' : m ≤ 20)
    (H1 : Hid (textR xs = (s, k))) (H2 : Hid (textR ys = (t, j))) (H3 : Hid (textR (xs ++ ys) = (⟨#[]⟩, 1))) (hkj : k = 1 ∨ k = 0 ∧ j = 1) :
    Calls Tryd.prog 9 #[.slice A n c, .slice B m d] w (Makes (.bool true) w) := by
  have hcap := hl.cap
  have hmax := hl.max
  have hcap' := hm.cap
  have hmax' := hm.max
  rcases hkj with rfl | ⟨rfl, rfl⟩
  all_goals
    go_enter Tryd.func9, Tryd.ntmps9
    go_wp2_with fail
    refine (text_x H1.out _ he.tab hl (by omega)).mono ?_
    rintro e w1 ⟨rfl, b1⟩
    go_wp2_with fail
    refine (text_x H2.out _ (he.next b1).tab (hm.keep b1) (by omega)).mono ?_
    rintro e w2 ⟨rfl, b2⟩
    have he2 := (he.next b1).next b2
    have l2 := (hl.keep b1).keep b2
    have m2 := (hm.keep b1).keep b2
    have t2 := Below.then b1 b2
    clear b1 b2
    go_wp2_with (first
      | (at_builtin; refine wpList_append_ints rfl (.tmp 31) (.tmp 32) rfl w2.heap.size (.slice (some ⟨w2.heap.size, 0, none⟩) 0 0) 0 [] rfl (Own.built_at w2 w2.heap.size 3 1 0 (ints []) (Nat.le_refl _) rfl (by unfold maxLen; omega) rfl) A n c xs rfl (Sl.alloc l2 _) n (by omega) xs rfl (by omega) (by simp) ?_; intro v3 w3 o3 b3; have b3' := Below.trans ((Below.refl w2.heap.size w2).alloc (Nat.le_refl _) (.cells #[] 3)) b3)
      | (at_builtin; refine wpList_append_ints rfl (.tmp 33) (.tmp 34) rfl w2.heap.size v3 n xs rfl o3 B m d ys rfl (Sl.keep m2 b3') (n + m) rfl (xs ++ ys) rfl (by omega) b3'.size ?_; intro v4 w4 o4 b4; have b4' := Below.trans b3' b4; obtain ⟨A4, c4, rfl, l4⟩ := o4.sl))
    have he4 := he2.next b4'
    refine (text_x H3.out _ he4.tab l4 (by omega)).mono ?_
    rintro e w5 ⟨rfl, b5⟩
    go_wp2_with (go_at_call 12; refine (alive_any _ (he4.next b5)).mono ?_; rintro e w6 ⟨rfl, b6⟩)
    go_ret
    exact ⟨rfl, Below.then (Below.then (Below.then t2 b4') b5) b6⟩
set_option maxRecDepth 100000 in
set_option maxHeartbeats 4000000 in
theorem joins_ok (s t u : ByteArray) (A : Option Addr) (n c : Nat) (xs : List Int) (B : Option Addr) (m d : Nat) (ys : List Int) (w : World) (he : Env w) (hl : Sl w A n c 1 (ints xs)) (hm : Sl w B m d 1 (ints ys)) (h : n ≤ 20) (h' : m ≤ 20)
    (H1 : Hid (textR xs = (s, 0))) (H2 : Hid (textR ys = (t, 0))) (H3 : Hid (textR (xs ++ ys) = (u, 0))) (hs : 2 ≤ s.size) (hs' : s.size ≤ 1000) (ht : 2 ≤ t.size) (ht' : t.size ≤ 1000) (HU : (u.toList == (s.extract 0 (s.size - 1) ++ t.extract 1 t.size).toList) = true) :
    Calls Tryd.prog 9 #[.slice A n c, .slice B m d] w (Makes (.bool true) w) := by
  have hcap := hl.cap
  have hmax := hl.max
  have hcap' := hm.cap
  have hmax' := hm.max
  go_enter Tryd.func9, Tryd.ntmps9
  go_wp2_with fail
  refine (text_x H1.out _ he.tab hl (by omega)).mono ?_
  rintro e w1 ⟨rfl, b1⟩
  go_wp2_with fail
  refine (text_x H2.out _ (he.next b1).tab (hm.keep b1) (by omega)).mono ?_
  rintro e w2 ⟨rfl, b2⟩
  have he2 := (he.next b1).next b2
  have l2 := (hl.keep b1).keep b2
  have m2 := (hm.keep b1).keep b2
  have t2 := Below.then b1 b2
  clear b1 b2
  go_wp2_with (first
    | (at_builtin; refine wpList_append_ints rfl (.tmp 31) (.tmp 32) rfl w2.heap.size (.slice (some ⟨w2.heap.size, 0, none⟩) 0 0) 0 [] rfl (Own.built_at w2 w2.heap.size 3 1 0 (ints []) (Nat.le_refl _) rfl (by unfold maxLen; omega) rfl) A n c xs rfl (Sl.alloc l2 _) n (by omega) xs rfl (by omega) (by simp) ?_; intro v3 w3 o3 b3; have b3' := Below.trans ((Below.refl w2.heap.size w2).alloc (Nat.le_refl _) (.cells #[] 3)) b3)
    | (at_builtin; refine wpList_append_ints rfl (.tmp 33) (.tmp 34) rfl w2.heap.size v3 n xs rfl o3 B m d ys rfl (Sl.keep m2 b3') (n + m) rfl (xs ++ ys) rfl (by omega) b3'.size ?_; intro v4 w4 o4 b4; have b4' := Below.trans b3' b4; obtain ⟨A4, c4, rfl, l4⟩ := o4.sl))
  have he4 := he2.next b4'
  refine (text_x H3.out _ he4.tab l4 (by omega)).mono ?_
  rintro e w5 ⟨rfl, b5⟩
  have he5 := he4.next b5
  have t5 := Below.then (Below.then t2 b4') b5
  clear b4 b3 b3' b4' b5 o3 o4 l2 m2 t2 l4
  have hw : IntKind.i64.wrap ((s.size : Int) - 1) = (s.size : Int) - 1 := IntWalk.i64_in _ (by omega)
  have g0 : ¬ 9223372036854775807 < s.size - 1 + (t.size - 1) := by omega
  have g1 : ∀ w, (Instr.slice 9 (.string s) none (some (.int .i64 ((s.size : Int) - 1))) none).run Tryd.prog w = .ok (.string (s.extract 0 (s.size - 1))) w := fun w => by
    rw [run_slice_string_to_if w _ s _ _ Tryd.underlying9, if_pos (by omega), show ((s.size : Int) - 1).toNat = s.size - 1 by omega]
  have g2 : ∀ w, (Instr.slice 9 (.string t) (some (.int .i64 1)) none none).run Tryd.prog w = .ok (.string (t.extract 1 t.size)) w := fun w => by
    rw [run_slice_string_from_if w _ t _ _ Tryd.underlying9, if_pos (by omega)]
    rfl
  go_wp2_with fail
  go_still_tail 15, (by kernel_rfl)
  change wpList _ _ _ _ _ w5.drew
  go_wp2_with (go_at_call 12; refine (alive_any _ (he5.next ((Below.refl _ _).drew))).mono ?_; rintro e w6 ⟨rfl, b6⟩)
  go_ret
  exact ⟨rfl, Below.then (drewN_below t5 1) b6⟩
set_option maxRecDepth 100000 in
set_option maxHeartbeats 4000000 in
theorem joins_walk (A : Option Addr) (n c : Nat) (xs : List Int) (B : Option Addr) (m d : Nat) (ys : List Int) (w : World) (he : Env w) (hl : Sl w A n c 1 (ints xs)) (hm : Sl w B m d 1 (ints ys)) : Calls Tryd.prog 9 #[.slice A n c, .slice B m d] w (Makes (.bool true) w) := by
  have hcap := hl.cap
  have hmax := hl.max
  have hcap' := hm.cap
  have hmax' := hm.max
  rcases Nat.lt_or_ge 20 n with h | h
  · go_enter Tryd.func9, Tryd.ntmps9
    go_wp2_with (go_at_call 12; refine (alive_any _ he).mono ?_; rintro e w1 ⟨rfl, b1⟩)
    go_ret
    exact ⟨rfl, b1⟩
  rcases Nat.lt_or_ge 20 m with h' | h'
  · go_enter Tryd.func9, Tryd.ntmps9
    go_wp2_with (go_at_call 12; refine (alive_any _ he).mono ?_; rintro e w1 ⟨rfl, b1⟩)
    go_ret
    exact ⟨rfl, b1⟩
  have hj := allV_join xs ys
  rcases hv : allV xs with _ | _
  · rw [hv, Bool.false_and] at hj
    exact joins_bad _ _ _ _ A n c xs B m d ys w he hl hm h h' (Lib.hid (textR_bad hv)) (Lib.hid rfl) (Lib.hid (textR_bad hj)) (.inl rfl)
  rcases hv' : allV ys with _ | _
  · rw [hv', Bool.and_false] at hj
    exact joins_bad _ _ _ _ A n c xs B m d ys w he hl hm h h' (Lib.hid (textR_all hv)) (Lib.hid (textR_bad hv')) (Lib.hid (textR_bad hj)) (.inr ⟨rfl, rfl⟩)
  · rw [hv, hv', Bool.and_true] at hj
    have c1 := hl.count
    have c2 := hm.count
    have a1 := textL_asc (allV_codes hv)
    have a2 := textL_asc (allV_codes hv')
    exact joins_ok _ _ _ A n c xs B m d ys w he hl hm h h' (Lib.hid (textR_all hv)) (Lib.hid (textR_all hv')) (Lib.hid (textR_all hj)) (by rw [bytesOf_size]; exact a1.2.2) (by rw [bytesOf_size]; omega) (by rw [bytesOf_size]; exact a2.2.2) (by rw [bytesOf_size]; omega) (by rw [@join_str xs ys]; exact beq_self_eq_true _)
end Go.Proofs.YtkfchcmbpgcncaaDoor.Es
