/-
  The contract of the reference's Diff of layer 53.
-/
import Derived.Test.YtlgbdigpjobpoaaEdRef4
namespace Go.Proofs.Ytlgbdigpjobpoaa.Ed
open Go.RowKit
set_option linter.unusedVariables false

/-- The call returns an edit (its list in new memory), all old memory as it was. -/
def GivesEdit (a d : Int) (ins : List Int) (w : World) (e : Ending) (w' : World) : Prop :=
  ∃ A n c, e = .returned (.agg #[.int .i64 a, .int .i64 d, .slice A n c]) ∧ Sl w' A n c 1 (ints ins) ∧ Below w.heap.size w w'

theorem undrewN {B k : Nat} {w w' : World} (h : Below B (w.drewN k) w') : Below B w w' := ⟨h.os, h.tape, h.output, h.size, h.block⟩
theorem wp_built {P : Program} {o : Oper} {a : Act} {w : World} {K : Act → World → Prop} {Q : Exit → Act → World → Prop} (t : TypeId) (parts : Array (Nat × Operand)) (ho : o.op = .build t parts) (cells : Array Value) (hc : P.built t (parts.map fun (i, x) => (i, a.eval x)).toList = some cells) (h : K (a.put o.dst (.agg cells)) w) : o.wp P a w K Q := wp_build t parts ho (by rw [hc]; rfl) (by rw [hc]; exact h)

set_option maxRecDepth 100000 in
set_option maxHeartbeats 2000000 in
theorem ref_diff_any (A B : Option Addr) (n m c f : Nat) (xs ys : List Int) (w : World) (hx : Sl w A n c 1 (ints xs)) (hy : Sl w B m f 1 (ints ys)) (hn : n ≤ 100000) (hm : m ≤ 100000) :
    Calls Try.prog 24 #[.slice A n c, .slice B m f] w (GivesEdit (pre xs ys) (n - suf xs ys - pre xs ys) ((ys.drop (pre xs ys)).take (m - suf xs ys - pre xs ys)) w) := by
  have hcx := hx.cap
  have hmx := hx.max
  have hcy := hy.cap
  have hmy := hy.max
  have HN := Lib.hid hx.count
  have HM := Lib.hid hy.count
  obtain ⟨W, hW⟩ : ∃ W, W = w.alloc (.cells #[.int .i64 0, .int .i64 0, .slice none 0 0] 24) := ⟨_, rfl⟩
  have bW : Below w.heap.size w W := by rw [hW]; exact (Below.refl _ _).alloc (Nat.le_refl _) _
  have gW : W.heap[w.heap.size]? = some (.cells #[.int .i64 0, .int .i64 0, .slice none 0 0] 24 (0, 0)) := by rw [hW]; exact heap_alloc_new w _
  have sW : w.heap.size < W.heap.size := by rw [hW]; simp
  have hxW := hx.keep bW
  have hyW := hy.keep bW
  have HW := Lib.hid hW
  clear hW hx hy
  go_enter Try.func24, Try.ntmps24
  go_wp2_with fail
  go_loopw [5] (fun i wr => ∃ k : Nat, k ≤ n ∧ k ≤ m ∧ i = .int .i64 k ∧ Drawn W wr ∧ Hid (pre xs ys = k + pre (xs.drop k) (ys.drop k))) (fun i _ => n - (intOf i).toNat)
  case atStart => exact ⟨0, by omega, by omega, rfl, ⟨0, HW.out.symm⟩, Lib.hid (by simp)⟩
  case round =>
    obtain ⟨k, hk1, hk2, rfl, hd, HK⟩ := hrel
    have hway : (k < n ∧ k < m ∧ xs.getD k 0 = ys.getD k 0) ∨ (k < n ∧ k < m ∧ ¬ xs.getD k 0 = ys.getD k 0) ∨ (n ≤ k) ∨ (k < n ∧ m ≤ k) := by omega
    rcases hway with ⟨l1, l2, he⟩ | hexit
    · obtain ⟨b1, o1, rfl, _, c1⟩ := (hxW.drawn hd).int_at l1
      obtain ⟨b2, o2, rfl, _, c2⟩ := (hyW.drawn hd).int_at l2
      have HS := Lib.hid (pre_step (xs := xs) (ys := ys) (k := k) (by rw [← HN.out]; exact l1) (by rw [← HM.out]; exact l2) he)
      obtain ⟨x, hxk⟩ : ∃ x, xs.getD k 0 = x := ⟨_, rfl⟩
      obtain ⟨y, hyk⟩ : ∃ y, ys.getD k 0 = y := ⟨_, rfl⟩
      rw [hxk] at c1
      rw [hyk] at c2
      have q : (x == y) = true := by rw [← hxk, ← hyk, he]; exact beq_self_eq_true _
      clear hxk hyk he
      go_wp2_with fail
      go_quiet (fail)
      go_wp2_with fail
      go_roundw
      case rel => exact ⟨k + 1, by omega, by omega, by go_num, hd.more _, Lib.hid (by rw [HK.out, HS.out]; omega)⟩
      case measure => simp [intOf]; omega
    · have HP : Hid (pre xs ys = k) := Lib.hid (by
        rw [HK.out]
        rcases hexit with ⟨l1, l2, he⟩ | h | ⟨_, h⟩
        · rw [pre_differ (by rw [← HN.out]; exact l1) (by rw [← HM.out]; exact l2) he]; omega
        · rw [pre_end (.inl (by rw [← HN.out]; exact h))]; omega
        · rw [pre_end (.inr (by rw [← HM.out]; exact h))]; omega)
      rcases hexit with ⟨l1, l2, he⟩ | hexit
      · obtain ⟨b1, o1, rfl, _, c1⟩ := (hxW.drawn hd).int_at l1
        obtain ⟨b2, o2, rfl, _, c2⟩ := (hyW.drawn hd).int_at l2
        obtain ⟨x, hxk⟩ : ∃ x, xs.getD k 0 = x := ⟨_, rfl⟩
        obtain ⟨y, hyk⟩ : ∃ y, ys.getD k 0 = y := ⟨_, rfl⟩
        rw [hxk] at c1
        rw [hyk] at c2
        have q : (x == y) = false := by rw [beq_eq_false_iff_ne, ← hxk, ← hyk]; exact he
        clear hxk hyk he
        go_wp2_with fail
        go_quiet (fail)
        go_wp2_with fail
        go_loopw [6] (fun i wr => ∃ e : Nat, k + e ≤ n ∧ k + e ≤ m ∧ i = .int .i64 e ∧ Drawn W wr ∧ Hid (suf xs ys = e + pre ((xs.drop k).reverse.drop e) ((ys.drop k).reverse.drop e))) (fun i _ => n - (intOf i).toNat)
        case atStart => exact ⟨0, by omega, by omega, rfl, hd.more _, Lib.hid (by unfold suf; rw [HP.out]; simp)⟩
        case round =>
          obtain ⟨e, he1, he2, rfl, hd2, HE⟩ := hrel
          have w1 : IntKind.i64.wrap ((k : Int) + (e : Int)) = (k : Int) + (e : Int) := IntWalk.i64_in _ (by omega)
          have hway2 : (k + e < n ∧ k + e < m ∧ xs.getD (n - 1 - e) 0 = ys.getD (m - 1 - e) 0) ∨ (k + e < n ∧ k + e < m ∧ ¬ xs.getD (n - 1 - e) 0 = ys.getD (m - 1 - e) 0) ∨ (n ≤ k + e) ∨ (k + e < n ∧ m ≤ k + e) := by omega
          rcases hway2 with ⟨l1, l2, hxy⟩ | hexit2
          · have j1 : (k : Int) + (e : Int) < (n : Int) := by omega
            have j2 : (k : Int) + (e : Int) < (m : Int) := by omega
            obtain ⟨b1, o1, ee, _, c1⟩ := (hxW.drawn hd2).int_at (k := n - 1 - e) (by omega)
            cases ee
            obtain ⟨b2, o2, ee, _, c2⟩ := (hyW.drawn hd2).int_at (k := m - 1 - e) (by omega)
            cases ee
            have w2 : IntKind.i64.wrap ((n : Int) - 1) = (n : Int) - 1 := IntWalk.i64_in _ (by omega)
            have w3 : IntKind.i64.wrap ((n : Int) - 1 - (e : Int)) = (n : Int) - 1 - (e : Int) := IntWalk.i64_in _ (by omega)
            have w4 : IntKind.i64.wrap ((m : Int) - 1) = (m : Int) - 1 := IntWalk.i64_in _ (by omega)
            have w5 : IntKind.i64.wrap ((m : Int) - 1 - (e : Int)) = (m : Int) - 1 - (e : Int) := IntWalk.i64_in _ (by omega)
            have n1 : ((n : Int) - 1 - (e : Int)).toNat = n - 1 - e := by omega
            have n2 : ((m : Int) - 1 - (e : Int)).toNat = m - 1 - e := by omega
            have n3 : (0 : Int) ≤ (n : Int) - 1 - (e : Int) := by omega
            have n4 : (0 : Int) ≤ (m : Int) - 1 - (e : Int) := by omega
            have n5 : (n : Int) - 1 - (e : Int) < (n : Int) := by omega
            have n6 : (m : Int) - 1 - (e : Int) < (m : Int) := by omega
            have HS := Lib.hid (pre_step (xs := (xs.drop k).reverse) (ys := (ys.drop k).reverse) (k := e) (by rw [rev_length, ← HN.out]; omega) (by rw [rev_length, ← HM.out]; omega) (by rw [rev_at (by rw [← HN.out]; omega), rev_at (by rw [← HM.out]; omega), ← HN.out, ← HM.out]; exact hxy))
            obtain ⟨x, hxk⟩ : ∃ x, xs.getD (n - 1 - e) 0 = x := ⟨_, rfl⟩
            obtain ⟨y, hyk⟩ : ∃ y, ys.getD (m - 1 - e) 0 = y := ⟨_, rfl⟩
            rw [hxk] at c1
            rw [hyk] at c2
            have q2 : (x == y) = true := by rw [← hxk, ← hyk, hxy]; exact beq_self_eq_true _
            clear hxk hyk hxy
            go_wp2_with fail
            go_quiet (fail)
            clear w1 w2 w3 w4 w5 n1 n2
            go_wp2_with fail
            go_roundw
            case rel => exact ⟨e + 1, by omega, by omega, by go_num, hd2.more _, Lib.hid (by rw [HE.out, HS.out]; omega)⟩
            case measure => simp [intOf]; omega
          · have HQ : Hid (suf xs ys = e) := Lib.hid (by
              rw [HE.out]
              rcases hexit2 with ⟨l1, l2, hxy⟩ | h | ⟨_, h⟩
              · rw [pre_differ (by rw [rev_length, ← HN.out]; omega) (by rw [rev_length, ← HM.out]; omega) (by rw [rev_at (by rw [← HN.out]; omega), rev_at (by rw [← HM.out]; omega), ← HN.out, ← HM.out]; exact hxy)]; omega
              · rw [pre_end (.inl (by rw [rev_length, ← HN.out]; omega))]; omega
              · rw [pre_end (.inr (by rw [rev_length, ← HM.out]; omega))]; omega)
            have tl := ((hyW.drawn hd2).tail1 (k := k) (by omega)).head1 (k := m - e - k) (by omega)
            have v1 : (k : Int) ≤ (m : Int) - (e : Int) := by omega
            have v2 : (m : Int) - (e : Int) ≤ (f : Int) := by omega
            have v3 : ((m : Int) - (e : Int)).toNat = m - e := by omega
            have v4 : (0 : Int) ≤ (m : Int) - (e : Int) := by omega
            rcases hexit2 with ⟨l1, l2, hxy⟩ | h | ⟨h1, h⟩
            · have j1 : (k : Int) + (e : Int) < (n : Int) := by omega
              have j2 : (k : Int) + (e : Int) < (m : Int) := by omega
              obtain ⟨b1, o1, ee, _, c1⟩ := (hxW.drawn hd2).int_at (k := n - 1 - e) (by omega)
              cases ee
              obtain ⟨b2, o2, ee, _, c2⟩ := (hyW.drawn hd2).int_at (k := m - 1 - e) (by omega)
              cases ee
              have w2 : IntKind.i64.wrap ((n : Int) - 1) = (n : Int) - 1 := IntWalk.i64_in _ (by omega)
              have w3 : IntKind.i64.wrap ((n : Int) - 1 - (e : Int)) = (n : Int) - 1 - (e : Int) := IntWalk.i64_in _ (by omega)
              have w4 : IntKind.i64.wrap ((m : Int) - 1) = (m : Int) - 1 := IntWalk.i64_in _ (by omega)
              have w5 : IntKind.i64.wrap ((m : Int) - 1 - (e : Int)) = (m : Int) - 1 - (e : Int) := IntWalk.i64_in _ (by omega)
              have n1 : ((n : Int) - 1 - (e : Int)).toNat = n - 1 - e := by omega
              have n2 : ((m : Int) - 1 - (e : Int)).toNat = m - 1 - e := by omega
              have n3 : (0 : Int) ≤ (n : Int) - 1 - (e : Int) := by omega
              have n4 : (0 : Int) ≤ (m : Int) - 1 - (e : Int) := by omega
              have n5 : (n : Int) - 1 - (e : Int) < (n : Int) := by omega
              have n6 : (m : Int) - 1 - (e : Int) < (m : Int) := by omega
              obtain ⟨x, hxk⟩ : ∃ x, xs.getD (n - 1 - e) 0 = x := ⟨_, rfl⟩
              obtain ⟨y, hyk⟩ : ∃ y, ys.getD (m - 1 - e) 0 = y := ⟨_, rfl⟩
              rw [hxk] at c1
              rw [hyk] at c2
              have q2 : (x == y) = false := by rw [beq_eq_false_iff_ne, ← hxk, ← hyk]; exact hxy
              clear hxk hyk hxy
              rcases Nat.lt_or_ge k f with hkf | hkf
              · have hne : ¬ f = k := by omega
                rw [if_neg hne] at tl
                go_wp2_with fail
                go_quiet (fail)
                clear w1 w2 w3 w4 w5 n1 n2 n3 n4 n5 n6 q2 c1 c2
                go_wp2_with fail
                refine (ref_join_any none _ none 0 _ 0 0 _ 0 [] ((ys.drop k).take (m - e - k)) [] _ (Sl.nil _ _) (by first | exact tl | (simp only [Option.map_some, addr_add] at tl; exact tl) | (have e9 : m - e - k = 0 := (by omega); rw [e9] at tl ⊢; first | exact tl | (simp only [Option.map_some, addr_add] at tl; exact tl))) (Sl.nil _ _) (by omega)).mono ?_
                rintro e' w2 ⟨D, r, g, rfl, hl, hb, hf⟩
                have hb1 := undrewN hb
                have t2 := bW.trans ((hd2.below _).mono bW.size)
                have s2 := hd2.size
                have g2 := (hb1.block w.heap.size (by show w.heap.size < wr.heap.size; omega)).trans (((hd2.below (w.heap.size + 1)).block w.heap.size (by omega)).trans gW)
                obtain ⟨⟨y0, y1, y2⟩, f0, f1, f2⟩ := box3 g2
                clear s2
                go_wp2_with fail
                refine bodyPost_ret (v := .agg #[.int .i64 k, .int .i64 (n - e - k), .slice D r g]) (by simp [results, Try.results24, go_sem, y0, y1, y2]) rfl ⟨D, r, g, ?_, ?_, ?_⟩
                · rw [HP.out, HQ.out]
                · rw [List.nil_append, List.append_nil] at hl
                  rw [HP.out, HQ.out]
                  have hw : w.heap.size < wr.heap.size := by rw [hd2.size]; exact sW
                  exact ((hl.setCell hf hw _).setCell hf hw _).setCell hf hw _
                · exact (((t2.trans (hb1.mono t2.size)).setCell (Nat.le_refl _) _).setCell (Nat.le_refl _) _).setCell (Nat.le_refl _) _
              · exfalso; omega
            · have j1 : decide ((k : Int) + (e : Int) < (n : Int)) = false := by simp; omega
              rcases Nat.lt_or_ge k f with hkf | hkf
              · have hne : ¬ f = k := by omega
                rw [if_neg hne] at tl
                go_wp2_with fail
                go_quiet (fail)
                clear w1
                go_wp2_with fail
                refine (ref_join_any none _ none 0 _ 0 0 _ 0 [] ((ys.drop k).take (m - e - k)) [] _ (Sl.nil _ _) (by first | exact tl | (simp only [Option.map_some, addr_add] at tl; exact tl) | (have e9 : m - e - k = 0 := (by omega); rw [e9] at tl ⊢; first | exact tl | (simp only [Option.map_some, addr_add] at tl; exact tl))) (Sl.nil _ _) (by omega)).mono ?_
                rintro e' w2 ⟨D, r, g, rfl, hl, hb, hf⟩
                have hb1 := undrewN hb
                have b2 := bW.trans ((hd2.below _).mono bW.size)
                have s2 := hd2.size
                have g2 := (hb1.block w.heap.size (by show w.heap.size < wr.heap.size; omega)).trans (((hd2.below (w.heap.size + 1)).block w.heap.size (by omega)).trans gW)
                obtain ⟨⟨y0, y1, y2⟩, f0, f1, f2⟩ := box3 g2
                clear s2
                go_wp2_with fail
                refine bodyPost_ret (v := .agg #[.int .i64 k, .int .i64 (n - e - k), .slice D r g]) (by simp [results, Try.results24, go_sem, y0, y1, y2]) rfl ⟨D, r, g, ?_, ?_, ?_⟩
                · rw [HP.out, HQ.out]
                · rw [List.nil_append, List.append_nil] at hl
                  rw [HP.out, HQ.out]
                  have hw : w.heap.size < wr.heap.size := by rw [hd2.size]; exact sW
                  exact ((hl.setCell hf hw _).setCell hf hw _).setCell hf hw _
                · exact (((b2.trans (hb1.mono b2.size)).setCell (Nat.le_refl _) _).setCell (Nat.le_refl _) _).setCell (Nat.le_refl _) _
              · exfalso; omega
            · have j1 : (k : Int) + (e : Int) < (n : Int) := by omega
              have j2 : decide ((k : Int) + (e : Int) < (m : Int)) = false := by simp; omega
              rcases Nat.lt_or_ge k f with hkf | hkf
              · have hne : ¬ f = k := by omega
                rw [if_neg hne] at tl
                go_wp2_with fail
                go_quiet (fail)
                clear w1
                go_wp2_with fail
                refine (ref_join_any none _ none 0 _ 0 0 _ 0 [] ((ys.drop k).take (m - e - k)) [] _ (Sl.nil _ _) (by first | exact tl | (simp only [Option.map_some, addr_add] at tl; exact tl) | (have e9 : m - e - k = 0 := (by omega); rw [e9] at tl ⊢; first | exact tl | (simp only [Option.map_some, addr_add] at tl; exact tl))) (Sl.nil _ _) (by omega)).mono ?_
                rintro e' w2 ⟨D, r, g, rfl, hl, hb, hf⟩
                have hb1 := undrewN hb
                have b2 := bW.trans ((hd2.below _).mono bW.size)
                have s2 := hd2.size
                have g2 := (hb1.block w.heap.size (by show w.heap.size < wr.heap.size; omega)).trans (((hd2.below (w.heap.size + 1)).block w.heap.size (by omega)).trans gW)
                obtain ⟨⟨y0, y1, y2⟩, f0, f1, f2⟩ := box3 g2
                clear s2
                go_wp2_with fail
                refine bodyPost_ret (v := .agg #[.int .i64 k, .int .i64 (n - e - k), .slice D r g]) (by simp [results, Try.results24, go_sem, y0, y1, y2]) rfl ⟨D, r, g, ?_, ?_, ?_⟩
                · rw [HP.out, HQ.out]
                · rw [List.nil_append, List.append_nil] at hl
                  rw [HP.out, HQ.out]
                  have hw : w.heap.size < wr.heap.size := by rw [hd2.size]; exact sW
                  exact ((hl.setCell hf hw _).setCell hf hw _).setCell hf hw _
                · exact (((b2.trans (hb1.mono b2.size)).setCell (Nat.le_refl _) _).setCell (Nat.le_refl _) _).setCell (Nat.le_refl _) _
              · exfalso; omega
      · have hq : decide (k < n) = false ∨ (k < n ∧ decide (k < m) = false) := by
          rcases hexit with h | ⟨h1, h2⟩
          · exact .inl (by simp; omega)
          · exact .inr ⟨h1, by simp; omega⟩
        rcases hq with hq | ⟨hq1, hq⟩
        · go_wp2_with fail
          go_quiet (fail)
          go_wp2_with fail
          go_loopw [6] (fun i wr => ∃ e : Nat, k + e ≤ n ∧ k + e ≤ m ∧ i = .int .i64 e ∧ Drawn W wr ∧ Hid (suf xs ys = e + pre ((xs.drop k).reverse.drop e) ((ys.drop k).reverse.drop e))) (fun i _ => n - (intOf i).toNat)
          case atStart => exact ⟨0, by omega, by omega, rfl, hd.more _, Lib.hid (by unfold suf; rw [HP.out]; simp)⟩
          case round =>
            obtain ⟨e, he1, he2, rfl, hd2, HE⟩ := hrel
            have w1 : IntKind.i64.wrap ((k : Int) + (e : Int)) = (k : Int) + (e : Int) := IntWalk.i64_in _ (by omega)
            have hway2 : (k + e < n ∧ k + e < m ∧ xs.getD (n - 1 - e) 0 = ys.getD (m - 1 - e) 0) ∨ (k + e < n ∧ k + e < m ∧ ¬ xs.getD (n - 1 - e) 0 = ys.getD (m - 1 - e) 0) ∨ (n ≤ k + e) ∨ (k + e < n ∧ m ≤ k + e) := by omega
            rcases hway2 with ⟨l1, l2, hxy⟩ | hexit2
            · have j1 : (k : Int) + (e : Int) < (n : Int) := by omega
              have j2 : (k : Int) + (e : Int) < (m : Int) := by omega
              obtain ⟨b1, o1, ee, _, c1⟩ := (hxW.drawn hd2).int_at (k := n - 1 - e) (by omega)
              cases ee
              obtain ⟨b2, o2, ee, _, c2⟩ := (hyW.drawn hd2).int_at (k := m - 1 - e) (by omega)
              cases ee
              have w2 : IntKind.i64.wrap ((n : Int) - 1) = (n : Int) - 1 := IntWalk.i64_in _ (by omega)
              have w3 : IntKind.i64.wrap ((n : Int) - 1 - (e : Int)) = (n : Int) - 1 - (e : Int) := IntWalk.i64_in _ (by omega)
              have w4 : IntKind.i64.wrap ((m : Int) - 1) = (m : Int) - 1 := IntWalk.i64_in _ (by omega)
              have w5 : IntKind.i64.wrap ((m : Int) - 1 - (e : Int)) = (m : Int) - 1 - (e : Int) := IntWalk.i64_in _ (by omega)
              have n1 : ((n : Int) - 1 - (e : Int)).toNat = n - 1 - e := by omega
              have n2 : ((m : Int) - 1 - (e : Int)).toNat = m - 1 - e := by omega
              have n3 : (0 : Int) ≤ (n : Int) - 1 - (e : Int) := by omega
              have n4 : (0 : Int) ≤ (m : Int) - 1 - (e : Int) := by omega
              have n5 : (n : Int) - 1 - (e : Int) < (n : Int) := by omega
              have n6 : (m : Int) - 1 - (e : Int) < (m : Int) := by omega
              have HS := Lib.hid (pre_step (xs := (xs.drop k).reverse) (ys := (ys.drop k).reverse) (k := e) (by rw [rev_length, ← HN.out]; omega) (by rw [rev_length, ← HM.out]; omega) (by rw [rev_at (by rw [← HN.out]; omega), rev_at (by rw [← HM.out]; omega), ← HN.out, ← HM.out]; exact hxy))
              obtain ⟨x, hxk⟩ : ∃ x, xs.getD (n - 1 - e) 0 = x := ⟨_, rfl⟩
              obtain ⟨y, hyk⟩ : ∃ y, ys.getD (m - 1 - e) 0 = y := ⟨_, rfl⟩
              rw [hxk] at c1
              rw [hyk] at c2
              have q2 : (x == y) = true := by rw [← hxk, ← hyk, hxy]; exact beq_self_eq_true _
              clear hxk hyk hxy
              go_wp2_with fail
              go_quiet (fail)
              clear w1 w2 w3 w4 w5 n1 n2
              go_wp2_with fail
              go_roundw
              case rel => exact ⟨e + 1, by omega, by omega, by go_num, hd2.more _, Lib.hid (by rw [HE.out, HS.out]; omega)⟩
              case measure => simp [intOf]; omega
            · have HQ : Hid (suf xs ys = e) := Lib.hid (by
                rw [HE.out]
                rcases hexit2 with ⟨l1, l2, hxy⟩ | h | ⟨_, h⟩
                · rw [pre_differ (by rw [rev_length, ← HN.out]; omega) (by rw [rev_length, ← HM.out]; omega) (by rw [rev_at (by rw [← HN.out]; omega), rev_at (by rw [← HM.out]; omega), ← HN.out, ← HM.out]; exact hxy)]; omega
                · rw [pre_end (.inl (by rw [rev_length, ← HN.out]; omega))]; omega
                · rw [pre_end (.inr (by rw [rev_length, ← HM.out]; omega))]; omega)
              have tl := ((hyW.drawn hd2).tail1 (k := k) (by omega)).head1 (k := m - e - k) (by omega)
              have v1 : (k : Int) ≤ (m : Int) - (e : Int) := by omega
              have v2 : (m : Int) - (e : Int) ≤ (f : Int) := by omega
              have v3 : ((m : Int) - (e : Int)).toNat = m - e := by omega
              have v4 : (0 : Int) ≤ (m : Int) - (e : Int) := by omega
              rcases hexit2 with ⟨l1, l2, hxy⟩ | h | ⟨h1, h⟩
              · exfalso; have hq2 := of_decide_eq_false hq; omega
              · have j1 : decide ((k : Int) + (e : Int) < (n : Int)) = false := by simp; omega
                rcases Nat.lt_or_ge k f with hkf | hkf
                · have hne : ¬ f = k := by omega
                  rw [if_neg hne] at tl
                  go_wp2_with fail
                  go_quiet (fail)
                  clear w1
                  go_wp2_with fail
                  refine (ref_join_any none _ none 0 _ 0 0 _ 0 [] ((ys.drop k).take (m - e - k)) [] _ (Sl.nil _ _) (by first | exact tl | (simp only [Option.map_some, addr_add] at tl; exact tl) | (have e9 : m - e - k = 0 := (by omega); rw [e9] at tl ⊢; first | exact tl | (simp only [Option.map_some, addr_add] at tl; exact tl))) (Sl.nil _ _) (by omega)).mono ?_
                  rintro e' w2 ⟨D, r, g, rfl, hl, hb, hf⟩
                  have hb1 := undrewN hb
                  have b2 := bW.trans ((hd2.below _).mono bW.size)
                  have s2 := hd2.size
                  have g2 := (hb1.block w.heap.size (by show w.heap.size < wr.heap.size; omega)).trans (((hd2.below (w.heap.size + 1)).block w.heap.size (by omega)).trans gW)
                  obtain ⟨⟨y0, y1, y2⟩, f0, f1, f2⟩ := box3 g2
                  clear s2
                  go_wp2_with fail
                  refine bodyPost_ret (v := .agg #[.int .i64 k, .int .i64 (n - e - k), .slice D r g]) (by simp [results, Try.results24, go_sem, y0, y1, y2]) rfl ⟨D, r, g, ?_, ?_, ?_⟩
                  · rw [HP.out, HQ.out]
                  · rw [List.nil_append, List.append_nil] at hl
                    rw [HP.out, HQ.out]
                    have hw : w.heap.size < wr.heap.size := by rw [hd2.size]; exact sW
                    exact ((hl.setCell hf hw _).setCell hf hw _).setCell hf hw _
                  · exact (((b2.trans (hb1.mono b2.size)).setCell (Nat.le_refl _) _).setCell (Nat.le_refl _) _).setCell (Nat.le_refl _) _
                · have e0 : k = f := by omega
                  subst e0
                  rw [if_pos rfl, Nat.sub_self] at tl
                  go_wp2_with fail
                  go_quiet (fail)
                  clear w1
                  go_wp2_with fail
                  refine (ref_join_any none _ none 0 _ 0 0 _ 0 [] ((ys.drop k).take (m - e - k)) [] _ (Sl.nil _ _) (by first | exact tl | (simp only [Option.map_some, addr_add] at tl; exact tl) | (have e9 : m - e - k = 0 := (by omega); rw [e9] at tl ⊢; first | exact tl | (simp only [Option.map_some, addr_add] at tl; exact tl))) (Sl.nil _ _) (by omega)).mono ?_
                  rintro e' w2 ⟨D, r, g, rfl, hl, hb, hf⟩
                  have hb1 := undrewN hb
                  have b2 := bW.trans ((hd2.below _).mono bW.size)
                  have s2 := hd2.size
                  have g2 := (hb1.block w.heap.size (by show w.heap.size < wr.heap.size; omega)).trans (((hd2.below (w.heap.size + 1)).block w.heap.size (by omega)).trans gW)
                  obtain ⟨⟨y0, y1, y2⟩, f0, f1, f2⟩ := box3 g2
                  clear s2
                  go_wp2_with fail
                  refine bodyPost_ret (v := .agg #[.int .i64 k, .int .i64 (n - e - k), .slice D r g]) (by simp [results, Try.results24, go_sem, y0, y1, y2]) rfl ⟨D, r, g, ?_, ?_, ?_⟩
                  · rw [HP.out, HQ.out]
                  · rw [List.nil_append, List.append_nil] at hl
                    rw [HP.out, HQ.out]
                    have hw : w.heap.size < wr.heap.size := by rw [hd2.size]; exact sW
                    exact ((hl.setCell hf hw _).setCell hf hw _).setCell hf hw _
                  · exact (((b2.trans (hb1.mono b2.size)).setCell (Nat.le_refl _) _).setCell (Nat.le_refl _) _).setCell (Nat.le_refl _) _
              · exfalso; have hq2 := of_decide_eq_false hq; omega
        · go_wp2_with fail
          go_quiet (fail)
          go_wp2_with fail
          go_loopw [6] (fun i wr => ∃ e : Nat, k + e ≤ n ∧ k + e ≤ m ∧ i = .int .i64 e ∧ Drawn W wr ∧ Hid (suf xs ys = e + pre ((xs.drop k).reverse.drop e) ((ys.drop k).reverse.drop e))) (fun i _ => n - (intOf i).toNat)
          case atStart => exact ⟨0, by omega, by omega, rfl, hd.more _, Lib.hid (by unfold suf; rw [HP.out]; simp)⟩
          case round =>
            obtain ⟨e, he1, he2, rfl, hd2, HE⟩ := hrel
            have w1 : IntKind.i64.wrap ((k : Int) + (e : Int)) = (k : Int) + (e : Int) := IntWalk.i64_in _ (by omega)
            have hway2 : (k + e < n ∧ k + e < m ∧ xs.getD (n - 1 - e) 0 = ys.getD (m - 1 - e) 0) ∨ (k + e < n ∧ k + e < m ∧ ¬ xs.getD (n - 1 - e) 0 = ys.getD (m - 1 - e) 0) ∨ (n ≤ k + e) ∨ (k + e < n ∧ m ≤ k + e) := by omega
            rcases hway2 with ⟨l1, l2, hxy⟩ | hexit2
            · have j1 : (k : Int) + (e : Int) < (n : Int) := by omega
              have j2 : (k : Int) + (e : Int) < (m : Int) := by omega
              obtain ⟨b1, o1, ee, _, c1⟩ := (hxW.drawn hd2).int_at (k := n - 1 - e) (by omega)
              cases ee
              obtain ⟨b2, o2, ee, _, c2⟩ := (hyW.drawn hd2).int_at (k := m - 1 - e) (by omega)
              cases ee
              have w2 : IntKind.i64.wrap ((n : Int) - 1) = (n : Int) - 1 := IntWalk.i64_in _ (by omega)
              have w3 : IntKind.i64.wrap ((n : Int) - 1 - (e : Int)) = (n : Int) - 1 - (e : Int) := IntWalk.i64_in _ (by omega)
              have w4 : IntKind.i64.wrap ((m : Int) - 1) = (m : Int) - 1 := IntWalk.i64_in _ (by omega)
              have w5 : IntKind.i64.wrap ((m : Int) - 1 - (e : Int)) = (m : Int) - 1 - (e : Int) := IntWalk.i64_in _ (by omega)
              have n1 : ((n : Int) - 1 - (e : Int)).toNat = n - 1 - e := by omega
              have n2 : ((m : Int) - 1 - (e : Int)).toNat = m - 1 - e := by omega
              have n3 : (0 : Int) ≤ (n : Int) - 1 - (e : Int) := by omega
              have n4 : (0 : Int) ≤ (m : Int) - 1 - (e : Int) := by omega
              have n5 : (n : Int) - 1 - (e : Int) < (n : Int) := by omega
              have n6 : (m : Int) - 1 - (e : Int) < (m : Int) := by omega
              have HS := Lib.hid (pre_step (xs := (xs.drop k).reverse) (ys := (ys.drop k).reverse) (k := e) (by rw [rev_length, ← HN.out]; omega) (by rw [rev_length, ← HM.out]; omega) (by rw [rev_at (by rw [← HN.out]; omega), rev_at (by rw [← HM.out]; omega), ← HN.out, ← HM.out]; exact hxy))
              obtain ⟨x, hxk⟩ : ∃ x, xs.getD (n - 1 - e) 0 = x := ⟨_, rfl⟩
              obtain ⟨y, hyk⟩ : ∃ y, ys.getD (m - 1 - e) 0 = y := ⟨_, rfl⟩
              rw [hxk] at c1
              rw [hyk] at c2
              have q2 : (x == y) = true := by rw [← hxk, ← hyk, hxy]; exact beq_self_eq_true _
              clear hxk hyk hxy
              go_wp2_with fail
              go_quiet (fail)
              clear w1 w2 w3 w4 w5 n1 n2
              go_wp2_with fail
              go_roundw
              case rel => exact ⟨e + 1, by omega, by omega, by go_num, hd2.more _, Lib.hid (by rw [HE.out, HS.out]; omega)⟩
              case measure => simp [intOf]; omega
            · have HQ : Hid (suf xs ys = e) := Lib.hid (by
                rw [HE.out]
                rcases hexit2 with ⟨l1, l2, hxy⟩ | h | ⟨_, h⟩
                · rw [pre_differ (by rw [rev_length, ← HN.out]; omega) (by rw [rev_length, ← HM.out]; omega) (by rw [rev_at (by rw [← HN.out]; omega), rev_at (by rw [← HM.out]; omega), ← HN.out, ← HM.out]; exact hxy)]; omega
                · rw [pre_end (.inl (by rw [rev_length, ← HN.out]; omega))]; omega
                · rw [pre_end (.inr (by rw [rev_length, ← HM.out]; omega))]; omega)
              have tl := ((hyW.drawn hd2).tail1 (k := k) (by omega)).head1 (k := m - e - k) (by omega)
              have v1 : (k : Int) ≤ (m : Int) - (e : Int) := by omega
              have v2 : (m : Int) - (e : Int) ≤ (f : Int) := by omega
              have v3 : ((m : Int) - (e : Int)).toNat = m - e := by omega
              have v4 : (0 : Int) ≤ (m : Int) - (e : Int) := by omega
              rcases hexit2 with ⟨l1, l2, hxy⟩ | h | ⟨h1, h⟩
              · exfalso; have hq2 := of_decide_eq_false hq; omega
              · exfalso; have hq2 := of_decide_eq_false hq; omega
              · have j1 : (k : Int) + (e : Int) < (n : Int) := by omega
                have j2 : decide ((k : Int) + (e : Int) < (m : Int)) = false := by simp; omega
                rcases Nat.lt_or_ge k f with hkf | hkf
                · have hne : ¬ f = k := by omega
                  rw [if_neg hne] at tl
                  go_wp2_with fail
                  go_quiet (fail)
                  clear w1
                  go_wp2_with fail
                  refine (ref_join_any none _ none 0 _ 0 0 _ 0 [] ((ys.drop k).take (m - e - k)) [] _ (Sl.nil _ _) (by first | exact tl | (simp only [Option.map_some, addr_add] at tl; exact tl) | (have e9 : m - e - k = 0 := (by omega); rw [e9] at tl ⊢; first | exact tl | (simp only [Option.map_some, addr_add] at tl; exact tl))) (Sl.nil _ _) (by omega)).mono ?_
                  rintro e' w2 ⟨D, r, g, rfl, hl, hb, hf⟩
                  have hb1 := undrewN hb
                  have b2 := bW.trans ((hd2.below _).mono bW.size)
                  have s2 := hd2.size
                  have g2 := (hb1.block w.heap.size (by show w.heap.size < wr.heap.size; omega)).trans (((hd2.below (w.heap.size + 1)).block w.heap.size (by omega)).trans gW)
                  obtain ⟨⟨y0, y1, y2⟩, f0, f1, f2⟩ := box3 g2
                  clear s2
                  go_wp2_with fail
                  refine bodyPost_ret (v := .agg #[.int .i64 k, .int .i64 (n - e - k), .slice D r g]) (by simp [results, Try.results24, go_sem, y0, y1, y2]) rfl ⟨D, r, g, ?_, ?_, ?_⟩
                  · rw [HP.out, HQ.out]
                  · rw [List.nil_append, List.append_nil] at hl
                    rw [HP.out, HQ.out]
                    have hw : w.heap.size < wr.heap.size := by rw [hd2.size]; exact sW
                    exact ((hl.setCell hf hw _).setCell hf hw _).setCell hf hw _
                  · exact (((b2.trans (hb1.mono b2.size)).setCell (Nat.le_refl _) _).setCell (Nat.le_refl _) _).setCell (Nat.le_refl _) _
                · have e0 : k = f := by omega
                  subst e0
                  rw [if_pos rfl, Nat.sub_self] at tl
                  go_wp2_with fail
                  go_quiet (fail)
                  clear w1
                  go_wp2_with fail
                  refine (ref_join_any none _ none 0 _ 0 0 _ 0 [] ((ys.drop k).take (m - e - k)) [] _ (Sl.nil _ _) (by first | exact tl | (simp only [Option.map_some, addr_add] at tl; exact tl) | (have e9 : m - e - k = 0 := (by omega); rw [e9] at tl ⊢; first | exact tl | (simp only [Option.map_some, addr_add] at tl; exact tl))) (Sl.nil _ _) (by omega)).mono ?_
                  rintro e' w2 ⟨D, r, g, rfl, hl, hb, hf⟩
                  have hb1 := undrewN hb
                  have b2 := bW.trans ((hd2.below _).mono bW.size)
                  have s2 := hd2.size
                  have g2 := (hb1.block w.heap.size (by show w.heap.size < wr.heap.size; omega)).trans (((hd2.below (w.heap.size + 1)).block w.heap.size (by omega)).trans gW)
                  obtain ⟨⟨y0, y1, y2⟩, f0, f1, f2⟩ := box3 g2
                  clear s2
                  go_wp2_with fail
                  refine bodyPost_ret (v := .agg #[.int .i64 k, .int .i64 (n - e - k), .slice D r g]) (by simp [results, Try.results24, go_sem, y0, y1, y2]) rfl ⟨D, r, g, ?_, ?_, ?_⟩
                  · rw [HP.out, HQ.out]
                  · rw [List.nil_append, List.append_nil] at hl
                    rw [HP.out, HQ.out]
                    have hw : w.heap.size < wr.heap.size := by rw [hd2.size]; exact sW
                    exact ((hl.setCell hf hw _).setCell hf hw _).setCell hf hw _
                  · exact (((b2.trans (hb1.mono b2.size)).setCell (Nat.le_refl _) _).setCell (Nat.le_refl _) _).setCell (Nat.le_refl _) _
end Go.Proofs.Ytlgbdigpjobpoaa.Ed
