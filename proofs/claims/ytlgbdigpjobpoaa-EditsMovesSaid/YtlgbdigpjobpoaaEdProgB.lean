/-
  The contracts of package edits: Invert, Diff.
-/
import Derived.Test.YtlgbdigpjobpoaaEdProgA
import Derived.Test.YtlgbdigpjobpoaaEdDiff
namespace Go.Proofs.Ytlgbdigpjobpoaa.Ed
open Go.RowKit
set_option linter.unusedVariables false

theorem ppart_s {n c p q : Nat} {Q : Int} {A : Option Addr} {xs zs : List Int} (hQ : Q = (q : Int)) (hp : p ≤ q) (hq : q ≤ n) (hn : n ≤ 1000) (hz : (xs.drop p).take (q - p) = zs) (w : World) (hx : Sl w A n c 1 (ints xs)) :
    Calls Try.prog 32 #[.slice A n c, .int .i64 (p : Int), .int .i64 Q] w (ListsNew zs w) := by
  subst hQ
  exact ppart_any hp hq hn hz w hx
theorem vint {a b : Int} (h : a = b) : Value.int .i64 a = .int .i64 b := by rw [h]

set_option maxHeartbeats 1000000 in
theorem pinvert_n0 {a d : Int} {A B : Option Addr} {n m c f : Nat} {xs ys : List Int} (h : chk a d m = 1) (ha : (Lit.int .i64 a).wf = true) (hd : (Lit.int .i64 d).wf = true) (hn : n ≤ 100) (hm : m ≤ 100) (w : World) (hx : Sl w A n c 1 (ints xs)) (hy : Sl w B m f 1 (ints ys)) :
    Calls Try.prog 20 #[.agg #[.int .i64 a, .int .i64 d, .slice A n c], .slice B m f] w (EditErr 0 0 [] 1 w) := by
  have H := Lib.hid h
  have HA := Lib.hid ha
  have HD := Lib.hid hd
  clear h ha hd
  go_enter Try.func20, Try.ntmps20
  go_wp2_with fail
  refine (pcheck_y H.out HA.out HD.out (nat_wf m (by omega)) hn _).mono ?_
  rintro e w1 ⟨rfl, b1⟩
  obtain ⟨_, g1, t1, hsz⟩ := boxed2 b1
  obtain ⟨⟨y0, y1, y2⟩, f0, f1, f2⟩ := box3 g1
  clear b1 g1
  go_wp2_with fail
  refine bodyPost_ret (v := .tuple #[.agg #[.int .i64 0, .int .i64 0, .slice none 0 0], .int .i64 1]) (by simp [results, Try.results20, go_sem, y0, y1, y2]) rfl ⟨none, 0, 0, rfl, Sl.nil _ _, ?_⟩
  exact ((t1.setCell (by simp) _).setCell (by simp) _).setCell (by simp) _

set_option maxHeartbeats 1000000 in
theorem pinvert_yes {a d n m c f : Nat} {A B : Option Addr} {xs ys : List Int} (h : a + d ≤ m) (hn : n ≤ 100) (hm : m ≤ 100) {zs : List Int} (hz : (ys.drop a).take d = zs) (w : World) (hx : Sl w A n c 1 (ints xs)) (hy : Sl w B m f 1 (ints ys)) :
    Calls Try.prog 20 #[.agg #[.int .i64 (a : Int), .int .i64 (d : Int), .slice A n c], .slice B m f] w (EditErr a n zs 0 w) := by
  have H := Lib.hid ((chk_zero (a := (a : Int)) (d := (d : Int)) (s := (m : Int))).2 (by omega))
  have HZ : Hid ((ys.drop a).take (a + d - a) = zs) := Lib.hid (by rw [← hz]; congr 1; omega)
  clear hz
  go_enter Try.func20, Try.ntmps20
  go_wp2_with fail
  refine (pcheck_y H.out (nat_wf a (by omega)) (nat_wf d (by omega)) (nat_wf m (by omega)) hn _).mono ?_
  rintro e w1 ⟨rfl, b1⟩
  obtain ⟨g0, g1, t1, hsz⟩ := boxed2 b1
  obtain ⟨⟨x0, x1, x2⟩, _, _, _⟩ := box3 g0
  have hs1 : w.heap.size < w1.heap.size := by omega
  have hy1 := hy.keep t1
  clear b1
  have i5 : IntKind.i64.wrap ((a : Int) + (d : Int)) = (a : Int) + (d : Int) := IntWalk.i64_in _ (by omega)
  go_wp2_with fail
  go_region_held3 (fun W => W.cell? ⟨w.heap.size, 0, none⟩ = some (.int .i64 (a : Int)) ∧ W.cell? ⟨w.heap.size, 1, none⟩ = some (.int .i64 (d : Int)) ∧ W.cell? ⟨w.heap.size, 2, none⟩ = some (.slice A n c)) (first | exact ⟨x0, x1, x2⟩ | exact ⟨z0, z1, z2⟩ | go_keep)
    (first | (go_at_call 32; go_loud (refine (ppart_s (p := a) (q := a + d) (by omega) (by omega) (by omega) (by omega) HZ.out _ (by exact hy1)).mono ?_); rintro e w2 ⟨D, k, g, rfl, hl, hb, hf⟩; have z0 := (hb.cell (p := ⟨w.heap.size, 0, none⟩) hs1).trans x0; have z1 := (hb.cell (p := ⟨w.heap.size, 1, none⟩) hs1).trans x1; have z2 := (hb.cell (p := ⟨w.heap.size, 2, none⟩) hs1).trans x2; have g2 := (hb.block (w.heap.size + 1) hsz).trans g1; obtain ⟨⟨y0, y1, y2⟩, f0, f1, f2⟩ := box3 g2))
  clear i5
  go_wp2_with fail
  refine bodyPost_ret (v := .tuple #[.agg #[.int .i64 a, .int .i64 n, .slice D k g], .int .i64 0]) (by simp [results, Try.results20, go_sem, y0, y1, y2]) rfl ⟨D, k, g, rfl, ?_, ?_⟩
  · exact ((hl.setCell hf hsz _).setCell hf hsz _).setCell hf hsz _
  · exact (((t1.trans ((undrew hb).mono t1.size)).setCell (by simp) _).setCell (by simp) _).setCell (by simp) _

set_option maxRecDepth 100000 in
set_option maxHeartbeats 4000000 in
theorem pdiff_le (A B : Option Addr) (n m c f : Nat) (xs ys : List Int) (w : World) (hS : n ≤ m) (hx : Sl w A n c 1 (ints xs)) (hy : Sl w B m f 1 (ints ys)) (hn : n ≤ 100) (hm : m ≤ 100) :
    Calls Try.prog 23 #[.slice A n c, .slice B m f] w (GivesEdit (pre xs ys) (n - suf xs ys - pre xs ys) ((ys.drop (pre xs ys)).take (m - suf xs ys - pre xs ys)) w) := by
  have hcx := hx.cap
  have hmx := hx.max
  have hcy := hy.cap
  have hmy := hy.max
  have HN := Lib.hid hx.count
  have HM := Lib.hid hy.count
  obtain ⟨W, hW⟩ : ∃ W, W = w.alloc (.cells #[.int .i64 0, .int .i64 0, .slice none 0 0] 24) := ⟨_, rfl⟩
  have bW : Below w.heap.size w W := by rw [hW]; exact (Below.refl _ _).alloc (Nat.le_refl _) _
  have gW : W.heap[w.heap.size]? = some (.cells #[.int .i64 0, .int .i64 0, .slice none 0 0] 24 (0, 0)) := by rw [hW]; exact heap_alloc_new w _
  have sW : w.heap.size < W.heap.size := by rw [hW]; simp
  have hxW := hx.keep bW
  have hyW := hy.keep bW
  have HW := Lib.hid hW
  clear hW hx hy
  have hSi : (n : Int) ≤ (m : Int) := by omega
  go_enter Try.func23, Try.ntmps23
  go_wp2_with fail
  go_loopw [6] (fun i wr => ∃ k : Nat, k ≤ n ∧ k ≤ m ∧ i = .int .i64 k ∧ Drawn W wr ∧ Hid (pre xs ys = k + pre (xs.drop k) (ys.drop k))) (fun i _ => n - (intOf i).toNat)
  case atStart => exact ⟨0, by omega, by omega, rfl, ⟨0, HW.out.symm⟩, Lib.hid (by simp)⟩
  case round =>
    obtain ⟨k, hk1, hk2, rfl, hd, HK⟩ := hrel
    have hway : (k < n ∧ k < m ∧ xs.getD k 0 = ys.getD k 0) ∨ (k < n ∧ k < m ∧ ¬ xs.getD k 0 = ys.getD k 0) ∨ (n ≤ k) := by omega
    rcases hway with ⟨l1, l2, he⟩ | hexit
    · obtain ⟨b1, o1, rfl, _, c1⟩ := (hxW.drawn hd).int_at l1
      obtain ⟨b2, o2, rfl, _, c2⟩ := (hyW.drawn hd).int_at l2
      have HS := Lib.hid (pre_step (xs := xs) (ys := ys) (k := k) (by rw [← HN.out]; exact l1) (by rw [← HM.out]; exact l2) he)
      obtain ⟨x, hxk⟩ : ∃ x, xs.getD k 0 = x := ⟨_, rfl⟩
      obtain ⟨y, hyk⟩ : ∃ y, ys.getD k 0 = y := ⟨_, rfl⟩
      rw [hxk] at c1
      rw [hyk] at c2
      have q : (x == y) = true := by rw [← hxk, ← hyk, he]; exact beq_self_eq_true _
      clear hxk hyk he
      go_wp2_with fail
      go_quiet (fail)
      go_wp2_with fail
      go_roundw
      case rel => exact ⟨k + 1, by omega, by omega, by go_num, hd.more _, Lib.hid (by rw [HK.out, HS.out]; omega)⟩
      case measure => simp [intOf] <;> omega
    · have HP : Hid (pre xs ys = k) := Lib.hid (by
        rw [HK.out]
        rcases hexit with ⟨l1, l2, he⟩ | h
        · rw [pre_differ (by rw [← HN.out]; exact l1) (by rw [← HM.out]; exact l2) he]; omega
        · rw [pre_end (.inl (by rw [← HN.out]; exact h))]; omega)
      rcases hexit with ⟨l1, l2, he⟩ | hexit
      · obtain ⟨b1, o1, rfl, _, c1⟩ := (hxW.drawn hd).int_at l1
        obtain ⟨b2, o2, rfl, _, c2⟩ := (hyW.drawn hd).int_at l2
        obtain ⟨x, hxk⟩ : ∃ x, xs.getD k 0 = x := ⟨_, rfl⟩
        obtain ⟨y, hyk⟩ : ∃ y, ys.getD k 0 = y := ⟨_, rfl⟩
        rw [hxk] at c1
        rw [hyk] at c2
        have q : (x == y) = false := by rw [beq_eq_false_iff_ne, ← hxk, ← hyk]; exact he
        clear hxk hyk he
        go_wp2_with fail
        go_quiet (fail)
        clear c1 c2 q
        go_wp2_with fail
        go_loopw [7, 8] (fun i j wr => ∃ e p1 p2 : Nat, k + e ≤ n ∧ k + e ≤ m ∧ p1 + e = n ∧ p2 + e = m ∧ i = .int .i64 p1 ∧ j = .int .i64 p2 ∧ Drawn W wr ∧ Hid (suf xs ys = e + pre ((xs.drop k).reverse.drop e) ((ys.drop k).reverse.drop e))) (fun i _ _ => (intOf i).toNat)
        case atStart => exact ⟨0, n, m, by omega, by omega, by omega, by omega, rfl, rfl, hd.more _, Lib.hid (by unfold suf; rw [HP.out]; simp)⟩
        case round =>
          obtain ⟨e, p1, p2, he1, he2, hp1, hp2, rfl, rfl, hd2, HE⟩ := hrel
          have hway2 : (k < p1 ∧ k < p2 ∧ xs.getD (p1 - 1) 0 = ys.getD (p2 - 1) 0) ∨ (k < p1 ∧ k < p2 ∧ ¬ xs.getD (p1 - 1) 0 = ys.getD (p2 - 1) 0) ∨ (p1 ≤ k) ∨ (k < p1 ∧ p2 ≤ k) := by omega
          rcases hway2 with ⟨l1, l2, hxy⟩ | hexit2
          · have HS := Lib.hid (pre_step (xs := (xs.drop k).reverse) (ys := (ys.drop k).reverse) (k := e) (by rw [rev_length, ← HN.out]; omega) (by rw [rev_length, ← HM.out]; omega) (by rw [rev_at (by rw [← HN.out]; omega), rev_at (by rw [← HM.out]; omega), ← HN.out, ← HM.out, show n - 1 - e = p1 - 1 by omega, show m - 1 - e = p2 - 1 by omega]; exact hxy))
            obtain ⟨b1, o1, ee, _, c1⟩ := (hxW.drawn hd2).int_at (k := p1 - 1) (by omega)
            cases ee
            obtain ⟨b2, o2, ee, _, c2⟩ := (hyW.drawn hd2).int_at (k := p2 - 1) (by omega)
            cases ee
            have w2 : IntKind.i64.wrap ((p1 : Int) - 1) = (p1 : Int) - 1 := IntWalk.i64_in _ (by omega)
            have w4 : IntKind.i64.wrap ((p2 : Int) - 1) = (p2 : Int) - 1 := IntWalk.i64_in _ (by omega)
            have n1 : ((p1 : Int) - 1).toNat = p1 - 1 := by omega
            have n2 : ((p2 : Int) - 1).toNat = p2 - 1 := by omega
            have n3 : (0 : Int) ≤ (p1 : Int) - 1 := by omega
            have n4 : (0 : Int) ≤ (p2 : Int) - 1 := by omega
            have n3' : (1 : Int) ≤ (p1 : Int) := by omega
            have n4' : (1 : Int) ≤ (p2 : Int) := by omega
            have n5 : (p1 : Int) - 1 < (n : Int) := by omega
            have n6 : (p2 : Int) - 1 < (m : Int) := by omega
            obtain ⟨x, hxk⟩ : ∃ x, xs.getD (p1 - 1) 0 = x := ⟨_, rfl⟩
            obtain ⟨y, hyk⟩ : ∃ y, ys.getD (p2 - 1) 0 = y := ⟨_, rfl⟩
            rw [hxk] at c1
            rw [hyk] at c2
            have q2 : (x == y) = true := by rw [← hxk, ← hyk, hxy]; exact beq_self_eq_true _
            clear hxk hyk hxy
            go_wp2_with fail
            go_quiet (fail)
            clear w2 w4 n1 n2
            go_wp2_with fail
            go_roundw
            case rel => exact ⟨e + 1, p1 - 1, p2 - 1, by omega, by omega, by omega, by omega, vint (by omega), vint (by omega), hd2.more _, Lib.hid (by rw [HE.out, HS.out]; omega)⟩
            case measure => simp [intOf] <;> omega
          · have HQ : Hid (suf xs ys = e) := Lib.hid (by
              rw [HE.out]
              rcases hexit2 with ⟨l1, l2, hxy⟩ | h | ⟨_, h⟩
              · rw [pre_differ (by rw [rev_length, ← HN.out]; omega) (by rw [rev_length, ← HM.out]; omega) (by rw [rev_at (by rw [← HN.out]; omega), rev_at (by rw [← HM.out]; omega), ← HN.out, ← HM.out, show n - 1 - e = p1 - 1 by omega, show m - 1 - e = p2 - 1 by omega]; exact hxy)]; omega
              · rw [pre_end (.inl (by rw [rev_length, ← HN.out]; omega))]; omega
              · rw [pre_end (.inr (by rw [rev_length, ← HM.out]; omega))]; omega)
            rcases hexit2 with ⟨l1, l2, hxy⟩ | h | ⟨h1, h⟩
            · obtain ⟨b1, o1, ee, _, c1⟩ := (hxW.drawn hd2).int_at (k := p1 - 1) (by omega)
              cases ee
              obtain ⟨b2, o2, ee, _, c2⟩ := (hyW.drawn hd2).int_at (k := p2 - 1) (by omega)
              cases ee
              have w2 : IntKind.i64.wrap ((p1 : Int) - 1) = (p1 : Int) - 1 := IntWalk.i64_in _ (by omega)
              have w4 : IntKind.i64.wrap ((p2 : Int) - 1) = (p2 : Int) - 1 := IntWalk.i64_in _ (by omega)
              have n1 : ((p1 : Int) - 1).toNat = p1 - 1 := by omega
              have n2 : ((p2 : Int) - 1).toNat = p2 - 1 := by omega
              have n3 : (0 : Int) ≤ (p1 : Int) - 1 := by omega
              have n4 : (0 : Int) ≤ (p2 : Int) - 1 := by omega
              have n3' : (1 : Int) ≤ (p1 : Int) := by omega
              have n4' : (1 : Int) ≤ (p2 : Int) := by omega
              have n5 : (p1 : Int) - 1 < (n : Int) := by omega
              have n6 : (p2 : Int) - 1 < (m : Int) := by omega
              obtain ⟨x, hxk⟩ : ∃ x, xs.getD (p1 - 1) 0 = x := ⟨_, rfl⟩
              obtain ⟨y, hyk⟩ : ∃ y, ys.getD (p2 - 1) 0 = y := ⟨_, rfl⟩
              rw [hxk] at c1
              rw [hyk] at c2
              have q2 : (x == y) = false := by rw [beq_eq_false_iff_ne, ← hxk, ← hyk]; exact hxy
              clear hxk hyk hxy
              have v1 : k ≤ p2 := by omega
              have HZ : Hid ((ys.drop k).take (p2 - k) = (ys.drop (pre xs ys)).take (m - suf xs ys - pre xs ys)) := Lib.hid (by rw [HP.out, HQ.out]; congr 1; omega)
              go_wp2_with fail
              go_quiet (fail)
              clear w2 w4 n1 n2
              go_wp2_with fail
              refine (ppart_any (p := k) (q := p2) v1 (by omega) (by omega) HZ.out _ ((hyW.drawn hd2).drawn ⟨_, rfl⟩)).mono ?_
              rintro e' w2 ⟨D, r, g, rfl, hl, hb, hf⟩
              have hb1 := undrewN hb
              have t2 := bW.trans ((hd2.below _).mono bW.size)
              have s2 := hd2.size
              have g2 := (hb1.block w.heap.size (by show w.heap.size < wr.heap.size; omega)).trans (((hd2.below (w.heap.size + 1)).block w.heap.size (by omega)).trans gW)
              obtain ⟨⟨y0, y1, y2⟩, f0, f1, f2⟩ := box3 g2
              clear s2
              go_wp2_with fail
              refine bodyPost_ret (v := .agg #[.int .i64 k, .int .i64 ((p1 : Int) - k), .slice D r g]) (by simp [results, Try.results23, go_sem, y0, y1, y2]) rfl ⟨D, r, g, ?_, ?_, ?_⟩
              · rw [HP.out, HQ.out, show (n : Int) - (e : Int) - (k : Int) = (p1 : Int) - (k : Int) by omega]
              · have hw : w.heap.size < wr.heap.size := by rw [hd2.size]; exact sW
                exact ((hl.setCell hf hw _).setCell hf hw _).setCell hf hw _
              · exact (((t2.trans (hb1.mono t2.size)).setCell (Nat.le_refl _) _).setCell (Nat.le_refl _) _).setCell (Nat.le_refl _) _
            · have j1 : decide (k < p1) = false := by simp; omega
              have v1 : k ≤ p2 := by omega
              have HZ : Hid ((ys.drop k).take (p2 - k) = (ys.drop (pre xs ys)).take (m - suf xs ys - pre xs ys)) := Lib.hid (by rw [HP.out, HQ.out]; congr 1; omega)
              go_wp2_with fail
              go_quiet (fail)
              go_wp2_with fail
              refine (ppart_any (p := k) (q := p2) v1 (by omega) (by omega) HZ.out _ ((hyW.drawn hd2).drawn ⟨_, rfl⟩)).mono ?_
              rintro e' w2 ⟨D, r, g, rfl, hl, hb, hf⟩
              have hb1 := undrewN hb
              have t2 := bW.trans ((hd2.below _).mono bW.size)
              have s2 := hd2.size
              have g2 := (hb1.block w.heap.size (by show w.heap.size < wr.heap.size; omega)).trans (((hd2.below (w.heap.size + 1)).block w.heap.size (by omega)).trans gW)
              obtain ⟨⟨y0, y1, y2⟩, f0, f1, f2⟩ := box3 g2
              clear s2
              go_wp2_with fail
              refine bodyPost_ret (v := .agg #[.int .i64 k, .int .i64 ((p1 : Int) - k), .slice D r g]) (by simp [results, Try.results23, go_sem, y0, y1, y2]) rfl ⟨D, r, g, ?_, ?_, ?_⟩
              · rw [HP.out, HQ.out, show (n : Int) - (e : Int) - (k : Int) = (p1 : Int) - (k : Int) by omega]
              · have hw : w.heap.size < wr.heap.size := by rw [hd2.size]; exact sW
                exact ((hl.setCell hf hw _).setCell hf hw _).setCell hf hw _
              · exact (((t2.trans (hb1.mono t2.size)).setCell (Nat.le_refl _) _).setCell (Nat.le_refl _) _).setCell (Nat.le_refl _) _
            · exfalso; omega
      · have j0 : decide (k < n) = false := by simp; omega
        go_wp2_with fail
        go_quiet (fail)
        clear j0
        go_wp2_with fail
        go_loopw [7, 8] (fun i j wr => ∃ e p1 p2 : Nat, k + e ≤ n ∧ k + e ≤ m ∧ p1 + e = n ∧ p2 + e = m ∧ i = .int .i64 p1 ∧ j = .int .i64 p2 ∧ Drawn W wr ∧ Hid (suf xs ys = e + pre ((xs.drop k).reverse.drop e) ((ys.drop k).reverse.drop e))) (fun i _ _ => (intOf i).toNat)
        case atStart => exact ⟨0, n, m, by omega, by omega, by omega, by omega, rfl, rfl, hd.more _, Lib.hid (by unfold suf; rw [HP.out]; simp)⟩
        case round =>
          obtain ⟨e, p1, p2, he1, he2, hp1, hp2, rfl, rfl, hd2, HE⟩ := hrel
          have hway2 : (k < p1 ∧ k < p2 ∧ xs.getD (p1 - 1) 0 = ys.getD (p2 - 1) 0) ∨ (k < p1 ∧ k < p2 ∧ ¬ xs.getD (p1 - 1) 0 = ys.getD (p2 - 1) 0) ∨ (p1 ≤ k) ∨ (k < p1 ∧ p2 ≤ k) := by omega
          rcases hway2 with ⟨l1, l2, hxy⟩ | hexit2
          · have HS := Lib.hid (pre_step (xs := (xs.drop k).reverse) (ys := (ys.drop k).reverse) (k := e) (by rw [rev_length, ← HN.out]; omega) (by rw [rev_length, ← HM.out]; omega) (by rw [rev_at (by rw [← HN.out]; omega), rev_at (by rw [← HM.out]; omega), ← HN.out, ← HM.out, show n - 1 - e = p1 - 1 by omega, show m - 1 - e = p2 - 1 by omega]; exact hxy))
            obtain ⟨b1, o1, ee, _, c1⟩ := (hxW.drawn hd2).int_at (k := p1 - 1) (by omega)
            cases ee
            obtain ⟨b2, o2, ee, _, c2⟩ := (hyW.drawn hd2).int_at (k := p2 - 1) (by omega)
            cases ee
            have w2 : IntKind.i64.wrap ((p1 : Int) - 1) = (p1 : Int) - 1 := IntWalk.i64_in _ (by omega)
            have w4 : IntKind.i64.wrap ((p2 : Int) - 1) = (p2 : Int) - 1 := IntWalk.i64_in _ (by omega)
            have n1 : ((p1 : Int) - 1).toNat = p1 - 1 := by omega
            have n2 : ((p2 : Int) - 1).toNat = p2 - 1 := by omega
            have n3 : (0 : Int) ≤ (p1 : Int) - 1 := by omega
            have n4 : (0 : Int) ≤ (p2 : Int) - 1 := by omega
            have n3' : (1 : Int) ≤ (p1 : Int) := by omega
            have n4' : (1 : Int) ≤ (p2 : Int) := by omega
            have n5 : (p1 : Int) - 1 < (n : Int) := by omega
            have n6 : (p2 : Int) - 1 < (m : Int) := by omega
            obtain ⟨x, hxk⟩ : ∃ x, xs.getD (p1 - 1) 0 = x := ⟨_, rfl⟩
            obtain ⟨y, hyk⟩ : ∃ y, ys.getD (p2 - 1) 0 = y := ⟨_, rfl⟩
            rw [hxk] at c1
            rw [hyk] at c2
            have q2 : (x == y) = true := by rw [← hxk, ← hyk, hxy]; exact beq_self_eq_true _
            clear hxk hyk hxy
            go_wp2_with fail
            go_quiet (fail)
            clear w2 w4 n1 n2
            go_wp2_with fail
            go_roundw
            case rel => exact ⟨e + 1, p1 - 1, p2 - 1, by omega, by omega, by omega, by omega, vint (by omega), vint (by omega), hd2.more _, Lib.hid (by rw [HE.out, HS.out]; omega)⟩
            case measure => simp [intOf] <;> omega
          · have HQ : Hid (suf xs ys = e) := Lib.hid (by
              rw [HE.out]
              rcases hexit2 with ⟨l1, l2, hxy⟩ | h | ⟨_, h⟩
              · rw [pre_differ (by rw [rev_length, ← HN.out]; omega) (by rw [rev_length, ← HM.out]; omega) (by rw [rev_at (by rw [← HN.out]; omega), rev_at (by rw [← HM.out]; omega), ← HN.out, ← HM.out, show n - 1 - e = p1 - 1 by omega, show m - 1 - e = p2 - 1 by omega]; exact hxy)]; omega
              · rw [pre_end (.inl (by rw [rev_length, ← HN.out]; omega))]; omega
              · rw [pre_end (.inr (by rw [rev_length, ← HM.out]; omega))]; omega)
            rcases hexit2 with ⟨l1, l2, hxy⟩ | h | ⟨h1, h⟩
            · exfalso; omega
            · have j1 : decide (k < p1) = false := by simp; omega
              have v1 : k ≤ p2 := by omega
              have HZ : Hid ((ys.drop k).take (p2 - k) = (ys.drop (pre xs ys)).take (m - suf xs ys - pre xs ys)) := Lib.hid (by rw [HP.out, HQ.out]; congr 1; omega)
              go_wp2_with fail
              go_quiet (fail)
              go_wp2_with fail
              refine (ppart_any (p := k) (q := p2) v1 (by omega) (by omega) HZ.out _ ((hyW.drawn hd2).drawn ⟨_, rfl⟩)).mono ?_
              rintro e' w2 ⟨D, r, g, rfl, hl, hb, hf⟩
              have hb1 := undrewN hb
              have t2 := bW.trans ((hd2.below _).mono bW.size)
              have s2 := hd2.size
              have g2 := (hb1.block w.heap.size (by show w.heap.size < wr.heap.size; omega)).trans (((hd2.below (w.heap.size + 1)).block w.heap.size (by omega)).trans gW)
              obtain ⟨⟨y0, y1, y2⟩, f0, f1, f2⟩ := box3 g2
              clear s2
              go_wp2_with fail
              refine bodyPost_ret (v := .agg #[.int .i64 k, .int .i64 ((p1 : Int) - k), .slice D r g]) (by simp [results, Try.results23, go_sem, y0, y1, y2]) rfl ⟨D, r, g, ?_, ?_, ?_⟩
              · rw [HP.out, HQ.out, show (n : Int) - (e : Int) - (k : Int) = (p1 : Int) - (k : Int) by omega]
              · have hw : w.heap.size < wr.heap.size := by rw [hd2.size]; exact sW
                exact ((hl.setCell hf hw _).setCell hf hw _).setCell hf hw _
              · exact (((t2.trans (hb1.mono t2.size)).setCell (Nat.le_refl _) _).setCell (Nat.le_refl _) _).setCell (Nat.le_refl _) _
            · exfalso; omega

end Go.Proofs.Ytlgbdigpjobpoaa.Ed
