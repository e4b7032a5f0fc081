/-
  The contracts of splice and part of package edits.
-/
import Derived.Test.YtlgbdigpjobpoaaMake
import Derived.Deep.QuietTactic
import Derived.BigQuiet
import Derived.WalkSpells
import Derived.StillTailTactics
namespace Go.Proofs.Ytlgbdigpjobpoaa.Ed
open Go.RowKit
set_option linter.unusedVariables false

theorem sl_cut {w : World} {A : Option Addr} {n c : Nat} {zs : List Int} (h : Sl w A n c 1 (ints zs)) {k : Nat} (hk : k ≤ n) : Sl w A k k 1 (ints (zs.take k)) := by
  have h1 := h.head1 hk
  obtain ⟨e1, e2, e3, e4, e5⟩ := h1
  exact ⟨e1, Nat.le_refl _, by omega, fun e => by have := e4 e; omega, e5⟩
theorem sl_mid {w : World} {A : Option Addr} {n c : Nat} {zs : List Int} (h : Sl w A n c 1 (ints zs)) {p q : Nat} (hp : p < q) (hq : q ≤ n) : Sl w (A.map (fun x => x.add p)) (q - p) (q - p) 1 (ints ((zs.drop p).take (q - p))) :=
  sl_cut (h.tail_in (by omega)) (by omega)

set_option maxHeartbeats 1000000 in
theorem pclone_any {n c : Nat} {A : Option Addr} {xs : List Int} (hn : n ≤ 1000) (w : World) (hx : Sl w A n c 1 (ints xs)) :
    Calls Try.prog 33 #[.slice A n c] w (ListsNew xs w) := by
  rcases A with _ | A
  · have hc0 : c = 0 := hx.2.2.2.1 rfl
    have hn0 : n = 0 := by have := hx.cap; omega
    have hx0 : xs = [] := List.eq_nil_of_length_eq_zero (by rw [← hx.count]; exact hn0)
    subst hc0 hn0 hx0
    have q1 := fun (W : World) => Lib.run_eql_slice_nil (P := Try.prog) W 22 3 none 0 0 0 0 Try.underlying22
    have q2 : (none : Option Addr).isNone = true := rfl
    go_enter Try.func33, Try.ntmps33
    go_wp2_with fail
    go_ret
    exact ⟨none, 0, 0, rfl, Sl.nil _ _, Below.refl _ _, fun a ha => by cases ha⟩
  · have q1 := fun (W : World) => Lib.run_eql_slice_nil (P := Try.prog) W 22 3 (some A) n c 0 0 Try.underlying22
    have q2 : (some A).isNone = false := rfl
    go_enter Try.func33, Try.ntmps33
    go_wp2_with (at_builtin; refine wpList_append_ints rfl (.tmp 5) (.tmp 6) rfl w.heap.size _ 0 [] rfl (Own.built w w.heap.size 3 1 0 [] (Nat.le_refl _) rfl (by unfold maxLen; omega)) (some A) n c xs rfl (hx.keep ((Below.refl _ _).alloc (Nat.le_refl _) _)) n (by omega) xs rfl (by omega) (by simp) ?_; intro v1 w2 o1 hb1)
    go_ret
    obtain ⟨D, g, rfl, hl, hf⟩ := o1.sl_from
    exact ⟨D, _, g, rfl, hl, ((Below.refl _ _).alloc (Nat.le_refl _) _).trans hb1, hf⟩

set_option maxHeartbeats 1000000 in
theorem ppart_any {n c p q : Nat} {A : Option Addr} {xs zs : List Int} (hp : p ≤ q) (hq : q ≤ n) (hn : n ≤ 1000) (hz : (xs.drop p).take (q - p) = zs) (w : World) (hx : Sl w A n c 1 (ints xs)) :
    Calls Try.prog 32 #[.slice A n c, .int .i64 (p : Int), .int .i64 (q : Int)] w (ListsNew zs w) := by
  have hcx := hx.cap
  have hmx := hx.max
  have HZ := Lib.hid hz
  clear hz
  have i1 : (0 : Int) ≤ (p : Int) := by omega
  have i2 : (p : Int) ≤ (q : Int) := by omega
  have i3 : (q : Int) ≤ (n : Int) := by omega
  have i4 : (q : Int) ≤ (c : Int) := by omega
  rcases Nat.lt_or_ge p q with hpq | hpq
  · have hne : ¬ q = p := by omega
    have hs := sl_mid hx hpq hq
    rw [HZ.out] at hs
    go_enter Try.func32, Try.ntmps32
    go_wp2_with fail
    refine (pclone_any (xs := zs) (by omega) _ hs).mono ?_
    rintro e w1 ⟨D, k, g, rfl, hl, hb, hf⟩
    go_wp2_with fail
    go_ret
    exact ⟨D, k, g, rfl, hl, hb, hf⟩
  · obtain rfl : p = q := by omega
    have hzs : zs = [] := by rw [← HZ.out, Nat.sub_self, List.take_zero]
    have hs : Sl w A 0 0 1 (ints zs) := by rw [hzs]; exact sl_cut hx (Nat.zero_le _)
    go_enter Try.func32, Try.ntmps32
    go_wp2_with fail
    refine (pclone_any (xs := zs) (by omega) _ hs).mono ?_
    rintro e w1 ⟨D, k, g, rfl, hl, hb, hf⟩
    go_wp2_with fail
    go_ret
    exact ⟨D, k, g, rfl, hl, hb, hf⟩

theorem sp1 {a T : Nat} {ys : List Int} (ha : a ≤ ys.length) : ys.take a ++ List.replicate (T - a) 0 = (List.replicate T (0 : Int)).take 0 ++ ((ys.take a).take a ++ (List.replicate T 0).drop (0 + a)) := by
  rw [List.take_zero, List.nil_append, List.take_take, Nat.min_self, Nat.zero_add, List.drop_replicate]
theorem sp2 {a n T : Nat} {xs ys : List Int} (ha : a ≤ ys.length) (hn : n = xs.length) :
    ys.take a ++ (xs ++ List.replicate (T - (a + n)) 0) = (ys.take a ++ List.replicate (T - a) (0 : Int)).take a ++ (xs.take n ++ (ys.take a ++ List.replicate (T - a) 0).drop (a + n)) := by
  have hl : (ys.take a).length = a := by rw [List.length_take]; omega
  rw [List.take_left' hl, hn, List.take_length, ← List.drop_drop, List.drop_left' hl, List.drop_replicate]
  congr 3
  omega
theorem sp3 {a d n r T m : Nat} {xs ys : List Int} (h : a + d ≤ m) (hm : m = ys.length) (hn : n = xs.length) (hr : r = m - (a + d)) (hT : T = a + n + r) :
    ys.take a ++ xs ++ ys.drop (a + d) = (ys.take a ++ (xs ++ List.replicate (T - (a + n)) (0 : Int))).take (a + n) ++ ((ys.drop (a + d)).take r ++ (ys.take a ++ (xs ++ List.replicate (T - (a + n)) 0)).drop (a + n + r)) := by
  have hl : (ys.take a ++ xs).length = a + n := by rw [List.length_append, List.length_take]; omega
  have e1 : (ys.take a ++ (xs ++ List.replicate (T - (a + n)) (0 : Int))).drop (a + n + r) = [] := List.drop_eq_nil_of_le (by simp; omega)
  rw [e1, List.append_nil, ← List.append_assoc (ys.take a), List.take_left' hl, List.take_of_length_le (l := ys.drop (a + d)) (by rw [List.length_drop]; omega)]

set_option maxHeartbeats 600000 in
theorem psplice_1 {a d n m c f : Nat} {A B : Option Addr} {xs ys : List Int} (h : a + d ≤ m) (hT : m - d + n = a) (h2 : n = 0) (hn : n ≤ 100) (hm : m ≤ 100) {zs : List Int} (hz : ys.take a ++ xs ++ ys.drop (a + d) = zs) (w : World) (hx : Sl w A n c 1 (ints xs)) (hy : Sl w B m f 1 (ints ys)) :
    Calls Try.prog 29 #[.slice B m f, .int .i64 (a : Int), .int .i64 (d : Int), .slice A n c] w (ListsNew zs w) := by
  have hcy := hy.cap
  have hmy := hy.max
  have HZ := Lib.hid hz
  have HM := Lib.hid hy.count
  have HN := Lib.hid hx.count
  clear hz
  obtain ⟨T, hT'⟩ : ∃ T, m - d + n = T := ⟨_, rfl⟩
  obtain ⟨w1, hmk, hg1, hb1, hs1⟩ := run_make_ints w (k := (m : Int) - (d : Int) + (n : Int)) (n := T) (by omega) (by omega)
  have HS1 := Lib.hid hs1
  have HG1 := Lib.hid hg1
  have HT := Lib.hid hT'
  have HR : Hid (T = a + n + (m - (a + d))) := Lib.hid (by omega)
  have hx1 := hx.keep hb1
  have hy1 := sl_cut (hy.keep hb1) (k := a) (by omega)
  have hy3 := (hy.keep hb1).tail1 (k := a + d) h
  have hay : a ≤ ys.length := by have := HM.out; omega
  have ht2 : T ≤ 200 := by omega
  have i1 : (0 : Int) ≤ (a : Int) := by omega
  have i2 : (a : Int) ≤ (m : Int) := by omega
  have i3 : (m : Int) ≤ (f : Int) := by omega
  have i4 : (a : Int) ≤ (f : Int) := by omega
  have i5 : (0 : Int) ≤ (m : Int) - (d : Int) := by omega
  have j1 : (0 : Int) ≤ (a : Int) + (n : Int) := by omega
  have j3 : (0 : Int) ≤ (a : Int) + (d : Int) := by omega
  have j4 : (a : Int) + (d : Int) ≤ (m : Int) := by omega
  have j5 : (a : Int) + (d : Int) ≤ (f : Int) := by omega
  have j6 : IntKind.i64.wrap ((a : Int) + (d : Int)) = (a : Int) + (d : Int) := IntWalk.i64_in _ (by omega)
  have j7 : ((a : Int) + (d : Int)).toNat = a + d := by omega
  have j8 : ((a : Int) + (n : Int)).toNat = a + n := by omega
  have hb1s := hb1.size
  have h1 : T = a := by omega
  clear hs1 hg1 hT hT'
  subst h2
  obtain rfl : a = T := h1.symm
  have hmk' : (Instr.makeSlice 22 (.int .i64 ((m : Int) - (d : Int))) (.int .i64 ((m : Int) - (d : Int)))).run Try.prog w = .ok (.slice (some ⟨w.heap.size, 0, none⟩) a a) w1 := by
    have := hmk
    rw [Int.natCast_zero, Int.add_zero] at this
    exact this
  clear hmk
  go_enter Try.func29, Try.ntmps29
  go_wp2_with (first
    | (refine wpList_copy_ints rfl (.tmp 19) (.tmp 23) rfl _ _ _ _ _ _ rfl rfl w.heap.size 0 _ HG1.out _ hy1 a (by omega) (fun _ => rfl) (by simp <;> omega) w.heap.size w hb1 (Nat.le_refl _) _ (sp1 hay) ?_; intro w2 hg2 hb2; have hx2 := hx.keep hb2)
    | (refine wpList_copy_ints rfl (.tmp 28) (.tmp 29) rfl _ _ _ _ _ _ rfl rfl w.heap.size a _ hg2.out _ hx2 0 (by omega) (fun _ => by first | rfl | (exfalso; omega)) (by simp <;> omega) w.heap.size w hb2 (Nat.le_refl _) _ (sp2 hay HN.out) ?_; intro w3 hg3 hb3; have hy4 := (hy.keep hb3).tail1 (k := a + d) h))
  rcases Nat.lt_or_ge (a + d) f with hf1 | hf1
  · have hne : ¬ f = a + d := by omega
    have hlt5 : (a : Int) + (d : Int) < (f : Int) := by omega
    rw [if_neg hne] at hy4
    go_still_tail 8, (by kernel_rfl)
    change wpList _ _ _ _ _ w3.drew
    have HRo := HR.out
    refine wpList_copy_ints rfl (.tmp 34) (.tmp 39) rfl _ _ _ _ _ _ rfl rfl w.heap.size (a + 0) _ hg3.out _ hy4 (m - (a + d)) (by omega) (fun _ => by first | rfl | (exfalso; omega)) (by have := HM.out; have := HN.out; simp <;> omega) w.heap.size w ⟨hb3.os, hb3.tape, hb3.output, hb3.size, hb3.block⟩ (Nat.le_refl _) _ (sp3 h HM.out HN.out rfl HR.out) ?_
    intro w4 hg4 hb4
    clear HRo
    go_wp2_with fail
    go_ret
    refine ⟨_, _, _, rfl, ?_, hb4, fun a' ha => by cases ha; exact Nat.le_refl _⟩
    rw [← HZ.out]
    exact hg4.out.sl (by have := HR.out; have := HM.out; have := HN.out; simp; omega) (by unfold maxLen; omega)
  · obtain rfl : f = a + d := by omega
    rw [if_pos rfl] at hy4
    have hy5 : Sl w3 B 0 0 1 (ints (ys.drop (a + d))) := by
      rw [Nat.sub_self, show m - (a + d) = 0 by omega] at hy4
      exact hy4
    go_still_tail 8, (by kernel_rfl)
    change wpList _ _ _ _ _ w3.drew
    have HRo := HR.out
    refine wpList_copy_ints rfl (.tmp 34) (.tmp 39) rfl _ _ _ _ _ _ rfl rfl w.heap.size (a + 0) _ hg3.out _ hy5 (m - (a + d)) (by omega) (fun _ => by first | rfl | (exfalso; omega)) (by have := HM.out; have := HN.out; simp <;> omega) w.heap.size w ⟨hb3.os, hb3.tape, hb3.output, hb3.size, hb3.block⟩ (Nat.le_refl _) _ (sp3 h HM.out HN.out rfl HR.out) ?_
    intro w4 hg4 hb4
    clear HRo
    go_wp2_with fail
    go_ret
    refine ⟨_, _, _, rfl, ?_, hb4, fun a' ha => by cases ha; exact Nat.le_refl _⟩
    rw [← HZ.out]
    exact hg4.out.sl (by have := HR.out; have := HM.out; have := HN.out; simp; omega) (by unfold maxLen; omega)
set_option maxHeartbeats 600000 in
theorem psplice_2 {a d n m c f : Nat} {A B : Option Addr} {xs ys : List Int} (h : a + d ≤ m) (hT : m - d + n = a + n) (hn0 : 0 < n) (hn : n ≤ 100) (hm : m ≤ 100) {zs : List Int} (hz : ys.take a ++ xs ++ ys.drop (a + d) = zs) (w : World) (hx : Sl w A n c 1 (ints xs)) (hy : Sl w B m f 1 (ints ys)) :
    Calls Try.prog 29 #[.slice B m f, .int .i64 (a : Int), .int .i64 (d : Int), .slice A n c] w (ListsNew zs w) := by
  have hcy := hy.cap
  have hmy := hy.max
  have HZ := Lib.hid hz
  have HM := Lib.hid hy.count
  have HN := Lib.hid hx.count
  clear hz
  obtain ⟨T, hT'⟩ : ∃ T, m - d + n = T := ⟨_, rfl⟩
  obtain ⟨w1, hmk, hg1, hb1, hs1⟩ := run_make_ints w (k := (m : Int) - (d : Int) + (n : Int)) (n := T) (by omega) (by omega)
  have HS1 := Lib.hid hs1
  have HG1 := Lib.hid hg1
  have HT := Lib.hid hT'
  have HR : Hid (T = a + n + (m - (a + d))) := Lib.hid (by omega)
  have hx1 := hx.keep hb1
  have hy1 := sl_cut (hy.keep hb1) (k := a) (by omega)
  have hy3 := (hy.keep hb1).tail1 (k := a + d) h
  have hay : a ≤ ys.length := by have := HM.out; omega
  have ht2 : T ≤ 200 := by omega
  have i1 : (0 : Int) ≤ (a : Int) := by omega
  have i2 : (a : Int) ≤ (m : Int) := by omega
  have i3 : (m : Int) ≤ (f : Int) := by omega
  have i4 : (a : Int) ≤ (f : Int) := by omega
  have i5 : (0 : Int) ≤ (m : Int) - (d : Int) := by omega
  have j1 : (0 : Int) ≤ (a : Int) + (n : Int) := by omega
  have j3 : (0 : Int) ≤ (a : Int) + (d : Int) := by omega
  have j4 : (a : Int) + (d : Int) ≤ (m : Int) := by omega
  have j5 : (a : Int) + (d : Int) ≤ (f : Int) := by omega
  have j6 : IntKind.i64.wrap ((a : Int) + (d : Int)) = (a : Int) + (d : Int) := IntWalk.i64_in _ (by omega)
  have j7 : ((a : Int) + (d : Int)).toNat = a + d := by omega
  have j8 : ((a : Int) + (n : Int)).toNat = a + n := by omega
  have hb1s := hb1.size
  have h2 : T = a + n := by omega
  clear hs1 hg1 hT hT'
  subst h2
  go_enter Try.func29, Try.ntmps29
  go_wp2_with (first
    | (refine wpList_copy_ints rfl (.tmp 19) (.tmp 23) rfl _ _ _ _ _ _ rfl rfl w.heap.size 0 _ HG1.out _ hy1 a (by omega) (fun _ => rfl) (by simp <;> omega) w.heap.size w hb1 (Nat.le_refl _) _ (sp1 hay) ?_; intro w2 hg2 hb2; have hx2 := hx.keep hb2)
    | (refine wpList_copy_ints rfl (.tmp 28) (.tmp 29) rfl _ _ _ _ _ _ rfl rfl w.heap.size a _ hg2.out _ hx2 n (by omega) (fun _ => by first | rfl | (exfalso; omega)) (by simp <;> omega) w.heap.size w hb2 (Nat.le_refl _) _ (sp2 hay HN.out) ?_; intro w3 hg3 hb3; have hy4 := (hy.keep hb3).tail1 (k := a + d) h))
  rcases Nat.lt_or_ge (a + d) f with hf1 | hf1
  · have hne : ¬ f = a + d := by omega
    have hlt5 : (a : Int) + (d : Int) < (f : Int) := by omega
    rw [if_neg hne] at hy4
    go_still_tail 8, (by kernel_rfl)
    change wpList _ _ _ _ _ w3.drew
    have HRo := HR.out
    refine wpList_copy_ints rfl (.tmp 34) (.tmp 39) rfl _ _ _ _ _ _ rfl rfl w.heap.size (a + n) _ hg3.out _ hy4 (m - (a + d)) (by omega) (fun _ => by first | rfl | (exfalso; omega)) (by have := HM.out; have := HN.out; simp <;> omega) w.heap.size w ⟨hb3.os, hb3.tape, hb3.output, hb3.size, hb3.block⟩ (Nat.le_refl _) _ (sp3 h HM.out HN.out rfl HR.out) ?_
    intro w4 hg4 hb4
    clear HRo
    go_wp2_with fail
    go_ret
    refine ⟨_, _, _, rfl, ?_, hb4, fun a' ha => by cases ha; exact Nat.le_refl _⟩
    rw [← HZ.out]
    exact hg4.out.sl (by have := HR.out; have := HM.out; have := HN.out; simp; omega) (by unfold maxLen; omega)
  · obtain rfl : f = a + d := by omega
    rw [if_pos rfl] at hy4
    have hy5 : Sl w3 B 0 0 1 (ints (ys.drop (a + d))) := by
      rw [Nat.sub_self, show m - (a + d) = 0 by omega] at hy4
      exact hy4
    go_still_tail 8, (by kernel_rfl)
    change wpList _ _ _ _ _ w3.drew
    have HRo := HR.out
    refine wpList_copy_ints rfl (.tmp 34) (.tmp 39) rfl _ _ _ _ _ _ rfl rfl w.heap.size (a + n) _ hg3.out _ hy5 (m - (a + d)) (by omega) (fun _ => by first | rfl | (exfalso; omega)) (by have := HM.out; have := HN.out; simp <;> omega) w.heap.size w ⟨hb3.os, hb3.tape, hb3.output, hb3.size, hb3.block⟩ (Nat.le_refl _) _ (sp3 h HM.out HN.out rfl HR.out) ?_
    intro w4 hg4 hb4
    clear HRo
    go_wp2_with fail
    go_ret
    refine ⟨_, _, _, rfl, ?_, hb4, fun a' ha => by cases ha; exact Nat.le_refl _⟩
    rw [← HZ.out]
    exact hg4.out.sl (by have := HR.out; have := HM.out; have := HN.out; simp; omega) (by unfold maxLen; omega)
set_option maxHeartbeats 600000 in
theorem psplice_3 {a d n m c f : Nat} {A B : Option Addr} {xs ys : List Int} (h : a + d ≤ m) (hT : a + n < m - d + n) (hn : n ≤ 100) (hm : m ≤ 100) {zs : List Int} (hz : ys.take a ++ xs ++ ys.drop (a + d) = zs) (w : World) (hx : Sl w A n c 1 (ints xs)) (hy : Sl w B m f 1 (ints ys)) :
    Calls Try.prog 29 #[.slice B m f, .int .i64 (a : Int), .int .i64 (d : Int), .slice A n c] w (ListsNew zs w) := by
  have hcy := hy.cap
  have hmy := hy.max
  have HZ := Lib.hid hz
  have HM := Lib.hid hy.count
  have HN := Lib.hid hx.count
  clear hz
  obtain ⟨T, hT'⟩ : ∃ T, m - d + n = T := ⟨_, rfl⟩
  obtain ⟨w1, hmk, hg1, hb1, hs1⟩ := run_make_ints w (k := (m : Int) - (d : Int) + (n : Int)) (n := T) (by omega) (by omega)
  have HS1 := Lib.hid hs1
  have HG1 := Lib.hid hg1
  have HT := Lib.hid hT'
  have HR : Hid (T = a + n + (m - (a + d))) := Lib.hid (by omega)
  have hx1 := hx.keep hb1
  have hy1 := sl_cut (hy.keep hb1) (k := a) (by omega)
  have hy3 := (hy.keep hb1).tail1 (k := a + d) h
  have hay : a ≤ ys.length := by have := HM.out; omega
  have ht2 : T ≤ 200 := by omega
  have i1 : (0 : Int) ≤ (a : Int) := by omega
  have i2 : (a : Int) ≤ (m : Int) := by omega
  have i3 : (m : Int) ≤ (f : Int) := by omega
  have i4 : (a : Int) ≤ (f : Int) := by omega
  have i5 : (0 : Int) ≤ (m : Int) - (d : Int) := by omega
  have j1 : (0 : Int) ≤ (a : Int) + (n : Int) := by omega
  have j3 : (0 : Int) ≤ (a : Int) + (d : Int) := by omega
  have j4 : (a : Int) + (d : Int) ≤ (m : Int) := by omega
  have j5 : (a : Int) + (d : Int) ≤ (f : Int) := by omega
  have j6 : IntKind.i64.wrap ((a : Int) + (d : Int)) = (a : Int) + (d : Int) := IntWalk.i64_in _ (by omega)
  have j7 : ((a : Int) + (d : Int)).toNat = a + d := by omega
  have j8 : ((a : Int) + (n : Int)).toNat = a + n := by omega
  have hb1s := hb1.size
  have h1 : a < T := by omega
  have h2 : a + n < T := by omega
  clear hs1 hg1 hT hT'
  have h3 : (a : Int) + (n : Int) < (T : Int) := by omega
  have h4 : (a : Int) + (n : Int) ≤ (T : Int) := by omega
  have hne3 : ¬ T = a + n := by omega
  have h5 : (a : Int) ≤ (T : Int) := by omega
  go_enter Try.func29, Try.ntmps29
  go_wp2_with (first
    | (refine wpList_copy_ints rfl (.tmp 19) (.tmp 23) rfl _ _ _ _ _ _ rfl rfl w.heap.size 0 _ HG1.out _ hy1 a (by omega) (fun _ => rfl) (by simp <;> omega) w.heap.size w hb1 (Nat.le_refl _) _ (sp1 hay) ?_; intro w2 hg2 hb2; have hx2 := hx.keep hb2)
    | (refine wpList_copy_ints rfl (.tmp 28) (.tmp 29) rfl _ _ _ _ _ _ rfl rfl w.heap.size a _ hg2.out _ hx2 n (by omega) (fun _ => by first | rfl | (exfalso; omega)) (by simp <;> omega) w.heap.size w hb2 (Nat.le_refl _) _ (sp2 hay HN.out) ?_; intro w3 hg3 hb3; have hy4 := (hy.keep hb3).tail1 (k := a + d) h))
  rcases Nat.lt_or_ge (a + d) f with hf1 | hf1
  · have hne : ¬ f = a + d := by omega
    have hlt5 : (a : Int) + (d : Int) < (f : Int) := by omega
    rw [if_neg hne] at hy4
    go_still_tail 8, (by kernel_rfl)
    change wpList _ _ _ _ _ w3.drew
    have HRo := HR.out
    refine wpList_copy_ints rfl (.tmp 34) (.tmp 39) rfl _ _ _ _ _ _ rfl rfl w.heap.size (a + n) _ hg3.out _ hy4 (m - (a + d)) (by omega) (fun _ => by first | rfl | (exfalso; omega)) (by have := HM.out; have := HN.out; simp <;> omega) w.heap.size w ⟨hb3.os, hb3.tape, hb3.output, hb3.size, hb3.block⟩ (Nat.le_refl _) _ (sp3 h HM.out HN.out rfl HR.out) ?_
    intro w4 hg4 hb4
    clear HRo
    go_wp2_with fail
    go_ret
    refine ⟨_, _, _, rfl, ?_, hb4, fun a' ha => by cases ha; exact Nat.le_refl _⟩
    rw [← HZ.out]
    exact hg4.out.sl (by have := HR.out; have := HM.out; have := HN.out; simp; omega) (by unfold maxLen; omega)
  · exfalso; have := HR.out; omega
theorem psplice_any {a d n m c f : Nat} {A B : Option Addr} {xs ys : List Int} (h : a + d ≤ m) (hn : n ≤ 100) (hm : m ≤ 100) {zs : List Int} (hz : ys.take a ++ xs ++ ys.drop (a + d) = zs) (w : World) (hx : Sl w A n c 1 (ints xs)) (hy : Sl w B m f 1 (ints ys)) :
    Calls Try.prog 29 #[.slice B m f, .int .i64 (a : Int), .int .i64 (d : Int), .slice A n c] w (ListsNew zs w) := by
  have hcase : (m - d + n = a ∧ n = 0) ∨ (m - d + n = a + n ∧ 0 < n) ∨ (a + n < m - d + n) := by omega
  rcases hcase with ⟨h1, h2⟩ | ⟨h1, h2⟩ | h1
  · exact psplice_1 h h1 h2 hn hm hz w hx hy
  · exact psplice_2 h h1 h2 hn hm hz w hx hy
  · exact psplice_3 h h1 hn hm hz w hx hy
end Go.Proofs.Ytlgbdigpjobpoaa.Ed
