/-
  The contracts as the statements want them, and that of the examples with which each statement on pools ends.
-/
import Derived.Test.YtemflmodgbheoaaSpRefP
import Derived.Test.YtemflmodgbheoaaSpOpen
namespace Go.Proofs.Ytemflmodgbheoaa.Sp
open Go.RowKit
set_option linter.unusedVariables false

def PoolIdx (p : List Int × List Int × List Int) (i : Int) (w : World) (e : Ending) (w' : World) : Prop :=
  ∃ A n ca B m cb C k cc, e = .returned (.tuple #[.agg #[.slice A n ca, .slice B m cb, .slice C k cc], .int .i64 i]) ∧ PoolIs w' A n ca B m cb C k cc p.1 p.2.1 p.2.2 ∧ Below w.heap.size w w'
theorem addP_size (q : List Int × List Int × List Int) (seq : List Int) : (addP q seq).1.length ≤ q.1.length + seq.length ∧ (addP q seq).2.1.length = q.2.1.length + 1 ∧ (addP q seq).2.2.length = q.2.2.length + 1 := by
  refine ⟨by simp only [addP, List.length_append, List.length_drop]; omega, by simp [addP], by simp [addP]⟩
theorem baseP_size (codes starts lens : List Int) : (baseP codes starts lens).1.length ≤ codes.length ∧ (baseP codes starts lens).2.1.length ≤ starts.length ∧ (baseP codes starts lens).2.2.length ≤ lens.length := by
  unfold baseP
  split <;> simp
theorem res_idx {p : List Int × List Int × List Int} {i : Nat} {v : Int} {w : World} (hi : (i : Int) = v) (h1 : p.1.length ≤ 1000) (h2 : p.2.1.length ≤ 1000) (h3 : p.2.2.length ≤ 1000) : ∀ e w', AddRes p i w e w' → PoolIdx p v w e w' := by
  rintro e w' ⟨va, vb, vc, rfl, hR, hb⟩
  obtain ⟨A, ca, B, cb, C, cc, rfl, rfl, rfl, hP, _⟩ := rows_pool hR h1 h2 h3
  subst hi
  exact ⟨A, _, ca, B, _, cb, C, _, cc, rfl, hP, hb⟩
theorem pack_x {A : Option Addr} {n c : Nat} {l : List (List Int)} {p : List Int × List Int × List Int} (w : World) (hx : LL w A n c l) (hn : n ≤ 30) (hs : ∀ x ∈ l, x.length ≤ 20) (hp : packP l = p) :
    Calls Try.prog 13 #[.slice A n c] w (PoolRes p w) := by
  subst hp
  refine (pack_any w hx hn hs).mono ?_
  rintro e w' ⟨va, vb, vc, rfl, hR, hb⟩
  have h := packP_size hs l.length (Nat.le_refl _)
  rw [List.take_length] at h
  have hc := hx.count
  obtain ⟨A, ca, B, cb, C, cc, rfl, rfl, rfl, hP, _⟩ := rows_pool hR (by omega) (by omega) (by omega)
  exact ⟨A, _, ca, B, _, cb, C, _, cc, rfl, hP, hb⟩
theorem rpack_x {A : Option Addr} {n c : Nat} {l : List (List Int)} {p : List Int × List Int × List Int} (w : World) (hx : LL w A n c l) (hn : n ≤ 30) (hs : ∀ x ∈ l, x.length ≤ 20) (hp : packP l = p) :
    Calls Try.prog 14 #[.slice A n c] w (PoolRes p w) := by
  subst hp
  exact rpack_any w hx hn hs
theorem add_x {A B C E : Option Addr} {n ca m cb k cc t ct : Nat} {codes starts lens seq : List Int} {p : List Int × List Int × List Int} {v : Int} (w : World) (hp : PoolIs w A n ca B m cb C k cc codes starts lens) (hq : Sl w E t ct 1 (ints seq)) (ht : t ≤ 20) (hn : n ≤ 900) (hm : m ≤ 900) (hk : k ≤ 900)
    (hpp : addP (baseP codes starts lens) seq = p) (hi : ((baseP codes starts lens).2.1.length : Int) = v) :
    Calls Try.prog 17 #[.agg #[.slice A n ca, .slice B m cb, .slice C k cc], .slice E t ct] w (PoolIdx p v w) := by
  have h1 := addP_size (baseP codes starts lens) seq
  have h2 := baseP_size codes starts lens
  have e1 := hp.codes.count
  have e2 := hp.starts.count
  have e3 := hp.lens.count
  have e4 := hq.count
  rw [hpp] at h1
  exact (add_any w hp hq ht p _ hpp.symm rfl).mono (res_idx hi (by omega) (by omega) (by omega))
theorem radd_x {A B C E : Option Addr} {n ca m cb k cc t ct : Nat} {codes starts lens seq : List Int} {p : List Int × List Int × List Int} {v : Int} (w : World) (hp : PoolIs w A n ca B m cb C k cc codes starts lens) (hq : Sl w E t ct 1 (ints seq)) (ht : t ≤ 20) (hn : n ≤ 900) (hm : m ≤ 900) (hk : k ≤ 900)
    (hpp : addP (baseP codes starts lens) seq = p) (hi : ((baseP codes starts lens).2.1.length : Int) = v) :
    Calls Try.prog 18 #[.agg #[.slice A n ca, .slice B m cb, .slice C k cc], .slice E t ct] w (PoolIdx p v w) := by
  have h1 := addP_size (baseP codes starts lens) seq
  have h2 := baseP_size codes starts lens
  have e1 := hp.codes.count
  have e2 := hp.starts.count
  have e3 := hp.lens.count
  have e4 := hq.count
  rw [hpp] at h1
  exact (radd_any w hp hq (by omega) p _ hpp.symm rfl).mono (res_idx hi (by omega) (by omega) (by omega))
theorem find_x {A B C E : Option Addr} {n ca m cb k cc t ct : Nat} {codes starts lens seq : List Int} {v : Int} {b : Bool} (w : World) (hp : PoolIs w A n ca B m cb C k cc codes starts lens) (hq : Sl w E t ct 1 (ints seq)) (hr : findL codes starts lens seq = (v, b)) :
    Calls Try.prog 24 #[.agg #[.slice A n ca, .slice B m cb, .slice C k cc], .slice E t ct] w (fun e w' => e = .returned (.tuple #[.int .i64 v, .bool b]) ∧ Below w.heap.size w w') := find_any w hp hq hr
theorem ll_three {w : World} {E F G : Option Addr} {a b c a' b' c' : Nat} {xs ys zs : List Int} (h1 : Sl w E a a' 1 (ints xs)) (h2 : Sl w F b b' 1 (ints ys)) (h3 : Sl w G c c' 1 (ints zs)) (T : TypeId) :
    LL (w.alloc (.cells #[.slice E a a', .slice F b b', .slice G c c'] T)) (some ⟨w.heap.size, 0, none⟩) 3 3 [xs, ys, zs] := by
  have hb : Below w.heap.size w (w.alloc (.cells #[.slice E a a', .slice F b b', .slice G c c'] T)) := (Below.refl _ _).alloc (Nat.le_refl _) _
  refine ⟨rfl, Nat.le_refl _, by omega, fun j hj => ?_⟩
  match j, hj with
  | 0, _ => exact ⟨_, 0, E, a, a', rfl, by simp, by rw [cell_of_row _ _ _ _ _ _ (heap_alloc_new w _)]; rfl, h1.keep hb⟩
  | 1, _ => exact ⟨_, 0, F, b, b', rfl, by simp, by rw [cell_of_row _ _ _ _ _ _ (heap_alloc_new w _)]; rfl, h2.keep hb⟩
  | 2, _ => exact ⟨_, 0, G, c, c', rfl, by simp, by rw [cell_of_row _ _ _ _ _ _ (heap_alloc_new w _)]; rfl, h3.keep hb⟩
theorem new_sl (w : World) (t : TypeId) (n : Nat) (zs : List Int) (h : zs.length = n) (hm : n ≤ 1000) : Sl (w.alloc (.cells (ints zs).toArray t)) (some ⟨w.heap.size, 0, none⟩) n n 1 (ints zs) :=
  Sl.built w t 1 n (ints zs) (by simp [ints, h]) (by unfold maxLen; omega)
theorem new_at (w : World) (t : TypeId) (n : Nat) (zs : List Int) (h : zs.length = n) (hm : n ≤ 1000) {g : Nat} (hg : g = w.heap.size) : Sl (w.alloc (.cells (ints zs).toArray t)) (some ⟨g, 0, none⟩) n n 1 (ints zs) := by
  rw [hg]
  exact new_sl w t n zs h hm
theorem new_ll (w : World) : LL ((((w.alloc (.cells #[.int .i64 1, .int .i64 2, .int .i64 3] 3)).alloc (.cells #[.int .i64 2, .int .i64 3, .int .i64 4] 3)).alloc (.cells #[.int .i64 3, .int .i64 4] 3)).alloc (.cells #[.slice (some ⟨w.heap.size, 0, none⟩) 3 3, .slice (some ⟨w.heap.size + 1, 0, none⟩) 3 3, .slice (some ⟨w.heap.size + 1 + 1, 0, none⟩) 2 2] 25))
    (some ⟨w.heap.size + 1 + 1 + 1, 0, none⟩) 3 3 [[1, 2, 3], [2, 3, 4], [3, 4]] := by
  have a1 := new_sl w 3 3 [1, 2, 3] rfl (by omega)
  have a2 := new_sl (w.alloc (.cells #[.int .i64 1, .int .i64 2, .int .i64 3] 3)) 3 3 [2, 3, 4] rfl (by omega)
  have a3 := new_sl ((w.alloc (.cells #[.int .i64 1, .int .i64 2, .int .i64 3] 3)).alloc (.cells #[.int .i64 2, .int .i64 3, .int .i64 4] 3)) 3 2 [3, 4] rfl (by omega)
  have h := ll_three ((a1.keep ((Below.refl _ _).alloc (Nat.le_refl _) _)).keep ((Below.refl _ _).alloc (Nat.le_refl _) _)) (a2.keep ((Below.refl _ _).alloc (Nat.le_refl _) _)) a3 25
  simp only [World.size_alloc] at h
  exact h

set_option maxRecDepth 100000 in
set_option maxHeartbeats 2000000 in
theorem alive_any (w : World) : Calls Try.prog 15 #[] w (Makes (.bool true) w) := by
  have e1 : packP [[1, 2, 3], [2, 3, 4], [3, 4]] = ([1, 2, 3, 4], [0, 1, 2], [3, 3, 2]) := by decide +kernel
  have e2 : addP (baseP [1, 2, 3, 4] [0, 1, 2] [3, 3, 2]) [5] = ([1, 2, 3, 4, 5], [0, 1, 2, 4], [3, 3, 2, 1]) := by decide +kernel
  have e3 : ((baseP [1, 2, 3, 4] [0, 1, 2] [3, 3, 2]).2.1.length : Int) = 3 := by decide +kernel
  have e4 : findL [1, 2, 3, 4] [0, 1, 2] [3, 3, 2] [2, 3] = (0, false) := by decide +kernel
  have E1 := Lib.hid e1
  have E2 := Lib.hid e2
  have E3 := Lib.hid e3
  have E4 := Lib.hid e4
  clear e1 e2 e3 e4
  have hs : ∀ x ∈ [[1, 2, 3], [2, 3, 4], [(3 : Int), 4]], x.length ≤ 20 := by decide
  have HS := Lib.hid hs
  have HL := Lib.hid (new_ll w)
  clear hs
  go_enter Try.func15, Try.ntmps15
  go_wp2_with fail
  refine (pack_x _ HL.out (by omega) HS.out E1.out).mono ?_
  rintro e w1 ⟨A, n, ca, B, m, cb, C, k, cc, rfl, hP, b1⟩
  have t1 : Below w.heap.size w w1 := (((((Below.refl _ _).alloc (Nat.le_refl _) _).alloc (by simp) _).alloc (by simp; omega) _).alloc (by simp; omega) _).trans (b1.mono (by simp; omega))
  clear b1
  have c1 : n = 4 := hP.codes.count
  have c2 : m = 3 := hP.starts.count
  have c3 : k = 3 := hP.lens.count
  subst c1 c2 c3
  have k1 := Bk.fresh t1 #[.slice A 4 ca, .slice B 3 cb, .slice C 3 cc] 27
  have hp1 := hP.keep (Below.alloc (Below.refl w1.heap.size w1) (Nat.le_refl _) (.cells #[.slice A 4 ca, .slice B 3 cb, .slice C 3 cc] 27))
  obtain ⟨x0, x1, x2⟩ := k1.three
  go_wp2_with fail
  refine (add_x _ (hp1.keep ((Below.refl _ _).alloc (Nat.le_refl _) _)) (new_at _ 3 1 [5] rfl (by omega) (by simp)) (by omega) (by omega) (by omega) (by omega) E2.out E3.out).mono ?_
  rintro e w2 ⟨A', n', ca', B', m', cb', C', k', cc', rfl, hP2, b2⟩
  have k2 := (k1.alloc _).step b2
  have hp2 := (hp1.keep ((Below.refl _ _).alloc (Nat.le_refl _) _)).keep b2
  clear x0 x1 x2 k1 hp1 b2
  have c1 : n' = 5 := hP2.codes.count
  have c2 : m' = 4 := hP2.starts.count
  have c3 : k' = 4 := hP2.lens.count
  subst c1 c2 c3
  have j2 := Bk.fresh k2.below #[.slice A' 5 ca', .slice B' 4 cb', .slice C' 4 cc'] 27
  have k3 := k2.alloc (.cells #[.slice A' 5 ca', .slice B' 4 cb', .slice C' 4 cc'] 27)
  have hp3 := hp2.keep ((Below.refl w2.heap.size w2).alloc (Nat.le_refl _) (.cells #[.slice A' 5 ca', .slice B' 4 cb', .slice C' 4 cc'] 27))
  have hq3 := hP2.keep ((Below.refl w2.heap.size w2).alloc (Nat.le_refl _) (.cells #[.slice A' 5 ca', .slice B' 4 cb', .slice C' 4 cc'] 27))
  obtain ⟨x0, x1, x2⟩ := k3.three
  go_wp2_with fail
  refine (find_x _ (hp3.keep ((Below.refl _ _).alloc (Nat.le_refl _) _)) (new_at _ 3 2 [2, 3] rfl (by omega) (by simp)) E4.out).mono ?_
  rintro e w4 ⟨rfl, b4⟩
  have k4 := (k3.alloc _).step b4
  have j4 := (j2.alloc _).step b4
  have hp4 := (hp3.keep ((Below.refl _ _).alloc (Nat.le_refl _) _)).keep b4
  have hq4 := (hq3.keep ((Below.refl _ _).alloc (Nat.le_refl _) _)).keep b4
  clear x0 x1 x2 k3 j2 hp3 hq3 b4 k2 hp2
  obtain ⟨x0, x1, x2⟩ := k4.three
  obtain ⟨y0, y1, y2⟩ := j4.three
  go_wp2_with fail
  refine (ref_equal_x (b := true) (by decide) (hp4.codes.keep ((Below.refl _ _).alloc (Nat.le_refl _) _)) (new_at _ 3 4 [1, 2, 3, 4] rfl (by omega) rfl)).mono ?_
  rintro e w5 ⟨rfl, d5⟩
  have k5 := (k4.alloc _).drawn d5
  have j5 := (j4.alloc _).drawn d5
  have hp5 := (hp4.keep ((Below.refl _ _).alloc (Nat.le_refl _) _)).keep (d5.below _)
  have hq5 := (hq4.keep ((Below.refl _ _).alloc (Nat.le_refl _) _)).keep (d5.below _)
  clear x0 x1 x2 y0 y1 y2 k4 j4 hp4 hq4 d5
  obtain ⟨x0, x1, x2⟩ := k5.three
  obtain ⟨y0, y1, y2⟩ := j5.three
  go_wp2_with fail
  refine (ref_equal_x (b := true) (by decide) (hp5.starts.keep ((Below.refl _ _).alloc (Nat.le_refl _) _)) (new_at _ 3 3 [0, 1, 2] rfl (by omega) rfl)).mono ?_
  rintro e w6 ⟨rfl, d6⟩
  have k6 := (k5.alloc _).drawn d6
  have j6 := (j5.alloc _).drawn d6
  have hq6 := (hq5.keep ((Below.refl _ _).alloc (Nat.le_refl _) _)).keep (d6.below _)
  clear x0 x1 x2 y0 y1 y2 k5 j5 hp5 hq5 d6
  obtain ⟨x0, x1, x2⟩ := k6.three
  obtain ⟨y0, y1, y2⟩ := j6.three
  go_wp2_with fail
  refine (ref_equal_x (b := true) (by decide) (hq6.codes.keep ((Below.refl _ _).alloc (Nat.le_refl _) _)) (new_at _ 3 5 [1, 2, 3, 4, 5] rfl (by omega) rfl)).mono ?_
  rintro e w7 ⟨rfl, d7⟩
  have k7 := (k6.alloc _).drawn d7
  go_wp2_with fail
  go_ret
  exact ⟨rfl, k7.below⟩
end Go.Proofs.Ytemflmodgbheoaa.Sp
