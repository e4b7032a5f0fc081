/-
  The contract of the reader's list of package image.
-/
import Derived.Test.YtkkjjhkhpibaiaaImRead
import Derived.Test.YtkkjjhkhpibaiaaMake
namespace Go.Proofs.Ytkkjjhkhpibaiaa.Im
open Go.RowKit
set_option linter.unusedVariables false

/-- Reading k numbers. -/
def rdMany : Nat → List Int → Except Int (List Int × List Int)
  | 0, l => .ok ([], l)
  | k + 1, l => match rdn 0 0 l with
    | .error c => .error c
    | .ok (x, l1) => match rdMany k l1 with
      | .error c => .error c
      | .ok (xs, l2) => .ok (x :: xs, l2)
/-- Reading a list. -/
def rdList (l : List Int) : Except Int (List Int × List Int) := match rdn 0 0 l with
  | .error c => .error c
  | .ok (n, l1) => if n < 0 ∨ (l1.length : Int) < n then .error 1 else rdMany n.toNat l1
def after (xs : List Int) : Except Int (List Int × List Int) → Except Int (List Int × List Int)
  | .error c => .error c
  | .ok (ys, l) => .ok (xs ++ ys, l)
theorem after_err {xs : List Int} {k : Nat} {l : List Int} {c : Int} (h : rdn 0 0 l = .error c) : after xs (rdMany (k + 1) l) = .error c := by simp [rdMany, h, after]
theorem after_ok {xs : List Int} {k : Nat} {l l1 : List Int} {x : Int} (h : rdn 0 0 l = .ok (x, l1)) : after xs (rdMany (k + 1) l) = after (xs ++ [x]) (rdMany k l1) := by
  simp only [rdMany, h]
  cases rdMany k l1 with
  | error c => rfl
  | ok p => simp [after]
theorem after_nil (r : Except Int (List Int × List Int)) : after [] r = r := by cases r <;> simp [after]
theorem Only.setNew {b g : Nat} {u w : World} (h : Only b u w) (hb : b < u.heap.size) (hg : u.heap.size ≤ g) (k : Nat) (v : Value) : Only b u (w.setCell ⟨g, k, none⟩ v) :=
  ⟨h.below.setCell (p := ⟨g, k, none⟩) (by show b ≤ g; omega) v, fun i hi hl => (Below.heap_setCell _ _ _ _ (by show i ≠ g; omega)).trans (h.off i hi hl)⟩
theorem Only.new {b : Nat} {u w w' : World} (h : Only b u w) (hb : b < u.heap.size) (k : Below w.heap.size w w') : Only b u w' :=
  ⟨h.below.trans (k.mono (by have := h.below.size; omega)), fun i hi hl => (k.block i (by have := h.below.size; omega)).trans (h.off i hi hl)⟩
theorem Rd.cell {w : World} {b : Nat} {l : List Int} (h : Rd w b l) : ∃ s : ByteArray, w.cell? ⟨b, 0, none⟩ = some (.string s) ∧ s.size = l.length := by
  obtain ⟨s, h1, h2⟩ := h
  exact ⟨s, by rw [cell_of_row _ _ _ _ _ _ h1]; rfl, by rw [← h2, strInts_len]⟩
theorem Rd.keep {w w' : World} {b : Nat} {l : List Int} (h : Rd w b l) {B : Nat} (hb : b < B) (k : Below B w w') : Rd w' b l := by
  obtain ⟨s, h1, h2⟩ := h
  exact ⟨s, (k.block b hb).trans h1, h2⟩
theorem Rd.lt {w : World} {b : Nat} {l : List Int} (h : Rd w b l) : b < w.heap.size := by
  obtain ⟨s, h1, h2⟩ := h
  rcases Nat.lt_or_ge b w.heap.size with h3 | h3
  · exact h3
  · rw [Array.getElem?_eq_none h3] at h1; cases h1
theorem Rd.set {w : World} {b g : Nat} {l : List Int} (h : Rd w b l) (hg : b ≠ g) (k : Nat) (v : Value) : Rd (w.setCell ⟨g, k, none⟩ v) b l := by
  obtain ⟨s, h1, h2⟩ := h
  exact ⟨s, (Below.heap_setCell _ _ _ _ hg).trans h1, h2⟩
theorem rdn_len : ∀ (l : List Int) (i u : Nat) (n : Int) (l1 : List Int), rdn i u l = .ok (n, l1) → l1.length < l.length
  | [], _, _, _, _, h => by rw [rdn] at h; cases h
  | x :: l, i, u, n, l1, h => by
    rw [rdn] at h
    split at h
    · cases h
    · split at h
      · cases h; simp
      · have := rdn_len l _ _ _ _ h
        simp only [List.length_cons]; omega

def ListRes (b : Nat) (r : Except Int (List Int × List Int)) (w : World) (e : Ending) (w' : World) : Prop := match r with
  | .ok (zs, l) => (∃ g, e = .returned (.slice (some ⟨g, 0, none⟩) zs.length zs.length) ∧ w.heap.size ≤ g ∧ Blk w' g zs) ∧ Rd w' b l ∧ Only b w w'
  | .error c => e = .panicked (stopped c) ∧ Only b w w'
theorem list_err {b : Nat} {r : Except Int (List Int × List Int)} {w w' : World} {c : Int} (h : r = .error c) (ho : Only b w w') : ListRes b r w (.panicked (stopped c)) w' := by rw [h]; exact ⟨rfl, ho⟩
theorem list_ok {b : Nat} {r : Except Int (List Int × List Int)} {w w' : World} {zs : List Int} {l : List Int} {g n : Nat} (h : r = .ok (zs, l)) (hn : zs.length = n) (hg : w.heap.size ≤ g) (hz : Blk w' g zs) (hr : Rd w' b l) (ho : Only b w w') : ListRes b r w (.returned (.slice (some ⟨g, 0, none⟩) n n)) w' := by rw [h, ← hn]; exact ⟨⟨g, rfl, hg, hz⟩, hr, ho⟩
theorem filled_set {xs : List Int} {m : Nat} (x : Int) (h : xs.length < m) : (xs ++ List.replicate (m - xs.length) 0).set xs.length x = (xs ++ [x]) ++ List.replicate (m - (xs ++ [x]).length) 0 := by
  obtain ⟨k, hk⟩ : ∃ k, m - xs.length = k + 1 := ⟨m - xs.length - 1, by omega⟩
  have e : m - (xs ++ [x]).length = k := by simp; omega
  rw [hk, e, List.set_append_right _ _ (Nat.le_refl _), Nat.sub_self, List.replicate_succ, List.set_cons_zero]
  simp

set_option maxHeartbeats 4000000 in
theorem list_any {b : Nat} {l : List Int} {r : Except Int (List Int × List Int)} (w : World) (h : Rd w b l) (hl : l.length ≤ 1000000) (hr : rdList l = r) : Calls Try.prog 40 #[.pointer (some ⟨b, 0, none⟩)] w (ListRes b r w) := by
  rw [rdList] at hr
  have hbw := h.lt
  cases hq : rdn 0 0 l with
  | error c =>
    rw [hq] at hr
    have HE : Hid (r = .error c) := Lib.hid hr.symm
    have HA := Lib.hid (rnum_any w h hq)
    clear hr hq
    go_enter Try.func40, Try.ntmps40
    go_wp2_with (first | (go_at_call 53; refine HA.out.mono ?_; rintro e w1 ⟨rfl, o1⟩; rw [stopped]))
    exact ⟨rfl, list_err HE.out o1⟩
  | ok p =>
    obtain ⟨n, l1⟩ := p
    rw [hq] at hr
    have hlen := rdn_len _ _ _ _ _ hq
    have HA := Lib.hid (rnum_any w h hq)
    obtain ⟨q, hql⟩ : ∃ q, l1.length = q := ⟨_, rfl⟩
    have hq1 : q ≤ 1000000 := by omega
    replace hr : (if n < 0 ∨ (q : Int) < n then .error 1 else rdMany n.toNat l1) = r := by rw [← hql]; exact hr
    have HQ := Lib.hid hql
    clear hq hql hlen
    by_cases hn : n < 0 ∨ (q : Int) < n
    · rw [if_pos hn] at hr
      have HE : Hid (r = .error 1) := Lib.hid hr.symm
      clear hr
      by_cases hn0 : n < 0
      · clear hn
        go_enter Try.func40, Try.ntmps40
        go_wp2_with (first | (go_at_call 53; refine HA.out.mono ?_; rintro e w1 ⟨rfl, r1, o1⟩))
        exact ⟨rfl, list_err HE.out o1⟩
      · have hn2 : (q : Int) < n := by omega
        clear hn
        go_enter Try.func40, Try.ntmps40
        go_wp2_with (first | (go_at_call 53; refine HA.out.mono ?_; rintro e w1 ⟨rfl, r1, o1⟩; obtain ⟨s, hs1, hs2⟩ := r1.cell; rw [HQ.out] at hs2))
        exact ⟨rfl, list_err HE.out o1⟩
    · rw [if_neg hn] at hr
      obtain ⟨m, rfl⟩ : ∃ m : Nat, n = (m : Int) := ⟨n.toNat, by omega⟩
      have hmq : m ≤ q := by omega
      have hm2 : ¬ q < m := by omega
      have hm3 : m ≤ 1000000 := by omega
      rw [Int.toNat_natCast] at hr
      have HR : Hid (after [] (rdMany (m - 0) l1) = r) := Lib.hid (by rw [after_nil, Nat.sub_zero]; exact hr)
      clear hr hn
      go_enter Try.func40, Try.ntmps40
      go_wp2_with (first | (go_at_call 53; refine HA.out.mono ?_; rintro e w1 ⟨rfl, r1, o1⟩; obtain ⟨s, hs1, hs2⟩ := r1.cell; rw [HQ.out] at hs2; have hb1 := r1.lt; obtain ⟨w3, hmk, hblk, hbel, hsz⟩ := run_make_ints w1 (k := (m : Int)) (n := m) rfl (by omega)))
      have hgw : w.heap.size ≤ w1.heap.size := o1.below.size
      have HO1 := Lib.hid (o1.new hbw hbel)
      have r3 := r1.keep hb1 hbel
      have HB1 := Lib.hid hblk
      obtain ⟨g, hg⟩ : ∃ g, w1.heap.size = g := ⟨_, rfl⟩
      rw [hg] at HB1 hgw hmk hb1
      rw [hg]
      clear hmk hbel hsz hblk hs1 hg HA hs2 r1 o1
      go_loopw [5, 25] (fun _ i wr => ∃ (j : Nat) (xs lr : List Int), i = .int .i64 (j : Int) ∧ j ≤ m ∧ Hid (xs.length = j) ∧ Hid (after xs (rdMany (m - j) lr) = r) ∧ Hid (Blk wr g (xs ++ List.replicate (m - xs.length) 0)) ∧ Rd wr b lr ∧ Hid (Only b w wr)) (fun _ i _ => m - (intOf i).toNat)
      case atStart => exact ⟨0, [], l1, rfl, Nat.zero_le _, Lib.hid rfl, HR, HB1, r3, HO1⟩
      case round =>
        obtain ⟨j, xs, lr, rfl, hj, HX, HR2, HB, hrd, HO⟩ := hrel
        by_cases hlt : j < m
        · cases hq : rdn 0 0 lr with
          | error c =>
            have HE : Hid (r = .error c) := Lib.hid (by
              obtain ⟨k, hk⟩ : ∃ k, m - j = k + 1 := ⟨m - j - 1, by omega⟩
              rw [← HR2.out, hk, after_err hq])
            have HA2 := Lib.hid (rnum_any _ hrd hq)
            clear hq
            go_wp2_with (first | (go_at_call 53; refine HA2.out.mono ?_; rintro e w2 ⟨rfl, o2⟩; rw [stopped]))
            exact ⟨rfl, list_err HE.out (HO.out.trans o2)⟩
          | ok p =>
            obtain ⟨x, l2⟩ := p
            have HE : Hid (after (xs ++ [x]) (rdMany (m - (j + 1)) l2) = r) := Lib.hid (by
              obtain ⟨k, hk⟩ : ∃ k, m - j = k + 1 := ⟨m - j - 1, by omega⟩
              rw [← HR2.out, hk, after_ok hq]
              congr 2
              omega)
            have HA2 := Lib.hid (rnum_any _ hrd hq)
            have HK : Hid (∀ w2, Only b wr w2 → Blk w2 g (xs ++ List.replicate (m - xs.length) 0)) := Lib.hid (fun w2 o2 => (o2.off g (by omega) HB.out.lt).trans HB.out)
            have hjl : j < (xs ++ List.replicate (m - xs.length) 0).length := by have := HX.out; simp; omega
            have HJL := Lib.hid hjl
            clear hq hjl
            go_wp2_with (first | (go_at_call 53; refine HA2.out.mono ?_; rintro e w2 ⟨rfl, r2, o2⟩; have hbk := HK.out w2 o2; have hc2 := hbk.cell HJL.out; have hf2 := hbk.free j; have HBK := Lib.hid hbk; clear hbk))
            go_roundw
            case rel => exact ⟨j + 1, xs ++ [x], l2, by push_cast; rfl, by omega, Lib.hid (by simp [HX.out]), HE, Lib.hid (by
              have := HBK.out.set j x
              rw [← HX.out, filled_set x (by rw [HX.out]; exact hlt)] at this
              rw [← HX.out]
              exact this), r2.set (by omega) _ _, Lib.hid ((HO.out.trans o2).setNew hbw hgw _ _)⟩
            case measure => simp [intOf] <;> omega
        · have i9 : ¬ ((j : Int) < (m : Int)) := by omega
          obtain rfl : j = m := by omega
          have HE : Hid (r = .ok (xs, lr) ∧ Blk wr g xs) := Lib.hid (by
            refine ⟨by rw [← HR2.out, Nat.sub_self]; simp [rdMany, after], ?_⟩
            have := HB.out
            rwa [HX.out, Nat.sub_self, List.replicate_zero, List.append_nil] at this)
          go_wp2_with fail
          go_ret
          exact list_ok HE.out.1 HX.out hgw HE.out.2 hrd HO.out
end Go.Proofs.Ytkkjjhkhpibaiaa.Im
