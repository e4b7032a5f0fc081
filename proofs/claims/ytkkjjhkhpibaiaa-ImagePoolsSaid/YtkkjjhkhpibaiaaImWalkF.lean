/-
  The walk of ImagePools.
-/
import Derived.Test.YtkkjjhkhpibaiaaImReadP
import Derived.Test.YtkkjjhkhpibaiaaImWalkB
namespace Go.Proofs.Ytkkjjhkhpibaiaa.Im
open Go.RowKit Sp
set_option linter.unusedVariables false

set_option maxHeartbeats 1000000 in
theorem small_any {A B C : Option Addr} {n ca m cb k cc : Nat} {r : Bool} (w : World) (hr : decide (n ≤ 100 ∧ m ≤ 100 ∧ k ≤ 100) = r) :
    Calls Try.prog 30 #[.agg #[.slice A n ca, .slice B m cb, .slice C k cc]] w (Makes (.bool r) w) := by
  have k0 := Bk.fresh (Below.refl w.heap.size w) #[.slice A n ca, .slice B m cb, .slice C k cc] 51
  have hcase : 100 < n ∨ (n ≤ 100 ∧ 100 < m) ∨ (n ≤ 100 ∧ m ≤ 100 ∧ 100 < k) ∨ (n ≤ 100 ∧ m ≤ 100 ∧ k ≤ 100) := by omega
  rcases hcase with h1 | ⟨h1, h2⟩ | ⟨h1, h2, h3⟩ | ⟨h1, h2, h3⟩
  · have HF : Hid (r = false) := Lib.hid (by rw [← hr, decide_eq_false_iff_not]; omega)
    have q1 : ¬ (n : Int) ≤ 100 := by omega
    clear hr
    go_enter Try.func30, Try.ntmps30
    go_wp2_with fail
    go_ret
    exact makes_bool (HF.out.trans (by simp <;> omega)) k0.below
  · have HF : Hid (r = false) := Lib.hid (by rw [← hr, decide_eq_false_iff_not]; omega)
    have q1 : (n : Int) ≤ 100 := by omega
    have q2 : ¬ (m : Int) ≤ 100 := by omega
    clear hr
    go_enter Try.func30, Try.ntmps30
    go_wp2_with fail
    go_ret
    exact makes_bool (HF.out.trans (by simp <;> omega)) k0.below
  · have HF : Hid (r = false) := Lib.hid (by rw [← hr, decide_eq_false_iff_not]; omega)
    have q1 : (n : Int) ≤ 100 := by omega
    have q2 : (m : Int) ≤ 100 := by omega
    have q3 : ¬ (k : Int) ≤ 100 := by omega
    clear hr
    go_enter Try.func30, Try.ntmps30
    go_wp2_with fail
    go_ret
    exact makes_bool (HF.out.trans (by simp <;> omega)) k0.below
  · have HF : Hid (r = true) := Lib.hid (by rw [← hr, decide_eq_true_eq]; omega)
    have q1 : (n : Int) ≤ 100 := by omega
    have q2 : (m : Int) ≤ 100 := by omega
    have q3 : (k : Int) ≤ 100 := by omega
    clear hr
    go_enter Try.func30, Try.ntmps30
    go_wp2_with fail
    go_ret
    exact makes_bool (HF.out.trans (by simp <;> omega)) k0.below


set_option maxRecDepth 100000 in
set_option maxHeartbeats 2000000 in
theorem samePools_any {A B C A' B' C' : Option Addr} {n ca m cb k cc n' ca' m' cb' k' cc' : Nat} {xs ys zs : List Int} (w : World) (hp : PoolIs w A n ca B m cb C k cc xs ys zs) (hq : PoolIs w A' n' ca' B' m' cb' C' k' cc' xs ys zs) :
    Calls Try.prog 34 #[.agg #[.slice A n ca, .slice B m cb, .slice C k cc], .agg #[.slice A' n' ca', .slice B' m' cb', .slice C' k' cc']] w (Makes (.bool true) w) := by
  have k0 := (Bk.fresh (Below.refl w.heap.size w) #[.slice A n ca, .slice B m cb, .slice C k cc] 51).alloc (.cells #[.slice A' n' ca', .slice B' m' cb', .slice C' k' cc'] 51)
  have j0 := Bk.fresh_at ((Below.refl w.heap.size w).alloc (Nat.le_refl _) (.cells #[.slice A n ca, .slice B m cb, .slice C k cc] 51)) #[.slice A' n' ca', .slice B' m' cb', .slice C' k' cc'] 51 (g := w.heap.size + 1) (by simp)
  obtain ⟨x0, x1, x2⟩ := k0.three
  obtain ⟨y0, y1, y2⟩ := j0.three
  have hp0 := hp.keep k0.below
  have hq0 := hq.keep k0.below
  go_enter Try.func34, Try.ntmps34
  go_wp2_with (first
    | (go_at_call 19; ((with_reducible refine (same_any _ hp0.codes hq0.codes (decide_eq_true rfl)).mono ?_); rintro e w1 ⟨rfl, d1⟩; have b1 := d1.below ((w.alloc (.cells #[.slice A n ca, .slice B m cb, .slice C k cc] 51)).alloc (.cells #[.slice A' n' ca', .slice B' m' cb', .slice C' k' cc'] 51)).heap.size; have k1 := k0.step b1; have j1 := j0.step b1; obtain ⟨x0, x1, x2⟩ := k1.three; obtain ⟨y0, y1, y2⟩ := j1.three; have hp1 := hp0.keep b1; have hq1 := hq0.keep b1))
    | (go_at_call 19; ((with_reducible refine (same_any _ hp1.starts hq1.starts (decide_eq_true rfl)).mono ?_); rintro e w2 ⟨rfl, d2⟩; have b2 := d2.below w1.heap.size; have k2 := k1.step b2; have j2 := j1.step b2; obtain ⟨x0, x1, x2⟩ := k2.three; obtain ⟨y0, y1, y2⟩ := j2.three; have hp2 := hp1.keep b2; have hq2 := hq1.keep b2))
    | (go_at_call 19; ((with_reducible refine (same_any _ hp2.lens hq2.lens (decide_eq_true rfl)).mono ?_); rintro e w3 ⟨rfl, d3⟩; have k3 := k2.step (d3.below w2.heap.size))))
  go_ret
  exact ⟨rfl, k3.below⟩

theorem pool_reads {xs ys zs : List Int} (hx : ∀ z ∈ xs, I64 z) (hy : ∀ z ∈ ys, I64 z) (hz : ∀ z ∈ zs, I64 z) (n1 : xs.length ≤ 1000) (n2 : ys.length ≤ 1000) (n3 : zs.length ≤ 1000) :
    rdList (strInts (strOfNums (poolB xs ys zs))) = .ok (xs, intsB ys ++ intsB zs) ∧ rdList (intsB ys ++ intsB zs) = .ok (ys, intsB zs) ∧ rdList (intsB zs) = .ok (zs, []) := by
  have hr : strInts (strOfNums (poolB xs ys zs)) = poolB xs ys zs := strOf_ints (by
    intro x h
    rw [poolB] at h
    rcases List.mem_append.1 h with h | h
    · exact intsB_range hx (by omega) x h
    · rcases List.mem_append.1 h with h | h
      · exact intsB_range hy (by omega) x h
      · exact intsB_range hz (by omega) x h)
  rw [hr, poolB]
  refine ⟨rdList_of_ints hx (by omega) _, rdList_of_ints hy (by omega) _, ?_⟩
  have := rdList_of_ints hz (by omega) []
  rwa [List.append_nil] at this
theorem poolB_size {xs ys zs : List Int} (n1 : xs.length ≤ 1000) (n2 : ys.length ≤ 1000) (n3 : zs.length ≤ 1000) : (strOfNums (poolB xs ys zs)).size ≤ 100000 := by
  have h1 := intsB_len xs
  have h2 := intsB_len ys
  have h3 := intsB_len zs
  rw [strOf_size, poolB, List.length_append, List.length_append]
  omega

set_option maxRecDepth 100000 in
set_option maxHeartbeats 4000000 in
theorem pools_walk (A : Option Addr) (n ca : Nat) (B : Option Addr) (m cb : Nat) (C : Option Addr) (k cc : Nat) (xs ys zs : List Int) (W : World)
    (hA : Sl W A n ca 1 (ints xs)) (hB : Sl W B m cb 1 (ints ys)) (hC : Sl W C k cc 1 (ints zs)) (hx : ∀ z ∈ xs, I64 z) (hy : ∀ z ∈ ys, I64 z) (hz : ∀ z ∈ zs, I64 z) :
    Calls Try.prog 11 #[.agg #[.slice A n ca, .slice B m cb, .slice C k cc]] W (Makes (.bool true) W) := by
  have k0 := Bk.fresh (Below.refl W.heap.size W) #[.slice A n ca, .slice B m cb, .slice C k cc] 51
  have HX := Lib.hid hx
  have HY := Lib.hid hy
  have HZ := Lib.hid hz
  obtain ⟨r, hr⟩ : ∃ r, decide (n ≤ 100 ∧ m ≤ 100 ∧ k ≤ 100) = r := ⟨_, rfl⟩
  have HR := Lib.hid hr
  clear hr hx hy hz
  rcases r with _ | _
  · go_enter Try.func11, Try.ntmps11
    go_wp2_with (first
      | (go_at_call 30; refine (small_any _ HR.out).mono ?_; rintro e w1 ⟨rfl, b1⟩; have k1 := k0.step b1)
      | (go_at_call 15; refine (alive_any _).mono ?_; rintro e w2 ⟨rfl, b2⟩))
    go_ret
    exact ⟨rfl, (k1.step b2).below⟩
  · have hb := of_decide_eq_true HR.out
    obtain ⟨hn, hm, hk⟩ := hb
    have hp : PoolIs W A n ca B m cb C k cc xs ys zs := ⟨hA, hB, hC, by omega, by omega, by omega⟩
    have e1 := hA.count
    have e2 := hB.count
    have e3 := hC.count
    rcases hv : validL n ys zs with _ | _
    · have HP : Hid (poolOut n xs ys zs = (⟨#[]⟩, 11)) := Lib.hid (by rw [poolOut, if_neg (by rw [hv]; decide)])
      clear hv e1 e2 e3
      go_enter Try.func11, Try.ntmps11
      go_wp2_with (first
        | (go_at_call 30; refine (small_any _ HR.out).mono ?_; rintro e w1 ⟨rfl, b1⟩; have k1 := k0.step b1; obtain ⟨x0, x1, x2⟩ := k1.three)
        | (go_at_call 31; refine (pool_any _ (hp.keep k1.below) HX.out HY.out HZ.out HP.out).mono ?_; rintro e w2 ⟨rfl, b2⟩; have k2 := k1.step b2; obtain ⟨x0, x1, x2⟩ := k2.three)
        | (go_at_call 32; refine (rpool_any _ (hp.keep k2.below) HX.out HY.out HZ.out HP.out).mono ?_; rintro e w3 ⟨rfl, b3⟩; have k3 := k2.step b3)
        | (go_at_call 15; refine (alive_any _).mono ?_; rintro e w4 ⟨rfl, b4⟩))
      go_ret
      exact ⟨rfl, (k3.step b4).below⟩
    · obtain ⟨q, hq⟩ : ∃ q, sealS (strOfNums (poolB xs ys zs)) = q := ⟨_, rfl⟩
      have HP : Hid (poolOut n xs ys zs = (q, 0)) := Lib.hid (by rw [poolOut, if_pos hv, hq])
      have hbs := poolB_size (xs := xs) (ys := ys) (zs := zs) (by omega) (by omega) (by omega)
      have HO : Hid (openS q = (strOfNums (poolB xs ys zs), 0)) := Lib.hid (by rw [← hq]; exact open_sealed _)
      have HS : Hid (q.size ≤ 1000000) := Lib.hid (by rw [← hq, sealS_size]; omega)
      have HBS : Hid ((strOfNums (poolB xs ys zs)).size ≤ 1000000) := Lib.hid (by omega)
      have HRD := Lib.hid (pool_reads HX.out HY.out HZ.out (by omega) (by omega) (by omega))
      have HV : Hid (validL xs.length ys zs = true) := Lib.hid (by rw [← e1]; exact hv)
      have HN : Hid (xs.length ≤ 1000 ∧ ys.length ≤ 1000 ∧ zs.length ≤ 1000) := Lib.hid (by omega)
      have hqq := bne_no (rfl : q = q)
      clear hv hq hbs e1 e2 e3
      go_enter Try.func11, Try.ntmps11
      go_wp2_with (first
        | (go_at_call 30; refine (small_any _ HR.out).mono ?_; rintro e w1 ⟨rfl, b1⟩; have k1 := k0.step b1; obtain ⟨x0, x1, x2⟩ := k1.three)
        | (go_at_call 31; refine (pool_any _ (hp.keep k1.below) HX.out HY.out HZ.out HP.out).mono ?_; rintro e w2 ⟨rfl, b2⟩; have k2 := k1.step b2; obtain ⟨x0, x1, x2⟩ := k2.three)
        | (go_at_call 32; refine (rpool_any _ (hp.keep k2.below) HX.out HY.out HZ.out HP.out).mono ?_; rintro e w3 ⟨rfl, b3⟩; have k3 := k2.step b3)
        | (go_at_call 33; refine (readPool_ok _ HS.out HO.out HBS.out HRD.out.1 HRD.out.2.1 HRD.out.2.2 HV.out HN.out.1 HN.out.2.1 HN.out.2.2).mono ?_; rintro e w4 ⟨g1, g2, g3, rfl, hq4, b4⟩; have k4 := (k3.step b4).alloc (.cells #[.slice (some ⟨g1, 0, none⟩) xs.length xs.length, .slice (some ⟨g2, 0, none⟩) ys.length ys.length, .slice (some ⟨g3, 0, none⟩) zs.length zs.length] 51); have j4 := Bk.fresh (k3.step b4).below #[.slice (some ⟨g1, 0, none⟩) xs.length xs.length, .slice (some ⟨g2, 0, none⟩) ys.length ys.length, .slice (some ⟨g3, 0, none⟩) zs.length zs.length] 51; obtain ⟨x0, x1, x2⟩ := k4.three; obtain ⟨y0, y1, y2⟩ := j4.three; have hq5 := hq4.keep ((Below.refl w4.heap.size w4).alloc (Nat.le_refl _) (.cells #[.slice (some ⟨g1, 0, none⟩) xs.length xs.length, .slice (some ⟨g2, 0, none⟩) ys.length ys.length, .slice (some ⟨g3, 0, none⟩) zs.length zs.length] 51)))
        | (go_at_call 34; (with_reducible refine (samePools_any _ (hp.keep k4.below) hq5).mono ?_); rintro e w5 ⟨rfl, b5⟩; have k5 := k4.step b5)
        | (go_at_call 15; refine (alive_any _).mono ?_; rintro e w6 ⟨rfl, b6⟩))
      go_ret
      exact ⟨rfl, (k5.step b6).below⟩
end Go.Proofs.Ytkkjjhkhpibaiaa.Im
