/-
  The contracts of the reference's Get and Find (layer 14).
-/
import Derived.Test.YtemflmodgbheoaaSpRefV
import Derived.Test.YtemflmodgbheoaaSpRefX
namespace Go.Proofs.Ytemflmodgbheoaa.Sp
open Go.RowKit
set_option linter.unusedVariables false

set_option maxRecDepth 100000 in
set_option maxHeartbeats 2000000 in
theorem rget_any {A B C : Option Addr} {n ca m cb k cc : Nat} {codes starts lens : List Int} {i : Int} {o : Option (List Int)} (w : World) (hp : PoolIs w A n ca B m cb C k cc codes starts lens) (ho : getL codes starts lens i = o) :
    Calls Try.prog 20 #[.agg #[.slice A n ca, .slice B m cb, .slice C k cc], .int .i64 i] w (GetRes o w) := by
  have HA := Lib.hid hp.codes.count
  have HB := Lib.hid hp.starts.count
  have HC := Lib.hid hp.lens.count
  have hm := hp.m_le
  have hn := hp.n_le
  have hk := hp.k_le
  have k0 := Bk.fresh (Below.refl w.heap.size w) #[.slice A n ca, .slice B m cb, .slice C k cc] 27
  have hp0 := hp.keep k0.below
  obtain ⟨v, hv⟩ : ∃ v, validL n starts lens = v := ⟨_, rfl⟩
  have HV := Lib.hid hv
  have hcase : (v = true ∧ 0 ≤ i ∧ i < (m : Int)) ∨ v = false ∨ (v = true ∧ i < 0) ∨ (v = true ∧ 0 ≤ i ∧ (m : Int) ≤ i) := by
    rcases v with _ | _
    · exact .inr (.inl rfl)
    · simp only [true_and, Bool.true_eq_false, false_or]; omega
  rcases hcase with ⟨rfl, h1, h2⟩ | rfl | ⟨rfl, h1⟩ | ⟨rfl, h1, h2⟩
  · obtain ⟨j, rfl⟩ : ∃ j : Nat, i = (j : Int) := ⟨i.toNat, by omega⟩
    have hjm : j < m := by omega
    obtain ⟨s, l, hs, hl, hsl⟩ := valid_at hv (i := j) (by rw [← HB.out]; exact hjm)
    have hjk : j < k := by rw [HC.out, ← valid_len_eq hv, ← HB.out]; exact hjm
    obtain ⟨zs, hz⟩ : ∃ zs, (codes.drop s).take l = zs := ⟨_, rfl⟩
    have hzl : zs.length = l := by rw [← hz, List.length_take, List.length_drop, ← HA.out]; omega
    have HZ := Lib.hid hz
    have HL := Lib.hid hzl
    have HO : Hid (o = some zs) := Lib.hid (by
      rw [← ho, getL, if_pos ⟨by rw [← HA.out]; exact hv, by omega, by rw [← HB.out]; omega⟩, seqAt, Int.toNat_natCast, hs, hl, Int.toNat_natCast, Int.toNat_natCast, hz])
    have HSL := Lib.hid (And.intro hs hl)
    have hca := hp.codes.cap
    have hma := hp.codes.max
    have hcb := hp.starts.cap
    have hmb := hp.starts.max
    have hcc := hp.lens.cap
    have hmc := hp.lens.max
    have HS : Hid (Sl w (if ca = s then A else A.map (·.add s)) l (ca - s) 1 (ints zs)) := Lib.hid (by
      have h5 := (hp.codes.tail1 (k := s) (by omega)).head1 (k := l) (by omega)
      rw [hz] at h5
      exact h5)
    obtain ⟨b, off, rfl, hbl, hc1⟩ := hp.starts.int_at hjm
    obtain ⟨b2, off2, rfl, hbl2, hc2⟩ := hp.lens.int_at hjk
    rw [hs] at hc1
    rw [hl] at hc2
    clear ho hz hzl hs hl hv
    have b1 : decide ((j : Int) < 0) = false := decide_eq_false (by omega)
    have b3 : decide ((m : Int) ≤ (j : Int)) = false := decide_eq_false (by omega)
    have i1 : (0 : Int) ≤ (s : Int) := by omega
    have i2 : IntKind.i64.wrap ((s : Int) + (l : Int)) = (s : Int) + (l : Int) := IntWalk.i64_in _ (by omega)
    have i3 : (0 : Int) ≤ (s : Int) + (l : Int) := by omega
    have i4 : (s : Int) ≤ (s : Int) + (l : Int) := by omega
    have i5 : (s : Int) + (l : Int) ≤ (ca : Int) := by omega
    have i8 : ((s : Int) + (l : Int)).toNat = s + l := by omega
    have i9 : (s : Int) ≤ (ca : Int) := by omega
    rcases Nat.lt_or_ge s ca with hcs | hcs
    · have hcn : ¬ ca = s := by omega
      rw [if_neg hcn] at HS
      go_enter Try.func20, Try.ntmps20
      go_wp2_with (first
        | (go_at_call 23; refine (rvalid_any _ hp0 HV.out).mono ?_; rintro e w1 ⟨rfl, b1'⟩; have k1 := k0.step b1'; obtain ⟨x0, x1, x2⟩ := k1.three; have z1 := (k1.below.cell (p := ⟨b, off + j, none⟩) hbl).trans hc1; have z2 := (k1.below.cell (p := ⟨b2, off2 + j, none⟩) hbl2).trans hc2))
      have HK : Hid (Below w.heap.size w w1) := Lib.hid k1.below
      go_region_held3 (fun W => W.cell? ⟨w.heap.size, 0, none⟩ = some (.slice A n ca) ∧ W.cell? ⟨w.heap.size, 1, none⟩ = some (.slice (some ⟨b, off, none⟩) m cb) ∧ W.cell? ⟨w.heap.size, 2, none⟩ = some (.slice (some ⟨b2, off2, none⟩) k cc) ∧ W.cell? ⟨b, off + j, none⟩ = some (.int .i64 (s : Int)) ∧ W.cell? ⟨b2, off2 + j, none⟩ = some (.int .i64 (l : Int))) (first | exact ⟨x0, x1, x2, z1, z2⟩ | go_keep)
        (first
          | (refine step_append_ints (by rfl) (.tmp 20) (.tmp 39) (by rfl) w1.heap.size _ 0 [] (by rfl) (Own.built w1 w1.heap.size 3 1 0 [] (Nat.le_refl _) rfl (by unfold maxLen; omega)) _ l _ zs (by rfl) ((HS.out.keep HK.out).keep ((Below.refl _ _).alloc (Nat.le_refl _) _)) _ (by rfl) zs (by rfl) (by omega) (by simp) ?_; intro v' w' o' b'; obtain ⟨D, g, rfl, hl', hf'⟩ := o'.sl_from; have bb : Below w1.heap.size w1 w' := ((Below.refl _ _).alloc (Nat.le_refl _) _).trans b'; have k2 := k1.step bb; obtain ⟨x0, x1, x2⟩ := k2.three; have z1 := (k2.below.cell (p := ⟨b, off + j, none⟩) hbl).trans hc1; have z2 := (k2.below.cell (p := ⟨b2, off2 + j, none⟩) hbl2).trans hc2)
          | (refine step_append_ints (by rfl) (.tmp 20) (.tmp 39) (by rfl) w1.heap.size _ 0 [] (by rfl) (Own.built w1 w1.heap.size 3 1 0 [] (Nat.le_refl _) rfl (by unfold maxLen; omega)).drew _ l _ zs (by rfl) ((HS.out.keep HK.out).keep ((Below.refl _ _).alloc (Nat.le_refl _) _)).drew _ (by rfl) zs (by rfl) (by omega) (by simp) ?_; intro v' w' o' b'; obtain ⟨D, g, rfl, hl', hf'⟩ := o'.sl_from; have bb : Below w1.heap.size w1 w' := ((Below.refl _ _).alloc (Nat.le_refl _) _).drew.trans b'; have k2 := k1.step bb; obtain ⟨x0, x1, x2⟩ := k2.three; have z1 := (k2.below.cell (p := ⟨b, off + j, none⟩) hbl).trans hc1; have z2 := (k2.below.cell (p := ⟨b2, off2 + j, none⟩) hbl2).trans hc2))
      all_goals
        go_wp2_with fail
        rw [HO.out]
        refine bodyPost_ret (by simp [results, Try.results20, go_sem]) rfl ⟨_, _, _, rfl, hl', k2.below, ?_⟩
        intro a ha
        exact Nat.le_trans HK.out.size (hf' a ha)
    · obtain rfl : s = ca := by omega
      rw [if_pos rfl, Nat.sub_self] at HS
      obtain rfl : l = 0 := by omega
      have hc20 : w.cell? ⟨b2, off2 + j, none⟩ = some (.int .i64 0) := hc2
      clear hc2
      clear i2 i3 i4 i5 i8
      have i2 : IntKind.i64.wrap (s : Int) = (s : Int) := IntWalk.i64_in _ (by omega)
      go_enter Try.func20, Try.ntmps20
      go_wp2_with (first
        | (go_at_call 23; refine (rvalid_any _ hp0 HV.out).mono ?_; rintro e w1 ⟨rfl, b1'⟩; have k1 := k0.step b1'; obtain ⟨x0, x1, x2⟩ := k1.three; have z1 := (k1.below.cell (p := ⟨b, off + j, none⟩) hbl).trans hc1; have z2 := (k1.below.cell (p := ⟨b2, off2 + j, none⟩) hbl2).trans hc20))
      have HK : Hid (Below w.heap.size w w1) := Lib.hid k1.below
      go_region_held3 (fun W => W.cell? ⟨w.heap.size, 0, none⟩ = some (.slice A n s) ∧ W.cell? ⟨w.heap.size, 1, none⟩ = some (.slice (some ⟨b, off, none⟩) m cb) ∧ W.cell? ⟨w.heap.size, 2, none⟩ = some (.slice (some ⟨b2, off2, none⟩) k cc) ∧ W.cell? ⟨b, off + j, none⟩ = some (.int .i64 (s : Int)) ∧ W.cell? ⟨b2, off2 + j, none⟩ = some (.int .i64 0)) (first | exact ⟨x0, x1, x2, z1, z2⟩ | go_keep)
        (first
          | (refine step_append_ints (by rfl) (.tmp 20) (.tmp 39) (by rfl) w1.heap.size _ 0 [] (by rfl) (Own.built w1 w1.heap.size 3 1 0 [] (Nat.le_refl _) rfl (by unfold maxLen; omega)) _ 0 _ zs (by rfl) ((HS.out.keep HK.out).keep ((Below.refl _ _).alloc (Nat.le_refl _) _)) _ (by rfl) zs (by rfl) (by omega) (by simp) ?_; intro v' w' o' b'; obtain ⟨D, g, rfl, hl', hf'⟩ := o'.sl_from; have bb : Below w1.heap.size w1 w' := ((Below.refl _ _).alloc (Nat.le_refl _) _).trans b'; have k2 := k1.step bb; obtain ⟨x0, x1, x2⟩ := k2.three; have z1 := (k2.below.cell (p := ⟨b, off + j, none⟩) hbl).trans hc1; have z2 := (k2.below.cell (p := ⟨b2, off2 + j, none⟩) hbl2).trans hc20)
          | (refine step_append_ints (by rfl) (.tmp 20) (.tmp 39) (by rfl) w1.heap.size _ 0 [] (by rfl) (Own.built w1 w1.heap.size 3 1 0 [] (Nat.le_refl _) rfl (by unfold maxLen; omega)).drew _ 0 _ zs (by rfl) ((HS.out.keep HK.out).keep ((Below.refl _ _).alloc (Nat.le_refl _) _)).drew _ (by rfl) zs (by rfl) (by omega) (by simp) ?_; intro v' w' o' b'; obtain ⟨D, g, rfl, hl', hf'⟩ := o'.sl_from; have bb : Below w1.heap.size w1 w' := ((Below.refl _ _).alloc (Nat.le_refl _) _).drew.trans b'; have k2 := k1.step bb; obtain ⟨x0, x1, x2⟩ := k2.three; have z1 := (k2.below.cell (p := ⟨b, off + j, none⟩) hbl).trans hc1; have z2 := (k2.below.cell (p := ⟨b2, off2 + j, none⟩) hbl2).trans hc20))
      all_goals
        go_wp2_with fail
        rw [HO.out]
        refine bodyPost_ret (by simp [results, Try.results20, go_sem]) rfl ⟨_, _, _, rfl, hl', k2.below, ?_⟩
        intro a ha
        exact Nat.le_trans HK.out.size (hf' a ha)
  · have HO : Hid (o = none) := Lib.hid (by rw [← ho, getL, if_neg]; rw [← HA.out, hv]; simp)
    clear ho
    go_enter Try.func20, Try.ntmps20
    go_wp2_with (first
      | (go_at_call 23; refine (rvalid_any _ hp0 HV.out).mono ?_; rintro e w1 ⟨rfl, b1⟩; have k1 := k0.step b1; obtain ⟨x0, x1, x2⟩ := k1.three))
    rw [HO.out]
    exact bodyPost_ret (v := .tuple #[.slice none 0 0, .bool false]) (by simp [results, Try.results20, go_sem]) rfl ⟨rfl, k1.below⟩
  · have HO : Hid (o = none) := Lib.hid (by rw [← ho, getL, if_neg]; omega)
    clear ho
    go_enter Try.func20, Try.ntmps20
    go_wp2_with (first
      | (go_at_call 23; refine (rvalid_any _ hp0 HV.out).mono ?_; rintro e w1 ⟨rfl, b1⟩; have k1 := k0.step b1; obtain ⟨x0, x1, x2⟩ := k1.three))
    rw [HO.out]
    exact bodyPost_ret (v := .tuple #[.slice none 0 0, .bool false]) (by simp [results, Try.results20, go_sem]) rfl ⟨rfl, k1.below⟩
  · have HO : Hid (o = none) := Lib.hid (by rw [← ho, getL, if_neg]; rw [← HB.out]; omega)
    clear ho
    go_enter Try.func20, Try.ntmps20
    go_wp2_with (first
      | (go_at_call 23; refine (rvalid_any _ hp0 HV.out).mono ?_; rintro e w1 ⟨rfl, b1⟩; have k1 := k0.step b1; obtain ⟨x0, x1, x2⟩ := k1.three))
    rw [HO.out]
    exact bodyPost_ret (v := .tuple #[.slice none 0 0, .bool false]) (by simp [results, Try.results20, go_sem]) rfl ⟨rfl, k1.below⟩
end Go.Proofs.Ytemflmodgbheoaa.Sp
