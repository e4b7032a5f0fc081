/-
  The walks of EditsChecks and EditsShifts.
-/
import Derived.Test.YtlgbdigpjobpoaaEdAwake
import Derived.Test.YtlgbdigpjobpoaaEdBx
namespace Go.Proofs.Ytlgbdigpjobpoaa.Ed
open Go.RowKit
set_option linter.unusedVariables false
set_option linter.unusedSimpArgs false

theorem ref_small_x {a d : Int} {A : Option Addr} {n c : Nat} {r : Bool} (h : decide (n ≤ 40) = r) (hn : n ≤ 9223372036854775807) (w : World) : Calls Try.prog 12 #[.agg #[.int .i64 a, .int .i64 d, .slice A n c]] w (Makes (.bool r) w) := by
  rw [← h]
  exact ref_small_any a d A n c hn w

set_option maxHeartbeats 1000000 in
theorem checks_walk (a d s : Int) (A : Option Addr) (n c : Nat) (xs : List Int) (ha : (Lit.int .i64 a).wf = true) (hd : (Lit.int .i64 d).wf = true) (hs : (Lit.int .i64 s).wf = true) (w : World) (hx : Sl w A n c 1 (ints xs)) :
    Calls Try.prog 3 #[.agg #[.int .i64 a, .int .i64 d, .slice A n c], .int .i64 s] w (Makes (.bool true) w) := by
  have hcap := hx.cap
  have hmax := hx.max
  obtain ⟨r, hr⟩ : ∃ r, chk a d s = r := ⟨_, rfl⟩
  have H := Lib.hid hr
  have HA := Lib.hid ha
  have HD := Lib.hid hd
  have HS := Lib.hid hs
  have q : (r == r) = true := beq_self_eq_true _
  clear hr ha hd hs
  have k0 := Bx.new w (.int .i64 a) (.int .i64 d) (.slice A n c) 24
  have hs0 := k0.size
  rcases Nat.lt_or_ge 40 n with hn | hn
  · go_enter Try.func3, Try.ntmps3
    go_wp2_with fail
    refine wp_region_held_drew (S := (fun W => W.cell? ⟨w.heap.size, 0, none⟩ = some (.int .i64 a) ∧ W.cell? ⟨w.heap.size, 1, none⟩ = some (.int .i64 d) ∧ W.cell? ⟨w.heap.size, 2, none⟩ = some (.slice A n c))) (by kernel_rfl) k0.cells (fun hHeld => ?_)
    refine wpAnyH_take (i := 0) (v := ?_) rfl (by kernel_rfl) (by kernel_rfl) (by kernel_rfl) (fun _ _ _ h => h) (Or.inl ⟨by rfl, ?_⟩) hHeld ?_
    rotate_left
    · intro W' hSw
      obtain ⟨c0, c1, c2⟩ := hSw
      go_simp
      try with_reducible rfl
    simp only [Act.put, List.setIfInBounds_toArray, List.set_cons_zero, List.set_cons_succ]
    refine wpAnyH_ready (rs := [1]) (by kernel_rfl) (by simp) ?_
    refine AllReadyH.cons rfl (fun K hK => ?_) AllReadyH.nil
    go_simp
    refine (ref_small_x (r := false) (by simp; omega) (by omega) _).mono ?_
    rintro e w1 ⟨rfl, b1⟩
    have k1 := k0.step b1 (by first | exact .inl rfl | exact .inr rfl)
    dsimp only
    refine hK.out _ _ k1.cells (fun hHeld => ?_)
    clear hK K
    refine wpAnyH_take (i := 2) (v := ?_) rfl (by kernel_rfl) (by kernel_rfl) (by kernel_rfl) (fun _ _ _ h => h) (Or.inl ⟨by rfl, ?_⟩) hHeld ?_
    rotate_left
    · intro W' hSw
      obtain ⟨c0, c1, c2⟩ := hSw
      go_simp
      try with_reducible rfl
    simp only [Act.put, List.setIfInBounds_toArray, List.set_cons_zero, List.set_cons_succ]
    refine wpAnyH_take (i := 3) (v := ?_) rfl (by kernel_rfl) (by kernel_rfl) (by kernel_rfl) (fun _ _ _ h => h) (Or.inl ⟨by rfl, ?_⟩) hHeld ?_
    rotate_left
    · intro W' hSw
      obtain ⟨c0, c1, c2⟩ := hSw
      go_simp
      try with_reducible rfl
    simp only [Act.put, List.setIfInBounds_toArray, List.set_cons_zero, List.set_cons_succ]
    refine wpAnyH_take (i := 4) (v := undef) rfl (by kernel_rfl) (by kernel_rfl) (by kernel_rfl) (fun _ _ _ h => h) (Or.inr ⟨by rfl, rfl⟩) hHeld ?_
    simp only [Act.put, List.setIfInBounds_toArray, List.set_cons_zero, List.set_cons_succ]
    refine wpAnyH_take (i := 5) (v := undef) rfl (by kernel_rfl) (by kernel_rfl) (by kernel_rfl) (fun _ _ _ h => h) (Or.inr ⟨by rfl, rfl⟩) hHeld ?_
    simp only [Act.put, List.setIfInBounds_toArray, List.set_cons_zero, List.set_cons_succ]
    refine wpAnyH_take (i := 6) (v := undef) rfl (by kernel_rfl) (by kernel_rfl) (by kernel_rfl) (fun _ _ _ h => h) (Or.inr ⟨by rfl, rfl⟩) hHeld ?_
    simp only [Act.put, List.setIfInBounds_toArray, List.set_cons_zero, List.set_cons_succ]
    refine wpAnyH_take (i := 7) (v := undef) rfl (by kernel_rfl) (by kernel_rfl) (by kernel_rfl) (fun _ _ _ h => h) (Or.inr ⟨by rfl, rfl⟩) hHeld ?_
    simp only [Act.put, List.setIfInBounds_toArray, List.set_cons_zero, List.set_cons_succ]
    refine wpAnyH_take (i := 8) (v := undef) rfl (by kernel_rfl) (by kernel_rfl) (by kernel_rfl) (fun _ _ _ h => h) (Or.inr ⟨by rfl, rfl⟩) hHeld ?_
    simp only [Act.put, List.setIfInBounds_toArray, List.set_cons_zero, List.set_cons_succ]
    refine wpAnyH_take (i := 9) (v := undef) rfl (by kernel_rfl) (by kernel_rfl) (by kernel_rfl) (fun _ _ _ h => h) (Or.inr ⟨by rfl, rfl⟩) hHeld ?_
    simp only [Act.put, List.setIfInBounds_toArray, List.set_cons_zero, List.set_cons_succ]
    refine wpAnyH_take (i := 10) (v := undef) rfl (by kernel_rfl) (by kernel_rfl) (by kernel_rfl) (fun _ _ _ h => h) (Or.inr ⟨by rfl, rfl⟩) hHeld ?_
    simp only [Act.put, List.setIfInBounds_toArray, List.set_cons_zero, List.set_cons_succ]
    refine wpAnyH_take (i := 11) (v := ?_) rfl (by kernel_rfl) (by kernel_rfl) (by kernel_rfl) (fun _ _ _ h => h) (Or.inl ⟨by rfl, ?_⟩) hHeld ?_
    rotate_left
    · intro W' hSw
      obtain ⟨c0, c1, c2⟩ := hSw
      go_simp
      try with_reducible rfl
    simp only [Act.put, List.setIfInBounds_toArray, List.set_cons_zero, List.set_cons_succ]
    refine wpAnyH_take (i := 12) (v := ?_) rfl (by kernel_rfl) (by kernel_rfl) (by kernel_rfl) (fun _ _ _ h => h) (Or.inl ⟨by rfl, ?_⟩) hHeld ?_
    rotate_left
    · intro W' hSw
      obtain ⟨c0, c1, c2⟩ := hSw
      go_simp
      try with_reducible rfl
    simp only [Act.put, List.setIfInBounds_toArray, List.set_cons_zero, List.set_cons_succ]
    refine wpAnyH_ready (rs := [13]) (by kernel_rfl) (by simp) ?_
    refine AllReadyH.cons rfl (fun K hK => ?_) AllReadyH.nil
    go_simp
    refine (alive_any _).mono ?_
    rintro e w4 ⟨rfl, b4⟩
    have k4 := k1.step b4 (by first | exact .inl rfl | exact .inr rfl)
    dsimp only
    refine hK.out _ _ k4.cells (fun hHeld => ?_)
    clear hK K
    refine wpAnyH_ready (rs := [14]) (by kernel_rfl) (by simp) ?_
    refine AllReadyH.cons rfl (fun K hK => ?_) AllReadyH.nil
    go_simp
    refine hK.out _ _ k4.cells (fun hHeld => ?_)
    clear hK K
    refine wpAnyH_ready (rs := [15]) (by kernel_rfl) (by simp) ?_
    refine AllReadyH.cons rfl (fun K hK => ?_) AllReadyH.nil
    go_simp
    refine hK.out _ _ k4.cells (fun hHeld => ?_)
    clear hK K
    refine wpAnyH_done (by kernel_rfl) ?_ _
    go_wp2_with fail
    go_ret
    exact ⟨rfl, k4.below⟩
  · go_enter Try.func3, Try.ntmps3
    go_wp2_with fail
    go_region_held3 (fun W => W.cell? ⟨w.heap.size, 0, none⟩ = some (.int .i64 a) ∧ W.cell? ⟨w.heap.size, 1, none⟩ = some (.int .i64 d) ∧ W.cell? ⟨w.heap.size, 2, none⟩ = some (.slice A n c)) (first | exact k0.cells | exact k1.cells | exact k2.cells | exact k3.cells | exact k4.cells | go_keep)
      (first
        | (go_at_call 12; go_loud (refine (ref_small_x (r := true) (by simp; omega) (by omega) _).mono ?_); rintro e w1 ⟨rfl, b1⟩; have k1 := k0.step b1 (by first | exact .inl rfl | exact .inr rfl))
        | (go_at_call 13; go_loud (refine (pcheck_x H.out HA.out HD.out HS.out hn _).mono ?_); rintro e w2 ⟨rfl, b2⟩; have k2 := k1.step b2 (by first | exact .inl rfl | exact .inr rfl))
        | (go_at_call 14; go_loud (refine (ref_check_x H.out HA.out HS.out _).mono ?_); rintro e w3 ⟨rfl, b3⟩; have k3 := k2.step b3 (by first | exact .inl rfl | exact .inr rfl))
        | (go_at_call 15; go_loud (refine (alive_any _).mono ?_); rintro e w4 ⟨rfl, b4⟩; have k4 := k3.step b4 (by first | exact .inl rfl | exact .inr rfl)))
    go_wp2_with fail
    go_ret
    exact ⟨rfl, k4.below⟩
end Go.Proofs.Ytlgbdigpjobpoaa.Ed
