/-
  The contracts of the reference's Few and Same (layer 14).
-/
import Derived.Test.YtemflmodgbheoaaSpPack
import Derived.Test.YtemflmodgbheoaaR01Compare
namespace Go.Proofs.Ytemflmodgbheoaa.Sp
open Go.RowKit
set_option linter.unusedVariables false

set_option maxHeartbeats 1000000 in
theorem few_any {A : Option Addr} {n c : Nat} {l : List (List Int)} {r : Bool} (w : World) (hx : LL w A n c l) (hr : decide (n ≤ 12 ∧ ∀ x ∈ l, x.length ≤ 20) = r) :
    Calls Try.prog 11 #[.slice A n c] w (Gives (.bool r) w) := by
  have HN := Lib.hid hx.count
  have HR := Lib.hid hr
  have hcx := hx.cap
  have hmx := hx.max
  clear hr
  go_enter Try.func11, Try.ntmps11
  go_wp2_with fail
  go_loopw [3] (fun i wr => ∃ j : Nat, j ≤ n ∧ j ≤ 20 ∧ i = .int .i64 (j : Int) ∧ wr = w ∧ Hid (∀ x ∈ l.take j, x.length ≤ 20)) (fun i _ => n - (intOf i).toNat)
  case atStart => exact ⟨0, Nat.zero_le _, Nat.zero_le _, rfl, rfl, Lib.hid (by simp)⟩
  case round =>
    obtain ⟨j, hj, hj2, rfl, rfl, HJ⟩ := hrel
    by_cases hlt : j < n
    · by_cases h20 : j < 20
      · obtain ⟨b, off, D, q, r', rfl, hbl, hc, hsl⟩ := hx.at' j hlt
        have hjl : j < l.length := by rw [← HN.out]; exact hlt
        have HQ : Hid ((l.getD j []).length = q) := Lib.hid (by have := hsl.count; omega)
        have hqc := hsl.cap
        have hqm := hsl.max
        have h1 : (j : Int) < (n : Int) := by omega
        have h2 : (j : Int) < 20 := by omega
        by_cases hq : q ≤ 20
        · have h3 : ¬ 20 < q := by omega
          have b3 : decide ((20 : Int) < (q : Int)) = false := decide_eq_false (by omega)
          have HJ2 : Hid (∀ x ∈ l.take (j + 1), x.length ≤ 20) := Lib.hid (by
            rw [take_snocL hjl]
            intro x hm
            rcases List.mem_append.1 hm with h | h
            · exact HJ.out x h
            · rw [List.mem_singleton] at h
              rw [h, HQ.out]
              exact hq)
          clear hq
          go_wp2_with fail
          go_roundw
          case rel => exact ⟨j + 1, by omega, by omega, by push_cast; rfl, trivial, HJ2⟩
          case measure => simp [intOf] <;> omega
        · have h3 : (20 : Int) < (q : Int) := by omega
          have HF : Hid (r = false) := Lib.hid (by
            rw [← HR.out, decide_eq_false_iff_not]
            rintro ⟨_, h⟩
            have := h (l.getD j []) (by simp [List.getD, hjl])
            rw [HQ.out] at this
            exact hq this)
          clear hq
          go_wp2_with fail
          go_ret
          exact gives_bool HF.out
      · have h2 : ¬ (j : Int) < 20 := by omega
        have h1 : (j : Int) < (n : Int) := by omega
        have h4 : ¬ (n : Int) ≤ 12 := by omega
        have HF : Hid (r = false) := Lib.hid (by rw [← HR.out, decide_eq_false_iff_not]; rintro ⟨h, _⟩; omega)
        go_wp2_with fail
        go_ret
        exact gives_bool (HF.out.trans (by simp <;> omega))
    · have h1 : ¬ (j : Int) < (n : Int) := by omega
      have hjn : j = n := by omega
      by_cases h12 : n ≤ 12
      · have h4 : (n : Int) ≤ 12 := by omega
        have HF : Hid (r = true) := Lib.hid (by
          rw [← HR.out, decide_eq_true_eq]
          refine ⟨h12, ?_⟩
          have := HJ.out
          rwa [hjn, HN.out, List.take_length] at this)
        clear hjn
        go_wp2_with fail
        go_ret
        exact gives_bool (HF.out.trans (by simp <;> omega))
      · have h4 : ¬ (n : Int) ≤ 12 := by omega
        have HF : Hid (r = false) := Lib.hid (by rw [← HR.out, decide_eq_false_iff_not]; rintro ⟨h, _⟩; omega)
        clear hjn
        go_wp2_with fail
        go_ret
        exact gives_bool (HF.out.trans (by simp <;> omega))

set_option maxRecDepth 100000 in
set_option maxHeartbeats 2000000 in
theorem same_any {A B C A' B' C' : Option Addr} {n ca m cb k cc n' ca' m' cb' k' cc' : Nat} {codes starts lens codes' starts' lens' : List Int} {r : Bool} (w : World) (hp : PoolIs w A n ca B m cb C k cc codes starts lens) (hq : PoolIs w A' n' ca' B' m' cb' C' k' cc' codes' starts' lens')
    (hr : decide (codes = codes' ∧ starts = starts' ∧ lens = lens') = r) :
    Calls Try.prog 12 #[.agg #[.slice A n ca, .slice B m cb, .slice C k cc], .agg #[.slice A' n' ca', .slice B' m' cb', .slice C' k' cc']] w (Makes (.bool r) w) := by
  have k0 := (Bk.fresh (Below.refl w.heap.size w) #[.slice A n ca, .slice B m cb, .slice C k cc] 27).alloc (.cells #[.slice A' n' ca', .slice B' m' cb', .slice C' k' cc'] 27)
  have j0 := Bk.fresh_at (w := w) ((Below.refl w.heap.size w).alloc (Nat.le_refl _) (.cells #[.slice A n ca, .slice B m cb, .slice C k cc] 27)) #[.slice A' n' ca', .slice B' m' cb', .slice C' k' cc'] 27 (g := w.heap.size + 1) (by simp)
  obtain ⟨x0, x1, x2⟩ := k0.three
  obtain ⟨y0, y1, y2⟩ := j0.three
  have hp0 := hp.keep k0.below
  have hq0 := hq.keep k0.below
  obtain ⟨b1, h1⟩ : ∃ b, decide (codes = codes') = b := ⟨_, rfl⟩
  obtain ⟨b2, h2⟩ : ∃ b, decide (starts = starts') = b := ⟨_, rfl⟩
  obtain ⟨b3, h3⟩ : ∃ b, decide (lens = lens') = b := ⟨_, rfl⟩
  have HR : Hid (r = (b1 && (b2 && b3))) := Lib.hid (by rw [← hr, ← h1, ← h2, ← h3, Bool.decide_and, Bool.decide_and])
  have H1 := Lib.hid h1
  have H2 := Lib.hid h2
  have H3 := Lib.hid h3
  clear h1 h2 h3 hr
  rcases b1 with _ | _
  · go_enter Try.func12, Try.ntmps12
    go_wp2_with (first
      | (go_at_call 21; refine (ref_equal_x H1.out hp0.codes hq0.codes).mono ?_; rintro e w1 ⟨rfl, d1⟩; have k1 := k0.drawn d1; have j1 := j0.drawn d1; obtain ⟨x0, x1, x2⟩ := k1.three; obtain ⟨y0, y1, y2⟩ := j1.three))
    go_ret
    exact makes_bool HR.out k1.below
  · rcases b2 with _ | _
    · go_enter Try.func12, Try.ntmps12
      go_wp2_with (first
        | (go_at_call 21; ((with_reducible refine (ref_equal_x H1.out hp0.codes hq0.codes).mono ?_); rintro e w1 ⟨rfl, d1⟩; have k1 := k0.drawn d1; have j1 := j0.drawn d1; obtain ⟨x0, x1, x2⟩ := k1.three; obtain ⟨y0, y1, y2⟩ := j1.three))
        | (go_at_call 21; ((with_reducible refine (ref_equal_x H2.out (hp.keep k1.below).starts (hq.keep k1.below).starts).mono ?_); rintro e w2 ⟨rfl, d2⟩; have k2 := k1.drawn d2; have j2 := j1.drawn d2; obtain ⟨x0, x1, x2⟩ := k2.three; obtain ⟨y0, y1, y2⟩ := j2.three)))
      go_ret
      exact makes_bool HR.out k2.below
    · go_enter Try.func12, Try.ntmps12
      go_wp2_with (first
        | (go_at_call 21; ((with_reducible refine (ref_equal_x H1.out hp0.codes hq0.codes).mono ?_); rintro e w1 ⟨rfl, d1⟩; have k1 := k0.drawn d1; have j1 := j0.drawn d1; obtain ⟨x0, x1, x2⟩ := k1.three; obtain ⟨y0, y1, y2⟩ := j1.three))
        | (go_at_call 21; ((with_reducible refine (ref_equal_x H2.out (hp.keep k1.below).starts (hq.keep k1.below).starts).mono ?_); rintro e w2 ⟨rfl, d2⟩; have k2 := k1.drawn d2; have j2 := j1.drawn d2; obtain ⟨x0, x1, x2⟩ := k2.three; obtain ⟨y0, y1, y2⟩ := j2.three))
        | (go_at_call 21; ((with_reducible refine (ref_equal_x H3.out (hp.keep k2.below).lens (hq.keep k2.below).lens).mono ?_); rintro e w3 ⟨rfl, d3⟩; have k3 := k2.drawn d3; have j3 := j2.drawn d3; obtain ⟨x0, x1, x2⟩ := k3.three; obtain ⟨y0, y1, y2⟩ := j3.three)))
      go_ret
      exact makes_bool HR.out k3.below
end Go.Proofs.Ytemflmodgbheoaa.Sp
