/-
  The contracts of Get and Find of package seqpool.
-/
import Derived.Test.YtemflmodgbheoaaSpPool
namespace Go.Proofs.Ytemflmodgbheoaa.Sp
open Go.RowKit
set_option linter.unusedVariables false

/-- The sequence with index i of a pool, if there is one. -/
def seqAt (codes starts lens : List Int) (i : Nat) : List Int := (codes.drop (starts.getD i 0).toNat).take (lens.getD i 0).toNat
def getL (codes starts lens : List Int) (i : Int) : Option (List Int) :=
  if validL codes.length starts lens = true ∧ 0 ≤ i ∧ i < (starts.length : Int) then some (seqAt codes starts lens i.toNat) else none
/-- What Get gives. -/
def GetRes (o : Option (List Int)) (w : World) (e : Ending) (w' : World) : Prop :=
  match o with
  | none => e = .returned (.tuple #[.slice none 0 0, .bool false]) ∧ Below w.heap.size w w'
  | some zs => ∃ A n c, e = .returned (.tuple #[.slice A n c, .bool true]) ∧ Sl w' A n c 1 (ints zs) ∧ Below w.heap.size w w' ∧ From w.heap.size A
theorem valid_len_eq {N : Nat} {starts lens : List Int} (h : validL N starts lens = true) : starts.length = lens.length := by
  rw [validL, decide_eq_true_eq] at h
  exact h.1
/-- What a valid pool says of one of its sequences. -/
theorem valid_at {N : Nat} {starts lens : List Int} (h : validL N starts lens = true) {i : Nat} (hi : i < starts.length) :
    ∃ s l : Nat, starts.getD i 0 = (s : Int) ∧ lens.getD i 0 = (l : Int) ∧ s + l ≤ N := by
  rw [validL, decide_eq_true_eq] at h
  have h1 := h.2 i hi
  rw [ok1, decide_eq_true_eq] at h1
  obtain ⟨a, b, c, d⟩ := h1
  exact ⟨(starts.getD i 0).toNat, (lens.getD i 0).toNat, by omega, by omega, by omega⟩

theorem cp_all {zs : List Int} {q : Nat} (h : q = zs.length) : zs = (List.replicate q (0 : Int)).take 0 ++ (zs.take q ++ (List.replicate q (0 : Int)).drop (0 + q)) := by
  subst h
  simp
set_option maxRecDepth 100000 in
set_option maxHeartbeats 2000000 in
theorem get_any {A B C : Option Addr} {n ca m cb k cc : Nat} {codes starts lens : List Int} {i : Int} {o : Option (List Int)} (w : World) (hp : PoolIs w A n ca B m cb C k cc codes starts lens) (ho : getL codes starts lens i = o) :
    Calls Try.prog 19 #[.agg #[.slice A n ca, .slice B m cb, .slice C k cc], .int .i64 i] w (GetRes o w) := by
  have HA := Lib.hid hp.codes.count
  have HB := Lib.hid hp.starts.count
  have HC := Lib.hid hp.lens.count
  have hm := hp.m_le
  have hn := hp.n_le
  have k0 := Bk.fresh (Below.refl w.heap.size w) #[.slice A n ca, .slice B m cb, .slice C k cc] 27
  have hp0 := hp.keep k0.below
  obtain ⟨v, hv⟩ : ∃ v, validL n starts lens = v := ⟨_, rfl⟩
  have HV := Lib.hid hv
  have hcase : (v = true ∧ 0 ≤ i ∧ i < (m : Int)) ∨ v = false ∨ (v = true ∧ i < 0) ∨ (v = true ∧ 0 ≤ i ∧ (m : Int) ≤ i) := by
    rcases v with _ | _
    · exact .inr (.inl rfl)
    · simp only [true_and, Bool.true_eq_false, false_or]; omega
  rcases hcase with ⟨rfl, h1, h2⟩ | rfl | ⟨rfl, h1⟩ | ⟨rfl, h1, h2⟩
  · obtain ⟨j, rfl⟩ : ∃ j : Nat, i = (j : Int) := ⟨i.toNat, by omega⟩
    have hjm : j < m := by omega
    obtain ⟨s, l, hs, hl, hsl⟩ := valid_at hv (i := j) (by rw [← HB.out]; exact hjm)
    have hjk : j < k := by rw [HC.out, ← valid_len_eq hv, ← HB.out]; exact hjm
    obtain ⟨zs, hz⟩ : ∃ zs, (codes.drop s).take l = zs := ⟨_, rfl⟩
    have hzl : zs.length = l := by rw [← hz, List.length_take, List.length_drop, ← HA.out]; omega
    have HZ := Lib.hid hz
    have HL := Lib.hid hzl
    have HO : Hid (o = some zs) := Lib.hid (by
      rw [← ho, getL, if_pos ⟨by rw [← HA.out]; exact hv, by omega, by rw [← HB.out]; omega⟩, seqAt, Int.toNat_natCast, hs, hl, Int.toNat_natCast, Int.toNat_natCast, hz])
    have HSL := Lib.hid (And.intro hs hl)
    clear ho hz hzl hs hl hv
    go_enter Try.func19, Try.ntmps19
    go_wp2_with (first
      | (go_at_call 22; refine (valid_any _ hp0 HV.out).mono ?_; rintro e w1 ⟨rfl, b1⟩; have k1 := k0.step b1; obtain ⟨x0, x1, x2⟩ := k1.three)
      | (go_at_call 28; refine (sequence_x _ (hp.keep k1.below) hjm hjk HSL.out.1 HSL.out.2 hsl HZ.out).mono ?_; rintro e w2 ⟨D, q, c, rfl, hq, b2⟩; have k2 := k1.step b2; have hqc := hq.count; rw [HL.out] at hqc; subst hqc; have hq1 := hq.cap; have hq2 := hq.max; obtain ⟨w3, hmk, hg3, hb3, hs3⟩ := run_make_ints w2 (k := (q : Int)) (n := q) rfl (by omega))
      | (refine wpList_copy_ints rfl (.tmp 28) (.tmp 29) rfl _ _ _ _ _ _ rfl rfl w2.heap.size 0 _ hg3 zs (hq.keep hb3) q (by omega) (fun _ => rfl) (by simp) w2.heap.size w2 hb3 (Nat.le_refl _) zs (cp_all HL.out.symm) ?_; intro w4 hg4 hb4))
    go_wp2_with fail
    rw [HO.out]
    refine bodyPost_ret (v := .tuple #[.slice (some ⟨w2.heap.size, 0, none⟩) q q, .bool true]) (by simp [results, Try.results19, go_sem]) rfl ⟨_, _, _, rfl, hg4.out.sl HL.out.symm (by unfold maxLen; omega), k2.below.trans (hb4.mono k2.below.size), ?_⟩
    intro a ha
    cases ha
    exact k2.below.size
  · have HO : Hid (o = none) := Lib.hid (by rw [← ho, getL, if_neg]; rw [← HA.out, hv]; simp)
    clear ho
    go_enter Try.func19, Try.ntmps19
    go_wp2_with (first
      | (go_at_call 22; refine (valid_any _ hp0 HV.out).mono ?_; rintro e w1 ⟨rfl, b1⟩; have k1 := k0.step b1; obtain ⟨x0, x1, x2⟩ := k1.three))
    rw [HO.out]
    exact bodyPost_ret (v := .tuple #[.slice none 0 0, .bool false]) (by simp [results, Try.results19, go_sem]) rfl ⟨rfl, k1.below⟩
  · have HO : Hid (o = none) := Lib.hid (by rw [← ho, getL, if_neg]; omega)
    clear ho
    go_enter Try.func19, Try.ntmps19
    go_wp2_with (first
      | (go_at_call 22; refine (valid_any _ hp0 HV.out).mono ?_; rintro e w1 ⟨rfl, b1⟩; have k1 := k0.step b1; obtain ⟨x0, x1, x2⟩ := k1.three))
    rw [HO.out]
    exact bodyPost_ret (v := .tuple #[.slice none 0 0, .bool false]) (by simp [results, Try.results19, go_sem]) rfl ⟨rfl, k1.below⟩
  · have HO : Hid (o = none) := Lib.hid (by rw [← ho, getL, if_neg]; rw [← HB.out]; omega)
    clear ho
    go_enter Try.func19, Try.ntmps19
    go_wp2_with (first
      | (go_at_call 22; refine (valid_any _ hp0 HV.out).mono ?_; rintro e w1 ⟨rfl, b1⟩; have k1 := k0.step b1; obtain ⟨x0, x1, x2⟩ := k1.three))
    rw [HO.out]
    exact bodyPost_ret (v := .tuple #[.slice none 0 0, .bool false]) (by simp [results, Try.results19, go_sem]) rfl ⟨rfl, k1.below⟩
end Go.Proofs.Ytemflmodgbheoaa.Sp
