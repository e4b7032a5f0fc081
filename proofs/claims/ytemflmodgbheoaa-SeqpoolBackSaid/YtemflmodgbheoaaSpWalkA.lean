/-
  The walks of SeqpoolPacks, SeqpoolAdds and SeqpoolFinds.
-/
import Derived.Test.YtemflmodgbheoaaSpAwake
namespace Go.Proofs.Ytemflmodgbheoaa.Sp
open Go.RowKit
set_option linter.unusedVariables false

set_option maxRecDepth 100000 in
set_option maxHeartbeats 2000000 in
theorem packs_walk (A : Option Addr) (n c : Nat) (l : List (List Int)) (W : World) (hx : LL W A n c l) : Calls Try.prog 3 #[.slice A n c] W (Makes (.bool true) W) := by
  obtain ⟨r, hr⟩ : ∃ r, decide (n ≤ 12 ∧ ∀ x ∈ l, x.length ≤ 20) = r := ⟨_, rfl⟩
  have HR := Lib.hid hr
  clear hr
  rcases r with _ | _
  · go_enter Try.func3, Try.ntmps3
    go_wp2_with (first
      | (go_at_call 11; refine (few_any _ hx HR.out).mono ?_; rintro e w1 ⟨rfl, rfl⟩)
      | (go_at_call 15; refine (alive_any _).mono ?_; rintro e w2 ⟨rfl, b2⟩))
    go_ret
    exact ⟨rfl, b2⟩
  · have hcase := of_decide_eq_true HR.out
    have hn := hcase.1
    have HS := Lib.hid hcase.2
    clear hcase
    obtain ⟨p, hp⟩ : ∃ p, packP l = p := ⟨_, rfl⟩
    have HP := Lib.hid hp
    clear hp
    go_enter Try.func3, Try.ntmps3
    go_wp2_with (first
      | (go_at_call 11; refine (few_any _ hx HR.out).mono ?_; rintro e w1 ⟨rfl, rfl⟩)
      | (go_at_call 13; refine (pack_x _ hx (by omega) HS.out HP.out).mono ?_; rintro e w1 ⟨A1, n1, a1, B1, m1, d1, C1, k1, c1, rfl, hP1, b1⟩)
      | (go_at_call 14; refine (rpack_x _ (hx.keep b1) (by omega) HS.out HP.out).mono ?_; rintro e w2 ⟨A2, n2, a2, B2, m2, d2, C2, k2, c2, rfl, hP2, b2⟩; have t2 := b1.trans (b2.mono b1.size))
      | (go_at_call 12; refine (same_any (r := true) _ (hP1.keep b2) hP2 (by simp)).mono ?_; rintro e w3 ⟨rfl, b3⟩; have t3 := t2.trans (b3.mono t2.size))
      | (go_at_call 15; refine (alive_any _).mono ?_; rintro e w4 ⟨rfl, b4⟩))
    go_ret
    exact ⟨rfl, t3.trans (b4.mono t3.size)⟩

set_option maxRecDepth 100000 in
set_option maxHeartbeats 2000000 in
theorem adds_walk (A : Option Addr) (n ca : Nat) (B : Option Addr) (m cb : Nat) (C : Option Addr) (k cc : Nat) (E : Option Addr) (t ct : Nat) (codes starts lens seq : List Int) (W : World)
    (hA : Sl W A n ca 1 (ints codes)) (hB : Sl W B m cb 1 (ints starts)) (hC : Sl W C k cc 1 (ints lens)) (hq : Sl W E t ct 1 (ints seq)) :
    Calls Try.prog 4 #[.agg #[.slice A n ca, .slice B m cb, .slice C k cc], .slice E t ct] W (Makes (.bool true) W) := by
  have hct := hq.cap
  have hmt := hq.max
  have k0 := Bk.fresh (Below.refl W.heap.size W) #[.slice A n ca, .slice B m cb, .slice C k cc] 27
  obtain ⟨r, hr⟩ : ∃ r, decide (n ≤ 200 ∧ m ≤ 40 ∧ k ≤ 40) = r := ⟨_, rfl⟩
  have HR := Lib.hid hr
  clear hr
  rcases r with _ | _
  · go_enter Try.func4, Try.ntmps4
    go_wp2_with (first
      | (go_at_call 16; refine (small_any _ HR.out).mono ?_; rintro e w1 ⟨rfl, b1⟩; have k1 := k0.step b1)
      | (go_at_call 15; refine (alive_any _).mono ?_; rintro e w2 ⟨rfl, b2⟩))
    go_ret
    exact ⟨rfl, (k1.step b2).below⟩
  · rcases Nat.lt_or_ge 20 t with ht | ht
    · have i1 : (20 : Int) < (t : Int) := by omega
      go_enter Try.func4, Try.ntmps4
      go_wp2_with (first
        | (go_at_call 16; refine (small_any _ HR.out).mono ?_; rintro e w1 ⟨rfl, b1⟩; have k1 := k0.step b1)
        | (go_at_call 15; refine (alive_any _).mono ?_; rintro e w2 ⟨rfl, b2⟩))
      go_ret
      exact ⟨rfl, (k1.step b2).below⟩
    · have i1 : ¬ (20 : Int) < (t : Int) := by omega
      have hz := of_decide_eq_true HR.out
      have hn := hz.1
      have hm := hz.2.1
      have hk := hz.2.2
      clear hz
      have hp : PoolIs W A n ca B m cb C k cc codes starts lens := ⟨hA, hB, hC, by omega, by omega, by omega⟩
      obtain ⟨p, hpp⟩ : ∃ p, addP (baseP codes starts lens) seq = p := ⟨_, rfl⟩
      obtain ⟨i, hi⟩ : ∃ i : Int, ((baseP codes starts lens).2.1.length : Int) = i := ⟨_, rfl⟩
      have HP := Lib.hid hpp
      have HI := Lib.hid hi
      clear hpp hi
      go_enter Try.func4, Try.ntmps4
      go_wp2_with (first
        | (go_at_call 16; refine (small_any _ HR.out).mono ?_; rintro e w1 ⟨rfl, b1⟩; have k1 := k0.step b1; obtain ⟨x0, x1, x2⟩ := k1.three)
        | (go_at_call 17; refine (add_x _ (hp.keep k1.below) (hq.keep k1.below) (by omega) (by omega) (by omega) (by omega) HP.out HI.out).mono ?_; rintro e w2 ⟨A1, n1, a1, B1, m1, d1, C1, k1', c1, rfl, hP1, b2⟩; have k2 := (k1.step b2).alloc (.cells #[.slice A1 n1 a1, .slice B1 m1 d1, .slice C1 k1' c1] 27); have j2 := Bk.fresh (k1.step b2).below #[.slice A1 n1 a1, .slice B1 m1 d1, .slice C1 k1' c1] 27; have hP2 := hP1.keep ((Below.refl w2.heap.size w2).alloc (Nat.le_refl _) (.cells #[.slice A1 n1 a1, .slice B1 m1 d1, .slice C1 k1' c1] 27)); obtain ⟨x0, x1, x2⟩ := k2.three; obtain ⟨y0, y1, y2⟩ := j2.three)
        | (go_at_call 18; refine (radd_x _ (hp.keep k2.below) (hq.keep k2.below) (by omega) (by omega) (by omega) (by omega) HP.out HI.out).mono ?_; rintro e w3 ⟨A3, n3, a3, B3, m3, d3, C3, k3', c3, rfl, hP3, b3⟩; have j3 := (j2.step b3).alloc (.cells #[.slice A3 n3 a3, .slice B3 m3 d3, .slice C3 k3' c3] 27); have l3 := Bk.fresh (j2.step b3).below #[.slice A3 n3 a3, .slice B3 m3 d3, .slice C3 k3' c3] 27; have hP4 := hP3.keep ((Below.refl w3.heap.size w3).alloc (Nat.le_refl _) (.cells #[.slice A3 n3 a3, .slice B3 m3 d3, .slice C3 k3' c3] 27)); have hP5 := (hP2.keep b3).keep ((Below.refl w3.heap.size w3).alloc (Nat.le_refl _) (.cells #[.slice A3 n3 a3, .slice B3 m3 d3, .slice C3 k3' c3] 27)); obtain ⟨y0, y1, y2⟩ := j3.three; obtain ⟨z0, z1, z2⟩ := l3.three)
        | (go_at_call 12; refine (same_any (r := true) _ hP5 hP4 (by simp)).mono ?_; rintro e w4 ⟨rfl, b4⟩; have j4 := j3.step b4)
        | (go_at_call 15; refine (alive_any _).mono ?_; rintro e w5 ⟨rfl, b5⟩))
      go_ret
      exact ⟨rfl, (j4.step b5).below⟩

set_option maxRecDepth 100000 in
set_option maxHeartbeats 2000000 in
theorem finds_walk (A : Option Addr) (n ca : Nat) (B : Option Addr) (m cb : Nat) (C : Option Addr) (k cc : Nat) (E : Option Addr) (t ct : Nat) (codes starts lens seq : List Int) (W : World)
    (hA : Sl W A n ca 1 (ints codes)) (hB : Sl W B m cb 1 (ints starts)) (hC : Sl W C k cc 1 (ints lens)) (hq : Sl W E t ct 1 (ints seq)) :
    Calls Try.prog 6 #[.agg #[.slice A n ca, .slice B m cb, .slice C k cc], .slice E t ct] W (Makes (.bool true) W) := by
  have hct := hq.cap
  have hmt := hq.max
  have k0 := Bk.fresh (Below.refl W.heap.size W) #[.slice A n ca, .slice B m cb, .slice C k cc] 27
  obtain ⟨r, hr⟩ : ∃ r, decide (n ≤ 200 ∧ m ≤ 40 ∧ k ≤ 40) = r := ⟨_, rfl⟩
  have HR := Lib.hid hr
  clear hr
  rcases r with _ | _
  · go_enter Try.func6, Try.ntmps6
    go_wp2_with (first
      | (go_at_call 16; refine (small_any _ HR.out).mono ?_; rintro e w1 ⟨rfl, b1⟩; have k1 := k0.step b1)
      | (go_at_call 15; refine (alive_any _).mono ?_; rintro e w2 ⟨rfl, b2⟩))
    go_ret
    exact ⟨rfl, (k1.step b2).below⟩
  · rcases Nat.lt_or_ge 200 t with ht | ht
    · have i1 : (200 : Int) < (t : Int) := by omega
      go_enter Try.func6, Try.ntmps6
      go_wp2_with (first
        | (go_at_call 16; refine (small_any _ HR.out).mono ?_; rintro e w1 ⟨rfl, b1⟩; have k1 := k0.step b1)
        | (go_at_call 15; refine (alive_any _).mono ?_; rintro e w2 ⟨rfl, b2⟩))
      go_ret
      exact ⟨rfl, (k1.step b2).below⟩
    · have i1 : ¬ (200 : Int) < (t : Int) := by omega
      have hz := of_decide_eq_true HR.out
      have hn := hz.1
      have hm := hz.2.1
      have hk := hz.2.2
      clear hz
      have hp : PoolIs W A n ca B m cb C k cc codes starts lens := ⟨hA, hB, hC, by omega, by omega, by omega⟩
      obtain ⟨v, b, hf⟩ : ∃ v b, findL codes starts lens seq = (v, b) := ⟨_, _, rfl⟩
      have HF := Lib.hid hf
      clear hf
      have q1 : (v == v) = true := by simp
      have q2 : (b == b) = true := by simp
      go_enter Try.func6, Try.ntmps6
      go_wp2_with (first
        | (go_at_call 16; refine (small_any _ HR.out).mono ?_; rintro e w1 ⟨rfl, b1⟩; have k1 := k0.step b1; obtain ⟨x0, x1, x2⟩ := k1.three)
        | (go_at_call 24; refine (find_x _ (hp.keep k1.below) (hq.keep k1.below) HF.out).mono ?_; rintro e w2 ⟨rfl, b2⟩; have k2 := k1.step b2; obtain ⟨x0, x1, x2⟩ := k2.three)
        | (go_at_call 25; refine (rfind_any _ (hp.keep k2.below) (hq.keep k2.below) HF.out).mono ?_; rintro e w3 ⟨rfl, b3⟩; have k3 := k2.step b3)
        | (go_at_call 15; refine (alive_any _).mono ?_; rintro e w5 ⟨rfl, b5⟩))
      go_ret
      exact ⟨rfl, (k3.step b5).below⟩
end Go.Proofs.Ytemflmodgbheoaa.Sp
