/-
  The walk of SeqpoolGets.
-/
import Derived.Test.YtemflmodgbheoaaSpWalkA
namespace Go.Proofs.Ytemflmodgbheoaa.Sp
open Go.RowKit
set_option linter.unusedVariables false

theorem Bk.drew' {w W : World} {g : Nat} {cs : Array Value} (h : Bk w W g cs) : Bk w W.drew g cs := ⟨h.below.drew, h.ge, h.row⟩
theorem pget_none {A B C : Option Addr} {n ca m cb k cc : Nat} {codes starts lens : List Int} {i : Int} (w : World) (hp : PoolIs w A n ca B m cb C k cc codes starts lens) (ho : getL codes starts lens i = none) :
    Calls Try.prog 19 #[.agg #[.slice A n ca, .slice B m cb, .slice C k cc], .int .i64 i] w (fun e w' => e = .returned (.tuple #[.slice none 0 0, .bool false]) ∧ Below w.heap.size w w') := get_any w hp ho
theorem pget_some {A B C : Option Addr} {n ca m cb k cc : Nat} {codes starts lens zs : List Int} {i : Int} (w : World) (hp : PoolIs w A n ca B m cb C k cc codes starts lens) (ho : getL codes starts lens i = some zs) :
    Calls Try.prog 19 #[.agg #[.slice A n ca, .slice B m cb, .slice C k cc], .int .i64 i] w
      (fun e w' => ∃ A n c, e = .returned (.tuple #[.slice A n c, .bool true]) ∧ Sl w' A n c 1 (ints zs) ∧ Below w.heap.size w w' ∧ From w.heap.size A) := get_any w hp ho

set_option maxRecDepth 100000 in
set_option maxHeartbeats 4000000 in
theorem gets_walk (A : Option Addr) (n ca : Nat) (B : Option Addr) (m cb : Nat) (C : Option Addr) (k cc : Nat) (i : Int) (codes starts lens : List Int) (W : World)
    (hA : Sl W A n ca 1 (ints codes)) (hB : Sl W B m cb 1 (ints starts)) (hC : Sl W C k cc 1 (ints lens)) :
    Calls Try.prog 5 #[.agg #[.slice A n ca, .slice B m cb, .slice C k cc], .int .i64 i] W (Makes (.bool true) W) := by
  have k0 := Bk.fresh (Below.refl W.heap.size W) #[.slice A n ca, .slice B m cb, .slice C k cc] 27
  obtain ⟨r, hr⟩ : ∃ r, decide (n ≤ 200 ∧ m ≤ 40 ∧ k ≤ 40) = r := ⟨_, rfl⟩
  have HR := Lib.hid hr
  clear hr
  rcases r with _ | _
  · go_enter Try.func5, Try.ntmps5
    go_wp2_with (first
      | (go_at_call 16; refine (small_any _ HR.out).mono ?_; rintro e w1 ⟨rfl, b1⟩; have k1 := k0.step b1)
      | (go_at_call 15; refine (alive_any _).mono ?_; rintro e w2 ⟨rfl, b2⟩))
    go_ret
    exact ⟨rfl, (k1.step b2).below⟩
  · have hz := of_decide_eq_true HR.out
    have hp : PoolIs W A n ca B m cb C k cc codes starts lens := ⟨hA, hB, hC, by omega, by omega, by omega⟩
    clear hz
    obtain ⟨v, hv⟩ : ∃ v, validL n starts lens = v := ⟨_, rfl⟩
    have HV := Lib.hid hv
    clear hv
    have q1 : (v == v) = true := by simp
    rcases ho : getL codes starts lens i with _ | zs
    · have HO := Lib.hid ho
      clear ho
      go_enter Try.func5, Try.ntmps5
      go_wp2_with (first
        | (go_at_call 16; refine (small_any _ HR.out).mono ?_; rintro e w1 ⟨rfl, b1⟩; have k1 := k0.step b1; obtain ⟨x0, x1, x2⟩ := k1.three)
        | (go_at_call 19; refine (pget_none _ (hp.keep k1.below) HO.out).mono ?_; rintro e w2 ⟨rfl, b2⟩; have k2 := k1.step b2; obtain ⟨x0, x1, x2⟩ := k2.three)
        | (go_at_call 20; refine (rget_none _ (hp.keep k2.below) HO.out).mono ?_; rintro e w3 ⟨rfl, b3⟩; have K := k2.step b3; obtain ⟨x0, x1, x2⟩ := K.three))
      have ha : Sl w3 none 0 0 1 (ints []) := Sl.nil _ _
      have hb : Sl w3 none 0 0 1 (ints []) := Sl.nil _ _
      have HE : Hid (decide (([] : List Int) = []) = true) := Lib.hid (by decide)
      go_region_held3 (fun X => X.cell? ⟨W.heap.size, 0, none⟩ = some (.slice A n ca) ∧ X.cell? ⟨W.heap.size, 1, none⟩ = some (.slice B m cb) ∧ X.cell? ⟨W.heap.size, 2, none⟩ = some (.slice C k cc)) (first | exact ⟨x0, x1, x2⟩ | go_keep)
        (first
          | (go_at_call 21; ((with_reducible refine (ref_equal_x HE.out ha hb).mono ?_); rintro e w' ⟨rfl, d⟩; have K := Bk.drawn K d; obtain ⟨x0, x1, x2⟩ := K.three))
          | (go_at_call 22; ((with_reducible refine (valid_any _ (hp.keep (Bk.below K)) HV.out).mono ?_); rintro e w' ⟨rfl, b⟩; have K := Bk.step K b; obtain ⟨x0, x1, x2⟩ := K.three))
          | (go_at_call 23; ((with_reducible refine (rvalid_any _ (hp.keep (Bk.below K)) HV.out).mono ?_); rintro e w' ⟨rfl, b⟩; have K := Bk.step K b; obtain ⟨x0, x1, x2⟩ := K.three))
          | (go_at_call 15; ((with_reducible refine (alive_any _).mono ?_); rintro e w' ⟨rfl, b⟩; have K := Bk.step K b; obtain ⟨x0, x1, x2⟩ := K.three))
          | (go_at_call 21; ((with_reducible refine (ref_equal_x HE.out ha.drew hb.drew).mono ?_); rintro e w' ⟨rfl, d⟩; have K := Bk.drawn (Bk.drew' K) d; obtain ⟨x0, x1, x2⟩ := K.three))
          | (go_at_call 22; ((with_reducible refine (valid_any _ (hp.keep (Bk.below (Bk.drew' K))) HV.out).mono ?_); rintro e w' ⟨rfl, b⟩; have K := Bk.step (Bk.drew' K) b; obtain ⟨x0, x1, x2⟩ := K.three))
          | (go_at_call 23; ((with_reducible refine (rvalid_any _ (hp.keep (Bk.below (Bk.drew' K))) HV.out).mono ?_); rintro e w' ⟨rfl, b⟩; have K := Bk.step (Bk.drew' K) b; obtain ⟨x0, x1, x2⟩ := K.three))
          | (go_at_call 15; ((with_reducible refine (alive_any _).mono ?_); rintro e w' ⟨rfl, b⟩; have K := Bk.step (Bk.drew' K) b; obtain ⟨x0, x1, x2⟩ := K.three)))
      all_goals
        go_wp2_with fail
        go_ret
        exact ⟨rfl, K.below⟩
    · have HO := Lib.hid ho
      clear ho
      go_enter Try.func5, Try.ntmps5
      go_wp2_with (first
        | (go_at_call 16; refine (small_any _ HR.out).mono ?_; rintro e w1 ⟨rfl, b1⟩; have k1 := k0.step b1; obtain ⟨x0, x1, x2⟩ := k1.three)
        | (go_at_call 19; refine (pget_some _ (hp.keep k1.below) HO.out).mono ?_; rintro e w2 ⟨D2, n2, c2, rfl, ha2, b2, _⟩; have k2 := k1.step b2; obtain ⟨x0, x1, x2⟩ := k2.three)
        | (go_at_call 20; refine (rget_some _ (hp.keep k2.below) HO.out).mono ?_; rintro e w3 ⟨D3, n3, c3, rfl, hb, b3, _⟩; have K := k2.step b3; obtain ⟨x0, x1, x2⟩ := K.three))
      have ha := ha2.keep b3
      have HE : Hid (decide (zs = zs) = true) := Lib.hid (by simp)
      go_region_held3 (fun X => X.cell? ⟨W.heap.size, 0, none⟩ = some (.slice A n ca) ∧ X.cell? ⟨W.heap.size, 1, none⟩ = some (.slice B m cb) ∧ X.cell? ⟨W.heap.size, 2, none⟩ = some (.slice C k cc)) (first | exact ⟨x0, x1, x2⟩ | go_keep)
        (first
          | (go_at_call 21; ((with_reducible refine (ref_equal_x HE.out ha hb).mono ?_); rintro e w' ⟨rfl, d⟩; have K := Bk.drawn K d; obtain ⟨x0, x1, x2⟩ := K.three))
          | (go_at_call 22; ((with_reducible refine (valid_any _ (hp.keep (Bk.below K)) HV.out).mono ?_); rintro e w' ⟨rfl, b⟩; have K := Bk.step K b; obtain ⟨x0, x1, x2⟩ := K.three))
          | (go_at_call 23; ((with_reducible refine (rvalid_any _ (hp.keep (Bk.below K)) HV.out).mono ?_); rintro e w' ⟨rfl, b⟩; have K := Bk.step K b; obtain ⟨x0, x1, x2⟩ := K.three))
          | (go_at_call 15; ((with_reducible refine (alive_any _).mono ?_); rintro e w' ⟨rfl, b⟩; have K := Bk.step K b; obtain ⟨x0, x1, x2⟩ := K.three))
          | (go_at_call 21; ((with_reducible refine (ref_equal_x HE.out ha.drew hb.drew).mono ?_); rintro e w' ⟨rfl, d⟩; have K := Bk.drawn (Bk.drew' K) d; obtain ⟨x0, x1, x2⟩ := K.three))
          | (go_at_call 22; ((with_reducible refine (valid_any _ (hp.keep (Bk.below (Bk.drew' K))) HV.out).mono ?_); rintro e w' ⟨rfl, b⟩; have K := Bk.step (Bk.drew' K) b; obtain ⟨x0, x1, x2⟩ := K.three))
          | (go_at_call 23; ((with_reducible refine (rvalid_any _ (hp.keep (Bk.below (Bk.drew' K))) HV.out).mono ?_); rintro e w' ⟨rfl, b⟩; have K := Bk.step (Bk.drew' K) b; obtain ⟨x0, x1, x2⟩ := K.three))
          | (go_at_call 15; ((with_reducible refine (alive_any _).mono ?_); rintro e w' ⟨rfl, b⟩; have K := Bk.step (Bk.drew' K) b; obtain ⟨x0, x1, x2⟩ := K.three)))
      all_goals
        go_wp2_with fail
        go_ret
        exact ⟨rfl, K.below⟩
end Go.Proofs.Ytemflmodgbheoaa.Sp
