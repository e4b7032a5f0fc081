/-
  The walk of SeqpoolSaves.
-/
import Derived.Test.YtemflmodgbheoaaSpWalkC
namespace Go.Proofs.Ytemflmodgbheoaa.Sp
open Go.RowKit
set_option linter.unusedVariables false

theorem byte_wf {a : Int} (h : (Lit.int .u8 a).wf = true) : 0 ≤ a ∧ a ≤ 255 := by
  simpa [Lit.wf, IntKind.min, IntKind.max, IntKind.signed, IntKind.bits] using h

theorem add_xf {A B C E : Option Addr} {n ca m cb k cc t ct : Nat} {codes starts lens seq : List Int} {p : List Int × List Int × List Int} {v : Int} (w : World) (hp : PoolIs w A n ca B m cb C k cc codes starts lens) (hq : Sl w E t ct 1 (ints seq)) (ht : t ≤ 20) (hn : n ≤ 900) (hm : m ≤ 900) (hk : k ≤ 900)
    (hpp : addP (baseP codes starts lens) seq = p) (hi : ((baseP codes starts lens).2.1.length : Int) = v) :
    Calls Try.prog 17 #[.agg #[.slice A n ca, .slice B m cb, .slice C k cc], .slice E t ct] w (fun e w' => ∃ A n ca B m cb C k cc, e = .returned (.tuple #[.agg #[.slice A n ca, .slice B m cb, .slice C k cc], .int .i64 v]) ∧ PoolIs w' A n ca B m cb C k cc p.1 p.2.1 p.2.2 ∧ Below w.heap.size w w' ∧
      From w.heap.size A ∧ From w.heap.size B ∧ From w.heap.size C) := by
  have h1 := addP_size (baseP codes starts lens) seq
  have h2 := baseP_size codes starts lens
  have e1 := hp.codes.count
  have e2 := hp.starts.count
  have e3 := hp.lens.count
  have e4 := hq.count
  rw [hpp] at h1
  refine (add_any w hp hq ht p _ hpp.symm rfl).mono ?_
  rintro e w' ⟨va, vb, vc, rfl, hR, hb⟩
  obtain ⟨A, ca, B, cb, C, cc, rfl, rfl, rfl, hP, fa, fb, fc⟩ := rows_pool hR (by omega) (by omega) (by omega)
  subst hi
  exact ⟨A, _, ca, B, _, cb, C, _, cc, rfl, hP, hb, fa, fb, fc⟩
theorem pool_keep {w w' : World} {A B C : Option Addr} {n ca m cb k cc : Nat} {codes starts lens : List Int} (h : PoolIs w A n ca B m cb C k cc codes starts lens) (hb : Below w.heap.size w w') : PoolIs w' A n ca B m cb C k cc codes starts lens := h.keep hb
theorem mod_nat (a b : Nat) (h : 0 < b) : ∃ c : Nat, (a : Int) % (b : Int) = (c : Int) ∧ c < b := ⟨a % b, by first | rfl | (push_cast; rfl), Nat.mod_lt _ h⟩

set_option maxRecDepth 100000 in
set_option maxHeartbeats 4000000 in
theorem saves_walk (A : Option Addr) (n c : Nat) (l : List (List Int)) (a0 a1 a2 : Int) (v0 : (Lit.int .u8 a0).wf = true) (v1 : (Lit.int .u8 a1).wf = true) (v2 : (Lit.int .u8 a2).wf = true) (W : World) (hx : LL W A n c l) :
    Calls Try.prog 8 #[.slice A n c, .int .u8 a0, .int .u8 a1, .int .u8 a2] W (Makes (.bool true) W) := by
  have u0 := byte_wf v0
  have u1 := byte_wf v1
  have u2 := byte_wf v2
  clear v0 v1 v2
  obtain ⟨f, rfl⟩ : ∃ f : Nat, a0 = (f : Int) := ⟨a0.toNat, by omega⟩
  obtain ⟨g, rfl⟩ : ∃ g : Nat, a1 = (g : Int) := ⟨a1.toNat, by omega⟩
  obtain ⟨h, rfl⟩ : ∃ h : Nat, a2 = (h : Int) := ⟨a2.toNat, by omega⟩
  obtain ⟨r, hr⟩ : ∃ r, decide (n ≤ 12 ∧ ∀ x ∈ l, x.length ≤ 20) = r := ⟨_, rfl⟩
  have HR := Lib.hid hr
  clear hr
  rcases r with _ | _
  · go_enter Try.func8, Try.ntmps8
    go_wp2_with (first
      | (go_at_call 11; refine (few_any _ hx HR.out).mono ?_; rintro e w1 ⟨rfl, rfl⟩)
      | (go_at_call 15; refine (alive_any _).mono ?_; rintro e w2 ⟨rfl, b2⟩))
    go_ret
    exact ⟨rfl, b2⟩
  · have hn := (few_true HR.out).1
    have HS := Lib.hid (few_true HR.out).2
    have HN := Lib.hid hx.count
    have hcx := hx.cap
    have hmx := hx.max
    rcases Nat.eq_zero_or_pos n with hn0 | hn0
    · subst hn0
      go_enter Try.func8, Try.ntmps8
      go_wp2_with (first
        | (go_at_call 11; refine (few_any _ hx HR.out).mono ?_; rintro e w1 ⟨rfl, rfl⟩)
        | (go_at_call 15; refine (alive_any _).mono ?_; rintro e w2 ⟨rfl, b2⟩))
      go_ret
      exact ⟨rfl, b2⟩
    · have q0 : ((n : Int) == 0) = false := by rw [beq_eq_false_iff_ne]; omega
      have HV := Lib.hid (okP_all l)
      have HLEN := Lib.hid (pack_length l)
      have HAT := Lib.hid (fun i => pack_at (l := l) (i := i))
      have HC0 := pack_codes l l.length (Nat.le_refl _)
      rw [List.take_length] at HC0
      have HC := Lib.hid HC0
      clear HC0
      obtain ⟨p, hp⟩ : ∃ p, packP l = p := ⟨_, rfl⟩
      rw [hp] at HV HLEN HAT HC
      have HP := Lib.hid hp
      clear hp
      go_enter Try.func8, Try.ntmps8
      go_wp2_with (first
        | (go_at_call 11; refine (few_any _ hx HR.out).mono ?_; rintro e w1 ⟨rfl, rfl⟩)
        | (go_at_call 13; refine (pack_x _ hx (by omega) HS.out HP.out).mono ?_; rintro e w1 ⟨A1, n1, a1, B1, m1, d1, C1, k1, c1, rfl, hP1, b1⟩))
      have K0 := Bk.fresh b1 #[.slice A1 n1 a1, .slice B1 m1 d1, .slice C1 k1 c1] 27
      have P0 := hP1.keep ((Below.refl w1.heap.size w1).alloc (Nat.le_refl _) (.cells #[.slice A1 n1 a1, .slice B1 m1 d1, .slice C1 k1 c1] 27))
      go_loopw [10, 11] (fun s i wr => ∃ j z : Nat, j ≤ n ∧ z ≤ 20 * j ∧ s = .int .i64 (z : Int) ∧ i = .int .i64 (j : Int) ∧ Hid (((l.take j).map List.length).sum = z) ∧ wr = w1.alloc (.cells #[.slice A1 n1 a1, .slice B1 m1 d1, .slice C1 k1 c1] 27)) (fun _ i _ => n - (intOf i).toNat)
      case atStart => exact ⟨0, 0, Nat.zero_le _, Nat.zero_le _, rfl, rfl, Lib.hid rfl, rfl⟩
      case round =>
        obtain ⟨j, z, hj, hz, rfl, rfl, HZ, rfl⟩ := hrel
        by_cases hlt : j < n
        · have hjl : j < l.length := by rw [← HN.out]; exact hlt
          obtain ⟨b, off, D, q, r, rfl, hbl, hc, hsl⟩ := hx.at' j hlt
          have HQ : Hid ((l.getD j []).length = q) := Lib.hid (by have := hsl.count; omega)
          have hq : q ≤ 20 := by
            rw [← HQ.out]
            exact HS.out (l.getD j []) (by simp [List.getD, hjl])
          have y0 := (K0.below.cell (p := ⟨b, off + j, none⟩) hbl).trans hc
          have HZ2 : Hid (((l.take (j + 1)).map List.length).sum = z + q) := Lib.hid (by
            rw [take_snocL hjl, List.map_append, List.sum_append, HZ.out]
            simp only [List.map_cons, List.map_nil, List.sum_cons, List.sum_nil, HQ.out]
            omega)
          go_wp2_with fail
          go_roundw
          case rel => exact ⟨j + 1, z + q, by omega, by omega, by push_cast; rfl, by push_cast; rfl, HZ2, trivial⟩
          case measure => simp [intOf] <;> omega
        · have i9 : ¬ ((j : Int) < (n : Int)) := by omega
          have hjn : j = n := by omega
          have HSUM : Hid (p.1.length ≤ z) := Lib.hid (by have := HC.out; rw [← HZ.out, hjn, HN.out, List.take_length]; exact this)
          have hz2 : z ≤ 240 := by omega
          clear hjn hz
          obtain ⟨w0, e0, hw0⟩ := mod_nat f n hn0
          obtain ⟨b, off, D, q, r, rfl, hbl, hc, hsl⟩ := hx.at' w0 hw0
          have hwl : w0 < l.length := by rw [← HN.out]; exact hw0
          have HQ : Hid ((l.getD w0 []).length = q) := Lib.hid (by have := hsl.count; omega)
          have hq : q ≤ 20 := by
            rw [← HQ.out]
            exact HS.out (l.getD w0 []) (by simp [List.getD, hwl])
          have hqr := hsl.cap
          have hrm := hsl.max
          obtain ⟨lo, e1, hlo⟩ := mod_nat g (q + 1) (by omega)
          have e1' : (g : Int) % ((q : Int) + 1) = (lo : Int) := by rw [← e1]; push_cast; rfl
          obtain ⟨d, e2, hd⟩ := mod_nat h (q + 1 - lo) (by omega)
          have e2' : (h : Int) % ((q : Int) + 1 - (lo : Int)) = (d : Int) := by rw [← e2, show (q : Int) + 1 - (lo : Int) = ((q + 1 - lo : Nat) : Int) by omega]
          clear e1 e2
          have y0 := (K0.below.cell (p := ⟨b, off + w0, none⟩) hbl).trans hc
          have f1 : (0 : Int) < (q : Int) + 1 := by omega
          have f2 : (0 : Int) < (q : Int) + 1 - (lo : Int) := by omega
          have f3 : (w0 : Int) < (n : Int) := by omega
          have hvw : w0 < p.2.1.length := by rw [HLEN.out]; exact hwl
          have hokp := okP_at HV.out
          obtain ⟨s0, l0, hs1, hs2, hs3⟩ := valid_at (N := p.1.length) HV.out hvw
          have hx0 : (p.1.drop s0).take l0 = l.getD w0 [] := by
            have := HAT.out w0 hwl
            rwa [seqAt, hs1, hs2, Int.toNat_natCast, Int.toNat_natCast] at this
          have hl0 : l0 = q := by
            have h1 := congrArg List.length hx0
            rw [List.length_take, List.length_drop, HQ.out] at h1
            omega
          subst hl0
          obtain ⟨sub, hsub⟩ : ∃ sub, ((l.getD w0 []).drop lo).take d = sub := ⟨_, rfl⟩
          have hprs : present p.1 sub = sub.length := by
            have h1 := present_part (codes := p.1) (s := s0) (n := l0) (a := lo) (b := lo + d) (by omega) (by omega) (by omega)
            rw [hx0, Nat.add_sub_cancel_left, hsub] at h1
            rw [h1, ← hsub, List.length_take, List.length_drop, HQ.out]
            omega
          obtain ⟨p2, hp2⟩ : ∃ p2, addP (baseP p.1 p.2.1 p.2.2) sub = p2 := ⟨_, rfl⟩
          have hbp : baseP p.1 p.2.1 p.2.2 = p := baseP_ok HV.out
          have HCD : Hid (p2.1 = p.1) := Lib.hid (by rw [← hp2, hbp, add_part hprs])
          have HI : Hid (((baseP p.1 p.2.1 p.2.2).2.1.length : Int) = (n : Int)) := Lib.hid (by rw [hbp, HLEN.out, HN.out])
          have HPP := Lib.hid hp2
          have hn1 : n1 ≤ 900 := by have := P0.codes.count; have := HSUM.out; omega
          have hm1 : m1 ≤ 900 := by have := P0.starts.count; have := HLEN.out; have := HN.out; omega
          have hk1 : k1 ≤ 900 := by have := P0.lens.count; have := hokp.1; have := HLEN.out; have := HN.out; omega
          have HTL : Hid (Sl W (if r = lo then D else D.map (·.add lo)) d (r - lo) 1 (ints sub)) := Lib.hid (by
            have h5 := (hsl.tail1 (k := lo) (by omega)).head1 (k := d) (by omega)
            rw [hsub] at h5
            exact h5)
          have g1 : (0 : Int) ≤ (lo : Int) := by omega
          have g2 : IntKind.i64.wrap ((lo : Int) + (d : Int)) = (lo : Int) + (d : Int) := IntWalk.i64_in _ (by omega)
          have g3 : (0 : Int) ≤ (lo : Int) + (d : Int) := by omega
          have g4 : (lo : Int) ≤ (lo : Int) + (d : Int) := by omega
          have g5 : (lo : Int) + (d : Int) ≤ (r : Int) := by omega
          have g6 : ((lo : Int) + (d : Int)).toNat = lo + d := by omega
          have HX0 := Lib.hid hx0
          clear hx0 hs1 hs2 hsub hprs hp2 hbp hokp
          obtain ⟨x0, x1, x2⟩ := K0.three
          rcases Nat.lt_or_ge lo r with hlr | hlr
          · have hne : ¬ r = lo := by omega
            have HSX := HTL
            rw [if_neg hne] at HSX
            go_wp2_with fail
            go_cut [15, 16] (fun s15 s16 wx => ∃ g6 A2 n2 a2 B2 m2 d2 C2 k2 c2, s15 = .pointer (some ⟨g6, 0, none⟩) ∧ s16 = .int .i64 (n : Int) ∧ Hid (Bk W wx g6 #[.slice A2 n2 a2, .slice B2 m2 d2, .slice C2 k2 c2]) ∧ Hid (Bk W wx w1.heap.size #[.slice A1 n1 a1, .slice B1 m1 d1, .slice C1 k1 c1]) ∧ Hid (PoolIs wx A2 n2 a2 B2 m2 d2 C2 k2 c2 p2.1 p2.2.1 p2.2.2) ∧ Hid (PoolIs wx A1 n1 a1 B1 m1 d1 C1 k1 c1 p.1 p.2.1 p.2.2))
            case first =>
              go_region_held3 (fun X => X.cell? ⟨w1.heap.size, 0, none⟩ = some (.slice A1 n1 a1) ∧ X.cell? ⟨w1.heap.size, 1, none⟩ = some (.slice B1 m1 d1) ∧ X.cell? ⟨w1.heap.size, 2, none⟩ = some (.slice C1 k1 c1)) (first | exact ⟨x0, x1, x2⟩ | go_keep)
                (first
                  | (go_at_call 17; ((with_reducible refine (add_xf _ (P0.keep (Below.refl _ _)) (Sl.keep (HSX.out.keep K0.below) (Below.refl _ _)) (by omega) (by omega) (by omega) (by omega) HPP.out HI.out).mono ?_); rintro e w3 ⟨A2, n2, a2, B2, m2, d2, C2, k2, c2, rfl, hP3, b3, fA, fB, fC⟩; have K3 := Bk.step K0 b3; obtain ⟨x0, x1, x2⟩ := K3.three; have P3 := (P0.keep (Below.refl _ _)).keep b3; skip))
                  | (go_at_call 17; ((with_reducible refine (add_xf _ (P0.keep (Below.drew (Below.refl _ _))) (Sl.keep (HSX.out.keep K0.below) (Below.drew (Below.refl _ _))) (by omega) (by omega) (by omega) (by omega) HPP.out HI.out).mono ?_); rintro e w3 ⟨A2, n2, a2, B2, m2, d2, C2, k2, c2, rfl, hP3, b3, fA, fB, fC⟩; have K3 := Bk.step (Bk.drew' K0) b3; obtain ⟨x0, x1, x2⟩ := K3.three; have P3 := (P0.keep (Below.drew (Below.refl _ _))).keep b3; skip))
                  | (go_at_call 17; ((with_reducible refine (add_xf _ (P0.keep (Below.alloc (Below.refl _ _) (Nat.le_refl _) (.cells #[.slice none 0 0, .slice none 0 0, .slice none 0 0] 27))) (Sl.keep (HSX.out.keep K0.below) (Below.alloc (Below.refl _ _) (Nat.le_refl _) (.cells #[.slice none 0 0, .slice none 0 0, .slice none 0 0] 27))) (by omega) (by omega) (by omega) (by omega) HPP.out HI.out).mono ?_); rintro e w3 ⟨A2, n2, a2, B2, m2, d2, C2, k2, c2, rfl, hP3, b3, fA, fB, fC⟩; have K3 := Bk.step (Bk.alloc K0 (.cells #[.slice none 0 0, .slice none 0 0, .slice none 0 0] 27)) b3; obtain ⟨x0, x1, x2⟩ := K3.three; have P3 := (P0.keep (Below.alloc (Below.refl _ _) (Nat.le_refl _) (.cells #[.slice none 0 0, .slice none 0 0, .slice none 0 0] 27))).keep b3; have J3 := (Bk.fresh_at K0.below #[.slice none 0 0, .slice none 0 0, .slice none 0 0] 27 (g := w1.heap.size + 1) (by simp)).step b3; obtain ⟨z0, z1, z2⟩ := J3.three; have e0 := J3.free 0; have e1 := J3.free 1; have e2 := J3.free 2; skip))
                  | (go_at_call 17; ((with_reducible refine (add_xf _ (P0.keep (Below.drew (Below.alloc (Below.refl _ _) (Nat.le_refl _) (.cells #[.slice none 0 0, .slice none 0 0, .slice none 0 0] 27)))) (Sl.keep (HSX.out.keep K0.below) (Below.drew (Below.alloc (Below.refl _ _) (Nat.le_refl _) (.cells #[.slice none 0 0, .slice none 0 0, .slice none 0 0] 27)))) (by omega) (by omega) (by omega) (by omega) HPP.out HI.out).mono ?_); rintro e w3 ⟨A2, n2, a2, B2, m2, d2, C2, k2, c2, rfl, hP3, b3, fA, fB, fC⟩; have K3 := Bk.step (Bk.drew' (Bk.alloc K0 (.cells #[.slice none 0 0, .slice none 0 0, .slice none 0 0] 27))) b3; obtain ⟨x0, x1, x2⟩ := K3.three; have P3 := (P0.keep (Below.drew (Below.alloc (Below.refl _ _) (Nat.le_refl _) (.cells #[.slice none 0 0, .slice none 0 0, .slice none 0 0] 27)))).keep b3; have J3 := (Bk.drew' (Bk.fresh_at K0.below #[.slice none 0 0, .slice none 0 0, .slice none 0 0] 27 (g := w1.heap.size + 1) (by simp))).step b3; obtain ⟨z0, z1, z2⟩ := J3.three; have e0 := J3.free 0; have e1 := J3.free 1; have e2 := J3.free 2; skip)))
              all_goals
                go_wp2_with fail
                go_meet
                first
                  | exact ⟨w3.heap.size, A2, n2, a2, B2, m2, d2, C2, k2, c2, rfl, rfl, Lib.hid (Bk.fresh K3.below _ _), Lib.hid (K3.alloc _), Lib.hid (hP3.keep ((Below.refl _ _).alloc (Nat.le_refl _) _)), Lib.hid (P3.keep ((Below.refl _ _).alloc (Nat.le_refl _) _))⟩
                  | exact ⟨w1.heap.size + 1, A2, n2, a2, B2, m2, d2, C2, k2, c2, rfl, rfl, Lib.hid (Bk_set3 J3 _ _ _), Lib.hid (Bk_other3 K3 (by omega) (by have := b1.size; omega) _ _ _), Lib.hid (pool_set hP3 fA fB fC (by simp) _ _ _), Lib.hid (hP1.keep (((((((Below.refl w1.heap.size w1).alloc (Nat.le_refl _) _).alloc (by simp) _).trans (b3.mono (by simp; omega))).setCell (by simp) _).setCell (by simp) _).setCell (by simp) _))⟩
                  | exact ⟨w1.heap.size + 1, A2, n2, a2, B2, m2, d2, C2, k2, c2, rfl, rfl, Lib.hid (Bk_set3 J3 _ _ _), Lib.hid (Bk_other3 K3 (by omega) (by have := b1.size; omega) _ _ _), Lib.hid (pool_set hP3 fA fB fC (by simp) _ _ _), Lib.hid (hP1.keep (((((((Below.refl w1.heap.size w1).alloc (Nat.le_refl _) _).alloc (by simp) _).trans ((undrew b3).mono (by simp; omega))).setCell (by simp) _).setCell (by simp) _).setCell (by simp) _))⟩
            case rest =>
              obtain ⟨g6, A2, n2, a2, B2, m2, d2, C2, k2, c2, rfl, rfl, H6, H1, HP2, HP1⟩ := hcut
              clear x0 x1 x2
              obtain ⟨x0, x1, x2⟩ := H1.out.three
              obtain ⟨z0, z1, z2⟩ := H6.out.three
              have r1 : n1 ≤ z := by have := P0.codes.count; have := HSUM.out; omega
              have r2 : (n1 : Int) ≤ (z : Int) := by omega
              have P2 := HP2.out
              have P1 := HP1.out
              have K := H1.out
              go_wp2_with (first
                | (go_at_call 21; refine (ref_equal_x (decide_eq_true HCD.out) P2.codes P1.codes).mono ?_; rintro e w6 ⟨rfl, d6⟩; have K6 := K.drawn d6)
                | (go_at_call 15; refine (alive_any _).mono ?_; rintro e w8 ⟨rfl, b8⟩))
              go_ret
              exact ⟨rfl, (K6.step b8).below⟩
          · obtain rfl : r = lo := by omega
            have HSX := HTL
            rw [if_pos rfl, Nat.sub_self] at HSX
            obtain rfl : d = 0 := by omega
            clear g2 g3 g4 g5 g6
            have g2 : IntKind.i64.wrap (r : Int) = (r : Int) := IntWalk.i64_in _ (by omega)
            have e3' : (h : Int) % ((l0 : Int) + 1 - (r : Int)) = 0 := e2'
            clear e2'
            go_wp2_with fail
            go_cut [15, 16] (fun s15 s16 wx => ∃ g6 A2 n2 a2 B2 m2 d2 C2 k2 c2, s15 = .pointer (some ⟨g6, 0, none⟩) ∧ s16 = .int .i64 (n : Int) ∧ Hid (Bk W wx g6 #[.slice A2 n2 a2, .slice B2 m2 d2, .slice C2 k2 c2]) ∧ Hid (Bk W wx w1.heap.size #[.slice A1 n1 a1, .slice B1 m1 d1, .slice C1 k1 c1]) ∧ Hid (PoolIs wx A2 n2 a2 B2 m2 d2 C2 k2 c2 p2.1 p2.2.1 p2.2.2) ∧ Hid (PoolIs wx A1 n1 a1 B1 m1 d1 C1 k1 c1 p.1 p.2.1 p.2.2))
            case first =>
              go_region_held3 (fun X => X.cell? ⟨w1.heap.size, 0, none⟩ = some (.slice A1 n1 a1) ∧ X.cell? ⟨w1.heap.size, 1, none⟩ = some (.slice B1 m1 d1) ∧ X.cell? ⟨w1.heap.size, 2, none⟩ = some (.slice C1 k1 c1)) (first | exact ⟨x0, x1, x2⟩ | go_keep)
                (first
                  | (go_at_call 17; ((with_reducible refine (add_xf _ (P0.keep (Below.refl _ _)) (Sl.keep (HSX.out.keep K0.below) (Below.refl _ _)) (by omega) (by omega) (by omega) (by omega) HPP.out HI.out).mono ?_); rintro e w3 ⟨A2, n2, a2, B2, m2, d2, C2, k2, c2, rfl, hP3, b3, fA, fB, fC⟩; have K3 := Bk.step K0 b3; obtain ⟨x0, x1, x2⟩ := K3.three; have P3 := (P0.keep (Below.refl _ _)).keep b3; skip))
                  | (go_at_call 17; ((with_reducible refine (add_xf _ (P0.keep (Below.drew (Below.refl _ _))) (Sl.keep (HSX.out.keep K0.below) (Below.drew (Below.refl _ _))) (by omega) (by omega) (by omega) (by omega) HPP.out HI.out).mono ?_); rintro e w3 ⟨A2, n2, a2, B2, m2, d2, C2, k2, c2, rfl, hP3, b3, fA, fB, fC⟩; have K3 := Bk.step (Bk.drew' K0) b3; obtain ⟨x0, x1, x2⟩ := K3.three; have P3 := (P0.keep (Below.drew (Below.refl _ _))).keep b3; skip))
                  | (go_at_call 17; ((with_reducible refine (add_xf _ (P0.keep (Below.alloc (Below.refl _ _) (Nat.le_refl _) (.cells #[.slice none 0 0, .slice none 0 0, .slice none 0 0] 27))) (Sl.keep (HSX.out.keep K0.below) (Below.alloc (Below.refl _ _) (Nat.le_refl _) (.cells #[.slice none 0 0, .slice none 0 0, .slice none 0 0] 27))) (by omega) (by omega) (by omega) (by omega) HPP.out HI.out).mono ?_); rintro e w3 ⟨A2, n2, a2, B2, m2, d2, C2, k2, c2, rfl, hP3, b3, fA, fB, fC⟩; have K3 := Bk.step (Bk.alloc K0 (.cells #[.slice none 0 0, .slice none 0 0, .slice none 0 0] 27)) b3; obtain ⟨x0, x1, x2⟩ := K3.three; have P3 := (P0.keep (Below.alloc (Below.refl _ _) (Nat.le_refl _) (.cells #[.slice none 0 0, .slice none 0 0, .slice none 0 0] 27))).keep b3; have J3 := (Bk.fresh_at K0.below #[.slice none 0 0, .slice none 0 0, .slice none 0 0] 27 (g := w1.heap.size + 1) (by simp)).step b3; obtain ⟨z0, z1, z2⟩ := J3.three; have e0 := J3.free 0; have e1 := J3.free 1; have e2 := J3.free 2; skip))
                  | (go_at_call 17; ((with_reducible refine (add_xf _ (P0.keep (Below.drew (Below.alloc (Below.refl _ _) (Nat.le_refl _) (.cells #[.slice none 0 0, .slice none 0 0, .slice none 0 0] 27)))) (Sl.keep (HSX.out.keep K0.below) (Below.drew (Below.alloc (Below.refl _ _) (Nat.le_refl _) (.cells #[.slice none 0 0, .slice none 0 0, .slice none 0 0] 27)))) (by omega) (by omega) (by omega) (by omega) HPP.out HI.out).mono ?_); rintro e w3 ⟨A2, n2, a2, B2, m2, d2, C2, k2, c2, rfl, hP3, b3, fA, fB, fC⟩; have K3 := Bk.step (Bk.drew' (Bk.alloc K0 (.cells #[.slice none 0 0, .slice none 0 0, .slice none 0 0] 27))) b3; obtain ⟨x0, x1, x2⟩ := K3.three; have P3 := (P0.keep (Below.drew (Below.alloc (Below.refl _ _) (Nat.le_refl _) (.cells #[.slice none 0 0, .slice none 0 0, .slice none 0 0] 27)))).keep b3; have J3 := (Bk.drew' (Bk.fresh_at K0.below #[.slice none 0 0, .slice none 0 0, .slice none 0 0] 27 (g := w1.heap.size + 1) (by simp))).step b3; obtain ⟨z0, z1, z2⟩ := J3.three; have e0 := J3.free 0; have e1 := J3.free 1; have e2 := J3.free 2; skip)))
              all_goals
                go_wp2_with fail
                go_meet
                first
                  | exact ⟨w3.heap.size, A2, n2, a2, B2, m2, d2, C2, k2, c2, rfl, rfl, Lib.hid (Bk.fresh K3.below _ _), Lib.hid (K3.alloc _), Lib.hid (hP3.keep ((Below.refl _ _).alloc (Nat.le_refl _) _)), Lib.hid (P3.keep ((Below.refl _ _).alloc (Nat.le_refl _) _))⟩
                  | exact ⟨w1.heap.size + 1, A2, n2, a2, B2, m2, d2, C2, k2, c2, rfl, rfl, Lib.hid (Bk_set3 J3 _ _ _), Lib.hid (Bk_other3 K3 (by omega) (by have := b1.size; omega) _ _ _), Lib.hid (pool_set hP3 fA fB fC (by simp) _ _ _), Lib.hid (hP1.keep (((((((Below.refl w1.heap.size w1).alloc (Nat.le_refl _) _).alloc (by simp) _).trans (b3.mono (by simp; omega))).setCell (by simp) _).setCell (by simp) _).setCell (by simp) _))⟩
                  | exact ⟨w1.heap.size + 1, A2, n2, a2, B2, m2, d2, C2, k2, c2, rfl, rfl, Lib.hid (Bk_set3 J3 _ _ _), Lib.hid (Bk_other3 K3 (by omega) (by have := b1.size; omega) _ _ _), Lib.hid (pool_set hP3 fA fB fC (by simp) _ _ _), Lib.hid (hP1.keep (((((((Below.refl w1.heap.size w1).alloc (Nat.le_refl _) _).alloc (by simp) _).trans ((undrew b3).mono (by simp; omega))).setCell (by simp) _).setCell (by simp) _).setCell (by simp) _))⟩
            case rest =>
              obtain ⟨g6, A2, n2, a2, B2, m2, d2, C2, k2, c2, rfl, rfl, H6, H1, HP2, HP1⟩ := hcut
              clear x0 x1 x2
              obtain ⟨x0, x1, x2⟩ := H1.out.three
              obtain ⟨z0, z1, z2⟩ := H6.out.three
              have r1 : n1 ≤ z := by have := P0.codes.count; have := HSUM.out; omega
              have r2 : (n1 : Int) ≤ (z : Int) := by omega
              have P2 := HP2.out
              have P1 := HP1.out
              have K := H1.out
              go_wp2_with (first
                | (go_at_call 21; refine (ref_equal_x (decide_eq_true HCD.out) P2.codes P1.codes).mono ?_; rintro e w6 ⟨rfl, d6⟩; have K6 := K.drawn d6)
                | (go_at_call 15; refine (alive_any _).mono ?_; rintro e w8 ⟨rfl, b8⟩))
              go_ret
              exact ⟨rfl, (K6.step b8).below⟩
end Go.Proofs.Ytemflmodgbheoaa.Sp
