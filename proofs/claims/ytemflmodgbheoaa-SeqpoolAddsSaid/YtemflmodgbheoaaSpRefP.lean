/-
  The contract of the reference's Pack (layer 14); what is packed is valid.
-/
import Derived.Test.YtemflmodgbheoaaSpRefA
namespace Go.Proofs.Ytemflmodgbheoaa.Sp
open Go.RowKit
set_option linter.unusedVariables false

def okP (p : List Int × List Int × List Int) : Prop := validL p.1.length p.2.1 p.2.2 = true
theorem okP_at {p : List Int × List Int × List Int} (h : okP p) : p.2.1.length = p.2.2.length ∧ okTo p.1.length p.2.1 p.2.2 p.2.1.length := by
  rw [okP, validL, decide_eq_true_eq] at h
  exact h
theorem okP_add {p : List Int × List Int × List Int} (h : okP p) (seq : List Int) : okP (addP p seq) := by
  obtain ⟨h1, h2⟩ := okP_at h
  rw [okP, validL, decide_eq_true_eq]
  have hl : (addP p seq).1.length = p.1.length + (seq.length - present p.1 seq) := by simp [addP]
  refine ⟨by simp [addP, h1], fun j hj => ?_⟩
  have hj2 : j < p.2.1.length + 1 := by simpa [addP] using hj
  rcases Nat.lt_or_ge j p.2.1.length with hlt | hge
  · have e1 : (addP p seq).2.1.getD j 0 = p.2.1.getD j 0 := by simp [addP, List.getD, List.getElem?_append_left hlt]
    have e2 : (addP p seq).2.2.getD j 0 = p.2.2.getD j 0 := by simp [addP, List.getD, List.getElem?_append_left (h1 ▸ hlt)]
    have := h2 j hlt
    rw [ok1, decide_eq_true_eq] at this
    rw [e1, e2, ok1, decide_eq_true_eq, hl]
    omega
  · obtain rfl : j = p.2.1.length := by omega
    have e1 : (addP p seq).2.1.getD p.2.1.length 0 = (startOf p.1 seq : Int) := by simp [addP, List.getD]
    have e2 : (addP p seq).2.2.getD p.2.1.length 0 = (seq.length : Int) := by rw [h1]; simp [addP, List.getD]
    have hs := start_le p.1 seq
    rw [e1, e2, ok1, decide_eq_true_eq, hl, present]
    omega
theorem okP_pack (l : List (List Int)) : ∀ j, okP (packP (l.take j)) := by
  have base : okP ([], [], []) := by rw [okP, validL, decide_eq_true_eq]; exact ⟨rfl, fun j hj => absurd hj (Nat.not_lt_zero _)⟩
  intro j
  induction j with
  | zero => exact base
  | succ j ih =>
    by_cases h : j < l.length
    · rw [packP_step h]
      exact okP_add ih _
    · have e1 : l.take (j + 1) = l.take j := by rw [List.take_of_length_le (by omega), List.take_of_length_le (by omega)]
      rw [e1]
      exact ih
theorem okP_all (l : List (List Int)) : okP (packP l) := by
  have := okP_pack l l.length
  rwa [List.take_length] at this
theorem baseP_ok {p : List Int × List Int × List Int} (h : okP p) : baseP p.1 p.2.1 p.2.2 = p := by
  have h' : validL p.1.length p.2.1 p.2.2 = true := h
  rw [baseP, if_pos h']

theorem rows_pool {W : World} {base : Nat} {va vb vc : Value} {na nb nc : Nat} {xs bs cs : List Int} (h : Rows W base va vb vc na nb nc xs bs cs) (h1 : na ≤ 1000) (h2 : nb ≤ 1000) (h3 : nc ≤ 1000) :
    ∃ A ca B cb C cc, va = .slice A na ca ∧ vb = .slice B nb cb ∧ vc = .slice C nc cc ∧ PoolIs W A na ca B nb cb C nc cc xs bs cs ∧ From base A ∧ From base B ∧ From base C := by
  obtain ⟨A, ca, rfl, ha, fa⟩ := h.a.sl_from
  obtain ⟨B, cb, rfl, hb, fb⟩ := h.b.sl_from
  obtain ⟨C, cc, rfl, hc, fc⟩ := h.c.sl_from
  exact ⟨A, ca, B, cb, C, cc, rfl, rfl, rfl, ⟨ha, hb, hc, h1, h2, h3⟩, fa, fb, fc⟩
theorem pool_set {W : World} {A B C : Option Addr} {n ca m cb k cc base g : Nat} {xs bs cs : List Int} (h : PoolIs W A n ca B m cb C k cc xs bs cs) (fa : From base A) (fb : From base B) (fc : From base C) (hg : g < base) (x y z : Value) :
    PoolIs (((W.setCell ⟨g, 0, none⟩ x).setCell ⟨g, 1, none⟩ y).setCell ⟨g, 2, none⟩ z) A n ca B m cb C k cc xs bs cs :=
  ⟨((h.codes.setCell fa (by exact hg) _).setCell fa (by exact hg) _).setCell fa (by exact hg) _, ((h.starts.setCell fb (by exact hg) _).setCell fb (by exact hg) _).setCell fb (by exact hg) _, ((h.lens.setCell fc (by exact hg) _).setCell fc (by exact hg) _).setCell fc (by exact hg) _, h.n_le, h.m_le, h.k_le⟩
theorem From.lower {b b' : Nat} {A : Option Addr} (h : From b A) (hb : b' ≤ b) : From b' A := fun a e => Nat.le_trans hb (h a e)
/-- A pool in the result of a call. -/
def PoolRes (p : List Int × List Int × List Int) (w : World) (e : Ending) (w' : World) : Prop :=
  ∃ A n ca B m cb C k cc, e = .returned (.agg #[.slice A n ca, .slice B m cb, .slice C k cc]) ∧ PoolIs w' A n ca B m cb C k cc p.1 p.2.1 p.2.2 ∧ Below w.heap.size w w'

/-- Between two rounds. -/
def RPacking (w W : World) (p : List Int × List Int × List Int) : Prop :=
  ∃ A n ca B m cb C k cc, PoolIs W A n ca B m cb C k cc p.1 p.2.1 p.2.2 ∧ Bk w W w.heap.size #[.slice none 0 0, .slice none 0 0, .slice none 0 0] ∧
    Bk w W (w.heap.size + 1) #[.slice A n ca, .slice B m cb, .slice C k cc] ∧ From (w.heap.size + 2) A ∧ From (w.heap.size + 2) B ∧ From (w.heap.size + 2) C

set_option maxRecDepth 100000 in
set_option maxHeartbeats 2000000 in
theorem rpack_any {A : Option Addr} {n c : Nat} {l : List (List Int)} (w : World) (hx : LL w A n c l) (hn : n ≤ 30) (hs : ∀ x ∈ l, x.length ≤ 20) :
    Calls Try.prog 14 #[.slice A n c] w (PoolRes (packP l) w) := by
  have HN := Lib.hid hx.count
  have HS := Lib.hid hs
  have hcx := hx.cap
  have hmx := hx.max
  have P0 : RPacking w ((w.alloc (.cells #[.slice none 0 0, .slice none 0 0, .slice none 0 0] 27)).alloc (.cells #[.slice none 0 0, .slice none 0 0, .slice none 0 0] 27)) (packP (l.take 0)) :=
    ⟨none, 0, 0, none, 0, 0, none, 0, 0, ⟨Sl.nil _ _, Sl.nil _ _, Sl.nil _ _, by omega, by omega, by omega⟩, (Bk.fresh (Below.refl _ _) _ _).alloc _, Bk.fresh_at ((Below.refl _ _).alloc (Nat.le_refl _) _) _ _ (by simp), fun a h => (by cases h), fun a h => (by cases h), fun a h => (by cases h)⟩
  clear hs
  go_enter Try.func14, Try.ntmps14
  go_wp2_with fail
  go_loopw [4, 11] (fun i x wr => ∃ j : Nat, j ≤ n ∧ i = .int .i64 (j : Int) ∧ Hid (RPacking w wr (packP (l.take j)))) (fun i _ _ => n - (intOf i).toNat)
  case atStart => exact ⟨0, Nat.zero_le _, rfl, Lib.hid P0⟩
  case round =>
    obtain ⟨j, hj, rfl, HP⟩ := hrel
    obtain ⟨A1, n1, ca, B1, m1, cb, C1, k1, cc, hP, hK, hK2, fA, fB, fC⟩ := HP.out
    obtain ⟨y0, y1, y2⟩ := hK2.three
    by_cases hlt : j < n
    · obtain ⟨b, off, D, q, r, rfl, hbl, hc, hsl⟩ := hx.at' j hlt
      have hcell := (hK.below.cell (p := ⟨b, off + j, none⟩) hbl).trans hc
      have hjl : j < l.length := by rw [← HN.out]; exact hlt
      have HQ : Hid ((l.getD j []).length = q) := Lib.hid (by have := hsl.count; omega)
      have hq : q ≤ 20 := by
        rw [← HQ.out]
        exact HS.out (l.getD j []) (by simp [List.getD, hjl])
      have HT : Hid (packP (l.take (j + 1)) = addP (packP (l.take j)) (l.getD j [])) := Lib.hid (packP_step hjl)
      have HSZ := Lib.hid (packP_size HS.out (j + 1) (by omega))
      have HB : Hid (baseP (packP (l.take j)).1 (packP (l.take j)).2.1 (packP (l.take j)).2.2 = packP (l.take j)) := Lib.hid (baseP_ok (okP_pack l j))
      obtain ⟨sq, hsq⟩ : ∃ sq, l.getD j [] = sq := ⟨_, rfl⟩
      rw [hsq] at hsl HT HQ
      clear hsq
      have hltc : (j : Int) < (n : Int) := by omega
      go_wp2_with fail
      have hge : w.heap.size + 2 ≤ wr.heap.size := by have := hK2.lt; omega
      have hPd : PoolIs wr.drew A1 n1 ca B1 m1 cb C1 k1 cc (packP (l.take j)).1 (packP (l.take j)).2.1 (packP (l.take j)).2.2 := hP.keep (Below.refl _ _).drew
      have hSd : Sl wr.drew D q r 1 (ints sq) := (hsl.keep hK.below).drew
      have HBA : Hid (packP (l.take (j + 1)) = addP (baseP (packP (l.take j)).1 (packP (l.take j)).2.1 (packP (l.take j)).2.2) sq) := Lib.hid (by rw [HB.out, HT.out])
      go_region_with
        (first
          | (go_at_call 18; refine (radd_any _ hPd hSd (by omega) _ _ HBA.out rfl).mono ?_; rintro e w' ⟨va, vb, vc, rfl, hR, hb2⟩; obtain ⟨A2, ca2, B2, cb2, C2, cc2, rfl, rfl, rfl, hP2, gA, gB, gC⟩ := rows_pool hR (by have := HSZ.out.1; omega) (by have := HSZ.out.2.1; omega) (by have := HSZ.out.2.2; omega); have hb3 := undrew hb2; have kL := hK.step hb3; have kL2 := hK2.step hb3; obtain ⟨y0, y1, y2⟩ := kL2.three; have f0 := kL2.free 0; have f1 := kL2.free 1; have f2 := kL2.free 2))
      all_goals
        go_wp2_with fail
        go_roundw
        case rel =>
          refine ⟨j + 1, by omega, by push_cast; rfl, Lib.hid ⟨A2, _, ca2, B2, _, cb2, C2, _, cc2, pool_set hP2 gA gB gC (by exact hge) _ _ _, Bk_other3 kL (by omega) (by omega) _ _ _, Bk_set3 kL2 _ _ _, From.lower gA hge, From.lower gB hge, From.lower gC hge⟩⟩
        case measure => simp [intOf] <;> omega
    · have i9 : ¬ ((j : Int) < (n : Int)) := by omega
      have hjn : j = n := by omega
      have HE : Hid (packP (l.take j) = packP l) := Lib.hid (by rw [hjn, HN.out, List.take_length])
      obtain ⟨z0, z1, z2⟩ := hK.three
      have e0 := hK.free 0
      have e1 := hK.free 1
      have e2 := hK.free 2
      clear hjn
      go_wp2_with fail
      refine bodyPost_ret (v := .agg #[.slice A1 n1 ca, .slice B1 m1 cb, .slice C1 k1 cc]) (by simp [results, Try.results14, go_sem, z0, z1, z2]) rfl ⟨A1, n1, ca, B1, m1, cb, C1, k1, cc, rfl, ?_, ((hK.below.setCell (Nat.le_refl _) _).setCell (Nat.le_refl _) _).setCell (Nat.le_refl _) _⟩
      rw [← HE.out]
      exact pool_set hP fA fB fC (by omega) _ _ _
end Go.Proofs.Ytemflmodgbheoaa.Sp
