/-
  The contracts of extend, borders and place of package seqpool.
-/
import Derived.Test.YtemflmodgbheoaaSpMath
import Derived.Test.YtemflmodgbheoaaMemStep
import Derived.Test.YtemflmodgbheoaaMake
import Derived.Deep.RegionHeld3
namespace Go.Proofs.Ytemflmodgbheoaa.Sp
open Go.RowKit
set_option linter.unusedVariables false

theorem vint {a b : Int} (h : a = b) : Value.int .i64 a = .int .i64 b := by rw [h]

/-- What borders returns. -/
def bordL (seq : List Int) : List Int := (List.range seq.length).map fun j => (border seq (j + 1) : Int)
theorem bordL_len (seq : List Int) : (bordL seq).length = seq.length := by simp [bordL]
theorem bordL_at {seq : List Int} {j : Nat} (h : j < seq.length) : (bordL seq).getD j 0 = (border seq (j + 1) : Int) := by simp [bordL, List.getD, h]
/-- What the slice holds behind k rounds. -/
def bfill (seq : List Int) (k : Nat) : List Int := (bordL seq).take k ++ List.replicate (seq.length - k) 0
theorem bfill_len {seq : List Int} {k : Nat} (h : k ≤ seq.length) : (bfill seq k).length = seq.length := by simp [bfill, bordL_len]; omega
theorem bfill_all (seq : List Int) : bfill seq seq.length = bordL seq := by
  simp [bfill]
  rw [← bordL_len seq, List.take_length]
theorem bfill_at {seq : List Int} {k j : Nat} (h : j < k) (hk : k ≤ seq.length) : (bfill seq k).getD j 0 = (border seq (j + 1) : Int) := by
  have hl : j < ((bordL seq).take k).length := by rw [List.length_take, bordL_len]; omega
  rw [bfill, List.getD, List.getElem?_append_left hl, List.getElem?_take, if_pos h, ← List.getD, bordL_at (by omega)]
theorem bfill_set {seq : List Int} {k : Nat} (h : k < seq.length) : (bfill seq k).set k (border seq (k + 1) : Int) = bfill seq (k + 1) := by
  unfold bfill
  have hb : k < (bordL seq).length := by rw [bordL_len]; exact h
  have hl : ((bordL seq).take k).length = k := by rw [List.length_take]; omega
  rw [List.set_append_right _ _ (by omega), hl, Nat.sub_self, show seq.length - k = (seq.length - (k + 1)) + 1 by omega, List.replicate_succ, List.set_cons_zero, List.take_succ_eq_append_getElem hb, List.append_assoc]
  have := bordL_at h
  rw [List.getD, List.getElem?_eq_getElem hb] at this
  simp at this
  rw [this]
  rfl
theorem bfill_one {seq : List Int} (h : 0 < seq.length) : bfill seq 1 = List.replicate seq.length 0 := by
  have hb : 0 < (bordL seq).length := by rw [bordL_len]; exact h
  have h0 : border seq (0 + 1) = 0 := by
    have := border_lt (seq := seq) (m := 0 + 1) (by omega) (by omega)
    omega
  have := bordL_at h
  rw [h0, List.getD, List.getElem?_eq_getElem hb] at this
  simp at this
  rw [bfill, List.take_succ_eq_append_getElem hb, this, List.take_zero]
  show 0 :: List.replicate (seq.length - 1) 0 = _
  rw [← List.replicate_succ, show seq.length - 1 + 1 = seq.length by omega]
/-- One more element of the sequence itself. -/
theorem border_step {seq : List Int} {i : Nat} (h0 : 0 < i) (h : i < seq.length) : border seq (i + 1) = G seq ((seq.take i).drop 1 ++ [seq.getD i 0]) := by
  unfold border
  rw [take_snoc h, List.drop_append_of_le_length (by rw [List.length_take]; omega)]

set_option maxHeartbeats 1000000 in
theorem extend_x {A B : Option Addr} {n m ca cb k r : Nat} {seq bs t : List Int} {c : Int} (w : World) (hx : Sl w A n ca 1 (ints seq)) (hb : Sl w B m cb 1 (ints bs)) (HB : ∀ j, 0 < j → j ≤ k → bs.getD (j - 1) 0 = (border seq j : Int))
    (hk : k < n) (hkm : k ≤ m) (hn : n ≤ 100000) (hc : Cand seq t c k) (hr : G seq (t ++ [c]) = r) :
    Calls Try.prog 34 #[.slice A n ca, .slice B m cb, .int .i64 (k : Int), .int .i64 c] w (Gives (.int .i64 (r : Int)) w) := by
  have hcx := hx.cap
  have hmx := hx.max
  have hcb := hb.cap
  have hmb := hb.max
  have HC := Lib.hid hx.count
  have HH := Lib.hid HB
  have HK := Lib.hid hc
  have HR := Lib.hid hr
  clear HB hc hr
  go_enter Try.func34, Try.ntmps34
  go_wp2_with fail
  go_loopw [2] (fun v wr => ∃ j : Nat, j ≤ k ∧ v = .int .i64 (j : Int) ∧ wr = w ∧ Hid (Cand seq t c j)) (fun v _ => (intOf v).toNat)
  case atStart => exact ⟨k, Nat.le_refl _, rfl, rfl, HK⟩
  case round =>
    obtain ⟨j, hj, rfl, rfl, HJ⟩ := hrel
    have hjn : j < n := by omega
    obtain ⟨b, off, rfl, _, hcell⟩ := hx.int_at hjn
    obtain ⟨x, hxx⟩ : ∃ x, seq.getD j 0 = x := ⟨_, rfl⟩
    have HX := Lib.hid hxx
    rw [hxx] at hcell
    clear hxx
    rcases Nat.eq_zero_or_pos j with h0 | h0
    · subst h0
      rw [Nat.add_zero] at hcell
      by_cases he : x = c
      · have HF : Hid (r = 0 + 1) := Lib.hid (by rw [← HR.out]; exact HJ.out.hit (by rw [← HC.out]; exact hjn) (by rw [HX.out]; exact he))
        subst he
        go_wp2_with fail
        go_ret
        rw [HF.out]
        exact ⟨ret_int' (by omega), rfl⟩
      · have HF : Hid (r = 0) := Lib.hid (by rw [← HR.out]; exact HJ.out.miss (by rw [HX.out]; exact he))
        have q : (x == c) = false := by rw [beq_eq_false_iff_ne]; exact he
        go_wp2_with fail
        go_ret
        rw [HF.out]
        exact ⟨ret_int' (by omega), rfl⟩
    · have hj0 : (0 : Int) < (j : Int) := by omega
      by_cases he : x = c
      · have HF : Hid (r = j + 1) := Lib.hid (by rw [← HR.out]; exact HJ.out.hit (by rw [← HC.out]; exact hjn) (by rw [HX.out]; exact he))
        subst he
        go_wp2_with fail
        go_ret
        rw [HF.out]
        exact ⟨ret_int' (by omega), rfl⟩
      · have HN : Hid (Cand seq t c (border seq j)) := Lib.hid (HJ.out.down (by rw [HX.out]; exact he))
        have q : (x == c) = false := by rw [beq_eq_false_iff_ne]; exact he
        obtain ⟨i, rfl⟩ : ∃ i, j = i + 1 := ⟨j - 1, by omega⟩
        have hblt := border_lt (seq := seq) (m := i + 1) (by omega) (by rw [← HC.out]; omega)
        obtain ⟨b2, off2, rfl, _, hcell2⟩ := hb.int_at (k := i) (by omega)
        have hbv := HH.out (i + 1) (by omega) hj
        rw [Nat.add_sub_cancel] at hbv
        rw [hbv] at hcell2
        obtain ⟨d, hd⟩ : ∃ d, border seq (i + 1) = d := ⟨_, rfl⟩
        rw [hd] at hcell2 hblt HN
        have i1 : ((i + 1 : Nat) : Int) - 1 = (i : Int) := by omega
        have i2 : (i : Int) < (m : Int) := by omega
        clear hbv hd
        go_wp2_with fail
        go_roundw
        case rel => exact ⟨d, by omega, rfl, trivial, HN⟩
        case measure => simp [intOf] <;> omega
set_option maxRecDepth 100000 in
set_option maxHeartbeats 1000000 in
theorem borders_any {A : Option Addr} {n ca : Nat} {seq : List Int} (w : World) (hx : Sl w A n ca 1 (ints seq)) (hn0 : 0 < n) (hn : n ≤ 10000) :
    Calls Try.prog 33 #[.slice A n ca] w (ListsNew (bordL seq) w) := by
  have hcx := hx.cap
  have hmx := hx.max
  have HC := Lib.hid hx.count
  obtain ⟨w2, hmk, hg2, hb2, hs2⟩ := run_make_ints w (k := (n : Int)) (n := n) rfl (by omega)
  have HG : Hid (Blk w2 w.heap.size (bfill seq 1)) := Lib.hid (by rw [bfill_one (by rw [← HC.out]; exact hn0), ← HC.out]; exact hg2)
  have hsl := hg2.lt
  clear hg2 hs2
  go_enter Try.func33, Try.ntmps33
  go_wp2_with fail
  clear hmk
  go_loopw [4] (fun i wr => ∃ j : Nat, j + 1 ≤ n ∧ i = .int .i64 ((j : Int) + 1) ∧ Hid (Blk wr w.heap.size (bfill seq (j + 1))) ∧ Below w.heap.size w wr) (fun i _ => n - (intOf i).toNat)
  case atStart => exact ⟨0, by omega, rfl, HG, hb2⟩
  case round =>
    obtain ⟨j, hkn, rfl, HB, hb⟩ := hrel
    by_cases hlt : j + 1 < n
    · have hkz : j + 1 < seq.length := by rw [← HC.out]; exact hlt
      have hxr := hx.keep hb
      obtain ⟨b, off, rfl, hbl, hcell0⟩ := hx.int_at hlt
      have hcell := (hb.cell (p := ⟨b, off + (j + 1), none⟩) hbl).trans hcell0
      obtain ⟨x, hxx⟩ : ∃ x, seq.getD (j + 1) 0 = x := ⟨_, rfl⟩
      have HX := Lib.hid hxx
      clear hcell0
      rw [hxx] at hcell
      have hc1 := HB.out.cell (k := j) (by rw [bfill_len (by omega)]; omega)
      rw [bfill_at (by omega) (by omega)] at hc1
      have hslB := HB.out.sl (n := n) (by rw [bfill_len (by omega)]; exact HC.out) (by unfold maxLen; omega)
      obtain ⟨d, hd⟩ : ∃ d, border seq (j + 1) = d := ⟨_, rfl⟩
      have hdl := border_lt (seq := seq) (m := j + 1) (by omega) (by omega)
      rw [hd] at hc1 hdl
      have hcd : Cand seq ((seq.take (j + 1)).drop 1) x d := by rw [← hd]; exact Cand.start x
      obtain ⟨r, hr⟩ : ∃ r, border seq (j + 1 + 1) = r := ⟨_, rfl⟩
      have hg : G seq ((seq.take (j + 1)).drop 1 ++ [x]) = r := by rw [← hr, border_step (by omega) hkz, hxx]
      have HBB : Hid (∀ j', 0 < j' → j' ≤ d → (bfill seq (j + 1)).getD (j' - 1) 0 = (border seq j' : Int)) := Lib.hid (fun j' h1 h2 => by
        rw [bfill_at (by omega) (by omega), Nat.sub_add_cancel h1])
      have HCD := Lib.hid hcd
      have HGG := Lib.hid hg
      have HBN : Hid (Blk (wr.setCell ⟨w.heap.size, j + 1, none⟩ (.int .i64 (r : Int))) w.heap.size (bfill seq (j + 1 + 1))) := Lib.hid (by
        have := HB.out.set (j + 1) (border seq (j + 1 + 1) : Int)
        rw [bfill_set hkz, hr] at this
        exact this)
      have HSB := Lib.hid hslB
      have hfr := HB.out.free (j + 1)
      have hcc := HB.out.cell (k := j + 1) (by rw [bfill_len (by omega)]; omega)
      have i1 : (j : Int) + 1 - 1 = (j : Int) := by omega
      have i2 : (j : Int) < (n : Int) := by omega
      have i3 : (j : Int) + 1 < (n : Int) := by omega
      have i4 : ((j : Int) + 1).toNat = j + 1 := by omega
      have i5 : IntKind.i64.wrap ((j : Int) + 1 - 1) = (j : Int) := by rw [i1]; exact IntWalk.i64_in _ (by omega)
      have i6 : (0 : Int) ≤ (j : Int) + 1 := by omega
      have i7 : IntKind.i64.wrap (j : Int) = (j : Int) := IntWalk.i64_in _ (by omega)
      clear hcd hg hr hd hslB hxx
      go_wp2_with fail
      have hS : ∀ v : Value, (wr.setCell ⟨w.heap.size, j + 1, none⟩ v).drew.cell? ⟨b, off + (j + 1), none⟩ = some (.int .i64 x) ∧ (wr.setCell ⟨w.heap.size, j + 1, none⟩ v).drew.cell? ⟨w.heap.size, j, none⟩ = some (.int .i64 (d : Int)) := fun v =>
        ⟨(World.cell?_setCell_other wr _ _ v (fun h => by injection h; omega)).trans hcell, (World.cell?_setCell_other wr _ _ v (fun h => by injection h; omega)).trans hc1⟩
      go_region_held3 (fun W => W.cell? ⟨b, off + (j + 1), none⟩ = some (.int .i64 x) ∧ W.cell? ⟨w.heap.size, j, none⟩ = some (.int .i64 (d : Int))) (first | exact ⟨hcell, hc1⟩ | exact hS _ | go_keep)
        (first | (go_at_call 34; refine (extend_x _ hxr.drew HSB.out.drew HBB.out (by omega) (by omega) (by omega) HCD.out HGG.out).mono ?_; rintro e w' ⟨rfl, rfl⟩))
      have hbN : Below w.heap.size w (wr.setCell ⟨w.heap.size, j + 1, none⟩ (.int .i64 (r : Int))) := hb.setCell (Nat.le_refl _) _
      go_wp2_with fail
      go_roundw
      case rel => exact ⟨j + 1, by omega, by push_cast; rfl, Lib.hid HBN.out, hbN.drew⟩
      case measure => simp [intOf] <;> omega
    · have i9 : ¬ ((j : Int) + 1 < (n : Int)) := by omega
      go_wp2_with fail
      go_ret
      have e9 : j + 1 = seq.length := by rw [← HC.out]; omega
      have HB' := HB.out
      rw [e9, bfill_all] at HB'
      exact ⟨_, _, _, rfl, HB'.sl (by rw [bordL_len]; exact HC.out) (by unfold maxLen; omega), hb, fun a e => by cases e; exact Nat.le_refl _⟩
end Go.Proofs.Ytemflmodgbheoaa.Sp
