/-
  Package escape's iterator over the pieces of a literal, for every loop body that keeps old memory.
-/
import Derived.Test.YtkfchcmbpgcncaaDoorEsProgD
import Derived.RangeFuncNested
import Derived.RangeFuncBound
import Derived.RangeFuncCalls
import Derived.RangeFuncLeaves
import Derived.Shelf.Abstract
import Derived.Shelf.RegionOpen
import Derived.OwnWalkIn
import Derived.TacticsInMore
import Derived.LoopNIn
import Derived.LoopIn
namespace Go.Proofs.YtkfchcmbpgcncaaDoor.Es
open Go.RowKit Go.Shelf
set_option linter.unusedVariables false
attribute [local go_sem] Oper.semAt_some

/-- A short string that a round is handed. -/
abbrev Pc := { l : List UInt8 // l.length ≤ 20 }
theorem itemL_len (c : Int) : (itemL c).length ≤ 20 := by
  unfold itemL
  split
  · simp
  · split
    · simp
    · split
      · simp
      · have h1 := trimZ_length (hexL c)
        have h2 : (hexL c).length ≤ 6 := by
          unfold hexL
          split
          · rw [digs_length]; have := nd_range c.toNat; omega
          · simp
        simp
        omega
def pc (c : Int) : Pc := ⟨itemL c, itemL_len c⟩
def qt : Pc := ⟨[34], by simp⟩
def encP (x : Pc) : Array Value := #[.string (bytesOf x.1)]
/-- What has come when k elements are over. -/
def up (zs : List Int) (k : Nat) : List Pc := qt :: (zs.take k).map pc
theorem up_succ {zs : List Int} {k : Nat} (h : k < zs.length) : up zs (k + 1) = up zs k ++ [pc (zs.getD k 0)] := by
  unfold up
  rw [List.take_succ_eq_append_getElem h, List.map_append, List.getD, List.getElem?_eq_getElem h]
  rfl
theorem up_len {zs : List Int} {k : Nat} (h : k ≤ zs.length) : (up zs k).length = k + 1 := by simp [up, h]
def allP (zs : List Int) : List Pc := qt :: (zs.map pc ++ [qt])
theorem up_all (zs : List Int) {k : Nat} (h : zs.length ≤ k) : up zs k ++ [qt] = allP zs := by simp [up, allP, List.take_of_length_le h]
theorem grown_of {w w' : World} (hb : Below w.heap.size w w') : w.grownBy w' none := ⟨hb.os, hb.tape, hb.output, hb.size, fun k hk _ => hb.block k hk⟩
/-- What a round keeps: what lay below n₀, and the block that the function value has captured. -/
def Kp (n₀ box : Nat) (W W' : World) : Prop := Below n₀ W W' ∧ ∀ cs fr, W.heap[box]? = some (.cells cs 22 fr) → W'.heap[box]? = some (.cells cs 22 fr)
theorem Kp.trans {n₀ box : Nat} {A B C : World} (h : Kp n₀ box A B) (k : Kp n₀ box B C) : Kp n₀ box A C := ⟨h.1.trans k.1, fun cs fr hv => k.2 cs fr (h.2 cs fr hv)⟩
theorem Kp.book {n₀ box : Nat} {w : World} (hn : n₀ ≤ w.heap.size) (W : World) (l : Nat) (o o' : Obj) (hl : w.heap.size ≤ l) (h : W.heap[l]? = some o) (hc : o.isCells = false) (hw : o.isWalk = false) : Kp n₀ box W (W.putObj l o') :=
  ⟨belowK_b hn W l o o' hl h hc hw, fun cs fr hv => by
    have hne : box ≠ l := by
      rintro rfl
      rw [h] at hv
      cases hv
      cases hc
    exact (World.putObj_heap_other hne).trans hv⟩
/-- A list of ints in blocks below n₀. -/
def Low (n₀ : Nat) (A : Option Addr) (n : Nat) (zs : List Int) (W : World) : Prop := n = zs.length ∧ ∀ k, k < n → ∃ b off, A = some ⟨b, off, none⟩ ∧ b < n₀ ∧ W.cell? ⟨b, off + k, none⟩ = some (.int .i64 (zs.getD k 0))
theorem Low.of {w : World} {A : Option Addr} {n c : Nat} {zs : List Int} (h : Sl w A n c 1 (ints zs)) : Low w.heap.size A n zs w := ⟨h.count, fun k hk => h.int_at hk⟩
theorem Low.below {n₀ : Nat} {A : Option Addr} {n : Nat} {zs : List Int} {W W' : World} (h : Low n₀ A n zs W) (hb : Below n₀ W W') : Low n₀ A n zs W' := ⟨h.1, fun k hk => by
  obtain ⟨b, off, e, hlt, hc⟩ := h.2 k hk
  exact ⟨b, off, e, hlt, (hb.cell (p := ⟨b, off + k, none⟩) hlt).trans hc⟩⟩
theorem isCode_at {zs : List Int} (h : ∀ c ∈ zs, isCode c = true) {k : Nat} (hk : k < zs.length) : isCode (zs.getD k 0) = true := by
  rw [List.getD, List.getElem?_eq_getElem hk]
  exact h _ (List.getElem_mem hk)

set_option maxRecDepth 100000 in
set_option maxHeartbeats 2000000 in
theorem pieces1_in (m l box n₀ : Nat) (hm : 1 ≤ m) (A : Option Addr) (n c : Nat) (zs : List Int) (hn : n ≤ 1000000) (hz : ∀ x ∈ zs, isCode x = true) (htn : 0 < n₀) (W : World) (J Jx : List Pc → World → Prop) (hJ : AbidesFrom W.heap.size J)
    (hY : ∀ pre x W1, J pre W1 → pre.length < zs.length + 2 → YieldAt Fence.wide (m - 1) Tryd.prog l (encP x) W1 fun e W' =>
      (e = .returned (.bool true) ∧ J (pre ++ [x]) W' ∧ Kp n₀ box W1 W') ∨ (e = .returned (.bool false) ∧ Jx (pre ++ [x]) W'))
    (hbox : W.heap[box]? = some (.cells #[.slice A n c] 22 (0, 0))) (hlow : Low n₀ A n zs W) (ht : Tab W) (hn0 : n₀ ≤ W.heap.size) (h0 : J [] W) :
    CallsIn Fence.wide m Tryd.prog 38 #[.func (.yield l) #[] #[], .pointer (some ⟨box, 0, none⟩)] W fun e W' => (∃ v, e = .returned v) ∧ ((∃ xs, xs = allP zs ∧ J xs W') ∨ (∃ pre, True ∧ Jx pre W')) := by
  have hro : Fence.wide.round = none := rfl
  refine callsIn_of_wp Tryd.func38 rfl trivial ?_ hro
  simp only [Tryd.ntmps38, List.size_toArray, List.length_cons, List.length_nil, Nat.reduceAdd, Nat.reduceSub, Array.replicate_succ, Array.replicate_zero, List.push_toArray, List.append_toArray, List.nil_append, List.cons_append]
  have hnz := Lib.hid hlow.1
  obtain ⟨fn, tmps, assign, body, hy, hR⟩ := hY [] qt W h0 (by simp)
  simp only [encP, qt, bytesOf] at hy
  gi_wp2
  refine hR.mono ?_
  rintro e W1 (⟨rfl, hJ1, hk1⟩ | ⟨rfl, hJx1⟩)
  · have hbox1 : W1.cell? ⟨box, 0, none⟩ = some (.slice A n c) := by rw [cell_of_row W1 box 0 _ _ _ (hk1.2 _ _ hbox)]; rfl
    clear hbox
    gi_wp2
    gi_loopw [10] (fun i wr => ∃ k : Nat, k ≤ n ∧ i = .int .i64 k ∧ J (up zs k) wr ∧ Below n₀ W wr) (fun i _ => n - (intOf i).toNat)
    case atStart => exact ⟨0, Nat.zero_le _, rfl, hJ1, hk1.1⟩
    case round =>
      obtain ⟨k, hk, rfl, hJs, hB⟩ := hrel
      by_cases hlt : k < n
      · have hlt' : k < zs.length := by have := hnz.out; omega
        obtain ⟨b, off, rfl, hb, hcell⟩ := (hlow.below hB).2 k hlt
        have hcode := isCode_at hz hlt'
        obtain ⟨x, hx⟩ : ∃ x, zs.getD k 0 = x := ⟨_, rfl⟩
        rw [hx] at hcell hcode
        have HX := Lib.hid hx
        have htr : Tab wr := ht.below htn hB
        have HC := Lib.hid hcode
        clear hx hcode
        gi_wp2_with (refine ⟨trivial, ?_⟩; gi_at_call 39; refine (callsIn_wide.2 (item_any x HC.out _ htr)).mono ?_; rintro e w3 ⟨rfl, hb3⟩; obtain ⟨fn3, tmps3, assign3, body3, hy3, hR3⟩ := hY (up zs k) (pc x) w3 (hJ _ _ _ none hJs (grown_of hb3) (fun r e => by cases e)) (by rw [up_len (by omega)]; omega); simp only [encP, pc] at hy3)
        refine hR3.mono ?_
        rintro e W4 (⟨rfl, hJ4, hk4⟩ | ⟨rfl, hJx4⟩)
        · gi_wp2
          go_roundw
          case rel => exact ⟨k + 1, by omega, by simp, by rw [up_succ hlt', HX.out]; exact hJ4, (hB.trans (hb3.mono (Nat.le_trans hn0 hB.size))).trans hk4.1⟩
          case measure => simp [intOf]; omega
        · gi_wp2
          refine bodyPost_ret (results_none rfl _ _ _) rfl ?_
          exact ⟨⟨_, rfl⟩, .inr ⟨_, trivial, hJx4⟩⟩
      · obtain ⟨fn, tmps, assign, body, hy, hR⟩ := hY (up zs k) qt wr hJs (by have := hnz.out; rw [up_len (by omega)]; omega)
        simp only [encP, qt, bytesOf] at hy
        gi_wp2
        refine hR.mono ?_
        rintro e W4 (⟨rfl, hJ4, hk4⟩ | ⟨rfl, hJx4⟩)
        · gi_wp2
          go_end0
          exact ⟨⟨_, rfl⟩, .inl ⟨_, rfl, by rw [← up_all zs (k := k) (by have := hnz.out; omega)]; exact hJ4⟩⟩
        · gi_wp2
          go_end0
          exact ⟨⟨_, rfl⟩, .inr ⟨_, trivial, hJx4⟩⟩
  · gi_wp2
    refine bodyPost_ret (results_none rfl _ _ _) rfl ?_
    exact ⟨⟨_, rfl⟩, .inr ⟨_, trivial, hJx1⟩⟩
end Go.Proofs.YtkfchcmbpgcncaaDoor.Es
