/-
  Lists of ints in memory: what comes in, what the call itself has appended, and the comparison of both.
-/
import Derived.Test.YtdpcjgjegeiemaaDoorCpAwake
import Derived.Laws.AppendOwnNone
import Derived.OpenShut
namespace Go.Proofs.YtdpcjgjegeiemaaDoor
open Go.ChangeShapes Go.WideShapes Go.RowKit
set_option linter.unusedVariables false

/-- The slice value with this address, length and capacity holds these ints. -/
def Lst (w : World) (A : Option Addr) (n c : Nat) (zs : List Int) : Prop := n = zs.length ∧ (A = none → c = 0) ∧ IntsAt w A zs
/-- The same, of a value that the call itself has made by appending. -/
def OwnL (w : World) (base : Nat) (v : Value) (n : Nat) (zs : List Int) : Prop := n = zs.length ∧ w.ownsRow base 3 1 v n (zs.map (Value.int .i64))

theorem IntsAt.keep {w w' : World} {A : Option Addr} {zs : List Int} (h : IntsAt w A zs) (hb : Below w.heap.size w w') : IntsAt w' A zs := fun k hk => by
  obtain ⟨b, off, e, hlt, hc⟩ := h k hk
  exact ⟨b, off, e, Nat.lt_of_lt_of_le hlt hb.size, (hb.cell (p := ⟨b, off + k, none⟩) hlt).trans hc⟩
theorem Lst.keep {w w' : World} {A : Option Addr} {n c : Nat} {zs : List Int} (h : Lst w A n c zs) (hb : Below w.heap.size w w') : Lst w' A n c zs := ⟨h.1, h.2.1, h.2.2.keep hb⟩
theorem Lst.drawn {w w' : World} {A : Option Addr} {n c : Nat} {zs : List Int} (h : Lst w A n c zs) (hd : Drawn w w') : Lst w' A n c zs := ⟨h.1, h.2.1, hd.ints h.2.2⟩
theorem OwnL.nil (w : World) (base : Nat) : OwnL w base (.slice none 0 0) 0 [] := ⟨rfl, World.ownsRow_nil _ _ _ _⟩
theorem OwnL.lst {w : World} {base : Nat} {v : Value} {n : Nat} {zs : List Int} (h : OwnL w base v n zs) : ∃ A c, v = .slice A n c ∧ Lst w A n c zs := by
  obtain ⟨hn, ho⟩ := h
  rcases ho.2 with ⟨rfl, rfl⟩ | ⟨g, cap, cur, rfl, hb, hg, hn1, hcap, hsz, htake⟩
  · refine ⟨none, 0, rfl, hn, fun _ => rfl, fun k hk => ?_⟩
    rw [← hn] at hk
    exact absurd hk (by omega)
  · refine ⟨_, cap, rfl, hn, (fun e => by cases e), fun k hk => ⟨g, 0, rfl, ?_, ?_⟩⟩
    · rcases Nat.lt_or_ge g w.heap.size with hlt | hge
      · exact hlt
      · rw [Array.getElem?_eq_none hge] at hg; cases hg
    · rw [cell_of_row w g _ cur _ _ hg, Nat.zero_add]
      have e : (cur.toList.take (n * 1))[k]? = some (.int .i64 (zs.getD k 0)) := by
        rw [htake]
        simp [List.getElem?_eq_getElem hk, List.getD]
      rw [List.getElem?_take] at e
      split at e
      · simpa using e
      · cases e
theorem Lst.size_ {w : World} {A : Option Addr} {n c : Nat} {zs : List Int} (h : Lst w A n c zs) : n = zs.length := h.1

theorem below_append {base : Nat} {w w' : World} {v : Value} {n : Nat} {xs : List Value} (ho : w.ownsRow base 3 1 v n xs) (hg : w.grownBy w' v.ownBlock) (hbase : base ≤ w.heap.size) : Below base w w' :=
  (Below.refl base w).grown hg hbase (fun k hk => by
    rcases ho.2 with ⟨rfl, _⟩ | ⟨g, cap, cur, rfl, hb, _⟩
    · simp [Value.ownBlock] at hk
    · simp only [Value.ownBlock, Option.some.injEq] at hk
      omega)

theorem addr_add (b off k : Nat) : Addr.add ⟨b, off, none⟩ k = ⟨b, off + k, none⟩ := by
  unfold Addr.add
  split
  · rename_i h
    rw [h, Nat.add_zero]
  · rfl
theorem int_info : (Tryd.prog.info? 3).map (fun i => (i.zero, i.size, i.bytes)) = some (some (.int .i64 0), 1, 8) := by kernel_rfl

/-- 'append(out, xs...)', out nil or the call's own, xs whatever. -/
theorem wpList_append_ints {w : World} {ops : Array Oper} {rest : List Oper} {o : Oper} {a : Act} {Q : Exit → Act → World → Prop} (hgd : o.guard = none) (s x : Operand)
    (ho : o.op = .call { callee := .builtin .append, args := #[s, x], argTypes := #[30, 30] }) (base : Nat) (v : Value) (n : Nat) (xs : List Int) (hs : a.eval s = v) (hown : OwnL w base v n xs)
    (A : Option Addr) (m c : Nat) (ys : List Int) (hx : a.eval x = .slice A m c) (hl : Lst w A m c ys) (k : Nat) (hk : k = n + m) (zs : List Int) (hzs : zs = xs ++ ys) (hsz : k ≤ 100000) (hbase : base ≤ w.heap.size)
    (h : ∀ v' w', OwnL w' base v' k zs → Below base w w' → wpList Tryd.prog ops Q rest (a.put o.dst v') w') : wpList Tryd.prog ops Q (o :: rest) a w := by
  subst hk
  subst hzs
  obtain ⟨i, hi, hz, hsize, hby⟩ := info_parts int_info
  obtain ⟨hn, how⟩ := hown
  obtain ⟨hm, hc, hints⟩ := hl
  rcases A with _ | ad
  · have hm0 : m = 0 := by
      rcases Nat.eq_zero_or_pos m with h0 | h0
      · exact h0
      · obtain ⟨b, off, e, _⟩ := hints 0 (by omega)
        cases e
    obtain rfl := hc rfl
    subst hm0
    have hys : ys = [] := List.eq_nil_of_length_eq_zero hm.symm
    subst hys
    refine wpList_append_own_none hgd s x 30 ho base 3 i 1 Tryd.underlying30 hi v n _ hs how hx ?_
    exact h v w ⟨by simpa using hn, by simpa using how⟩ (Below.refl _ _)
  · refine wpList_append_own w hgd s x 30 ho base 3 i _ 1 8 Tryd.underlying30 hi hz hsize hby rfl (by omega) v n _ hs how ad m c (ys.map (Value.int .i64)) hx (by simp [hm]) ?_ (ints_oneCell _ _) (by unfold maxLen; omega) (by omega) hbase ?_
    · intro j u hu
      have hj : j < ys.length := by
        have := (List.getElem?_eq_some_iff.1 hu).1
        simpa using this
      obtain ⟨b, off, e, _, hcell⟩ := hints j hj
      obtain rfl := Option.some.inj e
      have e2 : u = .int .i64 (ys.getD j 0) := by
        simp [List.getElem?_eq_getElem hj] at hu
        simp [List.getD, List.getElem?_eq_getElem hj, hu]
      rw [e2, ← hcell, addr_add]
    · intro v' w' h2 h3 _
      exact h v' w' ⟨by simp [hn, hm], by simpa using h2⟩ (below_append how h3 hbase)

/-- An argument of type []int, opened. -/
theorem open_list {H : Type} {enc : TypeId × Value → H} {W : World} {r : Reach} {b0 : Nat} {v : Value} {d : DataW H} {p : List MemPlace} (hv : Value.okWide Tryd.prog W r b0 30 v) (h : DataW.Trod enc Tryd.prog W 0 (fun _ => true) true 30 v d p) :
    ∃ A n c zs, v = .slice A n c ∧ n ≤ maxLen ∧ Lst W A n c zs := by
  obtain ⟨a0, len, cap, rfl⟩ := okWide_slice Tryd.underlying30 hv
  obtain ⟨fuel, hf⟩ := h
  have c1 : Tryd.prog.cellsOf 3 = 1 := by kernel_rfl
  rcases open_ints Tryd.underlying30 Tryd.underlying3 c1 hf with ⟨hcs, _⟩ | ⟨a, len', cap', zs, hcs, _, hl, hm, hz, _, hcell, _⟩
  · simp [Value.cells] at hcs
    obtain ⟨rfl, rfl, rfl⟩ := hcs
    exact ⟨none, 0, 0, [], rfl, by unfold maxLen; omega, rfl, fun _ => rfl, fun k hk => absurd hk (by simp)⟩
  · simp [Value.cells] at hcs
    obtain ⟨rfl, rfl, rfl⟩ := hcs
    simp only [if_true] at hz
    refine ⟨some a, len, cap, zs.take len, rfl, by omega, by simp; omega, (fun e => by cases e), fun k hk => ?_⟩
    have hk2 : k < len := by simp at hk; omega
    have hk3 : k < zs.length := by omega
    have hc := hcell k hk3
    obtain ⟨b, off, spot⟩ := a
    have hspot : spot = none := by simpa [Addr.add] using World.cell?_spot (hcell 0 (by omega))
    subst hspot
    rw [addr_add] at hc
    refine ⟨b, off, rfl, ?_, ?_⟩
    · rcases Nat.lt_or_ge b W.heap.size with hlt | hge
      · exact hlt
      · simp [World.cell?, Array.getElem?_eq_none hge] at hc
    · rw [hc]
      simp [List.getD, hk2]

theorem compare_l {w : World} {A B : Option Addr} {n m c d : Nat} {xs ys : List Int} (ha : Lst w A n c xs) (hb : Lst w B m d ys) (hn : n ≤ 100000) (hm : m ≤ 100000) :
    Calls Tryd.prog 25 #[.slice A n c, .slice B m d] w (Tells (.int .i64 (cmpL xs ys)) w) := by
  obtain ⟨rfl, _, h1⟩ := ha
  obtain ⟨rfl, _, h2⟩ := hb
  exact compare_any A B c d xs ys w (by unfold maxLen; omega) (by unfold maxLen; omega) h1 h2
theorem equal_l {w : World} {A B : Option Addr} {n m c d : Nat} {xs ys : List Int} (ha : Lst w A n c xs) (hb : Lst w B m d ys) (hn : n ≤ 100000) (hm : m ≤ 100000) :
    Calls Tryd.prog 27 #[.slice A n c, .slice B m d] w (Tells (.bool (decide (cmpL xs ys = 0))) w) := by
  obtain ⟨rfl, _, h1⟩ := ha
  obtain ⟨rfl, _, h2⟩ := hb
  exact equal_any A B c d xs ys w (by unfold maxLen; omega) (by unfold maxLen; omega) h1 h2
theorem ref_compare_l {w : World} {A B : Option Addr} {n m c d : Nat} {xs ys : List Int} (ha : Lst w A n c xs) (hb : Lst w B m d ys) (hn : n ≤ 100000) (hm : m ≤ 100000) :
    Calls Tryd.prog 26 #[.slice A n c, .slice B m d] w (Tells (.int .i64 (cmpL xs ys)) w) := by
  obtain ⟨rfl, _, h1⟩ := ha
  obtain ⟨rfl, _, h2⟩ := hb
  exact ref_compare_any A B c d xs ys w (by unfold maxLen; omega) (by unfold maxLen; omega) h1 h2
theorem Drawn.below {w w' : World} (h : Drawn w w') (B : Nat) : Below B w w' := by
  obtain ⟨n, rfl⟩ := h
  exact drewN_below (Below.refl _ _) n
theorem Drawn.tab {w w' : World} (h : Drawn w w') (ht : Tab w) : Tab w' := by
  obtain ⟨n, rfl⟩ := h
  exact ht
theorem Drawn.trans {a b c : World} (h : Drawn a b) (k : Drawn b c) : Drawn a c := by
  obtain ⟨n, rfl⟩ := k
  exact h.more n
end Go.Proofs.YtdpcjgjegeiemaaDoor
