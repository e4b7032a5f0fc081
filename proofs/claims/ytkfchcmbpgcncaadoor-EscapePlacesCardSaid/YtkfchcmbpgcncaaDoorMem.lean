/-
  Words for what a call gives and for what lies in memory, shared by the texts of every layer: values returned, draws, memory of the call's own; slices as lists of cells, of ints; appending; and a law's last step.
-/
import Derived.Test.YtkfchcmbpgcncaaDoorRows
import Derived.WalkKit
import Derived.ProofKit
import Derived.OpenShut
import Derived.Carry
import Derived.Lib.Hide
import Derived.Laws.AppendOwnNone
import Derived.Deep.Draws
namespace Go.Proofs.YtkfchcmbpgcncaaDoor
open Go.ChangeShapes Go.WideShapes Go.ChangeAt Go.RowKit
set_option linter.unusedVariables false

/-- The call returns v; the world is as it was. -/
def Gives (v : Value) (w : World) (e : Ending) (w' : World) : Prop := e = .returned v ∧ w = w'
/-- The world has been drawn from, and nothing else. -/
def Drawn (w w' : World) : Prop := ∃ n, w' = w.drewN n
/-- The call returns v; nothing but draws. -/
def Tells (v : Value) (w : World) (e : Ending) (w' : World) : Prop := e = .returned v ∧ Drawn w w'
/-- The call returns v; all old memory is as it was. -/
def Makes (v : Value) (w : World) (e : Ending) (w' : World) : Prop := e = .returned v ∧ Below w.heap.size w w'

theorem gives_bool {a b : Bool} {w : World} (h : a = b) : Gives (.bool a) w (.returned (.bool b)) w := by rw [h]; exact ⟨rfl, rfl⟩
theorem gives_int {a b : Int} {w : World} (h : a = b) : Gives (.int .i64 a) w (.returned (.int .i64 b)) w := by rw [h]; exact ⟨rfl, rfl⟩
theorem ret_int' {a b : Int} (h : a = b) : Ending.returned (.int .i64 b) = .returned (.int .i64 a) := by rw [h]
theorem ret_bool' {a b : Bool} (h : a = b) : Ending.returned (.bool b) = .returned (.bool a) := by rw [h]

theorem drewN_below {B : Nat} {a w : World} (h : Below B a w) (n : Nat) : Below B a (w.drewN n) := ⟨h.os, h.tape, h.output, h.size, h.block⟩
theorem undrew {B : Nat} {w w' : World} (h : Below B w.drew w') : Below B w w' := ⟨h.os, h.tape, h.output, h.size, h.block⟩
theorem Drawn.refl (w : World) : Drawn w w := ⟨0, rfl⟩
theorem Drawn.more {w w' : World} (h : Drawn w w') (n : Nat) : Drawn w (w'.drewN n) := by
  obtain ⟨m, rfl⟩ := h
  exact ⟨m + n, by rw [World.drewN_drewN]⟩
theorem Drawn.trans {a b c : World} (h : Drawn a b) (k : Drawn b c) : Drawn a c := by
  obtain ⟨n, rfl⟩ := k
  exact h.more n
theorem Drawn.below {w w' : World} (h : Drawn w w') (B : Nat) : Below B w w' := by
  obtain ⟨n, rfl⟩ := h
  exact drewN_below (Below.refl _ _) n
theorem Drawn.size {w w' : World} (h : Drawn w w') : w'.heap.size = w.heap.size := by
  obtain ⟨n, rfl⟩ := h
  rfl

/-- These cells lie from the address on (no address is asked where there is no cell). -/
def CellsAt (w : World) (A : Option Addr) (cs : List Value) : Prop :=
  ∀ (j : Nat) (u : Value), cs[j]? = some u → ∃ b off, A = some ⟨b, off, none⟩ ∧ b < w.heap.size ∧ w.cell? ⟨b, off + j, none⟩ = some u
/-- The slice of this address, length and capacity holds these cells, 'size' of them an element. -/
def Sl (w : World) (A : Option Addr) (n c size : Nat) (cs : List Value) : Prop := cs.length = n * size ∧ n ≤ c ∧ c ≤ maxLen ∧ (A = none → c = 0) ∧ CellsAt w A cs

theorem addr_add (b off k : Nat) : Addr.add ⟨b, off, none⟩ k = ⟨b, off + k, none⟩ := by
  unfold Addr.add
  split
  · rename_i h
    rw [h, Nat.add_zero]
  · rfl
theorem CellsAt.keep {w w' : World} {A : Option Addr} {cs : List Value} (h : CellsAt w A cs) (hb : Below w.heap.size w w') : CellsAt w' A cs := fun j u hj => by
  obtain ⟨b, off, e, hlt, hc⟩ := h j u hj
  exact ⟨b, off, e, Nat.lt_of_lt_of_le hlt hb.size, (hb.cell (p := ⟨b, off + j, none⟩) hlt).trans hc⟩
theorem CellsAt.drawn {w w' : World} {A : Option Addr} {cs : List Value} (h : CellsAt w A cs) (hd : Drawn w w') : CellsAt w' A cs := by
  obtain ⟨n, rfl⟩ := hd
  exact h
theorem CellsAt.of_row {w : World} {g : Nat} {cur : Array Value} {t : TypeId} {fr : Nat × Nat} {cs : List Value} (hg : w.heap[g]? = some (.cells cur t fr)) (h : ∀ (j : Nat) (u : Value), cs[j]? = some u → cur[j]? = some u) : CellsAt w (some ⟨g, 0, none⟩) cs := by
  intro j u hj
  have hlt : g < w.heap.size := by
    rcases Nat.lt_or_ge g w.heap.size with hlt | hge
    · exact hlt
    · rw [Array.getElem?_eq_none hge] at hg; cases hg
  exact ⟨g, 0, rfl, hlt, by rw [cell_of_row w g _ cur t fr hg, Nat.zero_add]; exact h j u hj⟩
theorem CellsAt.new (w : World) (t : TypeId) (cs : List Value) : CellsAt (w.alloc (.cells cs.toArray t)) (some ⟨w.heap.size, 0, none⟩) cs :=
  CellsAt.of_row (heap_alloc_new w _) (fun j u hj => by simpa using hj)
theorem Sl.keep {w w' : World} {A : Option Addr} {n c size : Nat} {cs : List Value} (h : Sl w A n c size cs) (hb : Below w.heap.size w w') : Sl w' A n c size cs := ⟨h.1, h.2.1, h.2.2.1, h.2.2.2.1, h.2.2.2.2.keep hb⟩
theorem Sl.drawn {w w' : World} {A : Option Addr} {n c size : Nat} {cs : List Value} (h : Sl w A n c size cs) (hd : Drawn w w') : Sl w' A n c size cs := ⟨h.1, h.2.1, h.2.2.1, h.2.2.2.1, h.2.2.2.2.drawn hd⟩
theorem Sl.nil (w : World) (size : Nat) : Sl w none 0 0 size [] := ⟨by simp, Nat.le_refl _, by unfold maxLen; omega, fun _ => rfl, fun j u hj => by simp at hj⟩
theorem Sl.len {w : World} {A : Option Addr} {n c size : Nat} {cs : List Value} (h : Sl w A n c size cs) : cs.length = n * size := h.1
theorem Sl.cap {w : World} {A : Option Addr} {n c size : Nat} {cs : List Value} (h : Sl w A n c size cs) : n ≤ c := h.2.1
theorem Sl.max {w : World} {A : Option Addr} {n c size : Nat} {cs : List Value} (h : Sl w A n c size cs) : c ≤ 9223372036854775807 := by have := h.2.2.1; unfold maxLen at this; omega
/-- A cut 's[k:]'. -/
theorem Sl.tail {w : World} {A : Option Addr} {n c size : Nat} {cs : List Value} (h : Sl w A n c size cs) {k : Nat} (hk : k ≤ n) :
    Sl w (if c = k then A else A.map (·.add (k * size))) (n - k) (c - k) size (cs.drop (k * size)) := by
  obtain ⟨h1, h2, h3, h4, h5⟩ := h
  refine ⟨by rw [List.length_drop, h1, Nat.sub_mul], by omega, by omega, fun e => ?_, fun j u hj => ?_⟩
  · split at e
    · omega
    · rw [Option.map_eq_none_iff] at e
      have := h4 e
      omega
  · rw [List.getElem?_drop] at hj
    obtain ⟨b, off, rfl, hlt, hc⟩ := h5 _ _ hj
    have hl : k * size + j < cs.length := (List.getElem?_eq_some_iff.1 hj).1
    have hne : ¬ c = k := by
      rintro rfl
      have : n = c := by omega
      subst this
      rw [h1] at hl
      omega
    rw [if_neg hne]
    exact ⟨b, off + k * size, by simp only [Option.map_some, addr_add], hlt, by rw [Nat.add_assoc]; exact hc⟩
/-- A cut 's[:k]'. -/
theorem Sl.head {w : World} {A : Option Addr} {n c size : Nat} {cs : List Value} (h : Sl w A n c size cs) {k : Nat} (hk : k ≤ n) : Sl w A k c size (cs.take (k * size)) := by
  obtain ⟨h1, h2, h3, h4, h5⟩ := h
  refine ⟨by rw [List.length_take, h1, Nat.min_eq_left (Nat.mul_le_mul_right _ hk)], by omega, h3, h4, fun j u hj => h5 j u ?_⟩
  rw [List.getElem?_take] at hj
  split at hj
  · exact hj
  · cases hj

/-- A block that has just been made reads the same behind a call that leaves it alone. -/
theorem boxed {w w1 : World} {cs : Array Value} {t : TypeId} (hb : Below (w.alloc (.cells cs t)).heap.size (w.alloc (.cells cs t)) w1) (i : Nat) : w1.cell? ⟨w.heap.size, i, none⟩ = cs[i]? := by
  have h := hb.block w.heap.size (by simp)
  rw [heap_alloc_new w _] at h
  exact cell_of_row w1 _ i cs t _ h
theorem boxed_below {w w1 : World} {cs : Array Value} {t : TypeId} (hb : Below (w.alloc (.cells cs t)).heap.size (w.alloc (.cells cs t)) w1) : Below w.heap.size w w1 :=
  ((Below.refl _ _).alloc (Nat.le_refl _) _).trans (hb.mono (by simp))
/-- A block of three cells that is known whole: what the walk asks of each. -/
theorem box3 {w : World} {g : Nat} {t : TypeId} {x y z : Value} (h : w.heap[g]? = some (.cells #[x, y, z] t (0, 0))) :
    (w.cell? ⟨g, 0, none⟩ = some x ∧ w.cell? ⟨g, 1, none⟩ = some y ∧ w.cell? ⟨g, 2, none⟩ = some z) ∧ (w.frozen? ⟨g, 0, none⟩ = false ∧ w.frozen? ⟨g, 1, none⟩ = false ∧ w.frozen? ⟨g, 2, none⟩ = false) := by
  refine ⟨⟨cell_of_row w g 0 _ t _ h, cell_of_row w g 1 _ t _ h, cell_of_row w g 2 _ t _ h⟩, ?_, ?_, ?_⟩ <;> simp [World.frozen?, h]
/-- Two blocks that have just been made read the same behind a call that leaves them alone. -/
theorem boxed2 {w w1 : World} {o o' : Obj} (hb : Below ((w.alloc o).alloc o').heap.size ((w.alloc o).alloc o') w1) :
    w1.heap[w.heap.size]? = some o ∧ w1.heap[w.heap.size + 1]? = some o' ∧ Below w.heap.size w w1 ∧ w.heap.size + 1 < w1.heap.size := by
  refine ⟨?_, ?_, (((Below.refl _ _).alloc (Nat.le_refl _) _).alloc (by simp) _).trans (hb.mono (by simp; omega)), ?_⟩
  · have h := hb.block w.heap.size (by simp; omega)
    rw [heap_alloc_old _ _ (by simp), heap_alloc_new w _] at h
    exact h
  · have h := hb.block (w.heap.size + 1) (by simp)
    have e := heap_alloc_new (w.alloc o) o'
    simp only [World.size_alloc] at e
    rw [e] at h
    exact h
  · have := hb.size
    simp at this
    omega
/-- The cells of a list of ints. -/
def ints (zs : List Int) : List Value := zs.map (Value.int .i64)
theorem ints_length (zs : List Int) : (ints zs).length = zs.length := by simp [ints]
theorem ints_at {zs : List Int} {k : Nat} (h : k < zs.length) : (ints zs)[k]? = some (.int .i64 (zs.getD k 0)) := by simp [ints, List.getElem?_eq_getElem h, List.getD]
theorem ints_append (xs ys : List Int) : ints xs ++ ints ys = ints (xs ++ ys) := by simp [ints]
theorem ints_drop (xs : List Int) (k : Nat) : (ints xs).drop k = ints (xs.drop k) := by simp [ints]
theorem ints_take (xs : List Int) (k : Nat) : (ints xs).take k = ints (xs.take k) := by simp [ints]
theorem Sl.count {w : World} {A : Option Addr} {n c : Nat} {zs : List Int} (h : Sl w A n c 1 (ints zs)) : n = zs.length := by have := h.1; rw [ints_length] at this; omega
theorem Sl.int_at {w : World} {A : Option Addr} {n c : Nat} {zs : List Int} (h : Sl w A n c 1 (ints zs)) {k : Nat} (hk : k < n) :
    ∃ b off, A = some ⟨b, off, none⟩ ∧ b < w.heap.size ∧ w.cell? ⟨b, off + k, none⟩ = some (.int .i64 (zs.getD k 0)) :=
  h.2.2.2.2 k _ (ints_at (by rw [← h.count]; exact hk))
theorem Sl.int_cell {w : World} {b off n c : Nat} {zs : List Int} (h : Sl w (some ⟨b, off, none⟩) n c 1 (ints zs)) {k : Nat} (hk : k < n) : w.cell? ⟨b, off + k, none⟩ = some (.int .i64 (zs.getD k 0)) := by
  obtain ⟨b', off', e, _, hc⟩ := h.int_at hk
  cases e
  exact hc
theorem Sl.tail1 {w : World} {A : Option Addr} {n c : Nat} {zs : List Int} (h : Sl w A n c 1 (ints zs)) {k : Nat} (hk : k ≤ n) :
    Sl w (if c = k then A else A.map (·.add k)) (n - k) (c - k) 1 (ints (zs.drop k)) := by
  have := h.tail hk
  rw [Nat.mul_one, ints_drop] at this
  exact this
theorem Sl.tail_in {w : World} {A : Option Addr} {n c : Nat} {zs : List Int} (h : Sl w A n c 1 (ints zs)) {k : Nat} (hk : k < n) :
    Sl w (A.map (fun x => x.add k)) (n - k) (c - k) 1 (ints (zs.drop k)) := by
  have := h.tail1 (Nat.le_of_lt hk)
  rw [if_neg (by have := h.cap; omega)] at this
  exact this
theorem Sl.head1 {w : World} {A : Option Addr} {n c : Nat} {zs : List Int} (h : Sl w A n c 1 (ints zs)) {k : Nat} (hk : k ≤ n) : Sl w A k c 1 (ints (zs.take k)) := by
  have := h.head hk
  rw [Nat.mul_one, ints_take] at this
  exact this

/-- A slice value that the call itself has made by appending: these cells, in a block from 'base' on. -/
def Own (w : World) (base : Nat) (e : TypeId) (size : Nat) (v : Value) (n : Nat) (cs : List Value) : Prop := w.ownsRow base e size v n cs
theorem Own.nil (w : World) (base : Nat) (e : TypeId) (size : Nat) : Own w base e size (.slice none 0 0) 0 [] := World.ownsRow_nil _ _ _ _
theorem Own.len {w : World} {base : Nat} {e : TypeId} {size : Nat} {v : Value} {n : Nat} {cs : List Value} (h : Own w base e size v n cs) : cs.length = n * size := h.1
theorem Own.sl {w : World} {base : Nat} {e : TypeId} {size : Nat} {v : Value} {n : Nat} {cs : List Value} (h : Own w base e size v n cs) : ∃ A c, v = .slice A n c ∧ Sl w A n c size cs := by
  obtain ⟨hl, ho⟩ := h
  rcases ho with ⟨rfl, rfl⟩ | ⟨g, cap, cur, rfl, hb, hg, hn1, hcap, hsz, htake⟩
  · have : cs = [] := List.eq_nil_of_length_eq_zero (by simpa using hl)
    subst this
    exact ⟨none, 0, rfl, Sl.nil _ _⟩
  · refine ⟨_, cap, rfl, hl, hn1, hcap, (fun e => by cases e), CellsAt.of_row hg fun j u hj => ?_⟩
    rw [← htake, List.getElem?_take] at hj
    split at hj
    · simpa using hj
    · cases hj
theorem Own.keep {w w' : World} {base B : Nat} {e : TypeId} {size : Nat} {v : Value} {n : Nat} {cs : List Value} (h : Own w base e size v n cs) (hb : Below B w w') (hB : ∀ g, v.ownBlock = some g → g < B) : Own w' base e size v n cs := by
  obtain ⟨hl, ho⟩ := h
  refine ⟨hl, ho.imp id ?_⟩
  rintro ⟨g, cap, cur, rfl, hb', hg, h⟩
  exact ⟨g, cap, cur, rfl, hb', (hb.block g (hB g rfl)).trans hg, h⟩
theorem Own.drawn {w w' : World} {base : Nat} {e : TypeId} {size : Nat} {v : Value} {n : Nat} {cs : List Value} (h : Own w base e size v n cs) (hd : Drawn w w') : Own w' base e size v n cs := by
  obtain ⟨m, rfl⟩ := hd
  exact h
theorem Own.below {w w' : World} {base : Nat} {e : TypeId} {size : Nat} {v : Value} {n : Nat} {cs : List Value} (h : Own w base e size v n cs) (hb : Below w.heap.size w w') : Own w' base e size v n cs :=
  h.keep hb (fun g hg => by
    rcases h.2 with ⟨rfl, _⟩ | ⟨g', cap, cur, rfl, _, hg', _⟩
    · simp [Value.ownBlock] at hg
    · simp only [Value.ownBlock, Option.some.injEq] at hg
      subst hg
      rcases Nat.lt_or_ge g' w.heap.size with hlt | hge
      · exact hlt
      · rw [Array.getElem?_eq_none hge] at hg'; cases hg')
/-- A slice that a literal has made. -/
theorem Own.built (w : World) (base : Nat) (e : TypeId) (size : Nat) (n : Nat) (cs : List Value) (hb : base ≤ w.heap.size) (hn : cs.length = n * size) (hm : n ≤ maxLen) :
    Own (w.alloc (.cells cs.toArray e)) base e size (.slice (some ⟨w.heap.size, 0, none⟩) n n) n cs :=
  ⟨hn, .inr ⟨w.heap.size, n, cs.toArray, rfl, hb, heap_alloc_new w _, Nat.le_refl _, hm, by simpa using hn, by rw [List.take_of_length_le (by simp; omega)]⟩⟩
theorem Sl.built (w : World) (e : TypeId) (size n : Nat) (cs : List Value) (hn : cs.length = n * size) (hm : n ≤ maxLen) : Sl (w.alloc (.cells cs.toArray e)) (some ⟨w.heap.size, 0, none⟩) n n size cs :=
  ⟨hn, Nat.le_refl _, hm, (fun e => by cases e), CellsAt.new w e cs⟩
theorem Sl.built_at (w : World) (e : TypeId) (size n : Nat) (cs : List Value) (hn : cs.length = n * size) (hm : n ≤ maxLen) {g : Nat} (hg : g = w.heap.size) : Sl (w.alloc (.cells cs.toArray e)) (some ⟨g, 0, none⟩) n n size cs := by
  rw [hg]
  exact Sl.built w e size n cs hn hm
theorem Own.built_at (w : World) (base : Nat) (e : TypeId) (size : Nat) (n : Nat) (cs : List Value) (hb : base ≤ w.heap.size) (hn : cs.length = n * size) (hm : n ≤ maxLen) {g : Nat} (hg : g = w.heap.size) :
    Own (w.alloc (.cells cs.toArray e)) base e size (.slice (some ⟨g, 0, none⟩) n n) n cs := by
  rw [hg]
  exact Own.built w base e size n cs hb hn hm
theorem Own.alloc {w : World} {base : Nat} {e : TypeId} {size : Nat} {v : Value} {n : Nat} {cs : List Value} (h : Own w base e size v n cs) (o : Obj) : Own (w.alloc o) base e size v n cs := h.below ((Below.refl _ _).alloc (Nat.le_refl _) _)
/-- The call returns a list of ints in memory, all old memory as it was. -/
def Lists (zs : List Int) (w : World) (e : Ending) (w' : World) : Prop := ∃ A n c, e = .returned (.slice A n c) ∧ Sl w' A n c 1 (ints zs) ∧ Below w.heap.size w w'
/-- The address lies in a block from 'base' on. -/
def From (base : Nat) (A : Option Addr) : Prop := ∀ a, A = some a → base ≤ a.block
/-- The same, in new memory. -/
def ListsNew (zs : List Int) (w : World) (e : Ending) (w' : World) : Prop := ∃ A n c, e = .returned (.slice A n c) ∧ Sl w' A n c 1 (ints zs) ∧ Below w.heap.size w w' ∧ From w.heap.size A
theorem Own.sl_from {w : World} {base : Nat} {e : TypeId} {size : Nat} {v : Value} {n : Nat} {cs : List Value} (h : Own w base e size v n cs) : ∃ A c, v = .slice A n c ∧ Sl w A n c size cs ∧ From base A := by
  have h' := h
  obtain ⟨A, c, rfl, hs⟩ := h'.sl
  refine ⟨A, c, rfl, hs, fun a ha => ?_⟩
  rcases h.2 with ⟨e, _⟩ | ⟨g, cap, cur, e, hb, _⟩
  · injection e with e1 _ _
    rw [ha] at e1
    cases e1
  · injection e with e1 _ _
    rw [ha] at e1
    injection e1 with e1
    rw [e1]
    exact hb
/-- A store into another block leaves a list as it was. -/
theorem Sl.setCell {w : World} {A : Option Addr} {n c size : Nat} {cs : List Value} (h : Sl w A n c size cs) {base : Nat} (hf : From base A) {p : Addr} (hp : p.block < base) (u : Value) : Sl (w.setCell p u) A n c size cs := by
  obtain ⟨h1, h2, h3, h4, h5⟩ := h
  refine ⟨h1, h2, h3, h4, fun j v hj => ?_⟩
  obtain ⟨b, off, rfl, hlt, hc⟩ := h5 j v hj
  have hb := hf _ rfl
  simp only at hb
  refine ⟨b, off, rfl, by simpa [World.setCell] using hlt, ?_⟩
  rw [World.cell?_setCell_other _ _ _ _ (fun e => by subst e; simp only at hp; omega)]
  exact hc
theorem below_append {base : Nat} {w w' : World} {e : TypeId} {size : Nat} {v : Value} {n : Nat} {xs : List Value} (ho : w.ownsRow base e size v n xs) (hg : w.grownBy w' v.ownBlock) (hbase : base ≤ w.heap.size) : Below base w w' :=
  (Below.refl base w).grown hg hbase (fun k hk => by
    rcases ho.2 with ⟨rfl, _⟩ | ⟨g, cap, cur, rfl, hb, _⟩
    · simp [Value.ownBlock] at hk
    · simp only [Value.ownBlock, Option.some.injEq] at hk
      omega)

/-- 'append(out, xs...)', out nil or the call's own, xs whatever: over any element type. -/
theorem wpList_append_cells {P : Program} {w : World} {ops : Array Oper} {rest : List Oper} {o : Oper} {a : Act} {Q : Exit → Act → World → Prop} (hgd : o.guard = none) (s x : Operand) (t e : TypeId) (size bytes : Nat) (z : Value)
    (ht : P.underlying t = some (.slice e)) (hinfo : (P.info? e).map (fun i => (i.zero, i.size, i.bytes)) = some (some z, size, bytes)) (hzs : z.cells.size = size) (hsz0 : 0 < size)
    (ho : o.op = .call { callee := .builtin .append, args := #[s, x], argTypes := #[t, t] }) (base : Nat) (v : Value) (n : Nat) (cs : List Value) (hs : a.eval s = v) (hown : Own w base e size v n cs)
    (A : Option Addr) (m c : Nat) (ds : List Value) (hx : a.eval x = .slice A m c) (hl : Sl w A m c size ds) (h1 : ∀ u ∈ ds, u.oneCell' = true) (k : Nat) (hk : k = n + m) (es : List Value) (hes : es = cs ++ ds)
    (hmax : k ≤ maxLen) (hbytes : k * bytes ≤ 140737488355328) (hbase : base ≤ w.heap.size)
    (h : ∀ v' w', Own w' base e size v' k es → Below base w w' → wpList P ops Q rest (a.put o.dst v') w') : wpList P ops Q (o :: rest) a w := by
  subst hk
  subst hes
  obtain ⟨i, hi, hz, hsize, hby⟩ := info_parts hinfo
  obtain ⟨hm, _, _, hc, hcells⟩ := hl
  rcases A with _ | ad
  · have hm0 : m = 0 := by
      rcases Nat.eq_zero_or_pos m with h0 | h0
      · exact h0
      · have hpos : 0 < ds.length := by rw [hm]; exact Nat.mul_pos h0 hsz0
        obtain ⟨b, off, e', _⟩ := hcells 0 _ (List.getElem?_eq_getElem hpos)
        cases e'
    obtain rfl := hc rfl
    subst hm0
    have hds : ds = [] := List.eq_nil_of_length_eq_zero (by simpa using hm)
    subst hds
    refine wpList_append_own_none hgd s x t ho base e i size ht hi v n _ hs hown hx ?_
    exact h v w (by simpa using hown) (Below.refl _ _)
  · refine wpList_append_own w hgd s x t ho base e i z size bytes ht hi hz hsize hby hzs hsz0 v n _ hs hown ad m c ds hx hm ?_ h1 hmax hbytes hbase ?_
    · intro j u hu
      obtain ⟨b, off, e', _, hcell⟩ := hcells j u hu
      obtain rfl := Option.some.inj e'
      rw [addr_add]
      exact hcell
    · intro v' w' h2 h3 _
      exact h v' w' h2 (below_append hown h3 hbase)

theorem int_info : (Tryd.prog.info? 3).map (fun i => (i.zero, i.size, i.bytes)) = some (some (.int .i64 0), 1, 8) := by kernel_rfl
/-- The same, of ints. -/
theorem wpList_append_ints {w : World} {ops : Array Oper} {rest : List Oper} {o : Oper} {a : Act} {Q : Exit → Act → World → Prop} (hgd : o.guard = none) (s x : Operand)
    (ho : o.op = .call { callee := .builtin .append, args := #[s, x], argTypes := #[22, 22] }) (base : Nat) (v : Value) (n : Nat) (xs : List Int) (hs : a.eval s = v) (hown : Own w base 3 1 v n (ints xs))
    (A : Option Addr) (m c : Nat) (ys : List Int) (hx : a.eval x = .slice A m c) (hl : Sl w A m c 1 (ints ys)) (k : Nat) (hk : k = n + m) (zs : List Int) (hzs : zs = xs ++ ys) (hsz : k ≤ 1000000) (hbase : base ≤ w.heap.size)
    (h : ∀ v' w', Own w' base 3 1 v' k (ints zs) → Below base w w' → wpList Tryd.prog ops Q rest (a.put o.dst v') w') : wpList Tryd.prog ops Q (o :: rest) a w :=
  wpList_append_cells hgd s x 22 3 1 8 (.int .i64 0) Tryd.underlying22 int_info rfl (by omega) ho base v n _ hs hown A m c _ hx hl (ints_oneCell _ _) k hk _ (by rw [hzs, ints_append]) (by unfold maxLen; omega) (by omega) hbase h

/-- An argument of type []int, opened. -/
theorem open_list {H : Type} {enc : TypeId × Value → H} {W : World} {r : Reach} {b0 : Nat} {v : Value} {d : DataW H} {p : List MemPlace} (hv : Value.okWide Tryd.prog W r b0 22 v) (h : DataW.Trod enc Tryd.prog W 0 (fun _ => true) true 22 v d p) :
    ∃ A n c zs, v = .slice A n c ∧ Sl W A n c 1 (ints zs) := by
  obtain ⟨a0, len, cap, rfl⟩ := okWide_slice Tryd.underlying22 hv
  obtain ⟨fuel, hf⟩ := h
  have c1 : Tryd.prog.cellsOf 3 = 1 := by kernel_rfl
  rcases open_ints Tryd.underlying22 Tryd.underlying3 c1 hf with ⟨hcs, _⟩ | ⟨a, len', cap', zs, hcs, _, hl, hm, hz, _, hcell, _⟩
  · simp [Value.cells] at hcs
    obtain ⟨rfl, rfl, rfl⟩ := hcs
    exact ⟨none, 0, 0, [], rfl, Sl.nil _ _⟩
  · simp [Value.cells] at hcs
    obtain ⟨rfl, rfl, rfl⟩ := hcs
    simp only [if_true] at hz
    refine ⟨some a, len, cap, zs.take len, rfl, by rw [ints_length, List.length_take]; omega, hl, hm, (fun e => by cases e), fun j u hj => ?_⟩
    have hj2 : j < (zs.take len).length := by
      have := (List.getElem?_eq_some_iff.1 hj).1
      rwa [ints_length] at this
    rw [ints_at hj2, Option.some.injEq] at hj
    have hj3 : j < len := by simp at hj2; omega
    have hc := hcell j (by omega)
    obtain ⟨b, off, spot⟩ := a
    have hspot : spot = none := by simpa [Addr.add] using World.cell?_spot (hcell 0 (by omega))
    subst hspot
    rw [addr_add] at hc
    refine ⟨b, off, rfl, ?_, ?_⟩
    · rcases Nat.lt_or_ge b W.heap.size with hlt | hge
      · exact hlt
      · simp [World.cell?, Array.getElem?_eq_none hge] at hc
    · rw [hc, ← hj]
      simp [List.getD, hj3]

theorem own : ownKnob Tryd.prog.godebug = none := by kernel_rfl
theorem laidOut : laidOutB Tryd.prog = true := by kernel_rfl
section
variable {H : Type} {enc : TypeId × Value → H} {P : Program}
theorem trodAll_below (hl : laidOutB P = true) {W W' : World} (hb : Below W.heap.size W W') : ∀ {ts : List TypeId} {vs : List Value} {ds : List (DataW H)} {ps : List MemPlace},
    (ts.all fun t => P.readableRec t && decide (t < P.types.size)) = true → DataW.TrodAll enc P W 0 (fun _ => true) true ts vs ds ps → (∀ x ∈ ps, x.block < W.heap.size) →
    DataW.TrodAll enc P W' 0 (fun b => decide (b < W.heap.size)) true ts vs ds ps
  | [], _, _, _, _, h, _ => by
    obtain ⟨rfl, rfl, rfl⟩ := trodAll_nil h
    exact trodAll_mk0
  | t :: ts, _, _, _, hr, h, hlt => by
    obtain ⟨v, vs, d, ds, p, q, rfl, rfl, rfl, h1, h2⟩ := trodAll_cons h
    simp only [List.all_cons, Bool.and_eq_true] at hr
    exact ⟨p, q, Below.trod hl hr.1.1 (of_decide_eq_true hr.1.2) h1 hb (fun x hx => hlt x (List.mem_append_left _ hx)), trodAll_below hl hb hr.2 h2 (fun x hx => hlt x (List.mem_append_right _ hx)), rfl⟩
/-- A law's last step: it answered true, and all old memory is as it was. -/
theorem law_post (hl : laidOutB P = true) {f : Func} {s : ChangeSpec} {tb : TypeId} {W W' : World} {args : Array Value} {ds gs : List (DataW H)} {before : List MemPlace}
    (hr : (f.params.toList.all fun t => P.readableRec t && decide (t < P.types.size)) = true) (hv : s.vars = []) (ht : f.resultTypes = #[tb]) (hu : P.underlying tb = some .bool)
    (hs : s.fn H ds = { results := [.lit (.bool true)], args := ds })
    (hW : DataW.Whole enc P f.params.toList s.vars false W args.toList ds gs before) (hb : Below W.heap.size W W') : s.post enc P f false true false false W args (.bool true) W' := by
  have hW' := hW
  obtain ⟨p, q, hA, hV, rfl, _, _⟩ := hW
  rw [hv] at hV
  obtain ⟨rfl, rfl⟩ := trodVars_none hV
  have hlt : ∀ x ∈ p, x.block < W.heap.size := fun x hx => hW'.lt x (List.mem_append_left _ hx)
  refine ⟨ds, [], _, [], p, [], hW', ?_, ?_, ?_, ?_, fun h => by cases h⟩
  · rw [List.append_nil, hs, ht]
    exact trodAll_mk1 (shut_bool hu _)
  · rw [List.append_nil, hs]
    exact trodAll_below hl hb hr hA hlt
  · rw [List.append_nil, hs, hv]
    rfl
  · exact World.keptBut_mono (fun x hx => ⟨hx, .inr (.inl (by simpa using hx))⟩) (hb.frame (· ∈ p ++ []))
end
end Go.Proofs.YtkfchcmbpgcncaaDoor
