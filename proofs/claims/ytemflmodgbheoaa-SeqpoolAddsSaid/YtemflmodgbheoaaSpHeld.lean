/-
  What a region holds in which three rows of the call's own grow beside each other.
-/
import Derived.Test.YtemflmodgbheoaaSpFind
import Derived.Test.YtemflmodgbheoaaMemRow
namespace Go.Proofs.Ytemflmodgbheoaa.Sp
open Go.RowKit
set_option linter.unusedVariables false

theorem Bk_grown {w W W1 : World} {g : Nat} {cs : Array Value} {row : Option Nat} (h : Bk w W g cs) (hg : W.grownBy W1 row) (hne : some g ≠ row) (hr : ∀ x, row = some x → w.heap.size ≤ x) : Bk w W1 g cs := by
  obtain ⟨t, hrow⟩ := h.row
  exact ⟨h.below.grown hg h.below.size hr, h.ge, t, (hg.block g h.lt hne).trans hrow⟩
/-- Three rows of the call's own, two boxes beside them, and the slices of one element that have been built. -/
structure Held (wb : World) (S : Nat → Prop) (w0 W : World) (g : Nat) (c1 c2 : Array Value) (va vb vc : Value) (na nb nc : Nat) (xs bs cs : List Int) (st t : Int) (gs gl : Option Nat) : Prop where
  rows : Rows W w0.heap.size va vb vc na nb nc xs bs cs
  box : Bk w0 W g c1
  box2 : Bk w0 W (g + 1) c2
  fa : ∀ x, va.ownBlock = some x → x ≠ g ∧ x ≠ g + 1 ∧ gs ≠ some x ∧ gl ≠ some x
  fb : ∀ x, vb.ownBlock = some x → x ≠ g ∧ x ≠ g + 1 ∧ gs ≠ some x ∧ gl ≠ some x
  fc : ∀ x, vc.ownBlock = some x → x ≠ g ∧ x ≠ g + 1 ∧ gs ≠ some x ∧ gl ≠ some x
  hs : ∀ x, gs = some x → Bk w0 W x #[.int .i64 st]
  hl : ∀ x, gl = some x → Bk w0 W x #[.int .i64 t]
  sa : ∀ x, va.ownBlock = some x → S x ∨ g ≤ x
  sb : ∀ x, vb.ownBlock = some x → S x ∨ g ≤ x
  sc : ∀ x, vc.ownBlock = some x → S x ∨ g ≤ x
  off : ∀ x, x < g → ¬ S x → W.heap[x]? = wb.heap[x]?
section
variable {wb : World} {S : Nat → Prop} {w0 W : World} {g : Nat} {c1 c2 : Array Value} {va vb vc : Value} {na nb nc : Nat} {xs bs cs : List Int} {st t : Int} {gs gl : Option Nat}
theorem Held.drew (H : Held wb S w0 W g c1 c2 va vb vc na nb nc xs bs cs st t gs gl) : Held wb S w0 W.drew g c1 c2 va vb vc na nb nc xs bs cs st t gs gl :=
  ⟨H.rows.drew, ⟨H.box.below.drew, H.box.ge, H.box.row⟩, ⟨H.box2.below.drew, H.box2.ge, H.box2.row⟩, H.fa, H.fb, H.fc, fun x e => ⟨(H.hs x e).below.drew, (H.hs x e).ge, (H.hs x e).row⟩, fun x e => ⟨(H.hl x e).below.drew, (H.hl x e).ge, (H.hl x e).row⟩, H.sa, H.sb, H.sc, H.off⟩
theorem Held.allocS (H : Held wb S w0 W g c1 c2 va vb vc na nb nc xs bs cs st t gs gl) : Held wb S w0 (W.alloc (.cells #[.int .i64 st] 3)) g c1 c2 va vb vc na nb nc xs bs cs st t (some W.heap.size) gl := by
  have ha := fun x e => (H.rows.a.block_lt x e).2
  have hb := fun x e => (H.rows.b.block_lt x e).2
  have hc := fun x e => (H.rows.c.block_lt x e).2
  refine ⟨H.rows.alloc _, H.box.alloc _, H.box2.alloc _, fun x e => ⟨(H.fa x e).1, (H.fa x e).2.1, fun e2 => ?_, (H.fa x e).2.2.2⟩, fun x e => ⟨(H.fb x e).1, (H.fb x e).2.1, fun e2 => ?_, (H.fb x e).2.2.2⟩, fun x e => ⟨(H.fc x e).1, (H.fc x e).2.1, fun e2 => ?_, (H.fc x e).2.2.2⟩, fun x e => ?_, fun x e => (H.hl x e).alloc _, H.sa, H.sb, H.sc, fun x hx hS => (Below.heap_alloc _ _ _ (Nat.lt_trans hx H.box.lt)).trans (H.off x hx hS)⟩
  · have := ha x e; cases e2; omega
  · have := hb x e; cases e2; omega
  · have := hc x e; cases e2; omega
  · cases e; exact Bk.fresh H.box.below _ _
theorem Held.allocL (H : Held wb S w0 W g c1 c2 va vb vc na nb nc xs bs cs st t gs gl) : Held wb S w0 (W.alloc (.cells #[.int .i64 t] 3)) g c1 c2 va vb vc na nb nc xs bs cs st t gs (some W.heap.size) := by
  have ha := fun x e => (H.rows.a.block_lt x e).2
  have hb := fun x e => (H.rows.b.block_lt x e).2
  have hc := fun x e => (H.rows.c.block_lt x e).2
  refine ⟨H.rows.alloc _, H.box.alloc _, H.box2.alloc _, fun x e => ⟨(H.fa x e).1, (H.fa x e).2.1, (H.fa x e).2.2.1, fun e2 => ?_⟩, fun x e => ⟨(H.fb x e).1, (H.fb x e).2.1, (H.fb x e).2.2.1, fun e2 => ?_⟩, fun x e => ⟨(H.fc x e).1, (H.fc x e).2.1, (H.fc x e).2.2.1, fun e2 => ?_⟩, fun x e => (H.hs x e).alloc _, fun x e => ?_, H.sa, H.sb, H.sc, fun x hx hS => (Below.heap_alloc _ _ _ (Nat.lt_trans hx H.box.lt)).trans (H.off x hx hS)⟩
  · have := ha x e; cases e2; omega
  · have := hb x e; cases e2; omega
  · have := hc x e; cases e2; omega
  · cases e; exact Bk.fresh H.box.below _ _
theorem Held.allocS1 {o : Obj} (H : Held wb S w0 (W.alloc o) g c1 c2 va vb vc na nb nc xs bs cs st t gs gl) : Held wb S w0 ((W.alloc o).alloc (.cells #[.int .i64 st] 3)) g c1 c2 va vb vc na nb nc xs bs cs st t (some (W.heap.size + 1)) gl := by
  have := H.allocS
  rwa [World.size_alloc] at this
theorem Held.allocL1 {o : Obj} (H : Held wb S w0 (W.alloc o) g c1 c2 va vb vc na nb nc xs bs cs st t gs gl) : Held wb S w0 ((W.alloc o).alloc (.cells #[.int .i64 t] 3)) g c1 c2 va vb vc na nb nc xs bs cs st t gs (some (W.heap.size + 1)) := by
  have := H.allocL
  rwa [World.size_alloc] at this
theorem far {W W' : World} {v v' : Value} {g : Nat} {gs gl : Option Nat} (hg : Grew W W' v v') (h : ∀ x, v.ownBlock = some x → x ≠ g ∧ x ≠ g + 1 ∧ gs ≠ some x ∧ gl ≠ some x) (h1 : g + 1 < W.heap.size) (h2 : ∀ x, gs = some x → x < W.heap.size) (h3 : ∀ x, gl = some x → x < W.heap.size) :
    ∀ x, v'.ownBlock = some x → x ≠ g ∧ x ≠ g + 1 ∧ gs ≠ some x ∧ gl ≠ some x := fun x e => by
  rcases hg.2 x e with e2 | e2
  · exact h x e2
  · refine ⟨by omega, by omega, fun e3 => ?_, fun e3 => ?_⟩
    · have := h2 x e3; omega
    · have := h3 x e3; omega
theorem Held.grow (H : Held wb S w0 W g c1 c2 va vb vc na nb nc xs bs cs st t gs gl) {W' : World} {v v' : Value} (hg : Grew W W' v v') (hv : ∀ x, v.ownBlock = some x → x ≠ g ∧ x ≠ g + 1 ∧ gs ≠ some x ∧ gl ≠ some x) (hb : ∀ x, v.ownBlock = some x → w0.heap.size ≤ x) :
    Bk w0 W' g c1 ∧ Bk w0 W' (g + 1) c2 ∧ (∀ x, gs = some x → Bk w0 W' x #[.int .i64 st]) ∧ (∀ x, gl = some x → Bk w0 W' x #[.int .i64 t]) :=
  ⟨Bk_grown H.box hg.1 (fun e => (hv _ e.symm).1 rfl) hb, Bk_grown H.box2 hg.1 (fun e => (hv _ e.symm).2.1 rfl) hb,
    fun x e => Bk_grown (H.hs x e) hg.1 (fun e2 => (hv _ e2.symm).2.2.1 e) hb, fun x e => Bk_grown (H.hl x e) hg.1 (fun e2 => (hv _ e2.symm).2.2.2 e) hb⟩
theorem new_in {W W' : World} {v v' : Value} {g : Nat} {S : Nat → Prop} (hg : Grew W W' v v') (h : ∀ x, v.ownBlock = some x → S x ∨ g ≤ x) (h1 : g < W.heap.size) : ∀ x, v'.ownBlock = some x → S x ∨ g ≤ x := fun x e => by
  rcases hg.2 x e with e2 | e2
  · exact h x e2
  · exact .inr (by omega)
theorem Held.off_grow (H : Held wb S w0 W g c1 c2 va vb vc na nb nc xs bs cs st t gs gl) {W' : World} {v v' : Value} (hg : Grew W W' v v') (hv : ∀ x, v.ownBlock = some x → S x ∨ g ≤ x) : ∀ x, x < g → ¬ S x → W'.heap[x]? = wb.heap[x]? := fun x hx hS =>
  (hg.1.block x (Nat.lt_trans hx H.box.lt) (fun e => by rcases hv x e.symm with h | h; exact hS h; omega)).trans (H.off x hx hS)
theorem Held.growA (H : Held wb S w0 W g c1 c2 va vb vc na nb nc xs bs cs st t gs gl) {W' : World} {va' : Value} {na' : Nat} {xs' : List Int} (hg : Grew W W' va va') (ho : Own W' w0.heap.size 3 1 va' na' (ints xs')) : Held wb S w0 W' g c1 c2 va' vb vc na' nb nc xs' bs cs st t gs gl := by
  obtain ⟨h1, h2, h3, h4⟩ := H.grow hg H.fa fun x e => (H.rows.a.block_lt x e).1
  exact ⟨H.rows.stepA hg ho, h1, h2, far hg H.fa H.box2.lt (fun x e => (H.hs x e).lt) (fun x e => (H.hl x e).lt), H.fb, H.fc, h3, h4, new_in hg H.sa H.box.lt, H.sb, H.sc, H.off_grow hg H.sa⟩
theorem Held.growB (H : Held wb S w0 W g c1 c2 va vb vc na nb nc xs bs cs st t gs gl) {W' : World} {vb' : Value} {nb' : Nat} {bs' : List Int} (hg : Grew W W' vb vb') (ho : Own W' w0.heap.size 3 1 vb' nb' (ints bs')) : Held wb S w0 W' g c1 c2 va vb' vc na nb' nc xs bs' cs st t gs gl := by
  obtain ⟨h1, h2, h3, h4⟩ := H.grow hg H.fb fun x e => (H.rows.b.block_lt x e).1
  exact ⟨H.rows.stepB hg ho, h1, h2, H.fa, far hg H.fb H.box2.lt (fun x e => (H.hs x e).lt) (fun x e => (H.hl x e).lt), H.fc, h3, h4, H.sa, new_in hg H.sb H.box.lt, H.sc, H.off_grow hg H.sb⟩
theorem Held.growC (H : Held wb S w0 W g c1 c2 va vb vc na nb nc xs bs cs st t gs gl) {W' : World} {vc' : Value} {nc' : Nat} {cs' : List Int} (hg : Grew W W' vc vc') (ho : Own W' w0.heap.size 3 1 vc' nc' (ints cs')) : Held wb S w0 W' g c1 c2 va vb vc' na nb nc' xs bs cs' st t gs gl := by
  obtain ⟨h1, h2, h3, h4⟩ := H.grow hg H.fc fun x e => (H.rows.c.block_lt x e).1
  exact ⟨H.rows.stepC hg ho, h1, h2, H.fa, H.fb, far hg H.fc H.box2.lt (fun x e => (H.hs x e).lt) (fun x e => (H.hl x e).lt), h3, h4, H.sa, H.sb, new_in hg H.sc H.box.lt, H.off_grow hg H.sc⟩
theorem one_sl {w W : World} {x : Nat} {a : Int} (h : Bk w W x #[.int .i64 a]) : Sl W (some ⟨x, 0, none⟩) 1 1 1 (ints [a]) := by
  obtain ⟨T, hr⟩ := h.row
  exact ⟨rfl, Nat.le_refl _, by unfold maxLen; omega, (fun e => by cases e), CellsAt.of_row hr (fun j u hj => by simpa [ints] using hj)⟩
/-- The three appends, each as a step. -/
theorem Held.stepA {ops : Array Oper} {o : Oper} {a : Act} {K : Act → World → Prop} {Q : Exit → Act → World → Prop} {E : Prop} (hgd : o.guard = none) (s x : Operand)
    (ho : o.op = .call { callee := .builtin .append, args := #[s, x], argTypes := #[25, 25] }) (H : Held wb S w0 W g c1 c2 va vb vc na nb nc xs bs cs st t gs gl) (hs : a.eval s = va)
    (A : Option Addr) (m c : Nat) (ys : List Int) (hx : a.eval x = .slice A m c) (hl : Sl w0 A m c 1 (ints ys)) (hsz : na + m ≤ 1000000)
    (h : ∀ v' w', Held wb S w0 w' g c1 c2 v' vb vc (na + m) nb nc (xs ++ ys) bs cs st t gs gl → K (a.put o.dst v') w') : if Region.wanted o (yielded ops a.tmps) = true then Oper.wp Try.prog o a W K Q else E :=
  step_append_row hgd s x ho w0.heap.size va na xs hs H.rows.a A m c ys hx (hl.keep H.box.below) _ rfl _ rfl hsz H.box.below.size fun v' w' hg hn => h v' w' (H.growA hg hn)
theorem Held.stepB {ops : Array Oper} {o : Oper} {a : Act} {K : Act → World → Prop} {Q : Exit → Act → World → Prop} {E : Prop} (hgd : o.guard = none) (s x : Operand)
    (ho : o.op = .call { callee := .builtin .append, args := #[s, x], argTypes := #[25, 25] }) {y : Nat} (H : Held wb S w0 W g c1 c2 va vb vc na nb nc xs bs cs st t (some y) gl) (hs : a.eval s = vb)
    (hx : a.eval x = .slice (some ⟨y, 0, none⟩) 1 1) (hsz : nb + 1 ≤ 1000000)
    (h : ∀ v' w', Held wb S w0 w' g c1 c2 va v' vc na (nb + 1) nc xs (bs ++ [st]) cs st t (some y) gl → K (a.put o.dst v') w') : if Region.wanted o (yielded ops a.tmps) = true then Oper.wp Try.prog o a W K Q else E :=
  step_append_row hgd s x ho w0.heap.size vb nb bs hs H.rows.b _ 1 1 [st] hx (one_sl (H.hs y rfl)) _ rfl _ rfl hsz H.box.below.size fun v' w' hg hn => h v' w' (H.growB hg hn)
theorem Held.stepC {ops : Array Oper} {o : Oper} {a : Act} {K : Act → World → Prop} {Q : Exit → Act → World → Prop} {E : Prop} (hgd : o.guard = none) (s x : Operand)
    (ho : o.op = .call { callee := .builtin .append, args := #[s, x], argTypes := #[25, 25] }) {y : Nat} (H : Held wb S w0 W g c1 c2 va vb vc na nb nc xs bs cs st t gs (some y)) (hs : a.eval s = vc)
    (hx : a.eval x = .slice (some ⟨y, 0, none⟩) 1 1) (hsz : nc + 1 ≤ 1000000)
    (h : ∀ v' w', Held wb S w0 w' g c1 c2 va vb v' na nb (nc + 1) xs bs (cs ++ [t]) st t gs (some y) → K (a.put o.dst v') w') : if Region.wanted o (yielded ops a.tmps) = true then Oper.wp Try.prog o a W K Q else E :=
  step_append_row hgd s x ho w0.heap.size vc nc cs hs H.rows.c _ 1 1 [t] hx (one_sl (H.hl y rfl)) _ rfl _ rfl hsz H.box.below.size fun v' w' hg hn => h v' w' (H.growC hg hn)
theorem grown_set (W : World) (b k : Nat) (v : Value) : W.grownBy (W.setCell ⟨b, k, none⟩ v) (some b) :=
  ⟨rfl, rfl, rfl, by simp [World.setCell], fun i hi hne => Below.heap_setCell _ _ _ _ (fun e => hne (by simp_all))⟩
theorem rows_set (h : Rows W w0.heap.size va vb vc na nb nc xs bs cs) {b : Nat} (k : Nat) (v : Value) (ha : ∀ x, va.ownBlock = some x → x ≠ b) (hb : ∀ x, vb.ownBlock = some x → x ≠ b) (hc : ∀ x, vc.ownBlock = some x → x ≠ b) : Rows (W.setCell ⟨b, k, none⟩ v) w0.heap.size va vb vc na nb nc xs bs cs :=
  ⟨h.a.kept (grown_set W b k v) (.inr fun e => ha b e rfl), h.b.kept (grown_set W b k v) (.inr fun e => hb b e rfl), h.c.kept (grown_set W b k v) (.inr fun e => hc b e rfl), h.ab, h.ac, h.bc⟩
theorem Held.done_off (H : Held wb S w0 W g c1 c2 va vb vc na nb nc xs bs cs st t gs gl) (x y z : Value) :
    ∀ i, i < g → ¬ S i → (((W.setCell ⟨g + 1, 0, none⟩ x).setCell ⟨g + 1, 1, none⟩ y).setCell ⟨g + 1, 2, none⟩ z).heap[i]? = wb.heap[i]? := fun i hi hS => by
  rw [Below.heap_setCell _ _ _ _ (by simp only; omega), Below.heap_setCell _ _ _ _ (by simp only; omega), Below.heap_setCell _ _ _ _ (by simp only; omega)]
  exact H.off i hi hS
theorem Held.done (H : Held wb S w0 W g c1 c2 va vb vc na nb nc xs bs cs st t gs gl) (x y z : Value) :
    Rows (((W.setCell ⟨g + 1, 0, none⟩ x).setCell ⟨g + 1, 1, none⟩ y).setCell ⟨g + 1, 2, none⟩ z) w0.heap.size va vb vc na nb nc xs bs cs ∧ Below w0.heap.size w0 (((W.setCell ⟨g + 1, 0, none⟩ x).setCell ⟨g + 1, 1, none⟩ y).setCell ⟨g + 1, 2, none⟩ z) := by
  have ha := fun x e => (H.fa x e).2.1
  have hb := fun x e => (H.fb x e).2.1
  have hc := fun x e => (H.fc x e).2.1
  have hg := H.box2.ge
  exact ⟨rows_set (rows_set (rows_set H.rows 0 x ha hb hc) 1 y ha hb hc) 2 z ha hb hc, ((H.box2.below.setCell hg _).setCell hg _).setCell hg _⟩
end

end Go.Proofs.Ytemflmodgbheoaa.Sp
