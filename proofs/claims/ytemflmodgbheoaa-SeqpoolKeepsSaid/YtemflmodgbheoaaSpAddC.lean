/-
  What the three clones of package seqpool's Add leave: three rows of the call's own, each in its own block.
-/
import Derived.Test.YtemflmodgbheoaaSpPack
import Derived.Deep.DeepCutAuto
namespace Go.Proofs.Ytemflmodgbheoaa.Sp
open Go.RowKit
set_option linter.unusedVariables false

set_option maxHeartbeats 1000000 in
theorem oclone_any {n c : Nat} {A : Option Addr} {xs : List Int} (hn : n ≤ 100000) (w : World) (hx : Sl w A n c 1 (ints xs)) :
    Calls Try.prog 27 #[.slice A n c] w (fun e w' => ∃ v, e = .returned v ∧ Own w' w.heap.size 3 1 v n (ints xs) ∧ Below w.heap.size w w') := by
  rcases A with _ | A
  · have hc0 : c = 0 := hx.2.2.2.1 rfl
    have hn0 : n = 0 := by have := hx.cap; omega
    have hx0 : xs = [] := List.eq_nil_of_length_eq_zero (by rw [← hx.count]; exact hn0)
    subst hc0 hn0 hx0
    have q1 := fun (W : World) => Lib.run_eql_slice_nil (P := Try.prog) W 25 3 none 0 0 0 0 Try.underlying25
    have q2 : (none : Option Addr).isNone = true := rfl
    go_enter Try.func27, Try.ntmps27
    go_wp2_with fail
    go_ret
    exact ⟨_, rfl, Own.nil _ _ _ _, Below.refl _ _⟩
  · have q1 := fun (W : World) => Lib.run_eql_slice_nil (P := Try.prog) W 25 3 (some A) n c 0 0 Try.underlying25
    have q2 : (some A).isNone = false := rfl
    go_enter Try.func27, Try.ntmps27
    go_wp2_with (at_builtin; refine wpList_append_ints rfl (.tmp 5) (.tmp 6) rfl w.heap.size _ 0 [] rfl (Own.built w w.heap.size 3 1 0 [] (Nat.le_refl _) rfl (by unfold maxLen; omega)) (some A) n c xs rfl (hx.keep ((Below.refl _ _).alloc (Nat.le_refl _) _)) n (by omega) xs rfl (by omega) (by simp) ?_; intro v1 w2 o1 hb1)
    go_ret
    exact ⟨_, rfl, o1, ((Below.refl _ _).alloc (Nat.le_refl _) _).trans hb1⟩

theorem own_lower {w : World} {base base' : Nat} {e : TypeId} {size : Nat} {v : Value} {n : Nat} {cs : List Value} (h : Own w base e size v n cs) (hb : base' ≤ base) : Own w base' e size v n cs := by
  obtain ⟨hl, ho⟩ := h
  refine ⟨hl, ho.imp id ?_⟩
  rintro ⟨g, cap, cur, rfl, hb', h⟩
  exact ⟨g, cap, cur, rfl, by omega, h⟩

/-- In the region of the three clones: the two boxes, the rows that have been made, and the block for the struct that is built. -/
structure Cl (w W : World) (g B0 : Nat) (c1 c2 : Array Value) (oa ob oc : Option Value) (n m k : Nat) (xs bs cs : List Int) (g6 : Option Nat) : Prop where
  box : Bk w W g c1
  box2 : Bk w W (g + 1) c2
  base : B0 ≤ W.heap.size
  lo : g + 1 < B0
  a : ∀ v, oa = some v → Own W B0 3 1 v n (ints xs)
  b : ∀ v, ob = some v → Own W B0 3 1 v m (ints bs)
  c : ∀ v, oc = some v → Own W B0 3 1 v k (ints cs)
  ab : ∀ u v, oa = some u → ob = some v → ∀ g, u.ownBlock = some g → v.ownBlock ≠ some g
  ac : ∀ u v, oa = some u → oc = some v → ∀ g, u.ownBlock = some g → v.ownBlock ≠ some g
  bc : ∀ u v, ob = some u → oc = some v → ∀ g, u.ownBlock = some g → v.ownBlock ≠ some g
  new : ∀ x, g6 = some x → Bk w W x #[.slice none 0 0, .slice none 0 0, .slice none 0 0] ∧ B0 ≤ x
  na : ∀ x v, g6 = some x → oa = some v → v.ownBlock ≠ some x
  nb : ∀ x v, g6 = some x → ob = some v → v.ownBlock ≠ some x
  nc : ∀ x v, g6 = some x → oc = some v → v.ownBlock ≠ some x
section
variable {w W W' : World} {g B0 : Nat} {c1 c2 : Array Value} {oa ob oc : Option Value} {n m k : Nat} {xs bs cs : List Int} {g6 : Option Nat}
theorem Cl.drew (H : Cl w W g B0 c1 c2 oa ob oc n m k xs bs cs g6) : Cl w W.drew g B0 c1 c2 oa ob oc n m k xs bs cs g6 :=
  ⟨⟨H.box.below.drew, H.box.ge, H.box.row⟩, ⟨H.box2.below.drew, H.box2.ge, H.box2.row⟩, H.base, H.lo, fun v e => (H.a v e).drew, fun v e => (H.b v e).drew, fun v e => (H.c v e).drew, H.ab, H.ac, H.bc, fun x e => ⟨⟨(H.new x e).1.below.drew, (H.new x e).1.ge, (H.new x e).1.row⟩, (H.new x e).2⟩, H.na, H.nb, H.nc⟩
theorem Cl.alloc (H : Cl w W g B0 c1 c2 oa ob oc n m k xs bs cs none) : Cl w (W.alloc (.cells #[.slice none 0 0, .slice none 0 0, .slice none 0 0] 27)) g B0 c1 c2 oa ob oc n m k xs bs cs (some W.heap.size) := by
  have ha := fun v e x (h : v.ownBlock = some x) => ((H.a v e).block_lt x h).2
  have hb := fun v e x (h : v.ownBlock = some x) => ((H.b v e).block_lt x h).2
  have hc := fun v e x (h : v.ownBlock = some x) => ((H.c v e).block_lt x h).2
  refine ⟨H.box.alloc _, H.box2.alloc _, by simp; have := H.base; omega, H.lo, fun v e => (H.a v e).alloc _, fun v e => (H.b v e).alloc _, fun v e => (H.c v e).alloc _, H.ab, H.ac, H.bc, fun x e => ?_, fun x v e1 e2 e3 => ?_, fun x v e1 e2 e3 => ?_, fun x v e1 e2 e3 => ?_⟩
  · cases e; exact ⟨Bk.fresh H.box.below _ _, H.base⟩
  · cases e1; have := ha v e2 _ e3; omega
  · cases e1; have := hb v e2 _ e3; omega
  · cases e1; have := hc v e2 _ e3; omega
theorem Cl.step (H : Cl w W g B0 c1 c2 oa ob oc n m k xs bs cs g6) (hb : Below W.heap.size W W') : Cl w W' g B0 c1 c2 oa ob oc n m k xs bs cs g6 :=
  ⟨H.box.step hb, H.box2.step hb, Nat.le_trans H.base hb.size, H.lo, fun v e => (H.a v e).below hb, fun v e => (H.b v e).below hb, fun v e => (H.c v e).below hb, H.ab, H.ac, H.bc, fun x e => ⟨(H.new x e).1.step hb, (H.new x e).2⟩, H.na, H.nb, H.nc⟩
theorem Cl.setA (H : Cl w W g B0 c1 c2 none ob oc n m k xs bs cs g6) (hb : Below W.heap.size W W') {v : Value} (ho : Own W' W.heap.size 3 1 v n (ints xs)) : Cl w W' g B0 c1 c2 (some v) ob oc n m k xs bs cs g6 := by
  have h1 := H.step hb
  have hv := fun x (h : v.ownBlock = some x) => (ho.block_lt x h).1
  have b2 := fun v e x (h : v.ownBlock = some x) => ((H.b v e).block_lt x h).2
  have b3 := fun v e x (h : v.ownBlock = some x) => ((H.c v e).block_lt x h).2
  refine ⟨h1.box, h1.box2, h1.base, h1.lo, fun u e => (by cases e; exact own_lower ho H.base), h1.b, h1.c, fun u x e1 e2 y h2 h3 => ?_, fun u x e1 e2 y h2 h3 => ?_, h1.bc, h1.new, fun x u e1 e2 e3 => ?_, h1.nb, h1.nc⟩
  · cases e1; have := hv y h2; have := b2 x e2 y h3; omega
  · cases e1; have := hv y h2; have := b3 x e2 y h3; omega
  · cases e2; have := hv x e3; have := (H.new x e1).1.lt; omega
theorem Cl.setB (H : Cl w W g B0 c1 c2 oa none oc n m k xs bs cs g6) (hb : Below W.heap.size W W') {v : Value} (ho : Own W' W.heap.size 3 1 v m (ints bs)) : Cl w W' g B0 c1 c2 oa (some v) oc n m k xs bs cs g6 := by
  have h1 := H.step hb
  have hv := fun x (h : v.ownBlock = some x) => (ho.block_lt x h).1
  have b2 := fun v e x (h : v.ownBlock = some x) => ((H.a v e).block_lt x h).2
  have b3 := fun v e x (h : v.ownBlock = some x) => ((H.c v e).block_lt x h).2
  refine ⟨h1.box, h1.box2, h1.base, h1.lo, h1.a, fun u e => (by cases e; exact own_lower ho H.base), h1.c, fun u x e1 e2 y h2 h3 => ?_, h1.ac, fun u x e1 e2 y h2 h3 => ?_, h1.new, h1.na, fun x u e1 e2 e3 => ?_, h1.nc⟩
  · cases e2; have := hv y h3; have := b2 u e1 y h2; omega
  · cases e1; have := hv y h2; have := b3 x e2 y h3; omega
  · cases e2; have := hv x e3; have := (H.new x e1).1.lt; omega
theorem Cl.setC (H : Cl w W g B0 c1 c2 oa ob none n m k xs bs cs g6) (hb : Below W.heap.size W W') {v : Value} (ho : Own W' W.heap.size 3 1 v k (ints cs)) : Cl w W' g B0 c1 c2 oa ob (some v) n m k xs bs cs g6 := by
  have h1 := H.step hb
  have hv := fun x (h : v.ownBlock = some x) => (ho.block_lt x h).1
  have b2 := fun v e x (h : v.ownBlock = some x) => ((H.a v e).block_lt x h).2
  have b3 := fun v e x (h : v.ownBlock = some x) => ((H.b v e).block_lt x h).2
  refine ⟨h1.box, h1.box2, h1.base, h1.lo, h1.a, h1.b, fun u e => (by cases e; exact own_lower ho H.base), h1.ab, fun u x e1 e2 y h2 h3 => ?_, fun u x e1 e2 y h2 h3 => ?_, h1.new, h1.na, h1.nb, fun x u e1 e2 e3 => ?_⟩
  · cases e2; have := hv y h3; have := b2 u e1 y h2; omega
  · cases e2; have := hv y h3; have := b3 u e1 y h2; omega
  · cases e2; have := hv x e3; have := (H.new x e1).1.lt; omega
theorem Cl.callA {A : Option Addr} {c : Nat} (H : Cl w W g B0 c1 c2 none ob oc n m k xs bs cs g6) (hx : Sl w A n c 1 (ints xs)) (hn : n ≤ 100000) :
    Calls Try.prog 27 #[.slice A n c] W (fun e W' => ∃ D d, e = .returned (.slice D n d) ∧ Cl w W' g B0 c1 c2 (some (.slice D n d)) ob oc n m k xs bs cs g6) :=
  (oclone_any hn W (hx.keep H.box.below)).mono fun e W' ⟨v, he, ho, hb⟩ => by
    have ho' := ho
    obtain ⟨D, d, rfl, _⟩ := ho'.sl
    exact ⟨D, d, he, H.setA hb ho⟩
theorem Cl.callB {A : Option Addr} {c : Nat} (H : Cl w W g B0 c1 c2 oa none oc n m k xs bs cs g6) (hx : Sl w A m c 1 (ints bs)) (hn : m ≤ 100000) :
    Calls Try.prog 27 #[.slice A m c] W (fun e W' => ∃ D d, e = .returned (.slice D m d) ∧ Cl w W' g B0 c1 c2 oa (some (.slice D m d)) oc n m k xs bs cs g6) :=
  (oclone_any hn W (hx.keep H.box.below)).mono fun e W' ⟨v, he, ho, hb⟩ => by
    have ho' := ho
    obtain ⟨D, d, rfl, _⟩ := ho'.sl
    exact ⟨D, d, he, H.setB hb ho⟩
theorem Cl.callC {A : Option Addr} {c : Nat} (H : Cl w W g B0 c1 c2 oa ob none n m k xs bs cs g6) (hx : Sl w A k c 1 (ints cs)) (hn : k ≤ 100000) :
    Calls Try.prog 27 #[.slice A k c] W (fun e W' => ∃ D d, e = .returned (.slice D k d) ∧ Cl w W' g B0 c1 c2 oa ob (some (.slice D k d)) n m k xs bs cs g6) :=
  (oclone_any hn W (hx.keep H.box.below)).mono fun e W' ⟨v, he, ho, hb⟩ => by
    have ho' := ho
    obtain ⟨D, d, rfl, _⟩ := ho'.sl
    exact ⟨D, d, he, H.setC hb ho⟩
theorem Cl.rows {va vb vc : Value} (H : Cl w W g B0 c1 c2 (some va) (some vb) (some vc) n m k xs bs cs g6) (h0 : w.heap.size ≤ B0) : Rows W w.heap.size va vb vc n m k xs bs cs :=
  ⟨own_lower (H.a _ rfl) h0, own_lower (H.b _ rfl) h0, own_lower (H.c _ rfl) h0, H.ab _ _ rfl rfl, H.ac _ _ rfl rfl, H.bc _ _ rfl rfl⟩
/-- What the region leaves. -/
structure Cloned (w W : World) (g B0 g6 : Nat) (c1 c2 : Array Value) (va vb vc : Value) (n m k : Nat) (xs bs cs : List Int) : Prop where
  rows : Rows W w.heap.size va vb vc n m k xs bs cs
  box : Bk w W g c1
  box2 : Bk w W (g + 1) c2
  box6 : Bk w W g6 #[va, vb, vc]
  lo : ∀ x, va.ownBlock = some x ∨ vb.ownBlock = some x ∨ vc.ownBlock = some x → B0 ≤ x ∧ x ≠ g6
  lo6 : B0 ≤ g6
  base : B0 ≤ W.heap.size
theorem Cl.finish {va vb vc : Value} {x6 : Nat} (H : Cl w W g B0 c1 c2 (some va) (some vb) (some vc) n m k xs bs cs (some x6)) (h0 : w.heap.size ≤ B0) :
    Cloned w (((W.setCell ⟨x6, 0, none⟩ va).setCell ⟨x6, 1, none⟩ vb).setCell ⟨x6, 2, none⟩ vc) g B0 x6 c1 c2 va vb vc n m k xs bs cs := by
  obtain ⟨k6, l6⟩ := H.new _ rfl
  have hlo := H.lo
  have hA := fun x (e : va.ownBlock = some x) => (H.a _ rfl).block_lt x e
  have hB := fun x (e : vb.ownBlock = some x) => (H.b _ rfl).block_lt x e
  have hC := fun x (e : vc.ownBlock = some x) => (H.c _ rfl).block_lt x e
  have nA := fun x (e : va.ownBlock = some x) (e2 : x = x6) => H.na x6 _ rfl rfl (e2 ▸ e)
  have nB := fun x (e : vb.ownBlock = some x) (e2 : x = x6) => H.nb x6 _ rfl rfl (e2 ▸ e)
  have nC := fun x (e : vc.ownBlock = some x) (e2 : x = x6) => H.nc x6 _ rfl rfl (e2 ▸ e)
  refine ⟨rows_set (rows_set (rows_set (H.rows h0) 0 va nA nB nC) 1 vb nA nB nC) 2 vc nA nB nC, Bk_other3 H.box (by omega) k6.ge _ _ _, Bk_other3 H.box2 (by omega) k6.ge _ _ _, Bk_set3 k6 _ _ _, fun x e => ?_, l6, by simpa [World.setCell] using H.base⟩
  rcases e with e | e | e
  · exact ⟨(hA x e).1, fun e2 => nA x e e2⟩
  · exact ⟨(hB x e).1, fun e2 => nB x e e2⟩
  · exact ⟨(hC x e).1, fun e2 => nC x e e2⟩
theorem Cloned.drew {va vb vc : Value} {x6 : Nat} (H : Cloned w W g B0 x6 c1 c2 va vb vc n m k xs bs cs) : Cloned w W.drew g B0 x6 c1 c2 va vb vc n m k xs bs cs :=
  ⟨H.rows.drew, ⟨H.box.below.drew, H.box.ge, H.box.row⟩, ⟨H.box2.below.drew, H.box2.ge, H.box2.row⟩, ⟨H.box6.below.drew, H.box6.ge, H.box6.row⟩, H.lo, H.lo6, H.base⟩
/-- The block for the struct was made last. -/
theorem Cl.finish_new {va vb vc : Value} (H : Cl w W g B0 c1 c2 (some va) (some vb) (some vc) n m k xs bs cs none) (h0 : w.heap.size ≤ B0) :
    Cloned w (W.alloc (.cells #[va, vb, vc] 27)) g B0 W.heap.size c1 c2 va vb vc n m k xs bs cs := by
  have hA := fun x (e : va.ownBlock = some x) => (H.a _ rfl).block_lt x e
  have hB := fun x (e : vb.ownBlock = some x) => (H.b _ rfl).block_lt x e
  have hC := fun x (e : vc.ownBlock = some x) => (H.c _ rfl).block_lt x e
  refine ⟨(H.rows h0).alloc _, H.box.alloc _, H.box2.alloc _, Bk.fresh H.box.below _ _, fun x e => ?_, H.base, by simp; have := H.base; omega⟩
  rcases e with e | e | e
  · have := hA x e; exact ⟨this.1, by omega⟩
  · have := hB x e; exact ⟨this.1, by omega⟩
  · have := hC x e; exact ⟨this.1, by omega⟩
end
end Go.Proofs.Ytemflmodgbheoaa.Sp
