/-
  Several rows of the call's own that grow in one region: what an append leaves of the others.
-/
import Derived.Test.YtkkjjhkhpibaiaaMemStep
import Derived.Deep.DeepAppendRoom
import Derived.Deep.DeepAppendWide
namespace Go.Proofs.Ytkkjjhkhpibaiaa
open Go.RowKit
set_option linter.unusedVariables false

/-- The row v has become v': its own block alone has changed, and v' lies there or in new memory. -/
def Grew (w w' : World) (v v' : Value) : Prop := w.grownBy w' v.ownBlock ∧ ∀ g, v'.ownBlock = some g → v.ownBlock = some g ∨ w.heap.size ≤ g

theorem step_append_row {w : World} {ops : Array Oper} {o : Oper} {a : Act} {K : Act → World → Prop} {Q : Exit → Act → World → Prop} {E : Prop} (hgd : o.guard = none) (s x : Operand)
    (ho : o.op = .call { callee := .builtin .append, args := #[s, x], argTypes := #[26, 26] }) (base : Nat) (v : Value) (n : Nat) (xs : List Int) (hs : a.eval s = v) (hown : Own w base 3 1 v n (ints xs))
    (A : Option Addr) (m c : Nat) (ys : List Int) (hx : a.eval x = .slice A m c) (hl : Sl w A m c 1 (ints ys)) (k : Nat) (hk : k = n + m) (zs : List Int) (hzs : zs = xs ++ ys) (hsz : k ≤ 1000000) (hbase : base ≤ w.heap.size)
    (h : ∀ v' w', Grew w w' v v' → Own w' base 3 1 v' k (ints zs) → K (a.put o.dst v') w') : if Region.wanted o (yielded ops a.tmps) = true then Oper.wp Try.prog o a w K Q else E := by
  subst hk hzs
  obtain ⟨i, hi, hz, hsize, hby⟩ := info_parts int_info
  have hown0 := hown
  obtain ⟨hm, hnc, hcm, hc, hcells⟩ := hl
  have hw : Region.wanted o (yielded ops a.tmps) = true := by simp [Region.wanted, hgd]
  rw [← ints_append] at h
  rcases A with _ | ad
  · have hc0 := hc rfl
    have hm0 : m = 0 := by omega
    subst hc0 hm0
    have hds : ys = [] := List.eq_nil_of_length_eq_zero (by rw [ints_length] at hm; simpa using hm)
    subst hds
    rw [if_pos hw]
    have hrun := run_append_owned_none (P := Try.prog) (w := w) base 26 o.type 3 i 1 Try.underlying26 hi v n _ hown
    have hK := h v w ⟨⟨rfl, rfl, rfl, Nat.le_refl _, fun _ _ _ => rfl⟩, fun g hg => .inl hg⟩ (by simpa [ints] using hown)
    unfold Oper.wp
    simp [execOp, ho, resolve, invoke, builtin, hs, hx, hrun, Result.andThen]
    exact hK
  · have hnews : ∀ (j : Nat) (u : Value), (ints ys)[j]? = some u → w.cell? (ad.add j) = some u := by
      intro j u hu
      obtain ⟨b, off, e', _, hcell⟩ := hcells j u hu
      obtain rfl := Option.some.inj e'
      rw [addr_add]
      exact hcell
    rcases Nat.eq_zero_or_pos m with h0 | h0
    · subst h0
      rw [if_pos hw]
      rcases hown.2 with ⟨rfl, rfl⟩ | ⟨g, cap, cur, rfl, hb, hg, hn1, hcap, hsz1, htake⟩
      · refine wp_append_own_wide w s x 26 ho base 3 i (.int .i64 0) 1 8 Try.underlying26 hi hz hsize hby rfl (by omega) _ _ _ hs hown ad 0 c _ hx hm hnews (ints_oneCell _ _) (by unfold maxLen; omega) (by omega) hbase ?_
        intro v' w' h2 h3 h4
        obtain rfl := h4.2 ⟨rfl, rfl⟩
        exact h _ w' ⟨h3, fun g hg => .inl hg⟩ h2
      · refine wp_append_own_spare w s x 26 ho base 3 i 1 Try.underlying26 hi hsize g n cap _ hs hown ad 0 c _ hx hm hnews (ints_oneCell _ _) (by omega) ?_
        intro w' h2 h3
        exact h _ w' ⟨h3, fun g hg => .inl hg⟩ h2
    · refine step_append_lies w hgd s x 26 ho base 3 i (.int .i64 0) 1 8 Try.underlying26 hi hz hsize hby rfl (by omega) v n _ hs hown ad m c _ hx hm hnews (ints_oneCell _ _) h0 (by unfold maxLen; omega) (by omega) hbase w.heap.size rfl ?_
      intro g cap w' h2 h3 h4 h5
      refine h _ w' ⟨h3, fun g' hg' => ?_⟩ h2
      simp only [Value.ownBlock, Option.some.injEq] at hg'
      subst hg'
      exact h4.imp id fun e => by omega

/-- Three rows of the call's own, each in its own block. -/
structure Rows (w : World) (base : Nat) (va vb vc : Value) (na nb nc : Nat) (xs bs cs : List Int) : Prop where
  a : Own w base 3 1 va na (ints xs)
  b : Own w base 3 1 vb nb (ints bs)
  c : Own w base 3 1 vc nc (ints cs)
  ab : ∀ g, va.ownBlock = some g → vb.ownBlock ≠ some g
  ac : ∀ g, va.ownBlock = some g → vc.ownBlock ≠ some g
  bc : ∀ g, vb.ownBlock = some g → vc.ownBlock ≠ some g
theorem apart {v u : Value} (h : ∀ g, v.ownBlock = some g → u.ownBlock ≠ some g) : u.ownBlock = none ∨ u.ownBlock ≠ v.ownBlock := by
  rcases hu : u.ownBlock with _ | g
  · exact .inl rfl
  · exact .inr fun e => h g e.symm hu
theorem apart' {v u : Value} (h : ∀ g, v.ownBlock = some g → u.ownBlock ≠ some g) : v.ownBlock = none ∨ v.ownBlock ≠ u.ownBlock := by
  rcases hv : v.ownBlock with _ | g
  · exact .inl rfl
  · exact .inr fun e => h g hv e.symm
theorem Own.block_lt {w : World} {base : Nat} {e : TypeId} {size : Nat} {v : Value} {n : Nat} {cs : List Value} (h : Own w base e size v n cs) : ∀ g, v.ownBlock = some g → base ≤ g ∧ g < w.heap.size := World.ownsRow.lt h
theorem grew_apart {w w' : World} {v v' u : Value} (hg : Grew w w' v v') (h : ∀ g, v.ownBlock = some g → u.ownBlock ≠ some g) (hu : ∀ g, u.ownBlock = some g → g < w.heap.size) : ∀ g, v'.ownBlock = some g → u.ownBlock ≠ some g := fun g h1 h2 => by
  rcases hg.2 g h1 with h3 | h3
  · exact h g h3 h2
  · have := hu g h2
    omega
theorem Own.kept {w w' : World} {base : Nat} {e : TypeId} {size : Nat} {v : Value} {n : Nat} {cs : List Value} {row : Option Nat} (h : Own w base e size v n cs) (hg : w.grownBy w' row) (hne : v.ownBlock = none ∨ v.ownBlock ≠ row) : Own w' base e size v n cs := by
  obtain ⟨hl, ho⟩ := h
  refine ⟨hl, ho.imp id ?_⟩
  rintro ⟨g, cap, cur, rfl, hb', hg', h⟩
  refine ⟨g, cap, cur, rfl, hb', (hg.block g ?_ ?_).trans hg', h⟩
  · rcases Nat.lt_or_ge g w.heap.size with hlt | hge
    · exact hlt
    · rw [Array.getElem?_eq_none hge] at hg'; cases hg'
  · rcases hne with h1 | h1
    · simp [Value.ownBlock] at h1
    · exact h1
theorem Rows.stepA {w w' : World} {base : Nat} {va vb vc va' : Value} {na nb nc na' : Nat} {xs bs cs xs' : List Int} (h : Rows w base va vb vc na nb nc xs bs cs) (hg : Grew w w' va va') (ho : Own w' base 3 1 va' na' (ints xs')) : Rows w' base va' vb vc na' nb nc xs' bs cs :=
  ⟨ho, h.b.kept hg.1 (apart h.ab), h.c.kept hg.1 (apart h.ac), grew_apart hg h.ab fun g e => (h.b.block_lt g e).2, grew_apart hg h.ac fun g e => (h.c.block_lt g e).2, h.bc⟩
theorem Rows.stepB {w w' : World} {base : Nat} {va vb vc vb' : Value} {na nb nc nb' : Nat} {xs bs cs bs' : List Int} (h : Rows w base va vb vc na nb nc xs bs cs) (hg : Grew w w' vb vb') (ho : Own w' base 3 1 vb' nb' (ints bs')) : Rows w' base va vb' vc na nb' nc xs bs' cs :=
  ⟨h.a.kept hg.1 (apart' h.ab), ho, h.c.kept hg.1 (apart h.bc), fun g e1 e2 => grew_apart hg (fun g e1 e2 => h.ab g e2 e1) (fun g e => (h.a.block_lt g e).2) g e2 e1, h.ac, grew_apart hg h.bc fun g e => (h.c.block_lt g e).2⟩
theorem Rows.stepC {w w' : World} {base : Nat} {va vb vc vc' : Value} {na nb nc nc' : Nat} {xs bs cs cs' : List Int} (h : Rows w base va vb vc na nb nc xs bs cs) (hg : Grew w w' vc vc') (ho : Own w' base 3 1 vc' nc' (ints cs')) : Rows w' base va vb vc' na nb nc' xs bs cs' :=
  ⟨h.a.kept hg.1 (apart' h.ac), h.b.kept hg.1 (apart' h.bc), ho, h.ab, fun g e1 e2 => grew_apart hg (fun g e1 e2 => h.ac g e2 e1) (fun g e => (h.a.block_lt g e).2) g e2 e1, fun g e1 e2 => grew_apart hg (fun g e1 e2 => h.bc g e2 e1) (fun g e => (h.b.block_lt g e).2) g e2 e1⟩
theorem Rows.below {w w' : World} {base : Nat} {va vb vc : Value} {na nb nc : Nat} {xs bs cs : List Int} (h : Rows w base va vb vc na nb nc xs bs cs) (hb : Below w.heap.size w w') : Rows w' base va vb vc na nb nc xs bs cs :=
  ⟨h.a.below hb, h.b.below hb, h.c.below hb, h.ab, h.ac, h.bc⟩
theorem Rows.drew {w : World} {base : Nat} {va vb vc : Value} {na nb nc : Nat} {xs bs cs : List Int} (h : Rows w base va vb vc na nb nc xs bs cs) : Rows w.drew base va vb vc na nb nc xs bs cs := ⟨h.a.drew, h.b.drew, h.c.drew, h.ab, h.ac, h.bc⟩
theorem Rows.alloc {w : World} {base : Nat} {va vb vc : Value} {na nb nc : Nat} {xs bs cs : List Int} (h : Rows w base va vb vc na nb nc xs bs cs) (o : Obj) : Rows (w.alloc o) base va vb vc na nb nc xs bs cs := h.below ((Below.refl _ _).alloc (Nat.le_refl _) _)
end Go.Proofs.Ytkkjjhkhpibaiaa
