/-
  'append(out, xs...)' as one step of a region that draws its order: over any element type, of ints.
-/
import Derived.Test.YtkkjjhkhpibaiaaMem
import Derived.Deep.AppendLies
namespace Go.Proofs.Ytkkjjhkhpibaiaa
open Go.RowKit
set_option linter.unusedVariables false

theorem Own.drew {w : World} {base : Nat} {e : TypeId} {size : Nat} {v : Value} {n : Nat} {cs : List Value} (h : Own w base e size v n cs) : Own w.drew base e size v n cs := h
theorem Sl.drew {w : World} {A : Option Addr} {n c size : Nat} {cs : List Value} (h : Sl w A n c size cs) : Sl w.drew A n c size cs := h
theorem Below.drew {B : Nat} {a w : World} (h : Below B a w) : Below B a w.drew := ⟨h.os, h.tape, h.output, h.size, h.block⟩

theorem step_append_cells {P : Program} {w : World} {ops : Array Oper} {o : Oper} {a : Act} {K : Act → World → Prop} {Q : Exit → Act → World → Prop} {E : Prop} (hgd : o.guard = none) (s x : Operand) (t e : TypeId) (size bytes : Nat) (z : Value)
    (ht : P.underlying t = some (.slice e)) (hinfo : (P.info? e).map (fun i => (i.zero, i.size, i.bytes)) = some (some z, size, bytes)) (hzs : z.cells.size = size) (hsz0 : 0 < size)
    (ho : o.op = .call { callee := .builtin .append, args := #[s, x], argTypes := #[t, t] }) (base : Nat) (v : Value) (n : Nat) (cs : List Value) (hs : a.eval s = v) (hown : Own w base e size v n cs)
    (A : Option Addr) (m c : Nat) (ds : List Value) (hx : a.eval x = .slice A m c) (hl : Sl w A m c size ds) (h1 : ∀ u ∈ ds, u.oneCell' = true) (k : Nat) (hk : k = n + m) (es : List Value) (hes : es = cs ++ ds)
    (hmax : k ≤ maxLen) (hbytes : k * bytes ≤ 140737488355328) (hbase : base ≤ w.heap.size)
    (h : ∀ v' w', Own w' base e size v' k es → Below base w w' → K (a.put o.dst v') w') : if Region.wanted o (yielded ops a.tmps) = true then Oper.wp P o a w K Q else E := by
  have hw : Region.wanted o (yielded ops a.tmps) = true := by simp [Region.wanted, hgd]
  rw [if_pos hw]
  subst hk
  subst hes
  obtain ⟨i, hi, hz, hsize, hby⟩ := info_parts hinfo
  obtain ⟨hm, _, _, hc, hcells⟩ := hl
  rcases A with _ | ad
  · have hm0 : m = 0 := by
      rcases Nat.eq_zero_or_pos m with h0 | h0
      · exact h0
      · have hpos : 0 < ds.length := by rw [hm]; exact Nat.mul_pos h0 hsz0
        obtain ⟨b, off, e', _⟩ := hcells 0 _ (List.getElem?_eq_getElem hpos)
        cases e'
    obtain rfl := hc rfl
    subst hm0
    have hds : ds = [] := List.eq_nil_of_length_eq_zero (by simpa using hm)
    subst hds
    have hrun := run_append_owned_none (P := P) (w := w) base t o.type e i size ht hi v n _ hown
    have hK := h v w (by simpa using hown) (Below.refl _ _)
    unfold Oper.wp
    simp [execOp, ho, resolve, invoke, builtin, hs, hx, hrun, Result.andThen]
    exact hK
  · refine wp_append_own w s x t ho base e i z size bytes ht hi hz hsize hby hzs hsz0 v n cs hs hown ad m c ds hx hm ?_ h1 hmax hbytes hbase ?_
    · intro j u hu
      obtain ⟨b, off, e', _, hcell⟩ := hcells j u hu
      obtain rfl := Option.some.inj e'
      rw [addr_add]
      exact hcell
    · intro v' w' h2 h3 _
      exact h v' w' h2 (below_append hown h3 hbase)

/-- The same, of ints. -/
theorem step_append_ints {w : World} {ops : Array Oper} {o : Oper} {a : Act} {K : Act → World → Prop} {Q : Exit → Act → World → Prop} {E : Prop} (hgd : o.guard = none) (s x : Operand)
    (ho : o.op = .call { callee := .builtin .append, args := #[s, x], argTypes := #[26, 26] }) (base : Nat) (v : Value) (n : Nat) (xs : List Int) (hs : a.eval s = v) (hown : Own w base 3 1 v n (ints xs))
    (A : Option Addr) (m c : Nat) (ys : List Int) (hx : a.eval x = .slice A m c) (hl : Sl w A m c 1 (ints ys)) (k : Nat) (hk : k = n + m) (zs : List Int) (hzs : zs = xs ++ ys) (hsz : k ≤ 1000000) (hbase : base ≤ w.heap.size)
    (h : ∀ v' w', Own w' base 3 1 v' k (ints zs) → Below base w w' → K (a.put o.dst v') w') : if Region.wanted o (yielded ops a.tmps) = true then Oper.wp Try.prog o a w K Q else E :=
  step_append_cells hgd s x 26 3 1 8 (.int .i64 0) Try.underlying26 int_info rfl (by omega) ho base v n _ hs hown A m c _ hx hl (ints_oneCell _ _) k hk _ (by rw [hzs, ints_append]) (by unfold maxLen; omega) (by omega) hbase h
end Go.Proofs.Ytkkjjhkhpibaiaa
