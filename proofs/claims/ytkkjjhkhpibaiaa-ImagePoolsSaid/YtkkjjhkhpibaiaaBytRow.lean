/-
  Rows of bytes of the call's own: what an append leaves of the rest.
-/
import Derived.Test.YtkkjjhkhpibaiaaByt
import Derived.Test.YtkkjjhkhpibaiaaMemRow
namespace Go.Proofs.Ytkkjjhkhpibaiaa
open Go.RowKit
set_option linter.unusedVariables false

theorem bys_length (l : List Int) : (bys l).length = l.length := by simp [bys]
theorem step_append_rowb {w : World} {ops : Array Oper} {o : Oper} {a : Act} {K : Act → World → Prop} {Q : Exit → Act → World → Prop} {E : Prop} (hgd : o.guard = none) (s x : Operand)
    (ho : o.op = .call { callee := .builtin .append, args := #[s, x], argTypes := #[39, 39] }) (base : Nat) (v : Value) (n : Nat) (xs : List Int) (hs : a.eval s = v) (hown : Own w base 5 1 v n (bys xs))
    (A : Option Addr) (m c : Nat) (ys : List Int) (hx : a.eval x = .slice A m c) (hl : Sl w A m c 1 (bys ys)) (k : Nat) (hk : k = n + m) (zs : List Int) (hzs : zs = xs ++ ys) (hsz : k ≤ 1000000) (hbase : base ≤ w.heap.size)
    (h : ∀ v' w', Grew w w' v v' → Own w' base 5 1 v' k (bys zs) → K (a.put o.dst v') w') : if Region.wanted o (yielded ops a.tmps) = true then Oper.wp Try.prog o a w K Q else E := by
  subst hk hzs
  obtain ⟨i, hi, hz, hsize, hby⟩ := info_parts byte_info
  have hown0 := hown
  obtain ⟨hm, hnc, hcm, hc, hcells⟩ := hl
  have hw : Region.wanted o (yielded ops a.tmps) = true := by simp [Region.wanted, hgd]
  rw [← bys_append] at h
  rcases A with _ | ad
  · have hc0 := hc rfl
    have hm0 : m = 0 := by omega
    subst hc0 hm0
    have hds : ys = [] := List.eq_nil_of_length_eq_zero (by rw [bys_length] at hm; simpa using hm)
    subst hds
    rw [if_pos hw]
    have hrun := run_append_owned_none (P := Try.prog) (w := w) base 39 o.type 5 i 1 Try.underlying39 hi v n _ hown
    have hK := h v w ⟨⟨rfl, rfl, rfl, Nat.le_refl _, fun _ _ _ => rfl⟩, fun g hg => .inl hg⟩ (by simpa [bys] using hown)
    unfold Oper.wp
    simp [execOp, ho, resolve, invoke, builtin, hs, hx, hrun, Result.andThen]
    exact hK
  · have hnews : ∀ (j : Nat) (u : Value), (bys ys)[j]? = some u → w.cell? (ad.add j) = some u := by
      intro j u hu
      obtain ⟨b, off, e', _, hcell⟩ := hcells j u hu
      obtain rfl := Option.some.inj e'
      rw [addr_add]
      exact hcell
    rcases Nat.eq_zero_or_pos m with h0 | h0
    · subst h0
      rw [if_pos hw]
      rcases hown.2 with ⟨rfl, rfl⟩ | ⟨g, cap, cur, rfl, hb, hg, hn1, hcap, hsz1, htake⟩
      · refine wp_append_own_wide w s x 39 ho base 5 i (.int .u8 0) 1 1 Try.underlying39 hi hz hsize hby rfl (by omega) _ _ _ hs hown ad 0 c _ hx hm hnews (bys_one _) (by unfold maxLen; omega) (by omega) hbase ?_
        intro v' w' h2 h3 h4
        obtain rfl := h4.2 ⟨rfl, rfl⟩
        exact h _ w' ⟨h3, fun g hg => .inl hg⟩ h2
      · refine wp_append_own_spare w s x 39 ho base 5 i 1 Try.underlying39 hi hsize g n cap _ hs hown ad 0 c _ hx hm hnews (bys_one _) (by omega) ?_
        intro w' h2 h3
        exact h _ w' ⟨h3, fun g hg => .inl hg⟩ h2
    · refine step_append_lies w hgd s x 39 ho base 5 i (.int .u8 0) 1 1 Try.underlying39 hi hz hsize hby rfl (by omega) v n _ hs hown ad m c _ hx hm hnews (bys_one _) h0 (by unfold maxLen; omega) (by omega) hbase w.heap.size rfl ?_
      intro g cap w' h2 h3 h4 h5
      refine h _ w' ⟨h3, fun g' hg' => ?_⟩ h2
      simp only [Value.ownBlock, Option.some.injEq] at hg'
      subst hg'
      exact h4.imp id fun e => by omega
theorem wpList_append_rowb {w : World} {ops : Array Oper} {rest : List Oper} {o : Oper} {a : Act} {Q : Exit → Act → World → Prop} (hgd : o.guard = none) (s x : Operand)
    (ho : o.op = .call { callee := .builtin .append, args := #[s, x], argTypes := #[39, 39] }) (base : Nat) (v : Value) (n : Nat) (xs : List Int) (hs : a.eval s = v) (hown : Own w base 5 1 v n (bys xs))
    (A : Option Addr) (m c : Nat) (ys : List Int) (hx : a.eval x = .slice A m c) (hl : Sl w A m c 1 (bys ys)) (k : Nat) (hk : k = n + m) (zs : List Int) (hzs : zs = xs ++ ys) (hsz : k ≤ 1000000) (hbase : base ≤ w.heap.size)
    (h : ∀ v' w', Grew w w' v v' → Own w' base 5 1 v' k (bys zs) → wpList Try.prog ops Q rest (a.put o.dst v') w') : wpList Try.prog ops Q (o :: rest) a w :=
  wpList_step fun K hK => step_append_rowb hgd s x ho base v n xs hs hown A m c ys hx hl k hk zs hzs hsz hbase fun v' w' hg ho => hK _ _ (h v' w' hg ho)
/-- Since w only the block of v0, and what is new, has changed; v lies in one of them. -/
structure Kept (w W : World) (v0 v : Value) : Prop where
  size : w.heap.size ≤ W.heap.size
  same : ∀ x, x < w.heap.size → v0.ownBlock ≠ some x → W.heap[x]? = w.heap[x]?
  lies : ∀ g, v.ownBlock = some g → v0.ownBlock = some g ∨ w.heap.size ≤ g
theorem Kept.refl (w : World) (v : Value) : Kept w w v v := ⟨Nat.le_refl _, fun _ _ _ => rfl, fun g h => .inl h⟩
theorem Kept.alloc {w W : World} {v0 v : Value} (h : Kept w W v0 v) (o : Obj) : Kept w (W.alloc o) v0 v :=
  ⟨by simp; have := h.size; omega, fun x hx hn => (heap_alloc_old _ _ (Nat.lt_of_lt_of_le hx h.size)).trans (h.same x hx hn), h.lies⟩
theorem Kept.grew {w W W' : World} {v0 v v' : Value} (h : Kept w W v0 v) (hg : Grew W W' v v') : Kept w W' v0 v' := by
  refine ⟨Nat.le_trans h.size hg.1.size, fun x hx hn => (hg.1.block x (Nat.lt_of_lt_of_le hx h.size) (fun e => ?_)).trans (h.same x hx hn), fun g e => ?_⟩
  · rcases h.lies x e.symm with h1 | h1
    · exact hn h1
    · omega
  · rcases hg.2 g e with h1 | h1
    · exact h.lies g h1
    · exact .inr (Nat.le_trans h.size h1)
theorem Kept.trans {w W W' : World} {v0 v v' : Value} (h : Kept w W v0 v) (k : Kept W W' v v') : Kept w W' v0 v' := by
  refine ⟨Nat.le_trans h.size k.size, fun x hx hn => (k.same x (Nat.lt_of_lt_of_le hx h.size) (fun e => ?_)).trans (h.same x hx hn), fun g e => ?_⟩
  · rcases h.lies x e with h1 | h1
    · exact hn h1
    · omega
  · rcases k.lies g e with h1 | h1
    · exact h.lies g h1
    · exact .inr (Nat.le_trans h.size h1)
/-- A list that lies elsewhere. -/
theorem Kept.sl {w W : World} {v0 v : Value} (h : Kept w W v0 v) {A : Option Addr} {n c size : Nat} {cs : List Value} (hs : Sl w A n c size cs) (hA : ∀ a, A = some a → v0.ownBlock ≠ some a.block) : Sl W A n c size cs := by
  obtain ⟨h1, h2, h3, h4, h5⟩ := hs
  refine ⟨h1, h2, h3, h4, fun j u hj => ?_⟩
  obtain ⟨b, off, e, hlt, hc⟩ := h5 j u hj
  refine ⟨b, off, e, Nat.lt_of_lt_of_le hlt h.size, (World.cell?_of_block (h.same b hlt (hA _ e))).trans hc⟩
theorem grewb_below {w w' : World} {v v' : Value} {base n : Nat} {xs : List Int} (hg : Grew w w' v v') (ho : Own w base 5 1 v n (bys xs)) (hb : base ≤ w.heap.size) : Below base w w' := below_append ho hg.1 hb
end Go.Proofs.Ytkkjjhkhpibaiaa
