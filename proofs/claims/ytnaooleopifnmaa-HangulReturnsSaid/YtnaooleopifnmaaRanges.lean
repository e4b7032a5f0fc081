/-
  Lists of ranges in memory: their cells, appending one.
-/
import Derived.Test.YtnaooleopifnmaaMem
namespace Go.Proofs.Ytnaooleopifnmaa
open Go.RowKit
set_option linter.unusedVariables false

/-- The cells of a list of ranges. -/
def rngs (l : List (Int × Int)) : List Value := l.flatMap fun r => [.int .i64 r.1, .int .i64 r.2]
theorem rngs_nil : rngs [] = [] := rfl
theorem rngs_cons (r : Int × Int) (l : List (Int × Int)) : rngs (r :: l) = .int .i64 r.1 :: .int .i64 r.2 :: rngs l := rfl
theorem rngs_length : ∀ l : List (Int × Int), (rngs l).length = l.length * 2
  | [] => rfl
  | r :: l => by rw [rngs_cons, List.length_cons, List.length_cons, rngs_length l, List.length_cons]; omega
theorem rngs_append : ∀ xs ys : List (Int × Int), rngs xs ++ rngs ys = rngs (xs ++ ys)
  | [], _ => rfl
  | r :: xs, ys => by rw [rngs_cons, List.cons_append, List.cons_append, rngs_append xs ys]; rfl
theorem rngs_lo : ∀ (l : List (Int × Int)) (k : Nat), k < l.length → (rngs l)[k * 2]? = some (.int .i64 (l.getD k (0, 0)).1)
  | [], k, h => absurd h (by simp)
  | r :: l, 0, _ => rfl
  | r :: l, k + 1, h => by
    rw [rngs_cons, show (k + 1) * 2 = k * 2 + 1 + 1 from by omega, List.getElem?_cons_succ, List.getElem?_cons_succ, rngs_lo l k (by simpa using h)]
    rfl
theorem rngs_hi : ∀ (l : List (Int × Int)) (k : Nat), k < l.length → (rngs l)[k * 2 + 1]? = some (.int .i64 (l.getD k (0, 0)).2)
  | [], k, h => absurd h (by simp)
  | r :: l, 0, _ => rfl
  | r :: l, k + 1, h => by
    rw [rngs_cons, show (k + 1) * 2 + 1 = k * 2 + 1 + 1 + 1 from by omega, List.getElem?_cons_succ, List.getElem?_cons_succ, rngs_hi l k (by simpa using h)]
    rfl
theorem rngs_oneCell (l : List (Int × Int)) : ∀ u ∈ rngs l, u.oneCell' = true := by
  intro u hu
  obtain ⟨r, _, hr⟩ := List.mem_flatMap.1 hu
  simp only [List.mem_cons, List.not_mem_nil, or_false] at hr
  rcases hr with rfl | rfl <;> rfl
theorem Sl.rcount {w : World} {A : Option Addr} {n c : Nat} {l : List (Int × Int)} (h : Sl w A n c 2 (rngs l)) : n = l.length := by have := h.1; rw [rngs_length] at this; omega
theorem Sl.rng_at {w : World} {A : Option Addr} {n c : Nat} {l : List (Int × Int)} (h : Sl w A n c 2 (rngs l)) {k : Nat} (hk : k < n) :
    ∃ b off, A = some ⟨b, off, none⟩ ∧ b < w.heap.size ∧ w.cell? ⟨b, off + k * 2, none⟩ = some (.int .i64 (l.getD k (0, 0)).1) ∧ w.cell? ⟨b, off + k * 2 + 1, none⟩ = some (.int .i64 (l.getD k (0, 0)).2) := by
  have hk' : k < l.length := by rw [← h.rcount]; exact hk
  obtain ⟨b, off, rfl, hlt, hc⟩ := h.2.2.2.2 _ _ (rngs_lo l k hk')
  obtain ⟨b', off', e, _, hc'⟩ := h.2.2.2.2 _ _ (rngs_hi l k hk')
  cases e
  exact ⟨b, off, rfl, hlt, hc, by rw [Nat.add_assoc]; exact hc'⟩
theorem Sl.rng_lo {w : World} {b off n c : Nat} {l : List (Int × Int)} (h : Sl w (some ⟨b, off, none⟩) n c 2 (rngs l)) {k : Nat} (hk : k < n) : w.cell? ⟨b, off + k * 2, none⟩ = some (.int .i64 (l.getD k (0, 0)).1) := by
  obtain ⟨b', off', e, _, hc, _⟩ := h.rng_at hk
  cases e
  exact hc
theorem Sl.rng_hi {w : World} {b off n c : Nat} {l : List (Int × Int)} (h : Sl w (some ⟨b, off, none⟩) n c 2 (rngs l)) {k : Nat} (hk : k < n) : w.cell? ⟨b, off + k * 2 + 1, none⟩ = some (.int .i64 (l.getD k (0, 0)).2) := by
  obtain ⟨b', off', e, _, _, hc⟩ := h.rng_at hk
  cases e
  exact hc
theorem rng_info : (Try.prog.info? 34).map (fun i => (i.zero, i.size, i.bytes)) = some (some (.agg #[.int .i64 0, .int .i64 0]), 2, 16) := by kernel_rfl
/-- 'append(out, xs...)' of ranges. -/
theorem wpList_append_ranges {w : World} {ops : Array Oper} {rest : List Oper} {o : Oper} {a : Act} {Q : Exit → Act → World → Prop} (hgd : o.guard = none) (s x : Operand)
    (ho : o.op = .call { callee := .builtin .append, args := #[s, x], argTypes := #[31, 31] }) (base : Nat) (v : Value) (n : Nat) (xs : List (Int × Int)) (hs : a.eval s = v) (hown : Own w base 34 2 v n (rngs xs))
    (A : Option Addr) (m c : Nat) (ys : List (Int × Int)) (hx : a.eval x = .slice A m c) (hl : Sl w A m c 2 (rngs ys)) (k : Nat) (hk : k = n + m) (zs : List (Int × Int)) (hzs : zs = xs ++ ys) (hsz : k ≤ 1000000) (hbase : base ≤ w.heap.size)
    (h : ∀ v' w', Own w' base 34 2 v' k (rngs zs) → Below base w w' → wpList Try.prog ops Q rest (a.put o.dst v') w') : wpList Try.prog ops Q (o :: rest) a w :=
  wpList_append_cells hgd s x 31 34 2 16 _ Try.underlying31 rng_info rfl (by omega) ho base v n _ hs hown A m c _ hx hl (rngs_oneCell _) k hk _ (by rw [hzs, rngs_append]) (by unfold maxLen; omega) (by omega) hbase h
/-- The call returns a list of ranges in memory, all old memory as it was. -/
def GivesRanges (l : List (Int × Int)) (w : World) (e : Ending) (w' : World) : Prop := ∃ A n c, e = .returned (.slice A n c) ∧ Sl w' A n c 2 (rngs l) ∧ Below w.heap.size w w'
end Go.Proofs.Ytnaooleopifnmaa
