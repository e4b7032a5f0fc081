/-
  The contract of the statements' own examples: the call answers true, and leaves all old memory as it was.
-/
import Derived.Test.YtdpcjgjegeiemaaDoorCpWriteHex
import Derived.Test.YtdpcjgjegeiemaaDoorCpCompare
namespace Go.Proofs.YtdpcjgjegeiemaaDoor
open Go.RowKit
set_option linter.unusedVariables false

theorem parse_as {s : ByteArray} {x y : Int} (h : parseR s.data.toList = (x, y)) (hs : s.size ≤ maxLen) (w : World) (ht : Tab w) : Calls Tryd.prog 22 #[.string s] w (Gives (.tuple #[.int .i64 x, .int .i64 y]) w) := by
  have := parse_any s hs w ht
  rw [h] at this
  exact this
theorem hex_as {c : Int} {r : ByteArray} (h : r = bytesOf (hexL c)) (w : World) (ht : Tab w) : Calls Tryd.prog 21 #[.int .i64 c] w (Makes (.string r) w) := by
  rw [h]
  exact hex_any c w ht

theorem ints_of_row {w : World} {g : Nat} {cs : Array Value} {t : TypeId} {fr : Nat × Nat} {zs : List Int} (hg : w.heap[g]? = some (.cells cs t fr)) (h : ∀ k, k < zs.length → cs[k]? = some (.int .i64 (zs.getD k 0))) : IntsAt w (some ⟨g, 0, none⟩) zs := by
  intro k hk
  have hlt : g < w.heap.size := by
    rcases Nat.lt_or_ge g w.heap.size with hlt | hge
    · exact hlt
    · rw [Array.getElem?_eq_none hge] at hg; cases hg
  exact ⟨g, 0, rfl, hlt, by rw [cell_of_row w g _ cs t fr hg, Nat.zero_add]; exact h k hk⟩
theorem drewN_below {B : Nat} {a w : World} (h : Below B a w) (n : Nat) : Below B a (w.drewN n) := ⟨h.os, h.tape, h.output, h.size, h.block⟩
theorem lits_compare (W : World) : Calls Tryd.prog 25 #[.slice (some ⟨W.heap.size, 0, none⟩) 1 1, .slice (some ⟨W.heap.size + 1, 0, none⟩) 2 2]
    ((W.alloc (.cells #[.int .i64 1] 3)).alloc (.cells #[.int .i64 1, .int .i64 0] 3)) (Tells (.int .i64 (-1)) ((W.alloc (.cells #[.int .i64 1] 3)).alloc (.cells #[.int .i64 1, .int .i64 0] 3))) := by
  have h1 : ((W.alloc (.cells #[.int .i64 1] 3)).alloc (.cells #[.int .i64 1, .int .i64 0] 3)).heap[W.heap.size]? = some (.cells #[.int .i64 1] 3 (0, 0)) := by
    rw [heap_alloc_old _ _ (by simp)]
    exact heap_alloc_new W _
  have h2 : ((W.alloc (.cells #[.int .i64 1] 3)).alloc (.cells #[.int .i64 1, .int .i64 0] 3)).heap[W.heap.size + 1]? = some (.cells #[.int .i64 1, .int .i64 0] 3 (0, 0)) := by
    have := heap_alloc_new (W.alloc (.cells #[.int .i64 1] 3)) (.cells #[.int .i64 1, .int .i64 0] 3)
    simpa using this
  exact compare_any (some ⟨W.heap.size, 0, none⟩) (some ⟨W.heap.size + 1, 0, none⟩) 1 2 [1] [1, 0] _ (by decide) (by decide)
    (ints_of_row h1 (fun k hk => by
      match k, hk with
      | 0, _ => rfl))
    (ints_of_row h2 (fun k hk => by
      match k, hk with
      | 0, _ => rfl
      | 1, _ => rfl))

set_option maxHeartbeats 400000 in
theorem awake_any (w : World) (ht : Tab w) : Calls Tryd.prog 20 #[] w (Makes (.bool true) w) := by
  go_enter Tryd.func20, Tryd.ntmps20
  go_wp2_with fail
  refine (parse_as (x := 1114111) (y := 0) (by decide) (by decide) _ ht).mono ?_
  rintro e w' ⟨rfl, rfl⟩
  go_wp2_with fail
  refine (parse_as (x := 0) (y := 3) (by decide) (by decide) _ ht).mono ?_
  rintro e w' ⟨rfl, rfl⟩
  go_wp2_with fail
  refine (parse_as (x := 0) (y := 3) (by decide) (by decide) _ ht).mono ?_
  rintro e w' ⟨rfl, rfl⟩
  go_wp2_with fail
  refine (hex_as (r := ⟨#[48, 48, 52, 49]⟩) (by decide) _ ht).mono ?_
  rintro e w1 ⟨rfl, hb1⟩
  go_wp2_with fail
  refine (lits_compare w1).mono ?_
  rintro e w' ⟨rfl, n, rfl⟩
  go_wp2_with fail
  go_ret
  exact ⟨rfl, (((hb1.alloc hb1.size _).alloc (by simp; have := hb1.size; omega) _) |> (drewN_below · n))⟩
end Go.Proofs.YtdpcjgjegeiemaaDoor
