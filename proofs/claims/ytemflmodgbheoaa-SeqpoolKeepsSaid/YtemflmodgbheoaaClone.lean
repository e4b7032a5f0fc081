/-
  The contract of slices.Clone at []int.
-/
import Derived.Test.YtemflmodgbheoaaMake
import Derived.Deep.QuietTactic
import Derived.BigQuiet
import Derived.WalkSpells
import Derived.StillTailTactics
namespace Go.Proofs.Ytemflmodgbheoaa
open Go.RowKit
set_option linter.unusedVariables false

set_option maxHeartbeats 1000000 in
theorem pclone_any {n c : Nat} {A : Option Addr} {xs : List Int} (hn : n ≤ 100000) (w : World) (hx : Sl w A n c 1 (ints xs)) :
    Calls Try.prog 27 #[.slice A n c] w (ListsNew xs w) := by
  rcases A with _ | A
  · have hc0 : c = 0 := hx.2.2.2.1 rfl
    have hn0 : n = 0 := by have := hx.cap; omega
    have hx0 : xs = [] := List.eq_nil_of_length_eq_zero (by rw [← hx.count]; exact hn0)
    subst hc0 hn0 hx0
    have q1 := fun (W : World) => Lib.run_eql_slice_nil (P := Try.prog) W 25 3 none 0 0 0 0 Try.underlying25
    have q2 : (none : Option Addr).isNone = true := rfl
    go_enter Try.func27, Try.ntmps27
    go_wp2_with fail
    go_ret
    exact ⟨none, 0, 0, rfl, Sl.nil _ _, Below.refl _ _, fun a ha => by cases ha⟩
  · have q1 := fun (W : World) => Lib.run_eql_slice_nil (P := Try.prog) W 25 3 (some A) n c 0 0 Try.underlying25
    have q2 : (some A).isNone = false := rfl
    go_enter Try.func27, Try.ntmps27
    go_wp2_with (at_builtin; refine wpList_append_ints rfl (.tmp 5) (.tmp 6) rfl w.heap.size _ 0 [] rfl (Own.built w w.heap.size 3 1 0 [] (Nat.le_refl _) rfl (by unfold maxLen; omega)) (some A) n c xs rfl (hx.keep ((Below.refl _ _).alloc (Nat.le_refl _) _)) n (by omega) xs rfl (by omega) (by simp) ?_; intro v1 w2 o1 hb1)
    go_ret
    obtain ⟨D, g, rfl, hl, hf⟩ := o1.sl_from
    exact ⟨D, _, g, rfl, hl, ((Below.refl _ _).alloc (Nat.le_refl _) _).trans hb1, hf⟩

end Go.Proofs.Ytemflmodgbheoaa
