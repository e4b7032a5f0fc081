/-
  The contracts of run over readSealed's closure, of readSealed and ReadPool of package image, where nothing is stopped.
-/
import Derived.Test.YtkkjjhkhpibaiaaImGet
import Derived.Test.YtkkjjhkhpibaiaaImPool
namespace Go.Proofs.Ytkkjjhkhpibaiaa.Im
open Go.RowKit Sp
set_option linter.unusedVariables false

set_option maxHeartbeats 1000000 in
theorem inner_ok {b P F p : Nat} {u v x : Value} {T T2 : TypeId} {l l1 l2 xs ys zs : List Int} (w : World) (h : Pst w w b P u v x l) (hP : P < b) (hb : b < w.heap.size) (hl : l.length ≤ 1000000) (e1 : rdList l = .ok (xs, l1)) (e2 : rdList l1 = .ok (ys, l2)) (e3 : rdList l2 = .ok (zs, []))
    (hF : w.heap[F]? = some (.cells #[.func (.func 49) #[] #[.pointer (some ⟨P, 0, none⟩)]] T (0, 0))) (hp : w.heap[p]? = some (.cells #[.pointer (some ⟨b, 0, none⟩)] T2 (0, 0))) (hpb : p ≠ b) (hpP : p ≠ P) :
    Calls Try.prog 60 #[.pointer (some ⟨F, 0, none⟩), .pointer (some ⟨p, 0, none⟩)] w (fun e w' => e = .returned (.tuple #[]) ∧ PoolAt w w' b P xs ys zs []) := by
  have HA := Lib.hid (lists_ok w h hP hb hl e1 e2 e3)
  have c1 : w.cell? ⟨F, 0, none⟩ = some (.func (.func 49) #[] #[.pointer (some ⟨P, 0, none⟩)]) := by rw [cell_of_row _ _ _ _ _ _ hF]; rfl
  have c2 : w.cell? ⟨p, 0, none⟩ = some (.pointer (some ⟨b, 0, none⟩)) := by rw [cell_of_row _ _ _ _ _ _ hp]; rfl
  have HP := Lib.hid hp
  clear e1 e2 e3 hF h hp
  go_enter Try.func60, Try.ntmps60
  go_wp2_with fail
  refine HA.out.mono ?_
  rintro e w1 ⟨rfl, hA⟩
  have HA2 := Lib.hid hA
  obtain ⟨g1, g2, g3, hS, _⟩ := hA
  have c3 : w1.cell? ⟨p, 0, none⟩ = some (.pointer (some ⟨b, 0, none⟩)) := by
    rw [cell_of_row _ _ _ _ _ _ ((hS.off p hpb hpP (heap_lt HP.out)).trans HP.out)]; rfl
  have HR := Lib.hid hS.rd
  clear hS c1 c2
  go_wp2_with (first | (go_at_call 61; refine (end_ok _ HR.out).mono ?_; rintro e w2 ⟨rfl, rfl⟩))
  go_end0
  exact ⟨rfl, HA2.out⟩

/-- A pool stands in its variable, and all below it is as it was. -/
def PoolIn (w W : World) (P : Nat) (xs ys zs : List Int) : Prop := Below P w W ∧ ∃ g1 g2 g3, W.heap[P]? = some (.cells #[.slice (some ⟨g1, 0, none⟩) xs.length xs.length, .slice (some ⟨g2, 0, none⟩) ys.length ys.length, .slice (some ⟨g3, 0, none⟩) zs.length zs.length] 51 (0, 0)) ∧ Blk W g1 xs ∧ Blk W g2 ys ∧ Blk W g3 zs

set_option maxHeartbeats 1000000 in
theorem outer_ok {b P F p : Nat} {u v x : Value} {T T2 : TypeId} {l l1 l2 xs ys zs : List Int} (w : World) (h : Pst w w b P u v x l) (hP : P < b) (hb : b < w.heap.size) (hl : l.length ≤ 1000000) (e1 : rdList l = .ok (xs, l1)) (e2 : rdList l1 = .ok (ys, l2)) (e3 : rdList l2 = .ok (zs, []))
    (hF : w.heap[F]? = some (.cells #[.func (.func 49) #[] #[.pointer (some ⟨P, 0, none⟩)]] T (0, 0))) (hp : w.heap[p]? = some (.cells #[.pointer (some ⟨b, 0, none⟩)] T2 (0, 0))) (hpb : p ≠ b) (hpP : p ≠ P) :
    Calls Try.prog 38 #[.func (.func 60) #[] #[.pointer (some ⟨F, 0, none⟩), .pointer (some ⟨p, 0, none⟩)]] w (fun e w' => e = .returned (.int .i64 0) ∧ PoolIn w w' P xs ys zs) := by
  have hmf : ∀ (fn : Fn) (first cap : Array Value) (w : World), (Instr.makeFunc fn first cap).run Try.prog w = .ok (.func fn first cap) w := fun _ _ _ _ => rfl
  have old : ∀ k, k < w.heap.size → (w.alloc (.cells #[.int .i64 0] 30)).heap[k]? = w.heap[k]? := fun k hk => Below.heap_alloc _ _ _ hk
  have hst : Pst (w.alloc (.cells #[.int .i64 0] 30)) (w.alloc (.cells #[.int .i64 0] 30)) b P u v x l :=
    ⟨h.rd.keep (B := w.heap.size) hb ((Below.refl _ _).alloc (Nat.le_refl _) _), (old P (heap_lt h.box)).trans h.box, Below.refl _ _, fun _ _ _ _ => rfl⟩
  have HA := Lib.hid (inner_ok _ hst hP (by simp; omega) hl e1 e2 e3 ((old F (heap_lt hF)).trans hF) ((old p (heap_lt hp)).trans hp) hpb hpP)
  have hE : (w.alloc (.cells #[.int .i64 0] 30)).heap[w.heap.size]? = some (.cells #[.int .i64 0] 30 (0, 0)) := heap_alloc_new w _
  have HE := Lib.hid hE
  have hPw : P < w.heap.size := heap_lt h.box
  clear hE hst h hF hp e1 e2 e3 old
  go_enter_defers Try.func38, Try.ntmps38
  go_wp2_with (first | (go_at_call 60; refine HA.out.mono ?_; rintro e w1 ⟨rfl, g1, g2, g3, hS, z1, z2, z3, k1, k2, k3⟩; have hE1 := (hS.off _ (by omega) (by omega) (by simp)).trans HE.out; have HE1 := Lib.hid hE1; have HS := Lib.hid hS; clear hS; have hcE : w1.cell? ⟨w.heap.size, 0, none⟩ = some (.int .i64 0) := (by rw [cell_of_row _ _ _ _ _ _ hE1]; rfl); have hfE : w1.frozen? ⟨w.heap.size, 0, none⟩ = false := (by simp [World.frozen?, hE1]); clear hE1))
  refine leaves_cons (f := 52) (args := #[.pointer (some ⟨w.heap.size, 0, none⟩)]) (by simp) (by simp [go_sem]) ?_
  refine (catch_idle ⟨w.heap.size, 0, none⟩ _).mono ?_
  rintro e u' w'' ⟨rfl, rfl, o, rfl⟩
  have h2 := one_setCell (u := .int .i64 0) HE1.out
  have hc2 : ((w1.setCell ⟨w.heap.size, 0, none⟩ (.int .i64 0)).alloc o).cell? ⟨w.heap.size, 0, none⟩ = some (.int .i64 0) := by
    rw [cell_of_row _ _ _ _ _ _ ((Below.heap_alloc _ o _ (by have := heap_lt HE1.out; simpa using this)).trans h2)]; rfl
  simp [Leaves, settle, results, Try.results38, go_sem, hc2]
  have hsz : ∀ k, k < w1.heap.size → k ≠ w.heap.size → ((w1.setCell ⟨w.heap.size, 0, none⟩ (.int .i64 0)).alloc o).heap[k]? = w1.heap[k]? := fun k h1 h3 =>
    (Below.heap_alloc _ o k (by simpa using h1)).trans (Below.heap_setCell _ _ _ _ h3)
  have hge : ∀ {g : Nat}, (w.alloc (.cells #[.int .i64 0] 30)).heap.size ≤ g → g ≠ w.heap.size := fun h => by rw [World.size_alloc] at h; omega
  refine ⟨?_, g1, g2, g3, (hsz P (heap_lt HS.out.box) (by omega)).trans HS.out.box, (hsz g1 z1.lt (hge k1)).trans z1, (hsz g2 z2.lt (hge k2)).trans z2, (hsz g3 z3.lt (hge k3)).trans z3⟩
  have t1 : Below P w w1 := ((Below.refl P w).alloc (by omega) _).trans HS.out.bel
  exact (t1.setCell (p := ⟨w.heap.size, 0, none⟩) (by show P ≤ w.heap.size; omega) _).alloc (by have := t1.size; simp; omega) o
end Go.Proofs.Ytkkjjhkhpibaiaa.Im
