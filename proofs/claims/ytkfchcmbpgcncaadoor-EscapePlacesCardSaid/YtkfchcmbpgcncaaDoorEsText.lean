/-
  The contract of package escape's Text, for every text of at most 1000 elements.
-/
import Derived.Test.YtkfchcmbpgcncaaDoorEsIter
namespace Go.Proofs.YtkfchcmbpgcncaaDoor.Es
open Go.RowKit Go.Shelf
set_option linter.unusedVariables false
attribute [local go_sem] Oper.semAt_some

theorem Bd.grown {B b : Nat} {l : List UInt8} {W W' : World} {row : Option Nat} (h : Bd B b l W) (hg : W.grownBy W' row) (hr : ∀ r, row = some r → ∃ o : Obj, W.heap[r]? = some o ∧ o.isCells = false) : Bd B b l W' := by
  have key : ∀ p, Lib.BuilderAtF 43 5 B b p (Lib.byteCells l) W → Lib.BuilderAtF 43 5 B b p (Lib.byteCells l) W' := by
    rintro p ⟨hB, v, hb, hown, hne⟩
    refine ⟨hB, v, (grownBy_keeps_cells hg hr hb rfl).trans hb, hown.kept hg ?_, hne⟩
    rcases hv : v.ownBlock with _ | g
    · exact .inl rfl
    · refine .inr fun e => ?_
      obtain ⟨c, fz, hc⟩ := Lib.ownsRowF_kind hown g hv
      obtain ⟨o, ho, hcl⟩ := hr g e.symm
      rw [hc] at ho
      cases ho
      cases hcl
  exact h.imp (key _) (key _)
theorem Bd.keepsFrom {B b n : Nat} {l : List UInt8} {W W' : World} (h : Bd B b l W) (hb : Below B W W') (hk : Lib.OthersKept 5 (some b) W W') : KeepsFrom n W W' :=
  ⟨hb.size, fun k o _ hko ho => hk k o hko (fun e => by
    cases e
    obtain ⟨v, hv⟩ : ∃ v, W.heap[b]? = some (.cells v 43 (0, 0)) := by
      rcases h with ⟨_, v, hb, _⟩ | ⟨_, v, hb, _⟩
      · exact ⟨_, hb⟩
      · exact ⟨_, hb⟩
    rw [hv] at hko
    cases hko
    cases ho) (fun c fz e => by subst e; cases ho)⟩
theorem pieces_any (A : Option Addr) (n c : Nat) (w : World) : Calls Tryd.prog 23 #[.slice A n c] w fun e w' =>
    e = .returned (.func (.func 38) #[] #[.pointer (some ⟨w.heap.size, 0, none⟩)]) ∧ w' = w.alloc (.cells #[.slice A n c] 22) := by
  go_enter Tryd.func23, Tryd.ntmps23
  go_wp2
  go_ret
  exact ⟨rfl, rfl⟩
/-- What Text returns. -/
def textR (zs : List Int) : ByteArray × Int := if allV zs = true then (bytesOf (textL zs), 0) else (⟨#[]⟩, 1)
/-- A string and an error's number. -/
def StrErr (p : ByteArray × Int) (w : World) (e : Ending) (w' : World) : Prop := e = .returned (.tuple #[.string p.1, .int .i64 p.2]) ∧ Below w.heap.size w w'
/-- The bytes of pieces, one after the other. -/
def cat (l : List Pc) : List UInt8 := l.flatMap (·.1)
theorem cat_snoc (l : List Pc) (x : Pc) : cat (l ++ [x]) = cat l ++ x.1 := by simp [cat]
theorem cat_len : ∀ l : List Pc, (cat l).length ≤ 20 * l.length
  | [] => by simp [cat]
  | x :: l => by
    have := cat_len l
    have := x.2
    simp only [cat, List.flatMap_cons, List.length_append, List.length_cons] at *
    omega
theorem cat_all (zs : List Int) : cat (allP zs) = textL zs := by
  simp only [cat, allP, textL, List.flatMap_cons, List.flatMap_append, List.flatMap_nil, List.append_nil, qt]
  rw [List.flatMap_map]
  rfl

set_option maxRecDepth 100000 in
set_option maxHeartbeats 4000000 in
theorem text_good (A : Option Addr) (n c : Nat) (zs : List Int) (w : World) (hl : Sl w A n c 1 (ints zs)) (hn : n ≤ 1000) (hv : allV zs = true) (ht : Tab w) :
    Calls Tryd.prog 13 #[.slice A n c] w (StrErr (bytesOf (textL zs), 0) w) := by
  have HV := Lib.hid hv
  have hz : ∀ x ∈ zs, isCode x = true := fun x hx => List.all_eq_true.1 hv x hx
  have hcount := Lib.hid hl.count
  clear hv
  refine (callsIn_wide (n := 8)).1 ?_
  refine callsIn_of_wp_marks Tryd.func13 rfl trivial ?_ rfl
  simp only [Tryd.ntmps13, List.size_toArray, List.length_cons, List.length_nil, Nat.reduceAdd, Nat.reduceSub, Array.replicate_succ, Array.replicate_zero, List.push_toArray, List.append_toArray, List.nil_append, List.cons_append]
  gi_wp2_with (first | (refine ⟨trivial, ?_⟩; gi_at_call 22; refine (callsIn_wide.2 (all_x HV.out hl (by omega))).mono ?_; rintro e w' ⟨rfl, rfl⟩) | (refine ⟨trivial, ?_⟩; gi_at_call 23; refine (callsIn_wide.2 (pieces_any _ _ _ _)).mono ?_; rintro e w' ⟨rfl, rfl⟩))
  have hB0 : Below w.heap.size w ((w.alloc (.cells #[.pointer none, .slice none 0 0] 43)).alloc (.cells #[.slice A n c] 22)) := ((Below.refl _ w).alloc (Nat.le_refl _) _).alloc (by simp) _
  have hbox : ((w.alloc (.cells #[.pointer none, .slice none 0 0] 43)).alloc (.cells #[.slice A n c] 22)).heap[w.heap.size + 1]? = some (.cells #[.slice A n c] 22 (0, 0)) := by
    have := heap_alloc_new (w.alloc (.cells #[.pointer none, .slice none 0 0] 43)) (.cells #[.slice A n c] 22)
    rwa [World.size_alloc] at this
  refine wpIn_rangeFunc_ownG (F := Fence.wide) rfl (by omega) (gf := 38) (lb := #[.pointer (some ⟨w.heap.size + 1, 0, none⟩)]) rfl trivial (enters_of Tryd.func38 (by kernel_rfl) rfl)
    (α := Pc) (encs := encP) (Kp := Kp w.heap.size (w.heap.size + 1)) (S := fun xs => xs = allP zs) (Sp := fun _ => True) (N := zs.length + 2)
    (fun l J Jx W hW hJ hJx hY h0 => pieces1_in 7 l (w.heap.size + 1) w.heap.size (by omega) A n c zs (by omega) hz ht.lt W J Jx hJ hY ((hW.block _ (by simp)).trans hbox) ((Low.of hl).below (hB0.trans (hW.mono (by simp; omega)))) (ht.below ht.lt (hB0.trans (hW.mono (by simp; omega)))) (Nat.le_trans (by simp; omega) hW.size) h0)
    (fun h k => h.trans k) (Kp.book (by simp; omega)) (Below.refl _ _) (fun _ => rfl)
    (fun pre W => Bd w.heap.size w.heap.size (cat pre) W ∧ Below w.heap.size w W) (fun _ _ _ => False)
    (OwnFrom.and (Own.from (I := fun (pre : List Pc) W => Bd w.heap.size w.heap.size (cat pre) W) (fun s A B row hs hg hr => Bd.grown hs hg hr) _) (ownFrom_below (Nat.le_refl _) (by simp; omega)))
    (fun _ _ _ _ _ hs _ _ => hs)
    ⟨(Bd.fresh w (Nat.le_refl _)).alloc _, hB0⟩
    (fun x => { tmps := #[.slice A n c, undef, .string ⟨#[]⟩, .int .i64 0, .pointer (some ⟨w.heap.size, 0, none⟩), .string (bytesOf x.1), .slice A n c, .bool true, .bool false, .slice A n c, .func (.func 38) #[] #[.pointer (some ⟨w.heap.size + 1, 0, none⟩)], .string (bytesOf x.1), undef, undef, undef], defers := [] }) ?assign ?body ?done ?stop
  case assign =>
    intro l x W K hK
    simp only [encP]
    gi_wp2
    exact hK
  case body =>
    rintro l pre x W ⟨hbd, hB⟩ hlen
    have hx := x.2
    have hcl := cat_len pre
    gi_wp2_with (refine ⟨trivial, ?_⟩; gi_at_call 24; refine (CallsIn.inRound l (callsIn_wide.2 (write_any _ _ _ (bytesOf x.1) _ hbd (by rw [bytesOf_size]; have := hcount.out; omega) hB.size _ rfl))).mono ?_; rintro e w3 ⟨rfl, hb3, hbl3, hk3⟩)
    refine ⟨Bd.keepsFrom hbd hbl3 hk3, ⟨hbl3, fun cs fr hcs => hk3 _ _ hcs (by simp) (fun c fz e => by cases e)⟩, ?_, hB.trans hbl3⟩
    rw [cat_snoc]
    rw [bytesOf_list] at hb3
    exact hb3
  case done =>
    rintro D ys W hD rfl ⟨hbd, hB⟩ hK
    gi_wp2_with (refine ⟨trivial, ?_⟩; gi_at_call 25; refine (callsIn_wide.2 (string_any _ _ _ _ hbd hB.size)).mono ?_; rintro e w5 ⟨rfl, hb5, hbl5, hk5⟩)
    have hK' : w5.heap[D]? = some (.deferred (some [])) := hk5 D _ hK (fun e => by cases e; simp at hD; omega) (fun _ _ e => by cases e)
    refine ⟨by simp, .inl ⟨_, _, rfl, run_takeDeferred hK', ?_⟩⟩
    refine ⟨_, results_tmp2 rfl _ _ _, ?_⟩
    refine ⟨by rw [cat_all]; rfl, (hB.trans hbl5).trans (belowK_b (w := w) (Nat.le_refl _) _ D _ _ (by simp at hD; omega) hK' rfl rfl)⟩
  case stop =>
    rintro D c pre W hD _ h _
    exact h.elim
theorem text_bad (A : Option Addr) (n c : Nat) (zs : List Int) (w : World) (hl : Sl w A n c 1 (ints zs)) (hn : n ≤ 1000) (hv : allV zs = false) :
    Calls Tryd.prog 13 #[.slice A n c] w (StrErr (⟨#[]⟩, 1) w) := by
  have HV := Lib.hid hv
  clear hv
  go_enter Tryd.func13, Tryd.ntmps13
  go_wp2_with (go_at_call 22; refine (all_x HV.out hl (by omega)).mono ?_; rintro e w' ⟨rfl, rfl⟩)
  go_ret2
  exact ⟨rfl, Below.refl _ _⟩
theorem text_any (A : Option Addr) (n c : Nat) (zs : List Int) (w : World) (hl : Sl w A n c 1 (ints zs)) (hn : n ≤ 1000) (ht : Tab w) :
    Calls Tryd.prog 13 #[.slice A n c] w (StrErr (textR zs) w) := by
  rcases hv : allV zs with _ | _
  · have e : textR zs = (⟨#[]⟩, 1) := by unfold textR; rw [hv]; rfl
    rw [e]
    exact text_bad A n c zs w hl hn hv
  · have e : textR zs = (bytesOf (textL zs), 0) := by unfold textR; rw [hv]; rfl
    rw [e]
    exact text_good A n c zs w hl hn hv ht
end Go.Proofs.YtkfchcmbpgcncaaDoor.Es
