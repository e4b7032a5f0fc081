/-
  The contract of Pack of package seqpool.
-/
import Derived.Test.YtemflmodgbheoaaSpAdd
namespace Go.Proofs.Ytemflmodgbheoaa.Sp
open Go.RowKit
set_option linter.unusedVariables false

/-- A pool as three lists, and one more sequence. -/
def addP (p : List Int × List Int × List Int) (seq : List Int) : List Int × List Int × List Int :=
  (p.1 ++ seq.drop (present p.1 seq), p.2.1 ++ [(startOf p.1 seq : Int)], p.2.2 ++ [(seq.length : Int)])
def packP (l : List (List Int)) : List Int × List Int × List Int := l.foldl addP ([], [], [])
theorem packP_snoc (l : List (List Int)) (x : List Int) : packP (l ++ [x]) = addP (packP l) x := by rw [packP, List.foldl_append]; rfl
theorem take_snocL {l : List (List Int)} {j : Nat} (h : j < l.length) : l.take (j + 1) = l.take j ++ [l.getD j []] := by
  rw [List.take_succ_eq_append_getElem h]
  simp [List.getD, h]
theorem packP_step {l : List (List Int)} {j : Nat} (h : j < l.length) : packP (l.take (j + 1)) = addP (packP (l.take j)) (l.getD j []) := by
  rw [take_snocL h, packP_snoc]
/-- No more codes than elements. -/
theorem packP_size {l : List (List Int)} (h : ∀ x ∈ l, x.length ≤ 20) : ∀ j, j ≤ l.length → (packP (l.take j)).1.length ≤ 20 * j ∧ (packP (l.take j)).2.1.length = j ∧ (packP (l.take j)).2.2.length = j
  | 0, _ => by simp [packP]
  | j + 1, hj => by
    obtain ⟨h1, h2, h3⟩ := packP_size h j (by omega)
    have hx : (l.getD j []).length ≤ 20 := h _ (by
      have : j < l.length := by omega
      simp [List.getD, this])
    rw [packP_step (by omega)]
    refine ⟨?_, ?_, ?_⟩
    · simp only [addP, List.length_append, List.length_drop]; omega
    · simp only [addP, List.length_append, List.length_singleton, h2]
    · simp only [addP, List.length_append, List.length_singleton, h3]
theorem Bk_set3 {w W : World} {g : Nat} {x y z : Value} (h : Bk w W g #[x, y, z]) (a b c : Value) : Bk w (((W.setCell ⟨g, 0, none⟩ a).setCell ⟨g, 1, none⟩ b).setCell ⟨g, 2, none⟩ c) g #[a, b, c] := by
  obtain ⟨t, hr⟩ := h.row
  have r1 := heap_setCell_same W g 0 _ _ a hr
  have r2 := heap_setCell_same _ g 1 _ _ b r1
  have r3 := heap_setCell_same _ g 2 _ _ c r2
  exact ⟨((h.below.setCell h.ge _).setCell h.ge _).setCell h.ge _, h.ge, t, r3⟩
theorem Bk_other3 {w W : World} {g g2 : Nat} {cs : Array Value} (h : Bk w W g cs) (hne : g ≠ g2) (hge : w.heap.size ≤ g2) (a b c : Value) : Bk w (((W.setCell ⟨g2, 0, none⟩ a).setCell ⟨g2, 1, none⟩ b).setCell ⟨g2, 2, none⟩ c) g cs := by
  obtain ⟨t, hr⟩ := h.row
  refine ⟨((h.below.setCell hge _).setCell hge _).setCell hge _, h.ge, t, ?_⟩
  rw [Below.heap_setCell _ _ _ _ hne, Below.heap_setCell _ _ _ _ hne, Below.heap_setCell _ _ _ _ hne]
  exact hr
theorem Bk_at {w W W1 : World} {g : Nat} {cs : Array Value} (h : Bk w W g cs) (hb : Below w.heap.size w W1) (he : W1.heap[g]? = W.heap[g]?) : Bk w W1 g cs := by
  obtain ⟨t, hr⟩ := h.row
  exact ⟨hb, h.ge, t, he.trans hr⟩

/-- A list of lists in memory. -/
structure LL (w : World) (A : Option Addr) (n c : Nat) (l : List (List Int)) : Prop where
  count : n = l.length
  cap : n ≤ c
  max : c ≤ 9223372036854775807
  at' : ∀ j, j < n → ∃ b off D q r, A = some ⟨b, off, none⟩ ∧ b < w.heap.size ∧ w.cell? ⟨b, off + j, none⟩ = some (.slice D q r) ∧ Sl w D q r 1 (ints (l.getD j []))
theorem LL.keep {w w' : World} {A : Option Addr} {n c : Nat} {l : List (List Int)} (h : LL w A n c l) (hb : Below w.heap.size w w') : LL w' A n c l :=
  ⟨h.count, h.cap, h.max, fun j hj => by
    obtain ⟨b, off, D, q, r, e, hlt, hc, hs⟩ := h.at' j hj
    exact ⟨b, off, D, q, r, e, Nat.lt_of_lt_of_le hlt hb.size, (hb.cell (p := ⟨b, off + j, none⟩) hlt).trans hc, hs.keep hb⟩⟩
/-- What Pack gives: three rows of its own. -/
def PoolNew (p : List Int × List Int × List Int) (w : World) (e : Ending) (w' : World) : Prop :=
  ∃ va vb vc, e = .returned (.agg #[va, vb, vc]) ∧ Rows w' w.heap.size va vb vc p.1.length p.2.1.length p.2.2.length p.1 p.2.1 p.2.2 ∧ Below w.heap.size w w'
/-- Between two rounds of Pack. -/
def Packing (w W : World) (p : List Int × List Int × List Int) : Prop :=
  ∃ A n ca B m cb C k cc, Rows W w.heap.size (.slice A n ca) (.slice B m cb) (.slice C k cc) n m k p.1 p.2.1 p.2.2 ∧ Bk w W w.heap.size #[.slice none 0 0, .slice none 0 0, .slice none 0 0] ∧
    Bk w W (w.heap.size + 1) #[.slice A n ca, .slice B m cb, .slice C k cc] ∧ ∀ x, OldRow A B C n ca m cb k cc x → w.heap.size + 2 ≤ x

set_option maxRecDepth 100000 in
set_option maxHeartbeats 2000000 in
theorem pack_any {A : Option Addr} {n c : Nat} {l : List (List Int)} (w : World) (hx : LL w A n c l) (hn : n ≤ 30) (hs : ∀ x ∈ l, x.length ≤ 20) :
    Calls Try.prog 13 #[.slice A n c] w (PoolNew (packP l) w) := by
  have HN := Lib.hid hx.count
  have HS := Lib.hid hs
  have hcx := hx.cap
  have hmx := hx.max
  have P0 : Packing w ((w.alloc (.cells #[.slice none 0 0, .slice none 0 0, .slice none 0 0] 27)).alloc (.cells #[.slice none 0 0, .slice none 0 0, .slice none 0 0] 27)) (packP (l.take 0)) := by
    refine ⟨none, 0, 0, none, 0, 0, none, 0, 0, ⟨Own.nil _ _ _ _, Own.nil _ _ _ _, Own.nil _ _ _ _, ?_, ?_, ?_⟩, (Bk.fresh (Below.refl _ _) _ _).alloc _, Bk.fresh_at ((Below.refl _ _).alloc (Nat.le_refl _) _) _ _ (by simp), ?_⟩
    · intro g h; cases h
    · intro g h; cases h
    · intro g h; cases h
    · rintro x (h | h | h) <;> cases h
  clear hs
  go_enter Try.func13, Try.ntmps13
  go_wp2_with fail
  go_loopw [8] (fun i wr => ∃ j : Nat, j ≤ n ∧ i = .int .i64 (j : Int) ∧ Hid (Packing w wr (packP (l.take j)))) (fun i _ => n - (intOf i).toNat)
  case atStart => exact ⟨0, Nat.zero_le _, rfl, Lib.hid P0⟩
  case round =>
    obtain ⟨j, hj, rfl, HP⟩ := hrel
    obtain ⟨A1, n1, ca, B1, m1, cb, C1, k1, cc, hR, hK, hK2, hO⟩ := HP.out
    have hsz := packP_size HS.out j (by rw [← HN.out]; exact hj)
    have hn1 : n1 ≤ 1000 := by have := hR.a.len; rw [ints_length] at this; omega
    have hm1 : m1 ≤ 1000 := by have := hR.b.len; rw [ints_length] at this; omega
    have hk1 : k1 ≤ 1000 := by have := hR.c.len; rw [ints_length] at this; omega
    clear hsz
    obtain ⟨y0, y1, y2⟩ := hK2.three
    have f0 := hK2.free 0
    have f1 := hK2.free 1
    have f2 := hK2.free 2
    by_cases hlt : j < n
    · obtain ⟨b, off, D, q, r, rfl, hbl, hc, hsl⟩ := hx.at' j hlt
      have hcell := (hK.below.cell (p := ⟨b, off + j, none⟩) hbl).trans hc
      have hjl : j < l.length := by rw [← HN.out]; exact hlt
      have HQ : Hid ((l.getD j []).length = q) := Lib.hid (by have := hsl.count; omega)
      have hq : q ≤ 1000 := by
        rw [← HQ.out]
        have := HS.out (l.getD j []) (by simp [List.getD, hjl])
        omega
      have HT : Hid (packP (l.take (j + 1)) = addP (packP (l.take j)) (l.getD j [])) := Lib.hid (packP_step hjl)
      obtain ⟨sq, hsq⟩ : ∃ sq, l.getD j [] = sq := ⟨_, rfl⟩
      rw [hsq] at hsl HT HQ
      clear hsq
      go_wp2_with (first
        | (go_at_call 26; refine (appended_any w _ hK.below hR hsl hn1 hm1 hk1 hq).mono ?_; rintro e w' ⟨va, vb, vc, rfl, hR2, hb2, hoff, hnew⟩; obtain ⟨A2, ca2, rfl, _⟩ := hR2.a.sl; obtain ⟨B2, cb2, rfl, _⟩ := hR2.b.sl; obtain ⟨C2, cc2, rfl, _⟩ := hR2.c.sl; have hL := Bk_at hK hb2 (hoff _ hK.lt (fun h => by have := hO _ h; omega)); have hL2 := Bk_at hK2 hb2 (hoff _ hK2.lt (fun h => by have := hO _ h; omega)); obtain ⟨z0, z1, z2⟩ := hL2.three; have e0 := hL2.free 0; have e1 := hL2.free 1; have e2 := hL2.free 2))
      have hge : w.heap.size + 2 ≤ wr.heap.size := by have := hK2.lt; omega
      have hN : ∀ x, OldRow A2 B2 C2 (n1 + (q - present (packP (l.take j)).1 sq)) ca2 (m1 + 1) cb2 (k1 + 1) cc2 x → w.heap.size + 2 ≤ x := fun x h => by
        rcases hnew x h with h2 | h2
        · exact hO x h2
        · omega
      have hP2 := rows_set (b := w.heap.size + 1) (rows_set (b := w.heap.size + 1) (rows_set hR2 (b := w.heap.size + 1) 0 (.slice A2 (n1 + (q - present (packP (l.take j)).1 sq)) ca2) (fun x e => by have := hN x (.inl e); omega) (fun x e => by have := hN x (.inr (.inl e)); omega) (fun x e => by have := hN x (.inr (.inr e)); omega)) 1 (.slice B2 (m1 + 1) cb2) (fun x e => by have := hN x (.inl e); omega) (fun x e => by have := hN x (.inr (.inl e)); omega) (fun x e => by have := hN x (.inr (.inr e)); omega)) 2 (.slice C2 (k1 + 1) cc2) (fun x e => by have := hN x (.inl e); omega) (fun x e => by have := hN x (.inr (.inl e)); omega) (fun x e => by have := hN x (.inr (.inr e)); omega)
      have hPK : Packing w (((w'.setCell ⟨w.heap.size + 1, 0, none⟩ (.slice A2 (n1 + (q - present (packP (l.take j)).1 sq)) ca2)).setCell ⟨w.heap.size + 1, 1, none⟩ (.slice B2 (m1 + 1) cb2)).setCell ⟨w.heap.size + 1, 2, none⟩ (.slice C2 (k1 + 1) cc2)) (packP (l.take (j + 1))) := by
        rw [HT.out]
        refine ⟨A2, _, ca2, B2, _, cb2, C2, _, cc2, ?_, Bk_other3 hL (by omega) (by omega) _ _ _, Bk_set3 hL2 _ _ _, hN⟩
        rw [addP, HQ.out]
        exact hP2
      go_wp2_with fail
      go_roundw
      case rel => exact ⟨j + 1, by omega, by push_cast; rfl, Lib.hid hPK⟩
      case measure => simp [intOf] <;> omega
    · have i9 : ¬ ((j : Int) < (n : Int)) := by omega
      have hjn : j = n := by omega
      have HE : Hid (packP (l.take j) = packP l) := Lib.hid (by rw [hjn, HN.out, List.take_length])
      obtain ⟨z0, z1, z2⟩ := hK.three
      have e0 := hK.free 0
      have e1 := hK.free 1
      have e2 := hK.free 2
      have hl1 : n1 = (packP (l.take j)).1.length := by have := hR.a.len; rw [ints_length] at this; omega
      have hl2 : m1 = (packP (l.take j)).2.1.length := by have := hR.b.len; rw [ints_length] at this; omega
      have hl3 : k1 = (packP (l.take j)).2.2.length := by have := hR.c.len; rw [ints_length] at this; omega
      have HLL := Lib.hid (And.intro hl1 (And.intro hl2 hl3))
      clear hl1 hl2 hl3
      have hP2 := rows_set (b := w.heap.size) (rows_set (b := w.heap.size) (rows_set hR (b := w.heap.size) 0 (.slice A1 n1 ca) (fun x e => by have := hO x (.inl e); omega) (fun x e => by have := hO x (.inr (.inl e)); omega) (fun x e => by have := hO x (.inr (.inr e)); omega)) 1 (.slice B1 m1 cb) (fun x e => by have := hO x (.inl e); omega) (fun x e => by have := hO x (.inr (.inl e)); omega) (fun x e => by have := hO x (.inr (.inr e)); omega)) 2 (.slice C1 k1 cc) (fun x e => by have := hO x (.inl e); omega) (fun x e => by have := hO x (.inr (.inl e)); omega) (fun x e => by have := hO x (.inr (.inr e)); omega)
      go_wp2_with fail
      refine bodyPost_ret (v := .agg #[.slice A1 n1 ca, .slice B1 m1 cb, .slice C1 k1 cc]) (by simp [results, Try.results13, go_sem, z0, z1, z2]) rfl ⟨_, _, _, rfl, ?_, ((hK.below.setCell (Nat.le_refl _) _).setCell (Nat.le_refl _) _).setCell (Nat.le_refl _) _⟩
      rw [← HE.out, ← HLL.out.1, ← HLL.out.2.1, ← HLL.out.2.2]
      exact hP2
end Go.Proofs.Ytemflmodgbheoaa.Sp
