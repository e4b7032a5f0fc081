/-
  The walk of SeqpoolSteps.
-/
import Derived.Test.YtemflmodgbheoaaSpWalkC
namespace Go.Proofs.Ytemflmodgbheoaa.Sp
open Go.RowKit
set_option linter.unusedVariables false

/-- The headers of lists. -/
def Rws (W : World) (cs : List Value) (l : List (List Int)) : Prop := cs.length = l.length ∧ (∀ u ∈ cs, u.oneCell' = true) ∧ ∀ j, j < l.length → ∃ D q r, cs[j]? = some (.slice D q r) ∧ Sl W D q r 1 (ints (l.getD j []))
theorem Rws.keep {w w' : World} {cs : List Value} {l : List (List Int)} (h : Rws w cs l) (hb : Below w.heap.size w w') : Rws w' cs l :=
  ⟨h.1, h.2.1, fun j hj => by
    obtain ⟨D, q, r, e, hs⟩ := h.2.2 j hj
    exact ⟨D, q, r, e, hs.keep hb⟩⟩
theorem rws_of {W : World} {A : Option Addr} {n c : Nat} {l : List (List Int)} (h : LL W A n c l) (hnil : A = none → c = 0) : ∃ cs, Sl W A n c 1 cs ∧ Rws W cs l := by
  have hex : ∀ m, m ≤ n → ∃ cs : List Value, cs.length = m ∧ ∀ j, j < m → ∃ b off D q r, A = some ⟨b, off, none⟩ ∧ b < W.heap.size ∧ W.cell? ⟨b, off + j, none⟩ = some (.slice D q r) ∧ cs[j]? = some (.slice D q r) ∧ Sl W D q r 1 (ints (l.getD j [])) := by
    intro m
    induction m with
    | zero => exact fun _ => ⟨[], rfl, fun j hj => absurd hj (Nat.not_lt_zero _)⟩
    | succ m ih =>
      intro hm
      obtain ⟨cs, hl, hcs⟩ := ih (by omega)
      obtain ⟨b, off, D, q, r, e, hlt, hc, hs⟩ := h.at' m (by omega)
      refine ⟨cs ++ [.slice D q r], by simp [hl], fun j hj => ?_⟩
      rcases Nat.lt_or_ge j m with h1 | h1
      · obtain ⟨b1, off1, D1, q1, r1, e1, hlt1, hc1, hg1, hs1⟩ := hcs j h1
        exact ⟨b1, off1, D1, q1, r1, e1, hlt1, hc1, by rw [List.getElem?_append_left (by omega)]; exact hg1, hs1⟩
      · obtain rfl : j = m := by omega
        exact ⟨b, off, D, q, r, e, hlt, hc, by rw [← hl]; simp, hs⟩
  obtain ⟨cs, hl, hcs⟩ := hex n (Nat.le_refl _)
  have hn := h.count
  refine ⟨cs, ⟨by omega, h.cap, by have := h.max; unfold maxLen; omega, hnil, fun j u hj => ?_⟩, by omega, fun u hu => ?_, fun j hj => ?_⟩
  · have hjn : j < n := by have := (List.getElem?_eq_some_iff.1 hj).1; omega
    obtain ⟨b, off, D, q, r, e, hlt, hc, hg, _⟩ := hcs j hjn
    rw [hg] at hj
    cases hj
    exact ⟨b, off, e, hlt, hc⟩
  · obtain ⟨j, hj, rfl⟩ := List.getElem_of_mem hu
    obtain ⟨b, off, D, q, r, e, hlt, hc, hg, _⟩ := hcs j (by omega)
    rw [List.getElem?_eq_getElem hj] at hg
    rw [Option.some.inj hg]
    rfl
  · obtain ⟨b, off, D, q, r, e, hlt, hc, hg, hs⟩ := hcs j (by omega)
    exact ⟨D, q, r, hg, hs⟩
theorem ll_of {W : World} {A : Option Addr} {n c : Nat} {cs : List Value} {l : List (List Int)} (hs : Sl W A n c 1 cs) (h : Rws W cs l) : LL W A n c l := by
  have hl := hs.len
  have h1 := h.1
  refine ⟨by omega, hs.cap, hs.max, fun j hj => ?_⟩
  obtain ⟨D, q, r, hg, hq⟩ := h.2.2 j (by omega)
  obtain ⟨b, off, e, hlt, hc⟩ := hs.2.2.2.2 j _ hg
  exact ⟨b, off, D, q, r, e, hlt, hc, hq⟩
theorem Rws.snoc {W : World} {cs : List Value} {l : List (List Int)} {D : Option Addr} {q r : Nat} {x : List Int} (h : Rws W cs l) (hx : Sl W D q r 1 (ints x)) : Rws W (cs ++ [.slice D q r]) (l ++ [x]) := by
  refine ⟨by simp [h.1], fun u hu => ?_, fun j hj => ?_⟩
  · rcases List.mem_append.1 hu with h1 | h1
    · exact h.2.1 u h1
    · rw [List.mem_singleton] at h1
      subst h1
      rfl
  · rcases Nat.lt_or_ge j l.length with h1 | h1
    · obtain ⟨D', q', r', hg, hs⟩ := h.2.2 j h1
      exact ⟨D', q', r', by rw [List.getElem?_append_left (by rw [h.1]; exact h1)]; exact hg, by simpa [List.getD, List.getElem?_append_left h1] using hs⟩
    · have hj2 : j = l.length := by simp at hj; omega
      subst hj2
      exact ⟨D, q, r, by rw [← h.1]; simp, by simpa [List.getD] using hx⟩

theorem sl_info : (Try.prog.info? 25).map (fun i => (i.zero, i.size, i.bytes)) = some (some (.slice none 0 0), 1, 24) := by kernel_rfl
/-- Appending headers as one step of a region that draws its order; what has changed is said too. -/
theorem step_append_heads {w : World} {ops : Array Oper} {o : Oper} {a : Act} {K : Act → World → Prop} {Q : Exit → Act → World → Prop} {E : Prop} (hgd : o.guard = none) (s x : Operand)
    (ho : o.op = .call { callee := .builtin .append, args := #[s, x], argTypes := #[22, 22] }) (base : Nat) (v : Value) (n : Nat) (cs : List Value) (hs : a.eval s = v) (hown : Own w base 25 1 v n cs)
    (A : Option Addr) (m c : Nat) (ds : List Value) (hx : a.eval x = .slice A m c) (hl : Sl w A m c 1 ds) (h1 : ∀ u ∈ ds, u.oneCell' = true) (k : Nat) (hk : k = n + m) (es : List Value) (hes : es = cs ++ ds)
    (hmax : k ≤ 1000000) (hbase : base ≤ w.heap.size)
    (h : ∀ v' w', Own w' base 25 1 v' k es → w.grownBy w' v.ownBlock → Below base w w' → K (a.put o.dst v') w') : if Region.wanted o (yielded ops a.tmps) = true then Oper.wp Try.prog o a w K Q else E := by
  have hw : Region.wanted o (yielded ops a.tmps) = true := by simp [Region.wanted, hgd]
  rw [if_pos hw]
  subst hk
  subst hes
  obtain ⟨i, hi, hz, hsize, hby⟩ := info_parts sl_info
  obtain ⟨hm, _, _, hc, hcells⟩ := hl
  rcases A with _ | ad
  · have hm0 : m = 0 := by
      rcases Nat.eq_zero_or_pos m with h0 | h0
      · exact h0
      · have hpos : 0 < ds.length := by omega
        obtain ⟨b, off, e', _⟩ := hcells 0 _ (List.getElem?_eq_getElem hpos)
        cases e'
    obtain rfl := hc rfl
    subst hm0
    have hds : ds = [] := List.eq_nil_of_length_eq_zero (by simpa using hm)
    subst hds
    have hrun := run_append_owned_none (P := Try.prog) (w := w) base 22 o.type 25 i 1 Try.underlying22 hi v n _ hown
    have hK := h v w (by simpa using hown) ⟨rfl, rfl, rfl, Nat.le_refl _, fun _ _ _ => rfl⟩ (Below.refl _ _)
    unfold Oper.wp
    simp [execOp, ho, resolve, invoke, builtin, hs, hx, hrun, Result.andThen]
    exact hK
  · refine wp_append_own w s x 22 ho base 25 i (.slice none 0 0) 1 24 Try.underlying22 hi hz hsize hby rfl (by omega) v n cs hs hown ad m c ds hx hm ?_ h1 (by unfold maxLen; omega) (by omega) hbase ?_
    · intro j u hu
      obtain ⟨b, off, e', _, hcell⟩ := hcells j u hu
      obtain rfl := Option.some.inj e'
      rw [addr_add]
      exact hcell
    · intro v' w' h2 h3 _
      exact h v' w' h2 h3 (below_append hown h3 hbase)
theorem one_head {W : World} {g : Nat} {v : Value} {T : TypeId} (h : W.heap[g]? = some (.cells #[v] T (0, 0))) : Sl W (some ⟨g, 0, none⟩) 1 1 1 [v] :=
  ⟨rfl, Nat.le_refl _, by unfold maxLen; omega, (fun e => by cases e), CellsAt.of_row h (fun j u hj => by simpa using hj)⟩

set_option maxRecDepth 100000 in
set_option maxHeartbeats 4000000 in
theorem steps_walk (A : Option Addr) (n c : Nat) (l : List (List Int)) (E : Option Addr) (t ct : Nat) (last : List Int) (W : World) (hx : LL W A n c l) (hnil : A = none → c = 0) (hq : Sl W E t ct 1 (ints last)) :
    Calls Try.prog 10 #[.slice A n c, .slice E t ct] W (Makes (.bool true) W) := by
  have hct := hq.cap
  have hmt := hq.max
  obtain ⟨r, hr⟩ : ∃ r, decide (n ≤ 12 ∧ ∀ x ∈ l, x.length ≤ 20) = r := ⟨_, rfl⟩
  have HR := Lib.hid hr
  clear hr
  rcases r with _ | _
  · go_enter Try.func10, Try.ntmps10
    go_wp2_with (first
      | (go_at_call 11; refine (few_any _ hx HR.out).mono ?_; rintro e w1 ⟨rfl, rfl⟩)
      | (go_at_call 15; refine (alive_any _).mono ?_; rintro e w2 ⟨rfl, b2⟩))
    go_ret
    exact ⟨rfl, b2⟩
  · rcases Nat.lt_or_ge 20 t with ht | ht
    · have i1 : (20 : Int) < (t : Int) := by omega
      go_enter Try.func10, Try.ntmps10
      go_wp2_with (first
        | (go_at_call 11; refine (few_any _ hx HR.out).mono ?_; rintro e w1 ⟨rfl, rfl⟩)
        | (go_at_call 15; refine (alive_any _).mono ?_; rintro e w2 ⟨rfl, b2⟩))
      go_ret
      exact ⟨rfl, b2⟩
    · have i1 : ¬ (20 : Int) < (t : Int) := by omega
      have hn := (few_true HR.out).1
      have hs0 := (few_true HR.out).2
      have HN := Lib.hid hx.count
      have HT := Lib.hid hq.count
      have HS := Lib.hid hs0
      have HS2 : Hid (∀ x ∈ l ++ [last], x.length ≤ 20) := Lib.hid (by
        intro x hm
        rcases List.mem_append.1 hm with h1 | h1
        · exact hs0 x h1
        · rw [List.mem_singleton] at h1
          rw [h1]
          have := HT.out
          omega)
      have hsz := packP_size hs0 l.length (Nat.le_refl _)
      rw [List.take_length] at hsz
      have HZ := Lib.hid hsz
      obtain ⟨p2, hp2⟩ : ∃ p2, packP (l ++ [last]) = p2 := ⟨_, rfl⟩
      have HP2 := Lib.hid hp2
      have HADD : Hid (addP (baseP (packP l).1 (packP l).2.1 (packP l).2.2) last = p2) := Lib.hid (by rw [baseP_ok (okP_all l), ← packP_snoc, hp2])
      have HIDX : Hid (((baseP (packP l).1 (packP l).2.1 (packP l).2.2).2.1.length : Int) = (n : Int)) := Lib.hid (by rw [baseP_ok (okP_all l), pack_length, HN.out])
      obtain ⟨p, hp⟩ : ∃ p, packP l = p := ⟨_, rfl⟩
      rw [hp] at HADD HIDX HZ
      have HP := Lib.hid hp
      obtain ⟨cs, hcs, hrw⟩ := rws_of hx hnil
      have HCS := Lib.hid hcs
      have HRW := Lib.hid hrw
      clear hs0 hsz hp2 hp hcs hrw
      go_enter Try.func10, Try.ntmps10
      go_wp2_with (first
        | (go_at_call 11; refine (few_any _ hx HR.out).mono ?_; rintro e w1 ⟨rfl, rfl⟩)
        | (go_at_call 13; refine (pack_x _ hx (by omega) HS.out HP.out).mono ?_; rintro e w1 ⟨A1, n1, a1, B1, m1, d1, C1, k1, c1, rfl, hP1, b1⟩; have hn1 := (show n1 ≤ 900 from by have := hP1.codes.count; have := HZ.out.1; have := HN.out; omega); have hm1 := (show m1 ≤ 900 from by have := hP1.starts.count; have := HZ.out.2.1; have := HN.out; omega); have hk1 := (show k1 ≤ 900 from by have := hP1.lens.count; have := HZ.out.2.2; have := HN.out; omega))
        | (go_at_call 17; refine (add_x _ hP1 (hq.keep b1) (by omega) hn1 hm1 hk1 HADD.out HIDX.out).mono ?_; rintro e w2 ⟨A2, n2, a2, B2, m2, d2, C2, k2, c2, rfl, hP2, b2⟩; have t2 := b1.trans (b2.mono b1.size)))
      have K := Bk.fresh t2 #[.slice A2 n2 a2, .slice B2 m2 d2, .slice C2 k2 c2] 27
      have P := hP2.keep ((Below.refl w2.heap.size w2).alloc (Nat.le_refl _) (.cells #[.slice A2 n2 a2, .slice B2 m2 d2, .slice C2 k2 c2] 27))
      obtain ⟨W0, hW0⟩ : ∃ W0, w2.alloc (.cells #[.slice A2 n2 a2, .slice B2 m2 d2, .slice C2 k2 c2] 27) = W0 := ⟨_, rfl⟩
      rw [hW0] at K P
      obtain ⟨x0, x1, x2⟩ := K.three
      have hs2 : W0.heap.size = w2.heap.size + 1 := by rw [← hW0]; simp
      have HS0 := Lib.hid hs2
      rw [hW0]
      clear hW0 hs2
      have hklt := K.lt
      go_region_held3 (fun X => X.cell? ⟨w2.heap.size, 0, none⟩ = some (.slice A2 n2 a2) ∧ X.cell? ⟨w2.heap.size, 1, none⟩ = some (.slice B2 m2 d2) ∧ X.cell? ⟨w2.heap.size, 2, none⟩ = some (.slice C2 k2 c2)) (first | exact ⟨x0, x1, x2⟩ | go_keep)
        (first
          | (refine step_append_heads (by rfl) (.tmp 24) (.tmp 25) (by rfl) W0.heap.size (.slice (some ⟨W0.heap.size, 0, none⟩) 0 0) 0 [] (by rfl) (Own.built W0 W0.heap.size 25 1 0 [] (Nat.le_refl _) rfl (by unfold maxLen; omega)) A n c cs (by rfl) (Sl.keep (HCS.out.keep K.below) (Below.alloc (Below.refl W0.heap.size W0) (Nat.le_refl _) (.cells #[] 25))) HRW.out.2.1 n (by omega) cs (by rfl) (by omega) (Below.size (Below.alloc (Below.refl W0.heap.size W0) (Nat.le_refl _) (.cells #[] 25))) ?_; intro v4 w4 o4 g4 b4; have T4 := Below.trans (Below.alloc (Below.refl W0.heap.size W0) (Nat.le_refl _) (.cells #[] 25)) b4; have K4 := K.step T4; obtain ⟨x0, x1, x2⟩ := K4.three; obtain ⟨D4, c4, rfl, _⟩ := o4.sl; skip)
          | (refine step_append_heads (by rfl) (.tmp 24) (.tmp 25) (by rfl) W0.heap.size (.slice (some ⟨W0.heap.size, 0, none⟩) 0 0) 0 [] (by rfl) (Own.alloc (Own.built W0 W0.heap.size 25 1 0 [] (Nat.le_refl _) rfl (by unfold maxLen; omega)) (.cells #[.slice E t ct] 25)) A n c cs (by rfl) (Sl.keep (HCS.out.keep K.below) (Below.alloc (Below.alloc (Below.refl W0.heap.size W0) (Nat.le_refl _) (.cells #[] 25)) (by simp) (.cells #[.slice E t ct] 25))) HRW.out.2.1 n (by omega) cs (by rfl) (by omega) (Below.size (Below.alloc (Below.alloc (Below.refl W0.heap.size W0) (Nat.le_refl _) (.cells #[] 25)) (by simp) (.cells #[.slice E t ct] 25))) ?_; intro v4 w4 o4 g4 b4; have T4 := Below.trans (Below.alloc (Below.alloc (Below.refl W0.heap.size W0) (Nat.le_refl _) (.cells #[] 25)) (by simp) (.cells #[.slice E t ct] 25)) b4; have K4 := K.step T4; obtain ⟨x0, x1, x2⟩ := K4.three; obtain ⟨D4, c4, rfl, _⟩ := o4.sl; have E2 : w4.heap[W0.heap.size + 1]? = some (.cells #[.slice E t ct] 25 (0, 0)) := (g4.block (W0.heap.size + 1) (by simp) (by simp [Value.ownBlock])).trans (by have e := heap_alloc_new (W0.alloc (.cells #[] 25)) (.cells #[.slice E t ct] 25); simp only [World.size_alloc] at e; exact e); skip)
          | (refine step_append_heads (by rfl) (.tmp 24) (.tmp 25) (by rfl) W0.heap.size (.slice (some ⟨W0.heap.size + 1, 0, none⟩) 0 0) 0 [] (by rfl) (Own.built_at (W0.alloc (.cells #[.slice E t ct] 25)) W0.heap.size 25 1 0 [] (by simp) rfl (by unfold maxLen; omega) (g := W0.heap.size + 1) (by simp)) A n c cs (by rfl) (Sl.keep (HCS.out.keep K.below) (Below.alloc (Below.alloc (Below.refl W0.heap.size W0) (Nat.le_refl _) (.cells #[.slice E t ct] 25)) (by simp) (.cells #[] 25))) HRW.out.2.1 n (by omega) cs (by rfl) (by omega) (Below.size (Below.alloc (Below.alloc (Below.refl W0.heap.size W0) (Nat.le_refl _) (.cells #[.slice E t ct] 25)) (by simp) (.cells #[] 25))) ?_; intro v4 w4 o4 g4 b4; have T4 := Below.trans (Below.alloc (Below.alloc (Below.refl W0.heap.size W0) (Nat.le_refl _) (.cells #[.slice E t ct] 25)) (by simp) (.cells #[] 25)) b4; have K4 := K.step T4; obtain ⟨x0, x1, x2⟩ := K4.three; obtain ⟨D4, c4, rfl, _⟩ := o4.sl; have E2 : w4.heap[W0.heap.size]? = some (.cells #[.slice E t ct] 25 (0, 0)) := (g4.block W0.heap.size (by simp; omega) (by simp [Value.ownBlock])).trans ((heap_alloc_old _ _ (by simp)).trans (heap_alloc_new W0 _)); skip)
          | (refine step_append_heads (by rfl) (.tmp 24) (.tmp 25) (by rfl) W0.heap.size (.slice (some ⟨W0.heap.size, 0, none⟩) 0 0) 0 [] (by rfl) (Own.drew (Own.built W0 W0.heap.size 25 1 0 [] (Nat.le_refl _) rfl (by unfold maxLen; omega))) A n c cs (by rfl) (Sl.drew (Sl.keep (HCS.out.keep K.below) (Below.alloc (Below.refl W0.heap.size W0) (Nat.le_refl _) (.cells #[] 25)))) HRW.out.2.1 n (by omega) cs (by rfl) (by omega) (Below.size (Below.drew (Below.alloc (Below.refl W0.heap.size W0) (Nat.le_refl _) (.cells #[] 25)))) ?_; intro v4 w4 o4 g4 b4; have T4 := Below.trans (Below.drew (Below.alloc (Below.refl W0.heap.size W0) (Nat.le_refl _) (.cells #[] 25))) b4; have K4 := K.step T4; obtain ⟨x0, x1, x2⟩ := K4.three; obtain ⟨D4, c4, rfl, _⟩ := o4.sl; skip)
          | (refine step_append_heads (by rfl) (.tmp 24) (.tmp 25) (by rfl) W0.heap.size (.slice (some ⟨W0.heap.size, 0, none⟩) 0 0) 0 [] (by rfl) (Own.drew (Own.alloc (Own.built W0 W0.heap.size 25 1 0 [] (Nat.le_refl _) rfl (by unfold maxLen; omega)) (.cells #[.slice E t ct] 25))) A n c cs (by rfl) (Sl.drew (Sl.keep (HCS.out.keep K.below) (Below.alloc (Below.alloc (Below.refl W0.heap.size W0) (Nat.le_refl _) (.cells #[] 25)) (by simp) (.cells #[.slice E t ct] 25)))) HRW.out.2.1 n (by omega) cs (by rfl) (by omega) (Below.size (Below.drew (Below.alloc (Below.alloc (Below.refl W0.heap.size W0) (Nat.le_refl _) (.cells #[] 25)) (by simp) (.cells #[.slice E t ct] 25)))) ?_; intro v4 w4 o4 g4 b4; have T4 := Below.trans (Below.drew (Below.alloc (Below.alloc (Below.refl W0.heap.size W0) (Nat.le_refl _) (.cells #[] 25)) (by simp) (.cells #[.slice E t ct] 25))) b4; have K4 := K.step T4; obtain ⟨x0, x1, x2⟩ := K4.three; obtain ⟨D4, c4, rfl, _⟩ := o4.sl; have E2 : w4.heap[W0.heap.size + 1]? = some (.cells #[.slice E t ct] 25 (0, 0)) := (g4.block (W0.heap.size + 1) (by simp) (by simp [Value.ownBlock])).trans (by have e := heap_alloc_new (W0.alloc (.cells #[] 25)) (.cells #[.slice E t ct] 25); simp only [World.size_alloc] at e; exact e); skip)
          | (refine step_append_heads (by rfl) (.tmp 24) (.tmp 25) (by rfl) W0.heap.size (.slice (some ⟨W0.heap.size + 1, 0, none⟩) 0 0) 0 [] (by rfl) (Own.drew (Own.built_at (W0.alloc (.cells #[.slice E t ct] 25)) W0.heap.size 25 1 0 [] (by simp) rfl (by unfold maxLen; omega) (g := W0.heap.size + 1) (by simp))) A n c cs (by rfl) (Sl.drew (Sl.keep (HCS.out.keep K.below) (Below.alloc (Below.alloc (Below.refl W0.heap.size W0) (Nat.le_refl _) (.cells #[.slice E t ct] 25)) (by simp) (.cells #[] 25)))) HRW.out.2.1 n (by omega) cs (by rfl) (by omega) (Below.size (Below.drew (Below.alloc (Below.alloc (Below.refl W0.heap.size W0) (Nat.le_refl _) (.cells #[.slice E t ct] 25)) (by simp) (.cells #[] 25)))) ?_; intro v4 w4 o4 g4 b4; have T4 := Below.trans (Below.drew (Below.alloc (Below.alloc (Below.refl W0.heap.size W0) (Nat.le_refl _) (.cells #[.slice E t ct] 25)) (by simp) (.cells #[] 25))) b4; have K4 := K.step T4; obtain ⟨x0, x1, x2⟩ := K4.three; obtain ⟨D4, c4, rfl, _⟩ := o4.sl; have E2 : w4.heap[W0.heap.size]? = some (.cells #[.slice E t ct] 25 (0, 0)) := (g4.block W0.heap.size (by simp; omega) (by simp [Value.ownBlock])).trans ((heap_alloc_old _ _ (by simp)).trans (heap_alloc_new W0 _)); skip)
          | (refine step_append_heads (by rfl) (.tmp 26) (.tmp 28) (by rfl) W0.heap.size (.slice D4 n c4) n cs (by rfl) (Own.alloc o4 (.cells #[.slice E t ct] 25)) _ 1 1 [.slice E t ct] (by rfl) (one_head (heap_alloc_new w4 (.cells #[.slice E t ct] 25))) (by intro u hu; rw [List.mem_singleton] at hu; subst hu; rfl) (n + 1) (by rfl) (cs ++ [.slice E t ct]) (by rfl) (by omega) (Below.size (Below.alloc T4 T4.size (.cells #[.slice E t ct] 25))) ?_; intro v5 w5 o5 g5 b5; have T5 := Below.trans (Below.alloc T4 T4.size (.cells #[.slice E t ct] 25)) b5; obtain ⟨D5, c5, rfl, s5⟩ := o5.sl; have K5 := K.step T5; obtain ⟨x0, x1, x2⟩ := K5.three; have LL5 := ll_of s5 (Rws.snoc (Rws.keep (Rws.keep HRW.out K.below) T5) (Sl.keep (hq.keep K.below) T5)); have P5 := P.keep T5; clear o5 s5; skip)
          | (refine step_append_heads (by rfl) (.tmp 26) (.tmp 28) (by rfl) W0.heap.size (.slice D4 n c4) n cs (by rfl) (Own.drew (Own.alloc o4 (.cells #[.slice E t ct] 25))) _ 1 1 [.slice E t ct] (by rfl) (Sl.drew (one_head (heap_alloc_new w4 (.cells #[.slice E t ct] 25)))) (by intro u hu; rw [List.mem_singleton] at hu; subst hu; rfl) (n + 1) (by rfl) (cs ++ [.slice E t ct]) (by rfl) (by omega) (Below.size (Below.drew (Below.alloc T4 T4.size (.cells #[.slice E t ct] 25)))) ?_; intro v5 w5 o5 g5 b5; have T5 := Below.trans (Below.drew (Below.alloc T4 T4.size (.cells #[.slice E t ct] 25))) b5; obtain ⟨D5, c5, rfl, s5⟩ := o5.sl; have K5 := K.step T5; obtain ⟨x0, x1, x2⟩ := K5.three; have LL5 := ll_of s5 (Rws.snoc (Rws.keep (Rws.keep HRW.out K.below) T5) (Sl.keep (hq.keep K.below) T5)); have P5 := P.keep T5; clear o5 s5; skip)
          | (refine step_append_heads (by rfl) (.tmp 26) (.tmp 28) (by rfl) W0.heap.size (.slice D4 n c4) n cs (by rfl) o4 _ 1 1 [.slice E t ct] (by rfl) (one_head E2) (by intro u hu; rw [List.mem_singleton] at hu; subst hu; rfl) (n + 1) (by rfl) (cs ++ [.slice E t ct]) (by rfl) (by omega) (Below.size T4) ?_; intro v5 w5 o5 g5 b5; have T5 := Below.trans T4 b5; obtain ⟨D5, c5, rfl, s5⟩ := o5.sl; have K5 := K.step T5; obtain ⟨x0, x1, x2⟩ := K5.three; have LL5 := ll_of s5 (Rws.snoc (Rws.keep (Rws.keep HRW.out K.below) T5) (Sl.keep (hq.keep K.below) T5)); have P5 := P.keep T5; clear o5 s5; skip)
          | (refine step_append_heads (by rfl) (.tmp 26) (.tmp 28) (by rfl) W0.heap.size (.slice D4 n c4) n cs (by rfl) (Own.drew o4) _ 1 1 [.slice E t ct] (by rfl) (Sl.drew (one_head E2)) (by intro u hu; rw [List.mem_singleton] at hu; subst hu; rfl) (n + 1) (by rfl) (cs ++ [.slice E t ct]) (by rfl) (by omega) (Below.size (Below.drew T4)) ?_; intro v5 w5 o5 g5 b5; have T5 := Below.trans (Below.drew T4) b5; obtain ⟨D5, c5, rfl, s5⟩ := o5.sl; have K5 := K.step T5; obtain ⟨x0, x1, x2⟩ := K5.three; have LL5 := ll_of s5 (Rws.snoc (Rws.keep (Rws.keep HRW.out K.below) T5) (Sl.keep (hq.keep K.below) T5)); have P5 := P.keep T5; clear o5 s5; skip)
          | (go_at_call 13; ((with_reducible refine (pack_x _ LL5 (by omega) HS2.out HP2.out).mono ?_); rintro e w6 ⟨A6, n6, a6, B6, m6, d6, C6, k6, c6, rfl, hP6, b6⟩; have K6 := K5.step b6; obtain ⟨x0, x1, x2⟩ := K6.three))
          | (go_at_call 12; ((with_reducible refine (same_any (r := true) _ (P5.keep b6) hP6 (by simp)).mono ?_); rintro e w7 ⟨rfl, b7⟩; have K7 := K6.step b7; obtain ⟨x0, x1, x2⟩ := K7.three))
          | (go_at_call 15; ((with_reducible refine (alive_any _).mono ?_); rintro e w8 ⟨rfl, b8⟩; have K8 := K7.step b8; obtain ⟨x0, x1, x2⟩ := K8.three)))
      all_goals
        go_wp2_with fail
        go_ret
        exact ⟨rfl, K8.below⟩
end Go.Proofs.Ytemflmodgbheoaa.Sp
