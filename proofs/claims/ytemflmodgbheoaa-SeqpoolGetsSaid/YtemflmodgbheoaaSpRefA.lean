/-
  The contract of the reference's Add (layer 14).
-/
import Derived.Test.YtemflmodgbheoaaSpAddD
import Derived.Test.YtemflmodgbheoaaSpRefZ
import Derived.Deep.CutBlock
import Derived.StillTailTactics
namespace Go.Proofs.Ytemflmodgbheoaa.Sp
open Go.RowKit
set_option linter.unusedVariables false

theorem wpList_append_row {w : World} {ops : Array Oper} {rest : List Oper} {o : Oper} {a : Act} {Q : Exit → Act → World → Prop} (hgd : o.guard = none) (s x : Operand)
    (ho : o.op = .call { callee := .builtin .append, args := #[s, x], argTypes := #[25, 25] }) (base : Nat) (v : Value) (n : Nat) (xs : List Int) (hs : a.eval s = v) (hown : Own w base 3 1 v n (ints xs))
    (A : Option Addr) (m c : Nat) (ys : List Int) (hx : a.eval x = .slice A m c) (hl : Sl w A m c 1 (ints ys)) (k : Nat) (hk : k = n + m) (zs : List Int) (hzs : zs = xs ++ ys) (hsz : k ≤ 1000000) (hbase : base ≤ w.heap.size)
    (h : ∀ v' w', Grew w w' v v' → Own w' base 3 1 v' k (ints zs) → wpList Try.prog ops Q rest (a.put o.dst v') w') : wpList Try.prog ops Q (o :: rest) a w :=
  wpList_step fun K hK => step_append_row hgd s x ho base v n xs hs hown A m c ys hx hl k hk zs hzs hsz hbase fun v' w' hg ho => hK _ _ (h v' w' hg ho)
theorem ref_equal_q {A B : Option Addr} {n1 n2 c d : Nat} {xs ys : List Int} {w : World} {b : Bool} (h : decide (xs = ys) = b) (ha : Sl w A n1 c 1 (ints xs)) (hb : Sl w B n2 d 1 (ints ys)) (x : Nat) :
    Calls Try.prog 21 #[.slice A n1 c, .slice B n2 d] (w.drewN x) fun e w'' => e = .returned (.bool b) ∧ ∃ n, w'' = w.drewN n :=
  (ref_equal_x h (ha.drawn ⟨x, rfl⟩) (hb.drawn ⟨x, rfl⟩)).mono fun e w'' ⟨he, hd⟩ => ⟨he, (Drawn.trans (⟨x, rfl⟩ : Drawn w (w.drewN x)) hd)⟩
theorem grew_below {w w' : World} {v v' : Value} {base n : Nat} {xs : List Int} (hg : Grew w w' v v') (ho : Own w base 3 1 v n (ints xs)) (hb : base ≤ w.heap.size) : Below base w w' := below_append ho hg.1 hb
theorem Bk_one {w W : World} {g : Nat} {cs cs' : Array Value} (h : Bk w W g cs) (i : Nat) (v : Value) (e : cs.setIfInBounds i v = cs') : Bk w (W.setCell ⟨g, i, none⟩ v) g cs' := by
  obtain ⟨t, hr⟩ := h.row
  exact ⟨h.below.setCell h.ge _, h.ge, t, by rw [← e]; exact heap_setCell_same W g i _ _ v hr⟩
theorem Bk_off {w W : World} {g g2 : Nat} {cs : Array Value} (h : Bk w W g cs) (hne : g ≠ g2) (hge : w.heap.size ≤ g2) (i : Nat) (v : Value) : Bk w (W.setCell ⟨g2, i, none⟩ v) g cs := by
  obtain ⟨t, hr⟩ := h.row
  exact ⟨h.below.setCell hge _, h.ge, t, by rw [Below.heap_setCell _ _ _ _ hne]; exact hr⟩
theorem rows_setg {W : World} {base : Nat} {va vb vc : Value} {na nb nc : Nat} {xs bs cs : List Int} (h : Rows W base va vb vc na nb nc xs bs cs) {b : Nat} (k : Nat) (v : Value) (ha : ∀ x, va.ownBlock = some x → x ≠ b) (hb : ∀ x, vb.ownBlock = some x → x ≠ b) (hc : ∀ x, vc.ownBlock = some x → x ≠ b) : Rows (W.setCell ⟨b, k, none⟩ v) base va vb vc na nb nc xs bs cs :=
  ⟨h.a.kept (grown_set W b k v) (.inr fun e => ha b e rfl), h.b.kept (grown_set W b k v) (.inr fun e => hb b e rfl), h.c.kept (grown_set W b k v) (.inr fun e => hc b e rfl), h.ab, h.ac, h.bc⟩
/-- While the pool is built: the boxes, and the three rows. -/
structure Bld (w W : World) (g8 : Nat) (c2 : Array Value) (va vb vc : Value) (na nb nc : Nat) (xs bs cs : List Int) : Prop where
  rows : Rows W (g8 + 1) va vb vc na nb nc xs bs cs
  box : Bk w W w.heap.size c2
  box4 : Bk w W (w.heap.size + 1) #[.slice none 0 0, .slice none 0 0, .slice none 0 0]
  box8 : Bk w W g8 #[va, vb, vc]
  lo : w.heap.size + 1 < g8
section
variable {w W W' : World} {g8 : Nat} {c2 : Array Value} {va vb vc v' : Value} {na nb nc k : Nat} {xs bs cs zs : List Int}
theorem Bld.drew (H : Bld w W g8 c2 va vb vc na nb nc xs bs cs) : Bld w W.drew g8 c2 va vb vc na nb nc xs bs cs :=
  ⟨H.rows.drew, ⟨H.box.below.drew, H.box.ge, H.box.row⟩, ⟨H.box4.below.drew, H.box4.ge, H.box4.row⟩, ⟨H.box8.below.drew, H.box8.ge, H.box8.row⟩, H.lo⟩
theorem Bld.alloc (H : Bld w W g8 c2 va vb vc na nb nc xs bs cs) (o : Obj) : Bld w (W.alloc o) g8 c2 va vb vc na nb nc xs bs cs :=
  ⟨H.rows.alloc o, H.box.alloc o, H.box4.alloc o, H.box8.alloc o, H.lo⟩
theorem Bld.size (H : Bld w W g8 c2 va vb vc na nb nc xs bs cs) : g8 + 1 ≤ W.heap.size := H.box8.lt
theorem Bld.keepB (H : Bld w W g8 c2 va vb vc na nb nc xs bs cs) (hb : Below (g8 + 1) W W') : Bk w W' w.heap.size c2 ∧ Bk w W' (w.heap.size + 1) #[.slice none 0 0, .slice none 0 0, .slice none 0 0] ∧ Bk w W' g8 #[va, vb, vc] := by
  have hlo := H.lo
  have hB : Below w.heap.size w W' := H.box.below.trans (hb.mono (by omega))
  exact ⟨Bk_at H.box hB (hb.block _ (by omega)), Bk_at H.box4 hB (hb.block _ (by omega)), Bk_at H.box8 hB (hb.block _ (by omega))⟩
/-- One row has grown, once or twice, and its header has been stored. -/
theorem Bld.setA (H : Bld w W g8 c2 va vb vc na nb nc xs bs cs) (hR : Rows W' (g8 + 1) v' vb vc k nb nc zs bs cs) (hb : Below (g8 + 1) W W') : Bld w (W'.setCell ⟨g8, 0, none⟩ v') g8 c2 v' vb vc k nb nc zs bs cs := by
  obtain ⟨h1, h2, h3⟩ := H.keepB hb
  have hlo := H.lo
  refine ⟨rows_setg hR (b := g8) 0 v' (fun x e => by have := (hR.a.block_lt x e).1; omega) (fun x e => by have := (hR.b.block_lt x e).1; omega) (fun x e => by have := (hR.c.block_lt x e).1; omega), Bk_off h1 (by omega) (by omega) _ _, Bk_off h2 (by omega) (by omega) _ _, Bk_one h3 0 v' rfl, hlo⟩
theorem Bld.setB (H : Bld w W g8 c2 va vb vc na nb nc xs bs cs) (hR : Rows W' (g8 + 1) va v' vc na k nc xs zs cs) (hb : Below (g8 + 1) W W') : Bld w (W'.setCell ⟨g8, 1, none⟩ v') g8 c2 va v' vc na k nc xs zs cs := by
  obtain ⟨h1, h2, h3⟩ := H.keepB hb
  have hlo := H.lo
  refine ⟨rows_setg hR (b := g8) 1 v' (fun x e => by have := (hR.a.block_lt x e).1; omega) (fun x e => by have := (hR.b.block_lt x e).1; omega) (fun x e => by have := (hR.c.block_lt x e).1; omega), Bk_off h1 (by omega) (by omega) _ _, Bk_off h2 (by omega) (by omega) _ _, Bk_one h3 1 v' rfl, hlo⟩
theorem Bld.setC (H : Bld w W g8 c2 va vb vc na nb nc xs bs cs) (hR : Rows W' (g8 + 1) va vb v' na nb k xs bs zs) (hb : Below (g8 + 1) W W') : Bld w (W'.setCell ⟨g8, 2, none⟩ v') g8 c2 va vb v' na nb k xs bs zs := by
  obtain ⟨h1, h2, h3⟩ := H.keepB hb
  have hlo := H.lo
  refine ⟨rows_setg hR (b := g8) 2 v' (fun x e => by have := (hR.a.block_lt x e).1; omega) (fun x e => by have := (hR.b.block_lt x e).1; omega) (fun x e => by have := (hR.c.block_lt x e).1; omega), Bk_off h1 (by omega) (by omega) _ _, Bk_off h2 (by omega) (by omega) _ _, Bk_one h3 2 v' rfl, hlo⟩
end
theorem first_hit {codes seq : List Int} {N j st : Nat} (h : firstAt codes seq (N - j) j = st) (hN : N = codes.length) (hj : j < N) (ha : agree codes seq j = true) : st = j := by
  obtain ⟨f, hf⟩ : ∃ f, N - j = f + 1 := ⟨N - j - 1, by omega⟩
  rw [hf, firstAt, if_neg] at h
  · exact h.symm
  · rintro ⟨_, h2⟩
    exact h2 ha
theorem first_miss {codes seq : List Int} {N j st : Nat} (h : firstAt codes seq (N - j) j = st) (hN : N = codes.length) (hj : j < N) (ha : agree codes seq j = false) : firstAt codes seq (N - (j + 1)) (j + 1) = st := by
  obtain ⟨f, hf⟩ : ∃ f, N - j = f + 1 := ⟨N - j - 1, by omega⟩
  rw [hf, firstAt, if_pos ⟨by omega, by rw [ha]; decide⟩] at h
  rw [show N - (j + 1) = f by omega]
  exact h
theorem first_end {codes seq : List Int} {N j st : Nat} (h : firstAt codes seq (N - j) j = st) (hj : N ≤ j) : st = j := by
  rw [show N - j = 0 by omega, firstAt] at h
  exact h.symm

set_option maxRecDepth 100000 in
set_option maxHeartbeats 4000000 in
theorem radd_any {A B C E : Option Addr} {n ca m cb k cc t ct : Nat} {codes starts lens seq : List Int} (w : World) (hp : PoolIs w A n ca B m cb C k cc codes starts lens) (hq : Sl w E t ct 1 (ints seq)) (ht : t ≤ 1000) (p : List Int × List Int × List Int) (i : Nat)
    (hpp : p = addP (baseP codes starts lens) seq) (hi : i = (baseP codes starts lens).2.1.length) :
    Calls Try.prog 18 #[.agg #[.slice A n ca, .slice B m cb, .slice C k cc], .slice E t ct] w (AddRes p i w) := by
  have HT := Lib.hid hq.count
  have HA := Lib.hid hp.codes.count
  have hct := hq.cap
  have hmt := hq.max
  obtain ⟨v, hv⟩ : ∃ v, validL n starts lens = v := ⟨_, rfl⟩
  have HV := Lib.hid hv
  obtain ⟨q, hqq⟩ : ∃ q, baseP codes starts lens = q := ⟨_, rfl⟩
  rw [hqq] at hpp hi
  have HB := Lib.hid hqq
  have HP := Lib.hid hpp
  have HI := Lib.hid hi
  clear hv hqq hpp hi
  have k0 := (Bk.fresh (Below.refl w.heap.size w) #[.slice A n ca, .slice B m cb, .slice C k cc] 27).alloc (.cells #[.slice none 0 0, .slice none 0 0, .slice none 0 0] 27)
  have j0 := Bk.fresh_at (w := w) ((Below.refl w.heap.size w).alloc (Nat.le_refl _) (.cells #[.slice A n ca, .slice B m cb, .slice C k cc] 27)) #[.slice none 0 0, .slice none 0 0, .slice none 0 0] 27 (g := w.heap.size + 1) (by simp)
  go_enter Try.func18, Try.ntmps18
  go_upto_if 12 with (first
    | (go_at_call 23; refine (rvalid_any _ (hp.keep k0.below) HV.out).mono ?_; rintro e w1 ⟨rfl, b1⟩; have k1 := k0.step b1; have j1 := j0.step b1; obtain ⟨x0, x1, x2⟩ := k1.three; obtain ⟨y0, y1, y2⟩ := j1.three; have f0 := k1.free 0; have f1 := k1.free 1; have f2 := k1.free 2))
  go_cut [] (fun wx => ∃ A0 n0 c0 B0 m0 d0 C0 l0 e0, Hid (PoolIs w A0 n0 c0 B0 m0 d0 C0 l0 e0 q.1 q.2.1 q.2.2) ∧ Hid (Bk w wx w.heap.size #[.slice A0 n0 c0, .slice B0 m0 d0, .slice C0 l0 e0]) ∧ Hid (Bk w wx (w.heap.size + 1) #[.slice none 0 0, .slice none 0 0, .slice none 0 0]))
  case first =>
    rcases v with _ | _
    · go_wp2_with fail
      go_meet
      refine ⟨none, 0, 0, none, 0, 0, none, 0, 0, Lib.hid ?_, Lib.hid (Bk_set3 k1 _ _ _), Lib.hid (Bk_other3 j1 (by omega) (Nat.le_refl _) _ _ _)⟩
      have : q = ([], [], []) := by rw [← HB.out, baseP, if_neg]; rw [← HA.out, HV.out]; simp
      rw [this]
      exact ⟨Sl.nil _ _, Sl.nil _ _, Sl.nil _ _, by omega, by omega, by omega⟩
    · go_wp2_with fail
      go_meet
      refine ⟨A, n, ca, B, m, cb, C, k, cc, Lib.hid ?_, Lib.hid k1, Lib.hid j1⟩
      have : q = (codes, starts, lens) := by rw [← HB.out, baseP, if_pos]; rw [← HA.out, HV.out]
      rw [this]
      exact hp
  case rest =>
    obtain ⟨A0, n0, c0, B0, m0, d0, C0, l0, e0, HQ, HK, HJ⟩ := hcut
    clear x0 x1 x2 y0 y1 y2 f0 f1 f2 k1 j1 k0 j0
    have hqp := HQ.out
    obtain ⟨x0, x1, x2⟩ := HK.out.three
    have HN := Lib.hid hqp.codes.count
    have hn0 := hqp.n_le
    have hm0 := hqp.m_le
    have hl0 := hqp.k_le
    have hc0 := hqp.codes.cap
    have hx0 := hqp.codes.max
    obtain ⟨st, hst⟩ : ∃ st, startOf q.1 seq = st := ⟨_, rfl⟩
    have HST := Lib.hid hst
    have HF : Hid (firstAt q.1 seq (n0 - 0) 0 = st) := Lib.hid (by rw [Nat.sub_zero, HN.out]; exact hst)
    clear hst
    go_upto_block 0 with fail
    go_cut [6] (fun s6 wx => s6 = .int .i64 (st : Int) ∧ Hid (Bk w wx w.heap.size #[.slice A0 n0 c0, .slice B0 m0 d0, .slice C0 l0 e0]) ∧ Hid (Bk w wx (w.heap.size + 1) #[.slice none 0 0, .slice none 0 0, .slice none 0 0]))
    case first =>
      go_wp2_with fail
      go_loopw [6, 7] (fun a b wr => ∃ j : Nat, j ≤ n0 ∧ a = .int .i64 (j : Int) ∧ Hid (Bk w wr w.heap.size #[.slice A0 n0 c0, .slice B0 m0 d0, .slice C0 l0 e0]) ∧ Hid (Bk w wr (w.heap.size + 1) #[.slice none 0 0, .slice none 0 0, .slice none 0 0]) ∧ Hid (firstAt q.1 seq (n0 - j) j = st)) (fun a _ _ => n0 - (intOf a).toNat)
      case atStart => exact ⟨0, Nat.zero_le _, rfl, HK, HJ, HF⟩
      case round =>
        clear x0 x1 x2
        obtain ⟨j, hj, rfl, HK2, HJ2, HF2⟩ := hrel
        obtain ⟨x0, x1, x2⟩ := HK2.out.three
        by_cases hlt : j < n0
        · have hcx : ¬ c0 = j := by omega
          have HXW : Hid (Sl wr A0 n0 c0 1 (ints q.1)) := Lib.hid (hqp.codes.keep HK2.out.below)
          have HYW : Hid (Sl wr E t ct 1 (ints seq)) := Lib.hid (hq.keep HK2.out.below)
          have HD : Hid (Sl wr (A0.map (·.add j)) (n0 - j) (c0 - j) 1 (ints (q.1.drop j))) := Lib.hid (by have := HXW.out.tail1 (k := j) (by omega); rwa [if_neg hcx] at this)
          rcases (Nat.lt_or_ge (n0 - j) t).symm with hmin | hmin
          · have i1 : (t : Int) ≤ (n0 : Int) - (j : Int) := by omega
            have i2 : IntKind.i64.wrap ((j : Int) + (t : Int)) = (j : Int) + (t : Int) := IntWalk.i64_in _ (by omega)
            have i3 : (0 : Int) ≤ (j : Int) + (t : Int) := by omega
            have i4 : (j : Int) ≤ (j : Int) + (t : Int) := by omega
            have i5 : (j : Int) + (t : Int) ≤ (c0 : Int) := by omega
            have i6 : ((j : Int) + (t : Int)).toNat = j + t := by omega
            have i7 : (t : Int) ≤ (ct : Int) := by omega
            have HS1 : Hid (Sl wr (A0.map (·.add j)) t (c0 - j) 1 (ints ((q.1.drop j).take t))) := Lib.hid (HD.out.head1 hmin)
            have HS2 : Hid (Sl wr E t ct 1 (ints (seq.take t))) := Lib.hid (HYW.out.head1 (Nat.le_refl _))
            have HAG : Hid (agree q.1 seq j = decide ((q.1.drop j).take t = seq.take t)) := Lib.hid (by rw [agree, ← HT.out, ← HN.out, Nat.min_eq_left hmin])
            clear hmin
            rcases hag : agree q.1 seq j with _ | _
            · have HM := Lib.hid (first_miss HF2.out HN.out hlt hag)
              have HE : Hid (decide ((q.1.drop j).take t = seq.take t) = false) := Lib.hid (by rw [← HAG.out, hag])
              clear hag
              go_wp2_with fail
              go_quiet ((go_at_call 21; exact ref_equal_q HE.out HS1.out HS2.out _))
              go_wp2_with fail
              go_roundw
              case rel => exact ⟨j + 1, by omega, by push_cast; rfl, Lib.hid (HK2.out.drawn ⟨_, rfl⟩), Lib.hid (HJ2.out.drawn ⟨_, rfl⟩), HM⟩
              case measure => simp [intOf] <;> omega
            · have HM := Lib.hid (first_hit HF2.out HN.out hlt hag)
              have HE : Hid (decide ((q.1.drop j).take t = seq.take t) = true) := Lib.hid (by rw [← HAG.out, hag])
              clear hag
              go_wp2_with fail
              go_quiet ((go_at_call 21; exact ref_equal_q HE.out HS1.out HS2.out _))
              go_wp2_with fail
              go_meet
              exact ⟨by rw [HM.out], Lib.hid (HK2.out.drawn ⟨_, rfl⟩), Lib.hid (HJ2.out.drawn ⟨_, rfl⟩)⟩
          · have i1 : ¬ (t : Int) ≤ (n0 : Int) - (j : Int) := by omega
            have i0 : (n0 : Int) - (j : Int) ≤ (t : Int) := by omega
            have i2 : IntKind.i64.wrap ((j : Int) + ((n0 : Int) - (j : Int))) = (n0 : Int) := by rw [show (j : Int) + ((n0 : Int) - (j : Int)) = (n0 : Int) by omega]; exact IntWalk.i64_in _ (by omega)
            have i3 : (0 : Int) ≤ (n0 : Int) - (j : Int) := by omega
            have i4 : (n0 : Int) - (j : Int) ≤ (ct : Int) := by omega
            have i6 : ((n0 : Int) - (j : Int)).toNat = n0 - j := by omega
            have i5 : (j : Int) ≤ (n0 : Int) := by omega
            have i7 : (n0 : Int) ≤ (c0 : Int) := by omega
            have HS1 : Hid (Sl wr (A0.map (·.add j)) (n0 - j) (c0 - j) 1 (ints ((q.1.drop j).take (n0 - j)))) := Lib.hid (HD.out.head1 (Nat.le_refl _))
            have HS2 : Hid (Sl wr E (n0 - j) ct 1 (ints (seq.take (n0 - j)))) := Lib.hid (HYW.out.head1 (Nat.le_of_lt hmin))
            have HAG : Hid (agree q.1 seq j = decide ((q.1.drop j).take (n0 - j) = seq.take (n0 - j))) := Lib.hid (by rw [agree, ← HT.out, ← HN.out, Nat.min_eq_right (Nat.le_of_lt hmin)])
            clear hmin
            rcases hag : agree q.1 seq j with _ | _
            · have HM := Lib.hid (first_miss HF2.out HN.out hlt hag)
              have HE : Hid (decide ((q.1.drop j).take (n0 - j) = seq.take (n0 - j)) = false) := Lib.hid (by rw [← HAG.out, hag])
              clear hag
              go_wp2_with fail
              go_quiet ((go_at_call 21; exact ref_equal_q HE.out HS1.out HS2.out _))
              go_wp2_with fail
              go_roundw
              case rel => exact ⟨j + 1, by omega, by push_cast; rfl, Lib.hid (HK2.out.drawn ⟨_, rfl⟩), Lib.hid (HJ2.out.drawn ⟨_, rfl⟩), HM⟩
              case measure => simp [intOf] <;> omega
            · have HM := Lib.hid (first_hit HF2.out HN.out hlt hag)
              have HE : Hid (decide ((q.1.drop j).take (n0 - j) = seq.take (n0 - j)) = true) := Lib.hid (by rw [← HAG.out, hag])
              clear hag
              go_wp2_with fail
              go_quiet ((go_at_call 21; exact ref_equal_q HE.out HS1.out HS2.out _))
              go_wp2_with fail
              go_meet
              exact ⟨by rw [HM.out], Lib.hid (HK2.out.drawn ⟨_, rfl⟩), Lib.hid (HJ2.out.drawn ⟨_, rfl⟩)⟩
        · have HM := Lib.hid (first_end HF2.out (by omega))
          have i9 : ¬ ((j : Int) < (n0 : Int)) := by omega
          go_wp2_with fail
          go_meet
          exact ⟨by rw [HM.out], HK2, HJ2⟩
    case rest =>
      clear x0 x1 x2
      obtain ⟨rfl, HK3, HJ3⟩ := hcut
      rename World => wd
      have hlt1 := HK3.out.lt
      have hlt2 := HJ3.out.lt
      have hst : st ≤ n0 := by rw [← HST.out, HN.out]; exact start_le _ _
      have B0' : Bld w (wd.alloc (.cells #[.slice none 0 0, .slice none 0 0, .slice none 0 0] 27)) wd.heap.size #[.slice A0 n0 c0, .slice B0 m0 d0, .slice C0 l0 e0] (.slice none 0 0) (.slice none 0 0) (.slice none 0 0) 0 0 0 [] [] [] :=
        ⟨⟨Own.nil _ _ _ _, Own.nil _ _ _ _, Own.nil _ _ _ _, fun g h => (by cases h), fun g h => (by cases h), fun g h => (by cases h)⟩, HK3.out.alloc _, HJ3.out.alloc _, Bk.fresh HK3.out.below _ _, hlt2⟩
      obtain ⟨x0, x1, x2⟩ := B0'.box.three
      obtain ⟨z0, z1, z2⟩ := B0'.box8.three
      have hcod := hqp.codes.keep B0'.box.below
      go_upto_if 54 with (first
        | (at_builtin; refine wpList_append_row rfl (.tmp 41) (.tmp 43) rfl (wd.heap.size + 1) (.slice none 0 0) 0 [] rfl (Own.nil _ _ _ _) A0 n0 c0 q.1 rfl hcod n0 (by omega) q.1 rfl (by omega) (by simp) ?_; intro v1 w2 g1 o1; have hb1 := grew_below (xs := []) g1 (Own.nil _ (wd.heap.size + 1) _ _) (by simp); have R1 := B0'.rows.stepA g1 o1; obtain ⟨A1, ca1, rfl, _⟩ := o1.sl; have B1 := B0'.setA R1 hb1; obtain ⟨y0, y1, y2⟩ := (B0'.keepB hb1).1.three; have f0 := (B0'.keepB hb1).2.2.free 0; obtain ⟨u0, u1, u2⟩ := (B0'.keepB hb1).2.2.three; obtain ⟨x0, x1, x2⟩ := B1.box.three; obtain ⟨z0, z1, z2⟩ := B1.box8.three))
      generalize hW2 : w2.setCell ⟨wd.heap.size, 0, none⟩ (.slice A1 n0 ca1) = W2 at B1 z0 z1 z2 x0 x1 x2 ⊢
      clear hW2
      have HPA : Hid (p.1 = q.1 ++ seq.drop (min t (n0 - st))) := Lib.hid (by rw [HP.out, addP, present, HST.out, ← HT.out, ← HN.out])
      have HPB : Hid (p.2.1 = q.2.1 ++ [(st : Int)]) := Lib.hid (by rw [HP.out, addP, HST.out])
      have HPC : Hid (p.2.2 = q.2.2 ++ [(t : Int)]) := Lib.hid (by rw [HP.out, addP, ← HT.out])
      have HLB : Hid (p.2.1.length = m0 + 1) := Lib.hid (by rw [HPB.out, List.length_append, ← hqp.starts.count]; rfl)
      have HLC : Hid (p.2.2.length = l0 + 1) := Lib.hid (by rw [HPC.out, List.length_append, ← hqp.lens.count]; rfl)
      have HLA : Hid (p.1.length = n0 + (t - min t (n0 - st))) := Lib.hid (by rw [HPA.out, List.length_append, List.length_drop, ← HT.out, ← HN.out])
      go_cut [] (fun wx => ∃ A2 ca2, Hid (Bld w wx wd.heap.size #[.slice A0 n0 c0, .slice B0 m0 d0, .slice C0 l0 e0] (.slice A2 p.1.length ca2) (.slice none 0 0) (.slice none 0 0) p.1.length 0 0 p.1 [] []))
      case first =>
        by_cases hlt : n0 - st < t
        · have i1 : (n0 : Int) - (st : Int) < (t : Int) := by omega
          have i2 : (0 : Int) ≤ (n0 : Int) - (st : Int) := by omega
          have i3 : (n0 : Int) - (st : Int) ≤ (t : Int) := by omega
          have i4 : ((n0 : Int) - (st : Int)).toNat = n0 - st := by omega
          have hct2 : ¬ ct = n0 - st := by omega
          have HS : Hid (Sl W2.drew (E.map (·.add (n0 - st))) (t - (n0 - st)) (ct - (n0 - st)) 1 (ints (seq.drop (n0 - st)))) := Lib.hid (by
            have := (hq.keep B1.drew.box.below).tail1 (k := n0 - st) (by omega)
            rwa [if_neg hct2] at this)
          have HZ : Hid (p.1 = q.1 ++ seq.drop (n0 - st)) := Lib.hid (by rw [HPA.out, Nat.min_eq_right (Nat.le_of_lt hlt)])
          have HZL : Hid (p.1.length = n0 + (t - (n0 - st))) := Lib.hid (by rw [HLA.out, Nat.min_eq_right (Nat.le_of_lt hlt)])
          go_wp2_with fail
          go_still_tail 5, (by kernel_rfl)
          change wpList _ _ _ _ _ W2.drew
          refine wpList_append_row rfl (.tmp 56) (.tmp 59) rfl (wd.heap.size + 1) (.slice A1 n0 ca1) n0 q.1 rfl B1.drew.rows.a _ _ _ (seq.drop (n0 - st)) rfl HS.out p.1.length HZL.out p.1 HZ.out (by rw [HZL.out]; omega) (by have := B1.drew.size; exact this) ?_
          intro v3 w3 g3 o3
          have hb3 := grew_below g3 B1.drew.rows.a B1.drew.size
          have R3 := B1.drew.rows.stepA g3 o3
          obtain ⟨A3, ca3, rfl, _⟩ := o3.sl
          have B3 := B1.drew.setA R3 hb3
          obtain ⟨y0, y1, y2⟩ := (B1.drew.keepB hb3).2.2.three
          have f0 := (B1.drew.keepB hb3).2.2.free 0
          go_wp2_with fail
          go_meet
          exact ⟨A3, ca3, Lib.hid B3⟩
        · have i1 : ¬ (n0 : Int) - (st : Int) < (t : Int) := by omega
          have HZ : Hid (p.1 = q.1) := Lib.hid (by rw [HPA.out, Nat.min_eq_left (by omega), HT.out, List.drop_length, List.append_nil])
          go_wp2_with fail
          go_meet
          refine ⟨A1, ca1, Lib.hid ?_⟩
          rw [HZ.out, ← HN.out]
          exact B1
      case rest =>
        obtain ⟨A2, ca2, HB2⟩ := hcut
        clear x0 x1 x2 z0 z1 z2 y0 y1 y2 f0 u0 u1 u2 hcod B0' R1 o1 g1 hb1 B1
        have BB := HB2.out
        obtain ⟨x0, x1, x2⟩ := BB.box.three
        obtain ⟨z0, z1, z2⟩ := BB.box8.three
        go_upto_region 14 with (first
          | (at_builtin; refine wpList_append_row rfl (.tmp 63) (.tmp 65) rfl (wd.heap.size + 1) (.slice none 0 0) 0 [] rfl BB.rows.b B0 m0 d0 q.2.1 rfl (hqp.starts.keep BB.box.below) m0 (by omega) q.2.1 rfl (by omega) BB.size ?_; intro v3 w3 g3 o3; have hb3 := grew_below (xs := []) g3 BB.rows.b BB.size; have R3 := (BB.rows.stepB g3 o3).alloc (.cells #[.int .i64 (st : Int)] 3); have S3 := one_sl (Bk.fresh (BB.keepB hb3).1.below #[.int .i64 (st : Int)] 3); have hz3 := hb3.size; have hsz3 : wd.heap.size + 1 ≤ (w3.alloc (.cells #[.int .i64 (st : Int)] 3)).heap.size := (by have := BB.size; simp; omega); obtain ⟨A3, ca3, rfl, _⟩ := o3.sl)
          | (at_builtin; refine wpList_append_row rfl (.tmp 66) (.tmp 68) rfl (wd.heap.size + 1) (.slice A3 m0 ca3) m0 q.2.1 rfl R3.b _ 1 1 [(st : Int)] rfl S3 p.2.1.length HLB.out p.2.1 HPB.out (by rw [HLB.out]; omega) hsz3 ?_; intro v4 w4 g4 o4; have hb4 := grew_below g4 R3.b hsz3; have R4 := R3.stepB g4 o4; obtain ⟨A4, ca4, rfl, _⟩ := o4.sl; have hbb := (hb3.alloc (by have := BB.size; omega) _).trans hb4; have BX := BB.setB R4 hbb; obtain ⟨u0, u1, u2⟩ := (BB.keepB hbb).2.2.three; have f1 := (BB.keepB hbb).2.2.free 1; obtain ⟨x0, x1, x2⟩ := BX.box.three; obtain ⟨z0, z1, z2⟩ := BX.box8.three))
        generalize hW4 : w4.setCell ⟨wd.heap.size, 1, none⟩ (.slice A4 p.2.1.length ca4) = W4 at BX x0 x1 x2 z0 z1 z2 ⊢
        clear hW4 u0 u1 u2 f1 hbb R4 hb4 o4 g4 hsz3 hz3 S3 R3 hb3 o3 g3 BB HB2
        have BB := BX
        clear BX
        have hmi : i = m0 := by rw [HI.out]; exact hqp.starts.count.symm
        have HMI := Lib.hid hmi
        clear hmi
        go_upto_region 15 with (first
          | (at_builtin; refine wpList_append_row rfl (.tmp 72) (.tmp 74) rfl (wd.heap.size + 1) (.slice none 0 0) 0 [] rfl BB.rows.c C0 l0 e0 q.2.2 rfl (hqp.lens.keep BB.box.below) l0 (by omega) q.2.2 rfl (by omega) BB.size ?_; intro v3 w5 g3 o3; have hb3 := grew_below (xs := []) g3 BB.rows.c BB.size; have R3 := (BB.rows.stepC g3 o3).alloc (.cells #[.int .i64 (t : Int)] 3); have S3 := one_sl (Bk.fresh (BB.keepB hb3).1.below #[.int .i64 (t : Int)] 3); have hz3 := hb3.size; have hsz3 : wd.heap.size + 1 ≤ (w5.alloc (.cells #[.int .i64 (t : Int)] 3)).heap.size := (by have := BB.size; simp; omega); obtain ⟨A5, ca5, rfl, _⟩ := o3.sl)
          | (at_builtin; refine wpList_append_row rfl (.tmp 75) (.tmp 78) rfl (wd.heap.size + 1) (.slice A5 l0 ca5) l0 q.2.2 rfl R3.c _ 1 1 [(t : Int)] rfl S3 p.2.2.length HLC.out p.2.2 HPC.out (by rw [HLC.out]; omega) hsz3 ?_; intro v4 w6 g4 o4; have hb4 := grew_below g4 R3.c hsz3; have R4 := R3.stepC g4 o4; obtain ⟨A6, ca6, rfl, _⟩ := o4.sl; have hbb := (hb3.alloc (by have := BB.size; omega) _).trans hb4; have BX := BB.setC R4 hbb; obtain ⟨u0, u1, u2⟩ := (BB.keepB hbb).2.2.three; have f2 := (BB.keepB hbb).2.2.free 2; obtain ⟨x0, x1, x2⟩ := BX.box.three; obtain ⟨z0, z1, z2⟩ := BX.box8.three))
        generalize hW6 : w6.setCell ⟨wd.heap.size, 2, none⟩ (.slice A6 p.2.2.length ca6) = W6 at BX x0 x1 x2 z0 z1 z2 ⊢
        clear hW6 u0 u1 u2 f2 hbb R4 hb4 o4 g4 hsz3 hz3 S3 R3 hb3 o3 g3 BB
        obtain ⟨y0, y1, y2⟩ := BX.box4.three
        have f0 := BX.box4.free 0
        have f1 := BX.box4.free 1
        have f2 := BX.box4.free 2
        have hlo := BX.lo
        go_region_held3 (fun W => W.cell? ⟨wd.heap.size, 0, none⟩ = some (.slice A2 p.1.length ca2) ∧ W.cell? ⟨wd.heap.size, 1, none⟩ = some (.slice A4 p.2.1.length ca4) ∧ W.cell? ⟨wd.heap.size, 2, none⟩ = some (.slice A6 p.2.2.length ca6) ∧ W.cell? ⟨w.heap.size, 1, none⟩ = some (.slice B0 m0 d0))
          (first | exact ⟨z0, z1, z2, x1⟩ | exact (fun h6 h1 => ⟨h6.1, h6.2.1, h6.2.2, h1.2.1⟩) (Bk_other3 BX.box8 (by omega) (by omega) _ _ _).three (Bk_other3 BX.box (by omega) (by omega) _ _ _).three | exact (fun h6 h1 => ⟨h6.1, h6.2.1, h6.2.2, h1.2.1⟩) (Bk_other3 BX.drew.box8 (by omega) (by omega) _ _ _).three (Bk_other3 BX.drew.box (by omega) (by omega) _ _ _).three | go_keep)
          (fail)
        all_goals
          go_wp2_with fail
          have nA : ∀ x, (Value.slice A2 p.1.length ca2).ownBlock = some x → x ≠ w.heap.size + 1 := fun x e => by have := (BX.rows.a.block_lt x e).1; omega
          have nB : ∀ x, (Value.slice A4 p.2.1.length ca4).ownBlock = some x → x ≠ w.heap.size + 1 := fun x e => by have := (BX.rows.b.block_lt x e).1; omega
          have nC : ∀ x, (Value.slice A6 p.2.2.length ca6).ownBlock = some x → x ≠ w.heap.size + 1 := fun x e => by have := (BX.rows.c.block_lt x e).1; omega
          have hR := rows_lower (base' := w.heap.size) BX.drew.rows (by omega)
          rw [HMI.out]
          exact bodyPost_ret (v := .tuple #[.agg #[.slice A2 p.1.length ca2, .slice A4 p.2.1.length ca4, .slice A6 p.2.2.length ca6], .int .i64 (m0 : Int)]) (by simp [results, Try.results18, go_sem, y0, y1, y2]) rfl
            ⟨_, _, _, rfl, rows_set (rows_set (rows_set hR 0 _ nA nB nC) 1 _ nA nB nC) 2 _ nA nB nC, ((BX.drew.box.below.setCell (by simp) _).setCell (by simp) _).setCell (by simp) _⟩
end Go.Proofs.Ytemflmodgbheoaa.Sp
