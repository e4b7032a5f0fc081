/-
  The contract of Add of package seqpool.
-/
import Derived.Test.YtemflmodgbheoaaSpAddC
namespace Go.Proofs.Ytemflmodgbheoaa.Sp
open Go.RowKit
set_option linter.unusedVariables false

/-- The pool that Add adds to: an empty one in place of one that is not valid. -/
def baseP (codes starts lens : List Int) : List Int × List Int × List Int := if validL codes.length starts lens = true then (codes, starts, lens) else ([], [], [])
/-- What Add gives: three rows of its own, and the index. -/
def AddRes (p : List Int × List Int × List Int) (idx : Nat) (w : World) (e : Ending) (w' : World) : Prop :=
  ∃ va vb vc, e = .returned (.tuple #[.agg #[va, vb, vc], .int .i64 (idx : Int)]) ∧ Rows w' w.heap.size va vb vc p.1.length p.2.1.length p.2.2.length p.1 p.2.1 p.2.2 ∧ Below w.heap.size w w'
theorem rows_lower {w : World} {base base' : Nat} {va vb vc : Value} {na nb nc : Nat} {xs bs cs : List Int} (h : Rows w base va vb vc na nb nc xs bs cs) (hb : base' ≤ base) : Rows w base' va vb vc na nb nc xs bs cs :=
  ⟨own_lower h.a hb, own_lower h.b hb, own_lower h.c hb, h.ab, h.ac, h.bc⟩
theorem packP_one (x : List Int) : packP [x] = addP ([], [], []) x := rfl
theorem ll_one {w : World} {E : Option Addr} {t ct : Nat} {seq : List Int} (hq : Sl w E t ct 1 (ints seq)) (T : TypeId) : LL (w.alloc (.cells #[.slice E t ct] T)) (some ⟨w.heap.size, 0, none⟩) 1 1 [seq] := by
  refine ⟨rfl, Nat.le_refl _, by omega, fun j hj => ?_⟩
  obtain rfl : j = 0 := by omega
  refine ⟨w.heap.size, 0, E, t, ct, rfl, by simp, ?_, ?_⟩
  · rw [cell_of_row _ _ _ _ _ _ (heap_alloc_new w _)]; rfl
  · exact hq.keep ((Below.refl _ _).alloc (Nat.le_refl _) _)

set_option maxRecDepth 100000 in
set_option maxHeartbeats 4000000 in
theorem add_bad {A B C E : Option Addr} {n ca m cb k cc t ct : Nat} {codes starts lens seq : List Int} (w : World) (hp : PoolIs w A n ca B m cb C k cc codes starts lens) (hq : Sl w E t ct 1 (ints seq)) (ht : t ≤ 20) (hv : validL n starts lens = false) :
    Calls Try.prog 17 #[.agg #[.slice A n ca, .slice B m cb, .slice C k cc], .slice E t ct] w (AddRes (addP ([], [], []) seq) 0 w) := by
  have HV := Lib.hid hv
  have HT := Lib.hid hq.count
  have k0 := (Bk.fresh (Below.refl w.heap.size w) #[.slice A n ca, .slice B m cb, .slice C k cc] 27).alloc (.cells #[.slice none 0 0, .slice none 0 0, .slice none 0 0] 27)
  have j0 := Bk.fresh_at (w := w) ((Below.refl w.heap.size w).alloc (Nat.le_refl _) (.cells #[.slice A n ca, .slice B m cb, .slice C k cc] 27)) #[.slice none 0 0, .slice none 0 0, .slice none 0 0] 27 (g := w.heap.size + 1) (by simp)
  clear hv
  go_enter Try.func17, Try.ntmps17
  go_wp2_with (first
    | (go_at_call 22; refine (valid_any _ (hp.keep k0.below) HV.out).mono ?_; rintro e w1 ⟨rfl, b1⟩; have k1 := k0.step b1; have j1 := j0.step b1; obtain ⟨x0, x1, x2⟩ := k1.three; obtain ⟨y0, y1, y2⟩ := j1.three)
    | (go_at_call 13; refine (pack_any (l := [seq]) _ (ll_one (hq.keep k1.below) _) (by omega) (by intro x hx; rw [List.mem_singleton] at hx; subst hx; have := HT.out; omega)).mono ?_; rintro e w2 ⟨va, vb, vc, rfl, hr, b2⟩; have j2 := (j1.alloc _).step b2; obtain ⟨y0, y1, y2⟩ := j2.three; have f0 := j2.free 0; have f1 := j2.free 1; have f2 := j2.free 2; obtain ⟨A2, ca2, rfl, _⟩ := hr.a.sl; obtain ⟨B2, cb2, rfl, _⟩ := hr.b.sl; obtain ⟨C2, cc2, rfl, _⟩ := hr.c.sl))
  have hs := j1.lt
  have hN : ∀ v, v = (Value.slice A2 (packP [seq]).1.length ca2) ∨ v = (Value.slice B2 (packP [seq]).2.1.length cb2) ∨ v = (Value.slice C2 (packP [seq]).2.2.length cc2) → ∀ x, v.ownBlock = some x → x ≠ w.heap.size + 1 := fun v hv x hx => by
    have : w1.heap.size + 1 ≤ x := by
      rcases hv with rfl | rfl | rfl
      · simpa using (hr.a.block_lt x hx).1
      · simpa using (hr.b.block_lt x hx).1
      · simpa using (hr.c.block_lt x hx).1
    omega
  have hA := hN _ (.inl rfl)
  have hB := hN _ (.inr (.inl rfl))
  have hC := hN _ (.inr (.inr rfl))
  have hr2 := rows_lower hr (base' := w.heap.size) (by simp; omega)
  refine bodyPost_ret (v := .tuple #[.agg #[.slice A2 (packP [seq]).1.length ca2, .slice B2 (packP [seq]).2.1.length cb2, .slice C2 (packP [seq]).2.2.length cc2], .int .i64 0]) (by simp [results, Try.results17, go_sem, y0, y1, y2]) rfl
    ⟨_, _, _, rfl, rows_set (rows_set (rows_set hr2 0 _ hA hB hC) 1 _ hA hB hC) 2 _ hA hB hC, ((j2.below.setCell (by simp) _).setCell (by simp) _).setCell (by simp) _⟩

theorem appended_x {A B C E : Option Addr} {n ca m cb k cc t ct : Nat} {codes starts lens seq : List Int} (w0 w : World) (hb0 : Below w0.heap.size w0 w)
    (hr : Rows w w0.heap.size (.slice A n ca) (.slice B m cb) (.slice C k cc) n m k codes starts lens) (hq : Sl w0 E t ct 1 (ints seq)) (hn : n ≤ 1000) (hm : m ≤ 1000) (hk : k ≤ 1000) (ht : t ≤ 1000) (p : List Int × List Int × List Int) (hp : p = addP (codes, starts, lens) seq)
    (S : Nat → Prop) (hS : ∀ x, OldRow A B C n ca m cb k cc x → S x) :
    Calls Try.prog 26 #[.agg #[.slice A n ca, .slice B m cb, .slice C k cc], .slice E t ct] w (fun e w' => ∃ A2 ca2 B2 cb2 C2 cc2, e = .returned (.agg #[.slice A2 p.1.length ca2, .slice B2 p.2.1.length cb2, .slice C2 p.2.2.length cc2]) ∧
      Rows w' w0.heap.size (.slice A2 p.1.length ca2) (.slice B2 p.2.1.length cb2) (.slice C2 p.2.2.length cc2) p.1.length p.2.1.length p.2.2.length p.1 p.2.1 p.2.2 ∧ Below w0.heap.size w0 w' ∧
      (∀ x, x < w.heap.size → ¬ S x → w'.heap[x]? = w.heap[x]?) ∧ (∀ x, OldRow A2 B2 C2 p.1.length ca2 p.2.1.length cb2 p.2.2.length cc2 x → S x ∨ w.heap.size ≤ x)) := by
  refine (appended_any w0 w hb0 hr hq hn hm hk ht).mono ?_
  rintro e w' ⟨va, vb, vc, rfl, hR, hb, hoff, hnew⟩
  have h1 : n + (t - present codes seq) = p.1.length := by
    have := hR.a.len
    rw [ints_length, Nat.mul_one] at this
    rw [hp, ← this, addP]
  have h2 : m + 1 = p.2.1.length := by
    have := hR.b.len
    rw [ints_length, Nat.mul_one] at this
    rw [hp, ← this, addP]
  have h3 : k + 1 = p.2.2.length := by
    have := hR.c.len
    rw [ints_length, Nat.mul_one] at this
    rw [hp, ← this, addP, List.length_append, List.length_append]
    rfl
  have hR2 : Rows w' w0.heap.size va vb vc p.1.length p.2.1.length p.2.2.length p.1 p.2.1 p.2.2 := by
    rw [← h1, ← h2, ← h3, hp, addP]
    have := hR
    rw [hq.count] at this
    rw [hq.count]
    exact this
  have hR3 := hR2
  obtain ⟨A2, ca2, rfl, _⟩ := hR3.a.sl
  obtain ⟨B2, cb2, rfl, _⟩ := hR3.b.sl
  obtain ⟨C2, cc2, rfl, _⟩ := hR3.c.sl
  exact ⟨A2, ca2, B2, cb2, C2, cc2, rfl, hR2, hb, fun x hx hn => hoff x hx (fun h => hn (hS x h)), fun x h => (hnew x h).imp (hS x) id⟩

set_option maxRecDepth 100000 in
set_option maxHeartbeats 4000000 in
theorem add_good {A B C E : Option Addr} {n ca m cb k cc t ct : Nat} {codes starts lens seq : List Int} (w : World) (hp : PoolIs w A n ca B m cb C k cc codes starts lens) (hq : Sl w E t ct 1 (ints seq)) (ht : t ≤ 1000) (hv : validL n starts lens = true) (p : List Int × List Int × List Int) (hpp : p = addP (codes, starts, lens) seq) :
    Calls Try.prog 17 #[.agg #[.slice A n ca, .slice B m cb, .slice C k cc], .slice E t ct] w (AddRes p m w) := by
  have HPP := Lib.hid hpp
  clear hpp
  have HV := Lib.hid hv
  have hn := hp.n_le
  have hm := hp.m_le
  have hk := hp.k_le
  have k0 := (Bk.fresh (Below.refl w.heap.size w) #[.slice A n ca, .slice B m cb, .slice C k cc] 27).alloc (.cells #[.slice none 0 0, .slice none 0 0, .slice none 0 0] 27)
  have j0 := Bk.fresh_at (w := w) ((Below.refl w.heap.size w).alloc (Nat.le_refl _) (.cells #[.slice A n ca, .slice B m cb, .slice C k cc] 27)) #[.slice none 0 0, .slice none 0 0, .slice none 0 0] 27 (g := w.heap.size + 1) (by simp)
  clear hv
  go_enter Try.func17, Try.ntmps17
  go_upto_region 3 with (first
    | (go_at_call 22; refine (valid_any _ (hp.keep k0.below) HV.out).mono ?_; rintro e w1 ⟨rfl, b1⟩; have k1 := k0.step b1; have j1 := j0.step b1; obtain ⟨x0, x1, x2⟩ := k1.three; obtain ⟨y0, y1, y2⟩ := j1.three))
  have hlt := j1.lt
  have hle : w.heap.size ≤ w1.heap.size := by omega
  have H : Cl w w1 w.heap.size w1.heap.size #[.slice A n ca, .slice B m cb, .slice C k cc] #[.slice none 0 0, .slice none 0 0, .slice none 0 0] none none none n m k codes starts lens none :=
    ⟨k1, j1, Nat.le_refl _, hlt, fun v e => (by cases e), fun v e => (by cases e), fun v e => (by cases e), fun u v e => (by cases e), fun u v e => (by cases e), fun u v e => (by cases e), fun x e => (by cases e), fun x v e => (by cases e), fun x v e => (by cases e), fun x v e => (by cases e)⟩
  have hA := hp.codes
  have hB := hp.starts
  have hC := hp.lens
  go_cut [6] (fun s6 wx => ∃ g6 D1 d1 D2 d2 D3 d3, s6 = .pointer (some ⟨g6, 0, none⟩) ∧ Hid (Cloned w wx w.heap.size w1.heap.size g6 #[.slice A n ca, .slice B m cb, .slice C k cc] #[.slice none 0 0, .slice none 0 0, .slice none 0 0] (.slice D1 n d1) (.slice D2 m d2) (.slice D3 k d3) n m k codes starts lens))
  case first =>
    go_region_held3 (fun W => W.cell? ⟨w.heap.size, 0, none⟩ = some (.slice A n ca) ∧ W.cell? ⟨w.heap.size, 1, none⟩ = some (.slice B m cb) ∧ W.cell? ⟨w.heap.size, 2, none⟩ = some (.slice C k cc)) (first | exact ⟨x0, x1, x2⟩ | exact (H.finish hle).box.three | exact (H.drew.finish hle).box.three | go_keep)
      (first
        | (go_at_call 27; ((with_reducible refine (Cl.callA H hA (by omega)).mono ?_); rintro e W' ⟨Da, da, rfl, H⟩; obtain ⟨x0, x1, x2⟩ := H.box.three; try (obtain ⟨z0, z1, z2⟩ := (H.new _ rfl).1.three); try (have e0 := (H.new _ rfl).1.free 0); try (have e1 := (H.new _ rfl).1.free 1); try (have e2 := (H.new _ rfl).1.free 2)))
        | (go_at_call 27; ((with_reducible refine (Cl.callA H.drew hA (by omega)).mono ?_); rintro e W' ⟨Da, da, rfl, H⟩; obtain ⟨x0, x1, x2⟩ := H.box.three; try (obtain ⟨z0, z1, z2⟩ := (H.new _ rfl).1.three); try (have e0 := (H.new _ rfl).1.free 0); try (have e1 := (H.new _ rfl).1.free 1); try (have e2 := (H.new _ rfl).1.free 2)))
        | (go_at_call 27; ((with_reducible refine (Cl.callA H.alloc hA (by omega)).mono ?_); rintro e W' ⟨Da, da, rfl, H⟩; obtain ⟨x0, x1, x2⟩ := H.box.three; try (obtain ⟨z0, z1, z2⟩ := (H.new _ rfl).1.three); try (have e0 := (H.new _ rfl).1.free 0); try (have e1 := (H.new _ rfl).1.free 1); try (have e2 := (H.new _ rfl).1.free 2)))
        | (go_at_call 27; ((with_reducible refine (Cl.callA H.alloc.drew hA (by omega)).mono ?_); rintro e W' ⟨Da, da, rfl, H⟩; obtain ⟨x0, x1, x2⟩ := H.box.three; try (obtain ⟨z0, z1, z2⟩ := (H.new _ rfl).1.three); try (have e0 := (H.new _ rfl).1.free 0); try (have e1 := (H.new _ rfl).1.free 1); try (have e2 := (H.new _ rfl).1.free 2)))
        | (go_at_call 27; ((with_reducible refine (Cl.callB H hB (by omega)).mono ?_); rintro e W' ⟨Db, db, rfl, H⟩; obtain ⟨x0, x1, x2⟩ := H.box.three; try (obtain ⟨z0, z1, z2⟩ := (H.new _ rfl).1.three); try (have e0 := (H.new _ rfl).1.free 0); try (have e1 := (H.new _ rfl).1.free 1); try (have e2 := (H.new _ rfl).1.free 2)))
        | (go_at_call 27; ((with_reducible refine (Cl.callB H.drew hB (by omega)).mono ?_); rintro e W' ⟨Db, db, rfl, H⟩; obtain ⟨x0, x1, x2⟩ := H.box.three; try (obtain ⟨z0, z1, z2⟩ := (H.new _ rfl).1.three); try (have e0 := (H.new _ rfl).1.free 0); try (have e1 := (H.new _ rfl).1.free 1); try (have e2 := (H.new _ rfl).1.free 2)))
        | (go_at_call 27; ((with_reducible refine (Cl.callB H.alloc hB (by omega)).mono ?_); rintro e W' ⟨Db, db, rfl, H⟩; obtain ⟨x0, x1, x2⟩ := H.box.three; try (obtain ⟨z0, z1, z2⟩ := (H.new _ rfl).1.three); try (have e0 := (H.new _ rfl).1.free 0); try (have e1 := (H.new _ rfl).1.free 1); try (have e2 := (H.new _ rfl).1.free 2)))
        | (go_at_call 27; ((with_reducible refine (Cl.callB H.alloc.drew hB (by omega)).mono ?_); rintro e W' ⟨Db, db, rfl, H⟩; obtain ⟨x0, x1, x2⟩ := H.box.three; try (obtain ⟨z0, z1, z2⟩ := (H.new _ rfl).1.three); try (have e0 := (H.new _ rfl).1.free 0); try (have e1 := (H.new _ rfl).1.free 1); try (have e2 := (H.new _ rfl).1.free 2)))
        | (go_at_call 27; ((with_reducible refine (Cl.callC H hC (by omega)).mono ?_); rintro e W' ⟨Dc, dc, rfl, H⟩; obtain ⟨x0, x1, x2⟩ := H.box.three; try (obtain ⟨z0, z1, z2⟩ := (H.new _ rfl).1.three); try (have e0 := (H.new _ rfl).1.free 0); try (have e1 := (H.new _ rfl).1.free 1); try (have e2 := (H.new _ rfl).1.free 2)))
        | (go_at_call 27; ((with_reducible refine (Cl.callC H.drew hC (by omega)).mono ?_); rintro e W' ⟨Dc, dc, rfl, H⟩; obtain ⟨x0, x1, x2⟩ := H.box.three; try (obtain ⟨z0, z1, z2⟩ := (H.new _ rfl).1.three); try (have e0 := (H.new _ rfl).1.free 0); try (have e1 := (H.new _ rfl).1.free 1); try (have e2 := (H.new _ rfl).1.free 2)))
        | (go_at_call 27; ((with_reducible refine (Cl.callC H.alloc hC (by omega)).mono ?_); rintro e W' ⟨Dc, dc, rfl, H⟩; obtain ⟨x0, x1, x2⟩ := H.box.three; try (obtain ⟨z0, z1, z2⟩ := (H.new _ rfl).1.three); try (have e0 := (H.new _ rfl).1.free 0); try (have e1 := (H.new _ rfl).1.free 1); try (have e2 := (H.new _ rfl).1.free 2)))
        | (go_at_call 27; ((with_reducible refine (Cl.callC H.alloc.drew hC (by omega)).mono ?_); rintro e W' ⟨Dc, dc, rfl, H⟩; obtain ⟨x0, x1, x2⟩ := H.box.three; try (obtain ⟨z0, z1, z2⟩ := (H.new _ rfl).1.three); try (have e0 := (H.new _ rfl).1.free 0); try (have e1 := (H.new _ rfl).1.free 1); try (have e2 := (H.new _ rfl).1.free 2))))
    all_goals
      go_wp2_with fail
      go_meet
      first
        | exact ⟨_, _, _, _, _, _, _, rfl, Lib.hid (H.finish hle)⟩
        | exact ⟨_, _, _, _, _, _, _, rfl, Lib.hid (H.finish_new hle)⟩
        | exact ⟨_, _, _, _, _, _, _, rfl, Lib.hid (H.alloc.finish hle)⟩
  case rest =>
    obtain ⟨g6, D1, d1, D2, d2, D3, d3, rfl, HCC⟩ := hcut
    have hc := HCC.out
    have h6 := hc.lo6
    have hbs := hc.base
    clear x0 x1 x2 y0 y1 y2
    obtain ⟨x0, x1, x2⟩ := hc.box.three
    obtain ⟨z0, z1, z2⟩ := hc.box6.three
    have hLO : ∀ x, OldRow D1 D2 D3 n d1 m d2 k d3 x → w1.heap.size ≤ x ∧ x ≠ g6 := hc.lo
    have hS0 : ¬ (w1.heap.size ≤ w.heap.size ∧ w.heap.size ≠ g6) := by omega
    have hS1 : ¬ (w1.heap.size ≤ w.heap.size + 1 ∧ w.heap.size + 1 ≠ g6) := by omega
    have hS6 : ¬ (w1.heap.size ≤ g6 ∧ g6 ≠ g6) := by omega
    go_wp2_with fail
    go_region_held3 (fun W => W.cell? ⟨g6, 0, none⟩ = some (.slice D1 n d1) ∧ W.cell? ⟨g6, 1, none⟩ = some (.slice D2 m d2) ∧ W.cell? ⟨g6, 2, none⟩ = some (.slice D3 k d3) ∧ W.cell? ⟨w.heap.size, 1, none⟩ = some (.slice B m cb))
      (first | exact ⟨z0, z1, z2, x1⟩ | exact (fun h6 h1 => ⟨h6.1, h6.2.1, h6.2.2, h1.2.1⟩) (Bk_other3 hL6 (by omega) (by omega) _ _ _).three (Bk_other3 hL1 (by omega) (by omega) _ _ _).three | go_keep)
      (first
        | (go_at_call 26; ((with_reducible refine (appended_x w _ hc.box.below hc.rows hq hn hm hk ht p HPP.out (fun x => w1.heap.size ≤ x ∧ x ≠ g6) hLO).mono ?_); rintro e w' ⟨A2, ca2, B2, cb2, C2, cc2, rfl, hR, hb2, hoff, hnew⟩; have hL1 := Bk_at hc.box hb2 (hoff _ hc.box.lt hS0); have hL2 := Bk_at hc.box2 hb2 (hoff _ hc.box2.lt hS1); have hL6 := Bk_at hc.box6 hb2 (hoff _ hc.box6.lt hS6); obtain ⟨x0, x1, x2⟩ := hL1.three; obtain ⟨z0, z1, z2⟩ := hL6.three; obtain ⟨y0, y1, y2⟩ := hL2.three; have f0 := hL2.free 0; have f1 := hL2.free 1; have f2 := hL2.free 2))
        | (go_at_call 26; ((with_reducible refine (appended_x w _ hc.drew.box.below hc.drew.rows hq hn hm hk ht p HPP.out (fun x => w1.heap.size ≤ x ∧ x ≠ g6) hLO).mono ?_); rintro e w' ⟨A2, ca2, B2, cb2, C2, cc2, rfl, hR, hb2, hoff, hnew⟩; have hL1 := Bk_at hc.box hb2 (hoff _ hc.box.lt hS0); have hL2 := Bk_at hc.box2 hb2 (hoff _ hc.box2.lt hS1); have hL6 := Bk_at hc.box6 hb2 (hoff _ hc.box6.lt hS6); obtain ⟨x0, x1, x2⟩ := hL1.three; obtain ⟨z0, z1, z2⟩ := hL6.three; obtain ⟨y0, y1, y2⟩ := hL2.three; have f0 := hL2.free 0; have f1 := hL2.free 1; have f2 := hL2.free 2)))
    all_goals
      go_wp2_with fail
      have hN : ∀ x, OldRow A2 B2 C2 p.1.length ca2 p.2.1.length cb2 p.2.2.length cc2 x → x ≠ w.heap.size + 1 := fun x h => by
        rcases hnew x h with h2 | h2
        · have := h2.1; omega
        · have h3 : wc.heap.size ≤ x := h2; omega
      have nA := fun x (e : (Value.slice A2 p.1.length ca2).ownBlock = some x) => hN x (.inl e)
      have nB := fun x (e : (Value.slice B2 p.2.1.length cb2).ownBlock = some x) => hN x (.inr (.inl e))
      have nC := fun x (e : (Value.slice C2 p.2.2.length cc2).ownBlock = some x) => hN x (.inr (.inr e))
      exact bodyPost_ret (v := .tuple #[.agg #[.slice A2 p.1.length ca2, .slice B2 p.2.1.length cb2, .slice C2 p.2.2.length cc2], .int .i64 (m : Int)]) (by simp [results, Try.results17, go_sem, y0, y1, y2]) rfl
        ⟨_, _, _, rfl, rows_set (rows_set (rows_set hR 0 _ nA nB nC) 1 _ nA nB nC) 2 _ nA nB nC, ((hb2.setCell (by simp) _).setCell (by simp) _).setCell (by simp) _⟩

theorem add_any {A B C E : Option Addr} {n ca m cb k cc t ct : Nat} {codes starts lens seq : List Int} (w : World) (hp : PoolIs w A n ca B m cb C k cc codes starts lens) (hq : Sl w E t ct 1 (ints seq)) (ht : t ≤ 20) (p : List Int × List Int × List Int) (i : Nat)
    (hpp : p = addP (baseP codes starts lens) seq) (hi : i = (baseP codes starts lens).2.1.length) :
    Calls Try.prog 17 #[.agg #[.slice A n ca, .slice B m cb, .slice C k cc], .slice E t ct] w (AddRes p i w) := by
  have h1 := hp.codes.count
  have h2 := hp.starts.count
  rcases hv : validL n starts lens with _ | _
  · have hb : baseP codes starts lens = ([], [], []) := by rw [baseP, if_neg]; rw [← h1, hv]; simp
    rw [hb] at hpp hi
    subst hpp hi
    exact add_bad w hp hq ht hv
  · have hb : baseP codes starts lens = (codes, starts, lens) := by rw [baseP, if_pos]; rw [← h1, hv]
    rw [hb] at hpp hi
    subst hpp
    rw [hi]
    simp only [← h2]
    exact add_good w hp hq (by omega) hv _ rfl
end Go.Proofs.Ytemflmodgbheoaa.Sp
