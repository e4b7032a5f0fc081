/-
  The contracts of run and ReadInts of package image.
-/
import Derived.Test.YtkkjjhkhpibaiaaImList
import Derived.Recover
import Derived.Defers
import Derived.BigQuiet
import Derived.Deep.QuietTactic
namespace Go.Proofs.Ytkkjjhkhpibaiaa.Im
open Go.RowKit
set_option linter.unusedVariables false

theorem assert_stop (c : Int) (w : World) : (Instr.typeAssert (.iface 71 (.agg #[.int .i64 c])) 20 71 true).run Try.prog w = .ok (.tuple #[.agg #[.int .i64 c], .bool true]) w := by kernel_rfl
theorem assert_nil (w : World) : (Instr.typeAssert .nilIface 20 71 true).run Try.prog w = .ok (.tuple #[.agg #[.int .i64 0], .bool false]) w := by kernel_rfl

set_option maxHeartbeats 1000000 in
theorem catch_panicking (p : Addr) (x c : Int) (older : List PanicEntry) (w : World) (hc : w.cell? p = some (.int .i64 x)) (hz : w.frozen? p = false) (hp : p.block < w.heap.size) :
    CallsD Try.prog 52 #[.pointer (some p)] (.panicking ({ v := .iface 71 (.agg #[.int .i64 c]), recovered := false } :: older)) w fun e u' w' =>
      e = .returned (.tuple #[]) ∧ u' = .panicking ({ v := .iface 71 (.agg #[.int .i64 c]), recovered := true } :: older) ∧ ∃ o, w' = (w.alloc o).setCell p (.int .i64 c) := by
  have ha := assert_stop c
  have hc2 : ∀ o, (w.alloc o).cell? p = some (.int .i64 x) := fun o => by rw [((Below.refl w.heap.size w).alloc (Nat.le_refl _) o).cell hp]; exact hc
  have hz2 : ∀ o, (w.alloc o).frozen? p = false := fun o => by rw [((Below.refl w.heap.size w).alloc (Nat.le_refl _) o).frozen hp]; exact hz
  refine callsD_of_wpS Try.func52 rfl fun c₀ cs hu => ?_
  apply wpS_seq
  apply wpS_region
  simp [wpOpsS, go_sem, recoverD, hu, Try.ntmps52, Exit.thenS, ha]
  apply wpS_seq
  apply wpS_region
  simp [wpOpsS, go_sem, Exit.thenS]
  refine wpS_cond (t := true) (by simp [Act.eval, Array.replicate]) ?_
  simp only [if_true]
  apply wpS_region
  simp [wpOpsS, go_sem, hc2, hz2, bodyPostS, results, Try.results52]
  exact ⟨_, rfl⟩

set_option maxHeartbeats 1000000 in
theorem catch_idle (p : Addr) (w : World) :
    CallsD Try.prog 52 #[.pointer (some p)] .returning w fun e u' w' => e = .returned (.tuple #[]) ∧ u' = .returning ∧ ∃ o, w' = w.alloc o := by
  have ha := assert_nil
  refine callsD_of_wpS Try.func52 rfl fun c₀ cs hu => ?_
  apply wpS_seq
  apply wpS_region
  simp [wpOpsS, go_sem, recoverD, hu, Try.ntmps52, Exit.thenS, ha]
  apply wpS_seq
  apply wpS_region
  simp [wpOpsS, go_sem, Exit.thenS]
  refine wpS_cond (t := false) (by simp [Act.eval, Array.replicate]) ?_
  simp only [Bool.false_eq_true, if_false]
  refine wpS_of_wp (wp_skip ?_)
  cases c₀
  simp_all [bodyPostS, results, Try.results52]
  exact ⟨_, rfl⟩

/-- Nothing but the reader's block and the list's variable has changed. -/
structure Off2 (b d : Nat) (w w' : World) : Prop where
  below : Below b w w'
  off : ∀ k, k ≠ b → k ≠ d → k < w.heap.size → w'.heap[k]? = w.heap[k]?
/-- The variables of ReadInts: the reader, the variable that points at it, the list's. -/
structure Vars (w : World) (b p d : Nat) (l : List Int) : Prop where
  rd : Rd w b l
  ptr : ∃ T, w.heap[p]? = some (.cells #[.pointer (some ⟨b, 0, none⟩)] T (0, 0))
  lst : ∃ v, w.heap[d]? = some (.cells #[v] 26 (0, 0))
  bp : b < p
  pd : p < d
def BodyRes (b p d : Nat) (r : Except Int (List Int × List Int)) (w : World) (e : Ending) (w' : World) : Prop := match r with
  | .ok (zs, l) => e = .returned (.tuple #[]) ∧ (∃ g, w.heap.size ≤ g ∧ w'.heap[d]? = some (.cells #[.slice (some ⟨g, 0, none⟩) zs.length zs.length] 26 (0, 0)) ∧ Blk w' g zs) ∧ Rd w' b l ∧ Off2 b d w w'
  | .error c => e = .panicked (stopped c) ∧ Off2 b d w w'
theorem Vars.alloc {w : World} {b p d : Nat} {l : List Int} (h : Vars w b p d l) (hd : d < w.heap.size) (o : Obj) : Vars (w.alloc o) b p d l := by
  obtain ⟨h1, ⟨T, h2⟩, ⟨v, h3⟩, h4, h5⟩ := h
  exact ⟨h1.keep (B := w.heap.size) (by omega) ((Below.refl _ _).alloc (Nat.le_refl _) o), ⟨T, (Below.heap_alloc _ _ _ (by omega)).trans h2⟩, ⟨v, (Below.heap_alloc _ _ _ hd).trans h3⟩, h4, h5⟩
theorem body_err {b p d : Nat} {r : Except Int (List Int × List Int)} {w w' : World} {c : Int} (h : r = .error c) (ho : Only b w w') : BodyRes b p d r w (.panicked (stopped c)) w' := by rw [h]; exact ⟨rfl, ho.below, fun k h1 _ h3 => ho.off k h1 h3⟩
theorem Off2.alloc {b d : Nat} {w w' : World} (h : Off2 b d w w') (hb : b < w.heap.size) (o : Obj) : Off2 b d w (w'.alloc o) :=
  ⟨h.below.alloc (by have := h.below.size; omega) o, fun k h1 h2 h3 => (Below.heap_alloc _ _ _ (by have := h.below.size; omega)).trans (h.off k h1 h2 h3)⟩
theorem Off2.setNew {b d g : Nat} {u w : World} (h : Off2 b d u w) (hb : b < u.heap.size) (hg : u.heap.size ≤ g) (v : Value) : Off2 b d u (w.setCell ⟨g, 0, none⟩ v) :=
  ⟨h.below.setCell (p := ⟨g, 0, none⟩) (by show b ≤ g; omega) v, fun i h1 h2 hl => (Below.heap_setCell _ _ _ _ (by show i ≠ g; omega)).trans (h.off i h1 h2 hl)⟩
theorem Off2.trans {b d : Nat} {u v w : World} (h : Off2 b d u v) (k : Off2 b d v w) : Off2 b d u w :=
  ⟨h.below.trans k.below, fun i h1 h2 hl => (k.off i h1 h2 (Nat.lt_of_lt_of_le hl h.below.size)).trans (h.off i h1 h2 hl)⟩
theorem Off2.refl (b d : Nat) (w : World) : Off2 b d w w := ⟨Below.refl _ _, fun _ _ _ _ => rfl⟩
theorem heap_lt {w : World} {d : Nat} {o : Obj} (h : w.heap[d]? = some o) : d < w.heap.size := by
  rcases Nat.lt_or_ge d w.heap.size with h3 | h3
  · exact h3
  · rw [Array.getElem?_eq_none h3] at h; cases h

set_option maxHeartbeats 1000000 in
theorem body_any {b p d : Nat} {l : List Int} {r : Except Int (List Int × List Int)} (w : World) (h : Vars w b p d l) (hl : l.length ≤ 1000000) (hr : rdList l = r) :
    Calls Try.prog 39 #[.pointer (some ⟨p, 0, none⟩), .pointer (some ⟨d, 0, none⟩)] w (BodyRes b p d r w) := by
  obtain ⟨h1, ⟨T, h2⟩, ⟨v, h3⟩, h4, h5⟩ := h
  have HA := Lib.hid (list_any w h1 hl hr)
  have hc : w.cell? ⟨p, 0, none⟩ = some (.pointer (some ⟨b, 0, none⟩)) := by rw [cell_of_row _ _ _ _ _ _ h2]; rfl
  have H3 := Lib.hid h3
  have hd := heap_lt h3
  clear h3 h2 hr
  cases r with
  | error c =>
    go_enter Try.func39, Try.ntmps39
    go_wp2_with (first | (go_at_call 40; refine HA.out.mono ?_; rintro e w1 ⟨rfl, o1⟩; rw [stopped]))
    exact ⟨rfl, body_err rfl o1⟩
  | ok q =>
    obtain ⟨zs, l2⟩ := q
    go_enter Try.func39, Try.ntmps39
    go_wp2_with (first | (go_at_call 40; refine HA.out.mono ?_; rintro e w1 ⟨⟨g, rfl, hg, hz⟩, r1, o1⟩; have h6 := (o1.off d (by omega) hd).trans H3.out; have H6 := Lib.hid h6; have hc6 : w1.cell? ⟨d, 0, none⟩ = some v := (by rw [cell_of_row _ _ _ _ _ _ h6]; rfl); have hf6 : w1.frozen? ⟨d, 0, none⟩ = false := (by simp [World.frozen?, h6]); clear h6))
    go_end0
    exact ⟨rfl, ⟨g, hg, one_setCell H6.out, (Below.heap_setCell _ _ _ _ (by show g ≠ d; omega)).trans hz⟩, r1.set (by omega) _ _, ⟨o1.below.setCell (p := ⟨d, 0, none⟩) (by show b ≤ d; omega) _, fun k k1 k2 k3 => (Below.heap_setCell _ _ _ _ k2).trans (o1.off k k1 k3)⟩⟩

def RunRes (b p d : Nat) (r : Except Int (List Int × List Int)) (w : World) (e : Ending) (w' : World) : Prop := match r with
  | .ok (zs, l) => e = .returned (.int .i64 0) ∧ (∃ g, w'.heap[d]? = some (.cells #[.slice (some ⟨g, 0, none⟩) zs.length zs.length] 26 (0, 0)) ∧ Blk w' g zs) ∧ Rd w' b l ∧ Off2 b d w w'
  | .error c => e = .returned (.int .i64 c) ∧ Off2 b d w w'

set_option maxHeartbeats 1000000 in
theorem run_any {b p d : Nat} {l : List Int} {r : Except Int (List Int × List Int)} (w : World) (h : Vars w b p d l) (hl : l.length ≤ 1000000) (hr : rdList l = r) :
    Calls Try.prog 38 #[.func (.func 39) #[] #[.pointer (some ⟨p, 0, none⟩), .pointer (some ⟨d, 0, none⟩)]] w (RunRes b p d r w) := by
  have hd : d < w.heap.size := heap_lt h.lst.choose_spec
  have HA := Lib.hid (body_any _ (h.alloc hd (.cells #[.int .i64 0] 30)) hl hr)
  have hE : (w.alloc (.cells #[.int .i64 0] 30)).heap[w.heap.size]? = some (.cells #[.int .i64 0] 30 (0, 0)) := heap_alloc_new w _
  have HE := Lib.hid hE
  have hbd : b < d := by have := h.bp; have := h.pd; omega
  clear hE hr h
  have hmf : ∀ (fn : Fn) (first cap : Array Value) (w : World), (Instr.makeFunc fn first cap).run Try.prog w = .ok (.func fn first cap) w := fun _ _ _ _ => rfl
  cases r with
  | error c =>
    go_enter_defers Try.func38, Try.ntmps38
    go_wp2_with (first | (go_at_call 39; refine HA.out.mono ?_; rintro e w1 ⟨rfl, o1⟩; rw [stopped]; have hE1 := (o1.off _ (by omega) (by omega) (by simp)).trans HE.out))
    refine leaves_cons (f := 52) (args := #[.pointer (some ⟨w.heap.size, 0, none⟩)]) (by simp) (by simp [go_sem]) ?_
    refine (catch_panicking ⟨w.heap.size, 0, none⟩ 0 c [] _ ?_ ?_ ?_).mono ?_
    · rw [cell_of_row _ _ _ _ _ _ hE1]; rfl
    · simp [World.frozen?, hE1]
    · exact heap_lt hE1
    rintro e u' w'' ⟨rfl, rfl, o, rfl⟩
    have h2 := one_setCell (u := .int .i64 c) ((Below.heap_alloc _ o _ (heap_lt hE1)).trans hE1)
    have hc2 : ((w1.alloc o).setCell ⟨w.heap.size, 0, none⟩ (.int .i64 c)).cell? ⟨w.heap.size, 0, none⟩ = some (.int .i64 c) := by
      rw [cell_of_row _ _ _ _ _ _ h2]; rfl
    simp [Leaves, settle, results, Try.results38, go_sem, hc2]
    exact ⟨rfl, (((((Off2.refl b d w).alloc (by omega) _).trans o1).alloc (by omega) o)).setNew (by omega) (Nat.le_refl _) _⟩
  | ok q =>
    obtain ⟨zs, l2⟩ := q
    go_enter_defers Try.func38, Try.ntmps38
    go_wp2_with (first | (go_at_call 39; refine HA.out.mono ?_; rintro e w1 ⟨rfl, ⟨g, hg, hs, hz⟩, r1, o1⟩; have hE1 := (o1.off _ (by omega) (by omega) (by simp)).trans HE.out; have HE1 := Lib.hid hE1; have HS := Lib.hid hs; clear hs; have hcE : w1.cell? ⟨w.heap.size, 0, none⟩ = some (.int .i64 0) := (by rw [cell_of_row _ _ _ _ _ _ hE1]; rfl); have hfE : w1.frozen? ⟨w.heap.size, 0, none⟩ = false := (by simp [World.frozen?, hE1]); clear hE1))
    refine leaves_cons (f := 52) (args := #[.pointer (some ⟨w.heap.size, 0, none⟩)]) (by simp) (by simp [go_sem]) ?_
    refine (catch_idle ⟨w.heap.size, 0, none⟩ _).mono ?_
    rintro e u' w'' ⟨rfl, rfl, o, rfl⟩
    have h2 := one_setCell (u := .int .i64 0) HE1.out
    have hc2 : ((w1.setCell ⟨w.heap.size, 0, none⟩ (.int .i64 0)).alloc o).cell? ⟨w.heap.size, 0, none⟩ = some (.int .i64 0) := by
      rw [cell_of_row _ _ _ _ _ _ ((Below.heap_alloc _ o _ (by have := heap_lt HE1.out; simpa using this)).trans h2)]; rfl
    simp [Leaves, settle, results, Try.results38, go_sem, hc2]
    have hgE : g ≠ w.heap.size := by have : w.heap.size + 1 ≤ g := by simpa using hg
                                     omega
    have hsz : ∀ k, k < w1.heap.size → k ≠ w.heap.size → ((w1.setCell ⟨w.heap.size, 0, none⟩ (.int .i64 0)).alloc o).heap[k]? = w1.heap[k]? := fun k h1 h3 =>
      (Below.heap_alloc _ o k (by simpa using h1)).trans (Below.heap_setCell _ _ _ _ h3)
    refine ⟨rfl, ⟨g, (hsz d (heap_lt HS.out) (by omega)).trans HS.out, (hsz g hz.lt hgE).trans hz⟩, ?_, ?_⟩
    · obtain ⟨s, e1, e2⟩ := r1
      exact ⟨s, (hsz b (heap_lt e1) (by omega)).trans e1, e2⟩
    · exact ((((Off2.refl b d w).alloc (by omega) _).trans o1).setNew (by omega) (Nat.le_refl _) _).alloc (by omega) o

theorem rdn_err : ∀ (l : List Int) (i u : Nat) (c : Int), rdn i u l = .error c → c = 2 ∨ c = 3
  | [], _, _, _, h => by rw [rdn] at h; cases h; exact .inl rfl
  | x :: l, i, u, c, h => by
    rw [rdn] at h
    split at h
    · cases h; exact .inr rfl
    · split at h
      · cases h
      · exact rdn_err l _ _ _ h
theorem rdMany_err : ∀ (k : Nat) (l : List Int) (c : Int), rdMany k l = .error c → c = 2 ∨ c = 3
  | 0, _, _, h => by rw [rdMany] at h; cases h
  | k + 1, l, c, h => by
    rw [rdMany] at h
    cases hq : rdn 0 0 l with
    | error d => rw [hq] at h; cases h; exact rdn_err _ _ _ _ hq
    | ok p =>
      rw [hq] at h
      simp only at h
      cases hm : rdMany k p.2 with
      | error d => rw [hm] at h; cases h; exact rdMany_err _ _ _ hm
      | ok q => rw [hm] at h; cases h
theorem rdMany_len : ∀ (k : Nat) (l : List Int) (zs l2 : List Int), rdMany k l = .ok (zs, l2) → l2.length ≤ l.length
  | 0, _, _, _, h => by rw [rdMany] at h; cases h; exact Nat.le_refl _
  | k + 1, l, zs, l2, h => by
    rw [rdMany] at h
    cases hq : rdn 0 0 l with
    | error d => rw [hq] at h; cases h
    | ok p =>
      rw [hq] at h
      simp only at h
      have h1 := rdn_len l 0 0 p.1 p.2 hq
      cases hm : rdMany k p.2 with
      | error d => rw [hm] at h; cases h
      | ok q =>
        have h2 := rdMany_len k p.2 q.1 q.2 hm
        rw [hm] at h
        cases h
        omega
theorem rdList_err {l : List Int} {c : Int} (h : rdList l = .error c) : c ≠ 0 := by
  rw [rdList] at h
  cases hq : rdn 0 0 l with
  | error d => rw [hq] at h; cases h; have := rdn_err _ _ _ _ hq; omega
  | ok p =>
    rw [hq] at h
    simp only at h
    split at h
    · cases h; omega
    · have := rdMany_err _ _ _ h; omega
theorem rdList_len {l zs l2 : List Int} (h : rdList l = .ok (zs, l2)) : l2.length ≤ l.length := by
  rw [rdList] at h
  cases hq : rdn 0 0 l with
  | error d => rw [hq] at h; cases h
  | ok p =>
    rw [hq] at h
    simp only at h
    have h1 := rdn_len l 0 0 p.1 p.2 hq
    split at h
    · cases h
    · have := rdMany_len _ _ _ _ h; omega

def ReadRes (n : Nat) (r : Except Int (List Int × List Int)) (w : World) (e : Ending) (w' : World) : Prop := match r with
  | .ok (zs, l) => (∃ g, e = .returned (.tuple #[.slice (some ⟨g, 0, none⟩) zs.length zs.length, .int .i64 ((n : Int) - (l.length : Int)), .int .i64 0]) ∧ Blk w' g zs) ∧ Below w.heap.size w w'
  | .error c => e = .returned (.tuple #[.slice none 0 0, .int .i64 0, .int .i64 c]) ∧ Below w.heap.size w w'
theorem vars_new (w : World) (s : ByteArray) (v : Value) (T : TypeId) : Vars (((w.alloc (.cells #[.string s] 61)).alloc (.cells #[.pointer (some ⟨w.heap.size, 0, none⟩)] T)).alloc (.cells #[v] 26)) w.heap.size (w.heap.size + 1) (w.heap.size + 2) (strInts s) := by
  refine ⟨⟨s, ?_, rfl⟩, ⟨T, ?_⟩, ⟨v, ?_⟩, by omega, by omega⟩
  · rw [Below.heap_alloc _ _ _ (by simp; omega), Below.heap_alloc _ _ _ (by simp)]
    exact heap_alloc_new w _
  · rw [Below.heap_alloc _ _ _ (by simp)]
    have := heap_alloc_new (w.alloc (.cells #[.string s] 61)) (.cells #[.pointer (some ⟨w.heap.size, 0, none⟩)] T)
    simpa using this
  · have := heap_alloc_new ((w.alloc (.cells #[.string s] 61)).alloc (.cells #[.pointer (some ⟨w.heap.size, 0, none⟩)] T)) (.cells #[v] 26)
    simpa using this

theorem run_new {s : ByteArray} {zs l2 : List Int} {k : Nat} (w : World) (T : TypeId) (hl : (strInts s).length ≤ 1000000) (hr : rdList (strInts s) = .ok (zs, l2)) (hk : l2.length = k) :
    Calls Try.prog 38 #[.func (.func 39) #[] #[.pointer (some ⟨w.heap.size + 1, 0, none⟩), .pointer (some ⟨w.heap.size + 1 + 1, 0, none⟩)]]
      (((w.alloc (.cells #[.string s] 61)).alloc (.cells #[.pointer (some ⟨w.heap.size, 0, none⟩)] T)).alloc (.cells #[.slice none 0 0] 26))
      (fun e w1 => e = .returned (.int .i64 0) ∧ ∃ g, w1.cell? ⟨w.heap.size + 1 + 1, 0, none⟩ = some (.slice (some ⟨g, 0, none⟩) zs.length zs.length) ∧ Blk w1 g zs ∧ ∃ s2 : ByteArray, w1.cell? ⟨w.heap.size, 0, none⟩ = some (.string s2) ∧ s2.size = k ∧ w1.cell? ⟨w.heap.size + 1, 0, none⟩ = some (.pointer (some ⟨w.heap.size, 0, none⟩)) ∧ Below w.heap.size w w1) := by
  have hv := vars_new w s (.slice none 0 0) T
  refine (run_any _ hv hl hr).mono ?_
  rintro e w1 ⟨rfl, ⟨g, hs1, hz⟩, r1, o1⟩
  obtain ⟨s2, hc2, hs2⟩ := r1.cell
  obtain ⟨T2, hp⟩ := hv.ptr
  have hp1 := (o1.off (w.heap.size + 1) (by omega) (by omega) (by simp <;> omega)).trans hp
  exact ⟨rfl, g, by rw [cell_of_row _ _ _ _ _ _ hs1]; rfl, hz, s2, hc2, by rw [hs2, hk], by rw [cell_of_row _ _ _ _ _ _ hp1]; rfl, ((((Below.refl _ _).alloc (Nat.le_refl _) _).alloc (by simp) _).alloc (by simp; omega) _).trans o1.below⟩

set_option maxHeartbeats 1000000 in
theorem readInts_any {s : ByteArray} {r : Except Int (List Int × List Int)} (w : World) (hs : s.size ≤ 1000000) (hr : rdList (strInts s) = r) :
    Calls Try.prog 18 #[.string s] w (ReadRes s.size r w) := by
  have hmf : ∀ (fn : Fn) (first cap : Array Value) (w : World), (Instr.makeFunc fn first cap).run Try.prog w = .ok (.func fn first cap) w := fun _ _ _ _ => rfl
  have HL : Hid ((strInts s).length ≤ 1000000) := Lib.hid (by rw [strInts_len]; exact hs)
  have HR := Lib.hid hr
  clear hr
  cases r with
  | error c =>
    have hc : (c != 0) = true := by rw [bne_iff_ne]; exact rdList_err HR.out
    go_enter Try.func18, Try.ntmps18
    go_wp2_with (first | (go_at_call 38; refine (run_any _ (vars_new w s _ _) HL.out HR.out).mono ?_; rintro e w1 ⟨rfl, o1⟩))
    exact bodyPost_ret (v := .tuple #[.slice none 0 0, .int .i64 0, .int .i64 c]) (by simp [results, Try.results18, go_sem]) rfl ⟨rfl, ((((Below.refl _ _).alloc (Nat.le_refl _) _).alloc (by simp) _).alloc (by simp; omega) _).trans o1.below⟩
  | ok q =>
    obtain ⟨zs, l2⟩ := q
    have hlen := rdList_len HR.out
    rw [strInts_len] at hlen
    obtain ⟨k, hk⟩ : ∃ k, l2.length = k := ⟨_, rfl⟩
    have HK := Lib.hid hk
    rw [hk] at hlen
    clear hk
    go_enter Try.func18, Try.ntmps18
    go_wp2_with (first | (go_at_call 38; refine (run_new w _ HL.out HR.out HK.out).mono ?_; rintro e w1 ⟨rfl, g, hcd, hz, s2, hc2, hs2, hp2, hb⟩))
    go_quiet (fail)
    go_wp2_with fail
    have hd := (Drawn.refl w1).more nq
    refine bodyPost_ret (v := .tuple #[.slice (some ⟨g, 0, none⟩) zs.length zs.length, .int .i64 ((s.size : Int) - (k : Int)), .int .i64 0]) (by simp [results, Try.results18, go_sem]) rfl ?_
    refine ⟨⟨g, by rw [HK.out], ?_⟩, ?_⟩
    · exact hz.keep (hd.below (g + 1)) (by omega)
    · exact hb.trans (hd.below _)
end Go.Proofs.Ytkkjjhkhpibaiaa.Im
