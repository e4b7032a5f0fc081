/-
  The contracts of appendLists and Ints of package image, and of the reference's number and Ints.
-/
import Derived.Test.YtkkjjhkhpibaiaaImApp
namespace Go.Proofs.Ytkkjjhkhpibaiaa.Im
open Go.RowKit
set_option linter.unusedVariables false

/-- The lists of an argument, none of them in the block of v0. -/
structure Lls (w : World) (v0 : Value) (L : Option Addr) (n c : Nat) (l : List (List Int)) : Prop where
  count : n = l.length
  cap : n ≤ c
  max : c ≤ 9223372036854775807
  at' : ∀ j, j < n → ∃ b off D q r, L = some ⟨b, off, none⟩ ∧ b < w.heap.size ∧ v0.ownBlock ≠ some b ∧ w.cell? ⟨b, off + j, none⟩ = some (.slice D q r) ∧ Sl w D q r 1 (ints (l.getD j [])) ∧ (0 < q → ∀ a, D = some a → a.block < w.heap.size ∧ v0.ownBlock ≠ some a.block)
def lb (l : List (List Int)) : List Int := (l.map fun x => num x.length ++ nums x).flatten
def cost (l : List (List Int)) : Nat := (l.map fun x => 10 + 10 * x.length).sum
theorem lb_step {l : List (List Int)} {j : Nat} (h : j < l.length) : lb (l.take (j + 1)) = lb (l.take j) ++ (num (l.getD j []).length ++ nums (l.getD j [])) := by
  rw [lb, List.take_succ_eq_append_getElem h, List.map_append, List.flatten_append, lb]
  simp [List.getD, h]
theorem cost_step {l : List (List Int)} {j : Nat} (h : j < l.length) : cost (l.take (j + 1)) = cost (l.take j) + (10 + 10 * (l.getD j []).length) := by
  rw [cost, List.take_succ_eq_append_getElem h, List.map_append, List.sum_append, cost]
  simp [List.getD, h]
theorem cost_le (l : List (List Int)) : ∀ j, cost (l.take j) ≤ cost l := by
  induction l with
  | nil => intro j; simp [cost]
  | cons x l ih =>
    intro j
    cases j with
    | zero => simp [cost]
    | succ j =>
      have := ih j
      simp only [cost, List.take_succ_cons, List.map_cons, List.sum_cons] at this ⊢
      omega
theorem num_one (n : Nat) : nums [(n : Int)] = num n := by simp [nums]
theorem one_int (w : World) (x : Int) : Sl (w.alloc (.cells #[.int .i64 x] 3)) (some ⟨w.heap.size, 0, none⟩) 1 1 1 (ints [x]) :=
  Sl.built w 3 1 1 (ints [x]) rfl (by unfold maxLen; omega)
theorem own_ne {w : World} {base n : Nat} {v : Value} {xs : List Int} (h : Own w base 5 1 v n (bys xs)) : ∀ a, some (⟨w.heap.size, 0, none⟩ : Addr) = some a → v.ownBlock ≠ some a.block := by
  rintro a e h2
  cases e
  have := (World.ownsRow.lt h w.heap.size h2).2
  omega
theorem own_count {w : World} {base n : Nat} {v : Value} {xs : List Int} (h : Own w base 5 1 v n (bys xs)) : n = xs.length := by
  have := h.len
  rw [bys_length] at this
  omega
/-- A list that lies below what the call has made. -/
theorem kept_ne {w W : World} {v0 v : Value} (h : Kept w W v0 v) {b : Nat} (hb : b < w.heap.size) (hn : v0.ownBlock ≠ some b) : v.ownBlock ≠ some b := fun e => by
  rcases h.lies b e with h1 | h1
  · exact hn h1
  · omega

set_option maxRecDepth 100000 in
set_option maxHeartbeats 2000000 in
theorem lists_any {L V : Option Addr} {m cl cv : Nat} {l : List (List Int)} (base : Nat) (n : Nat) (bs : List Int) (w : World) (ho : Own w base 5 1 (.slice V n cv) n (bys bs)) (hbase : base ≤ w.heap.size) (hx : Lls w (.slice V n cv) L m cl l) (hz : ∀ x ∈ l, ∀ z ∈ x, I64 z) (hsz : n + cost l ≤ 900000) :
    Calls Try.prog 36 #[.slice V n cv, .slice L m cl] w (AppRes base (.slice V n cv) (bs ++ lb l) w) := by
  have HC := Lib.hid hx.count
  have HZ := Lib.hid hz
  have hcx := hx.cap
  have hmx := hx.max
  clear hz
  go_enter Try.func36, Try.ntmps36
  go_wp2_with fail
  go_loopw [0, 6, 9] (fun o a i wr => ∃ (j k : Nat) (V1 : Option Addr) (c1 : Nat), j ≤ m ∧ o = .slice V1 k c1 ∧ i = .int .i64 (j : Int) ∧ Hid (Own wr base 5 1 (.slice V1 k c1) k (bys (bs ++ lb (l.take j)))) ∧ Below base w wr ∧ Hid (Kept w wr (.slice V n cv) (.slice V1 k c1)) ∧ k ≤ n + cost (l.take j)) (fun _ _ i _ => m - (intOf i).toNat)
  case atStart => exact ⟨0, n, V, cv, Nat.zero_le _, rfl, rfl, Lib.hid (by rw [List.take_zero, lb]; simpa using ho), Below.refl _ _, Lib.hid (Kept.refl _ _), by omega⟩
  case round =>
    obtain ⟨j, k, V1, c1, hj, rfl, rfl, HO, hb, HK, hk⟩ := hrel
    by_cases hlt : j < m
    · have hjl : j < l.length := by rw [← HC.out]; exact hlt
      obtain ⟨b, off, D, q, r, rfl, hbl, hne, hcell0, hsl, hD⟩ := hx.at' j hlt
      have hcell := (World.cell?_of_block (HK.out.same b hbl hne)).trans hcell0
      have hq : (l.getD j []).length = q := by have := hsl.count; omega
      have hqc := hsl.cap
      have hqm := hsl.max
      have hcs := cost_step hjl
      have hcl := cost_le l (j + 1)
      have HT : Hid (bs ++ lb (l.take (j + 1)) = ((bs ++ lb (l.take j)) ++ num (l.getD j []).length) ++ nums (l.getD j [])) := Lib.hid (by rw [lb_step hjl]; simp)
      have hI : ∀ z ∈ l.getD j [], I64 z := HZ.out _ (by simp [List.getD, hjl])
      rw [hq] at hcs HT
      obtain ⟨x, hxx⟩ : ∃ x, l.getD j [] = x := ⟨_, rfl⟩
      rw [hxx] at hsl HT hI
      have HI := Lib.hid hI
      obtain ⟨cj, hcj⟩ : ∃ cj, cost (l.take j) = cj := ⟨_, rfl⟩
      rw [hcj] at hk hcs
      have hq1 : k + 10 * 1 ≤ 900000 := by omega
      have hIq : ∀ z ∈ [(q : Int)], I64 z := by intro z hz; rw [List.mem_singleton] at hz; subst hz; unfold I64; omega
      have HIQ := Lib.hid hIq
      have hbs := hb.size
      have HX : Hid (x.length = q) := Lib.hid (by rw [← hxx]; exact hq)
      clear hxx hq hI hIq hcell0
      have HCS : Hid (k + 10 + 10 * q ≤ n + cost (l.take (j + 1)) ∧ n + cost (l.take (j + 1)) ≤ 900000) := Lib.hid (by omega)
      clear hcs hcj hcl hk
      have HN1 : Hid (∀ V2 k2 c2 w1, Own w1 base 5 1 (.slice V2 k2 c2) k2 (bys ((bs ++ lb (l.take j)) ++ nums [(q : Int)])) → k2 + 10 * q ≤ 900000 ∧ k2 ≤ k + 10) := Lib.hid (fun V2 k2 c2 w1 o2 => by
        have e1 := own_count o2
        have e2 := own_count HO.out
        have e3 := (numB_len 9 (fold q)).1
        have e4 : (nums [(q : Int)]).length = (numB 9 (fold q)).length := by rw [num_one]; rfl
        have := HCS.out
        simp only [List.length_append] at e1 e2
        omega)
      have HD1 : Hid (∀ w1 V2 k2 c2, Kept w w1 (.slice V n cv) (.slice V2 k2 c2) → (0 < q → ∀ a, D = some a → (Value.slice V2 k2 c2).ownBlock ≠ some a.block) ∧ Sl w1 D q r 1 (ints x)) := Lib.hid (fun w1 V2 k2 c2 kk => by
        refine ⟨fun h0 a e => kept_ne kk (hD h0 a e).1 (hD h0 a e).2, ?_⟩
        rcases Nat.eq_zero_or_pos q with h0 | h0
        · obtain ⟨e1, e2, e3, e4, e5⟩ := hsl
          refine ⟨e1, e2, e3, e4, fun j u hj => ?_⟩
          have : (ints x).length = 0 := by rw [e1, h0, Nat.zero_mul]
          rw [List.eq_nil_of_length_eq_zero this] at hj
          simp at hj
        · exact kk.sl hsl (fun a e => (hD h0 a e).2))
      clear hD hsl
      go_wp2_with (first
        | (go_at_call 50; ((with_reducible refine (numbers_any base k _ _ (HO.out.alloc _) (by simp; omega) (one_int wr q) HIQ.out hq1 (fun _ => own_ne HO.out)).mono ?_); rintro e w1 ⟨V2, k2, c2, rfl, o2, b2, kk2⟩; have hb2 := (hb.alloc (by omega) _).trans b2; have KK2 := (HK.out.alloc _).trans kk2; have hk2 := (HN1.out _ _ _ _ o2).1; have hk22 := (HN1.out _ _ _ _ o2).2; have HD2 := Lib.hid (HD1.out _ _ _ _ KK2); have hle2 := (show base ≤ w1.heap.size from Nat.le_trans hbase KK2.size)))
        | (go_at_call 50; ((with_reducible refine (numbers_any base k2 _ _ o2 hle2 HD2.out.2 HI.out hk2 HD2.out.1).mono ?_); rintro e w2 ⟨V3, k3, c3, rfl, o3, b3, kk3⟩)))
      have hfin : k3 ≤ n + cost (l.take (j + 1)) := by
        have e1 := own_count o3
        have e2 := own_count o2
        have e3 := nums_len x
        have e5 := HCS.out.1
        have e6 := HX.out
        simp only [List.length_append] at e1 e2
        omega
      go_roundw
      case rel => exact ⟨j + 1, k3, V3, c3, by omega, rfl, by push_cast; rfl, Lib.hid (by rw [HT.out, ← num_one]; exact o3), hb2.trans b3, Lib.hid (KK2.trans kk3), hfin⟩
      case measure => simp [intOf] <;> omega
    · have i9 : ¬ ((j : Int) < (m : Int)) := by omega
      have HE : Hid (lb (l.take j) = lb l) := Lib.hid (by rw [List.take_of_length_le (by rw [← HC.out]; omega)])
      go_wp2_with fail
      go_ret
      exact ⟨_, k, _, rfl, by rw [← HE.out]; exact HO.out, hb, HK.out⟩

theorem makes_str2 {a b : ByteArray} {w w' : World} (h : a = b) (hb : Below w.heap.size w w') : Makes (.string a) w (.returned (.string b)) w' := by rw [h]; exact ⟨rfl, hb⟩
theorem ints_lls {w : World} {A : Option Addr} {n c : Nat} {zs : List Int} (hx : Sl w A n c 1 (ints zs)) (T : TypeId) : Lls (w.alloc (.cells #[.slice A n c] T)) (.slice none 0 0) (some ⟨w.heap.size, 0, none⟩) 1 1 [zs] := by
  refine ⟨rfl, Nat.le_refl _, by omega, fun j hj => ?_⟩
  obtain rfl : j = 0 := by omega
  have hb : Below w.heap.size w (w.alloc (.cells #[.slice A n c] T)) := (Below.refl _ _).alloc (Nat.le_refl _) _
  refine ⟨w.heap.size, 0, A, n, c, rfl, by simp, by simp [Value.ownBlock], ?_, hx.keep hb, fun h0 a e => ⟨?_, by simp [Value.ownBlock]⟩⟩
  · rw [cell_of_row _ _ _ _ _ _ (heap_alloc_new w _)]; rfl
  · obtain ⟨b, off, e2, hlt, _⟩ := hx.int_at h0
    rw [e2] at e
    cases e
    simp; omega
theorem intsB_one (zs : List Int) : lb [zs] = intsB zs := by simp [lb, intsB, nums]
theorem intsB_len (zs : List Int) : (intsB zs).length ≤ 10 + 10 * zs.length := by
  have h1 := (numB_len 9 (fold zs.length)).1
  have h2 := nums_len zs
  have e1 : (num zs.length).length = (numB 9 (fold zs.length)).length := rfl
  have e2 : (zs.map num).flatten = nums zs := rfl
  rw [intsB, List.length_append, e2]
  omega

set_option maxHeartbeats 1000000 in
theorem ints_any {A : Option Addr} {n c : Nat} {zs : List Int} (w : World) (hx : Sl w A n c 1 (ints zs)) (hz : ∀ z ∈ zs, I64 z) (hn : n ≤ 1000) {r : ByteArray} (hr : strOfNums (intsB zs) = r) :
    Calls Try.prog 16 #[.slice A n c] w (Makes (.string r) w) := by
  have HL := Lib.hid (ints_lls hx 26)
  have HZ : Hid (∀ x ∈ [zs], ∀ z ∈ x, I64 z) := Lib.hid (by intro x hm; rw [List.mem_singleton] at hm; rw [hm]; exact hz)
  have HS : Hid (0 + cost [zs] ≤ 900000) := Lib.hid (by have := hx.count; simp [cost]; omega)
  have HR := Lib.hid hr
  clear hr hz
  go_enter Try.func16, Try.ntmps16
  go_wp2_with fail
  refine (lists_any (w.alloc (.cells #[.slice A n c] 26)).heap.size 0 [] _ (Own.nil _ _ _ _) (Nat.le_refl _) HL.out HZ.out HS.out).mono ?_
  rintro e w1 ⟨V, k, c1, rfl, o1, b1, _⟩
  obtain ⟨A2, c2, e2, hs1⟩ := o1.sl
  cases e2
  have hc := conv_bytes hs1
  rw [List.nil_append, intsB_one, HR.out] at hc
  go_wp2_with fail
  go_ret
  exact ⟨rfl, ((Below.refl _ _).alloc (Nat.le_refl _) _).trans (b1.mono (by simp))⟩
end Go.Proofs.Ytkkjjhkhpibaiaa.Im
