/-
  The contracts of appendUnit, Bytes, unitAt and Units of package utf16text, and of the reference's Pair.
-/
import Derived.Test.YtjfhhcaikapfiaaDoorUxProgB
import Derived.Test.YtjfhhcaikapfiaaDoorUxMathB
import Derived.Deep.QuietTactic
import Derived.BigQuiet
namespace Go.Proofs.YtjfhhcaikapfiaaDoor.Ux
open Go.RowKit
set_option linter.unusedVariables false

/-- The cells of a list of bytes. -/
def bys (l : List Int) : List Value := l.map (Value.int .u8)
theorem bys_append (a b : List Int) : bys a ++ bys b = bys (a ++ b) := by simp [bys]
theorem bys_one (l : List Int) : ∀ v ∈ bys l, v.oneCell' = true := by
  intro v hv
  obtain ⟨x, _, rfl⟩ := List.mem_map.1 hv
  rfl
theorem byte_info : (Tryd.prog.info? 5).map (fun i => (i.zero, i.size, i.bytes)) = some (some (.int .u8 0), 1, 1) := by kernel_rfl
/-- 'append(out, xs...)' of bytes. -/
theorem wpList_append_bytes {w : World} {ops : Array Oper} {rest : List Oper} {o : Oper} {a : Act} {Q : Exit → Act → World → Prop} (hgd : o.guard = none) (s x : Operand)
    (ho : o.op = .call { callee := .builtin .append, args := #[s, x], argTypes := #[51, 51] }) (base : Nat) (v : Value) (n : Nat) (xs : List Int) (hs : a.eval s = v) (hown : Own w base 5 1 v n (bys xs))
    (A : Option Addr) (m c : Nat) (ys : List Int) (hx : a.eval x = .slice A m c) (hl : Sl w A m c 1 (bys ys)) (k : Nat) (hk : k = n + m) (zs : List Int) (hzs : zs = xs ++ ys) (hsz : k ≤ 1000000) (hbase : base ≤ w.heap.size)
    (h : ∀ v' w', Own w' base 5 1 v' k (bys zs) → Below base w w' → wpList Tryd.prog ops Q rest (a.put o.dst v') w') : wpList Tryd.prog ops Q (o :: rest) a w :=
  wpList_append_cells hgd s x 51 5 1 1 (.int .u8 0) Tryd.underlying51 byte_info rfl (by omega) ho base v n _ hs hown A m c _ hx hl (bys_one _) k hk _ (by rw [hzs, bys_append]) (by unfold maxLen; omega) (by omega) hbase h

/-- The call returns a list of bytes that the call's own memory holds, from 'base' on. -/
def GrowsBytes (base n : Nat) (xs : List Int) (w : World) (e : Ending) (w' : World) : Prop := ∃ v, e = .returned v ∧ Own w' base 5 1 v n (bys xs) ∧ Below base w w'

set_option maxHeartbeats 1000000 in
theorem app_any {u : Int} {big : Bool} {base n k : Nat} {xs zs : List Int} {v : Value} (h0 : 0 ≤ u) (h1 : u ≤ 65535) (hz : xs ++ two u big = zs) (hk : n + 2 = k) (hn : n ≤ 20000) (w : World) (ho : Own w base 5 1 v n (bys xs)) (hb : base ≤ w.heap.size) :
    Calls Tryd.prog 31 #[v, .int .i64 u, .bool big] w (GrowsBytes base k zs w) := by
  have HZ := Lib.hid hz
  have HK := Lib.hid hk
  have hk2 : k ≤ 20002 := by omega
  obtain ⟨A, c, rfl, _⟩ := ho.sl
  clear hz hk
  rcases big with _ | _
  · have H2 : Hid (zs = xs ++ [u % 256, u / 256]) := Lib.hid (by rw [← HZ.out]; rfl)
    go_enter Tryd.func31, Tryd.ntmps31
    go_wp2_with (at_builtin; refine wpList_append_bytes rfl (.tmp 16) (.tmp 22) rfl base _ n xs rfl (ho.alloc _) _ 2 2 [u % 256, u / 256] rfl (Sl.built w 5 1 2 _ rfl (by unfold maxLen; omega)) k HK.out.symm zs H2.out (by omega) (by simp; omega) ?_; intro v2 w2 o2 b2)
    go_ret
    exact ⟨v2, rfl, o2, ((Below.refl base w).alloc hb _).trans b2⟩
  · have H2 : Hid (zs = xs ++ [u / 256, u % 256]) := Lib.hid (by rw [← HZ.out]; rfl)
    go_enter Tryd.func31, Tryd.ntmps31
    go_wp2_with (at_builtin; refine wpList_append_bytes rfl (.tmp 8) (.tmp 14) rfl base _ n xs rfl (ho.alloc _) _ 2 2 [u / 256, u % 256] rfl (Sl.built w 5 1 2 _ rfl (by unfold maxLen; omega)) k HK.out.symm zs H2.out (by omega) (by simp; omega) ?_; intro v2 w2 o2 b2)
    go_ret
    exact ⟨v2, rfl, o2, ((Below.refl base w).alloc hb _).trans b2⟩

theorem strInts_byte {s : ByteArray} {k : Nat} (h : k < s.size) : ∃ b : Nat, b ≤ 255 ∧ (s[k]'h).toNat = b ∧ (strInts s).getD k 0 = (b : Int) := by
  refine ⟨(s[k]'h).toNat, ?_, rfl, strInts_at h⟩
  have := (s[k]'h).toNat_lt
  omega

set_option maxHeartbeats 1000000 in
theorem uat_any {s : ByteArray} {k : Nat} {big : Bool} {r : Int} (hk : k + 1 < s.size) (hs : s.size ≤ 100000) (hr : val ((strInts s).getD k 0) ((strInts s).getD (k + 1) 0) big = r) (w : World) :
    Calls Tryd.prog 33 #[.string s, .int .i64 (k : Int), .bool big] w (Tells (.int .i64 r) w) := by
  have h1 : k < s.size := by omega
  obtain ⟨a, ha, ea, ga⟩ := strInts_byte h1
  obtain ⟨b, hb, eb, gb⟩ := strInts_byte hk
  rw [ga, gb] at hr
  have h2 : (k : Int) + 1 < (s.size : Int) := by omega
  have h3 : (0 : Int) ≤ (k : Int) + 1 := by omega
  have w1 := wr1 a ha
  have w2 := wr1 b hb
  have w3 := wr256 a ha
  have w4 := wr256 b hb
  have EA := Lib.hid ea
  have EB := Lib.hid eb
  have W1 := Lib.hid w1
  have W2 := Lib.hid w2
  have W3 := Lib.hid w3
  have W4 := Lib.hid w4
  clear ea eb ga gb w1 w2 w3 w4
  have h4 : ((k : Int) + 1).toNat = k + 1 := by omega
  have h5 : IntKind.i64.wrap ((k : Int) + 1) = (k : Int) + 1 := IntWalk.i64_in _ (by omega)
  rcases big with _ | _
  · have HR : Hid (r = 256 * (b : Int) + (a : Int)) := Lib.hid (by rw [← hr]; simp [val])
    clear hr
    go_enter Tryd.func33, Tryd.ntmps33
    go_wp2_with fail
    go_quiet (fail)
    go_wp2_with fail
    go_ret
    exact ⟨ret_int' (by rw [HR.out, ← bits_or hb ha]; show bits _ _ _ _ = _; rw [EA.out, EB.out, W1.out, W2.out, W4.out]), ⟨_, rfl⟩⟩
  · have HR : Hid (r = 256 * (a : Int) + (b : Int)) := Lib.hid (by rw [← hr]; simp [val])
    clear hr
    go_enter Tryd.func33, Tryd.ntmps33
    go_wp2_with fail
    go_quiet (fail)
    go_wp2_with fail
    go_ret
    exact ⟨ret_int' (by rw [HR.out, ← bits_or ha hb]; show bits _ _ _ _ = _; rw [EA.out, EB.out, W1.out, W2.out, W3.out]), ⟨_, rfl⟩⟩

/-- The call returns a string and a fault, all old memory as it was. -/
def StrFault (s : ByteArray) (r a : Int) (w : World) (e : Ending) (w' : World) : Prop := e = .returned (.tuple #[.string s, .agg #[.int .i64 r, .int .i64 a]]) ∧ Below w.heap.size w w'

theorem conv_bytes {w : World} {A : Option Addr} {n c : Nat} {l : List Int} (h : Sl w A n c 1 (bys l)) : (convert 51 9 (.slice A n c)).run Tryd.prog w = .ok (.string (strOfNums l)) w := by
  have hl : l.length = n := by have := h.1; simp [bys] at this; omega
  rcases Nat.eq_zero_or_pos n with h0 | h0
  · subst h0
    obtain rfl : l = [] := List.eq_nil_of_length_eq_zero hl
    rcases A with _ | ⟨b, off, spot⟩
    · exact run_convert_bytes_nil w 51 5 Tryd.underlying51 Tryd.underlying5 0 c 9 Tryd.underlying9
    · rw [run_convert_bytes_string w _ _ 5 _ _ _ Tryd.underlying51 Tryd.underlying5 Tryd.underlying9]
      have hld : (loadCells ⟨b, off, spot⟩ 0).run Tryd.prog w = .ok (([] : List Int).map (Value.int .u8)).toArray w := run_loadCells_list (P := Tryd.prog) w ⟨b, off, spot⟩ [] (fun j v hj => by simp at hj)
      rw [run_bytesToString w _ 0 c [] hld]
      rfl
  · have hcell : ∀ j, j < n → ∃ b off, A = some ⟨b, off, none⟩ ∧ w.cell? ⟨b, off + j, none⟩ = some (.int .u8 (l.getD j 0)) := fun j hj => by
      obtain ⟨b, off, e, _, hc⟩ := h.2.2.2.2 j (.int .u8 (l.getD j 0)) (by
        have : j < l.length := by omega
        simp [bys, List.getD, List.getElem?_eq_getElem this])
      exact ⟨b, off, e, hc⟩
    obtain ⟨b, off, rfl, _⟩ := hcell 0 h0
    refine run_convert_bytes_arg w 51 5 Tryd.underlying51 Tryd.underlying5 b off n c l hl (fun i hi => ?_) 9 Tryd.underlying9
    obtain ⟨b', off', e, hc⟩ := hcell i hi
    cases e
    exact hc
end Go.Proofs.YtjfhhcaikapfiaaDoor.Ux
