/-
  Strings as lists of bytes, lists of bytes in memory, results with faults: words and laws that are shared by the layers that read and write texts.
-/
import Derived.Test.YtkfchcmbpgcncaaDoorMem
import Derived.Test.YtkfchcmbpgcncaaDoorCpTab
import Derived.Laws.BytesArg
import Derived.Lib.AppendStr
namespace Go.Proofs.YtkfchcmbpgcncaaDoor
open Go.RowKit
set_option linter.unusedVariables false

/-- The bytes of a string as ints. -/
def strInts (s : ByteArray) : List Int := s.data.toList.map (fun b => (b.toNat : Int))
theorem strInts_len (s : ByteArray) : (strInts s).length = s.size := by simp [strInts]
theorem strInts_at {s : ByteArray} {k : Nat} (h : k < s.size) : (strInts s).getD k 0 = (s[k].toNat : Int) := by
  have : k < (strInts s).length := by rw [strInts_len]; exact h
  rw [List.getD, List.getElem?_eq_getElem this]
  simp [strInts]
  rfl
theorem wrap_byte (b : UInt8) : wrap64 (b.toNat : Int) = (b.toNat : Int) := by
  have := b.toNat_lt
  unfold wrap64
  omega
theorem strInts_take {s : ByteArray} {k : Nat} (h : k < s.size) : (strInts s).take (k + 1) = (strInts s).take k ++ [((s[k]'h).toNat : Int)] := by
  have h2 : k < (strInts s).length := by rw [strInts_len]; exact h
  rw [List.take_succ_eq_append_getElem h2]
  congr 2
  have := strInts_at h
  rw [List.getD, List.getElem?_eq_getElem h2] at this
  exact this
theorem strInts_drop (s : ByteArray) (k : Nat) : strInts (s.extract k s.size) = (strInts s).drop k := by
  simp only [strInts, ByteArray.data_extract, Array.toList_extract, List.extract, List.map_take, List.map_drop]
  exact List.take_of_length_le (by simp)
theorem str_some {s : ByteArray} (h : 0 < s.size) : s.toList.isEmpty = false := by
  rw [ByteArray.toList_eq]
  cases hl : s.data.toList with
  | nil => exfalso; have : s.data.toList.length = s.size := by simp
           rw [hl] at this; simp at this; omega
  | cons _ _ => rfl
theorem str_none {s : ByteArray} (h : s.size = 0) : s.toList.isEmpty = true := by
  rw [ByteArray.toList_eq]
  have : s.data.toList.length = 0 := by simpa using h
  rw [List.eq_nil_of_length_eq_zero this]
  rfl
theorem strOf_ints {l : List Int} (h : ∀ x ∈ l, 0 ≤ x ∧ x ≤ 255) : strInts (strOfNums l) = l := by
  unfold strInts
  rw [strOfNums_data, List.map_map]
  conv => rhs; rw [← List.map_id l]
  refine List.map_congr_left fun x hx => ?_
  have := h x hx
  simp only [Function.comp, id]
  rw [UInt8.toNat_ofNat_of_lt' (by show x.toNat < 256; omega)]
  omega
theorem strOf_append (a b : List Int) : strOfNums a ++ strOfNums b = strOfNums (a ++ b) := by
  apply ByteArray.ext
  apply Array.ext'
  simp [strOfNums]

/-- The cells of a list of bytes. -/
def bys (l : List Int) : List Value := l.map (Value.int .u8)
theorem bys_append (a b : List Int) : bys a ++ bys b = bys (a ++ b) := by simp [bys]
theorem bys_one (l : List Int) : ∀ v ∈ bys l, v.oneCell' = true := by
  intro v hv
  obtain ⟨x, _, rfl⟩ := List.mem_map.1 hv
  rfl
theorem byte_info : (Tryd.prog.info? 5).map (fun i => (i.zero, i.size, i.bytes)) = some (some (.int .u8 0), 1, 1) := by kernel_rfl
/-- 'append(out, xs...)' of bytes. -/
theorem wpList_append_bytes {w : World} {ops : Array Oper} {rest : List Oper} {o : Oper} {a : Act} {Q : Exit → Act → World → Prop} (hgd : o.guard = none) (s x : Operand)
    (ho : o.op = .call { callee := .builtin .append, args := #[s, x], argTypes := #[39, 39] }) (base : Nat) (v : Value) (n : Nat) (xs : List Int) (hs : a.eval s = v) (hown : Own w base 5 1 v n (bys xs))
    (A : Option Addr) (m c : Nat) (ys : List Int) (hx : a.eval x = .slice A m c) (hl : Sl w A m c 1 (bys ys)) (k : Nat) (hk : k = n + m) (zs : List Int) (hzs : zs = xs ++ ys) (hsz : k ≤ 1000000) (hbase : base ≤ w.heap.size)
    (h : ∀ v' w', Own w' base 5 1 v' k (bys zs) → Below base w w' → wpList Tryd.prog ops Q rest (a.put o.dst v') w') : wpList Tryd.prog ops Q (o :: rest) a w :=
  wpList_append_cells hgd s x 39 5 1 1 (.int .u8 0) Tryd.underlying39 byte_info rfl (by omega) ho base v n _ hs hown A m c _ hx hl (bys_one _) k hk _ (by rw [hzs, bys_append]) (by unfold maxLen; omega) (by omega) hbase h
/-- The call returns a list of bytes that the call's own memory holds, from 'base' on. -/
def GrowsBytes (base n : Nat) (xs : List Int) (w : World) (e : Ending) (w' : World) : Prop := ∃ v, e = .returned v ∧ Own w' base 5 1 v n (bys xs) ∧ Below base w w'
theorem strInts_byte {s : ByteArray} {k : Nat} (h : k < s.size) : ∃ b : Nat, b ≤ 255 ∧ (s[k]'h).toNat = b ∧ (strInts s).getD k 0 = (b : Int) := by
  refine ⟨(s[k]'h).toNat, ?_, rfl, strInts_at h⟩
  have := (s[k]'h).toNat_lt
  omega
/-- The call returns a string and a fault, all old memory as it was. -/
def StrFault (s : ByteArray) (r a : Int) (w : World) (e : Ending) (w' : World) : Prop := e = .returned (.tuple #[.string s, .agg #[.int .i64 r, .int .i64 a]]) ∧ Below w.heap.size w w'
theorem conv_bytes {w : World} {A : Option Addr} {n c : Nat} {l : List Int} (h : Sl w A n c 1 (bys l)) : (convert 39 9 (.slice A n c)).run Tryd.prog w = .ok (.string (strOfNums l)) w := by
  have hl : l.length = n := by have := h.1; simp [bys] at this; omega
  rcases Nat.eq_zero_or_pos n with h0 | h0
  · subst h0
    obtain rfl : l = [] := List.eq_nil_of_length_eq_zero hl
    rcases A with _ | ⟨b, off, spot⟩
    · exact run_convert_bytes_nil w 39 5 Tryd.underlying39 Tryd.underlying5 0 c 9 Tryd.underlying9
    · rw [run_convert_bytes_string w _ _ 5 _ _ _ Tryd.underlying39 Tryd.underlying5 Tryd.underlying9]
      have hld : (loadCells ⟨b, off, spot⟩ 0).run Tryd.prog w = .ok (([] : List Int).map (Value.int .u8)).toArray w := run_loadCells_list (P := Tryd.prog) w ⟨b, off, spot⟩ [] (fun j v hj => by simp at hj)
      rw [run_bytesToString w _ 0 c [] hld]
      rfl
  · have hcell : ∀ j, j < n → ∃ b off, A = some ⟨b, off, none⟩ ∧ w.cell? ⟨b, off + j, none⟩ = some (.int .u8 (l.getD j 0)) := fun j hj => by
      obtain ⟨b, off, e, _, hc⟩ := h.2.2.2.2 j (.int .u8 (l.getD j 0)) (by
        have : j < l.length := by omega
        simp [bys, List.getD, List.getElem?_eq_getElem this])
      exact ⟨b, off, e, hc⟩
    obtain ⟨b, off, rfl, _⟩ := hcell 0 h0
    refine run_convert_bytes_arg w 39 5 Tryd.underlying39 Tryd.underlying5 b off n c l hl (fun i hi => ?_) 9 Tryd.underlying9
    obtain ⟨b', off', e, hc⟩ := hcell i hi
    cases e
    exact hc

/-- The call returns a list of ints in memory and a fault, all old memory as it was. -/
def ListFault (zs : List Int) (r a : Int) (w : World) (e : Ending) (w' : World) : Prop :=
  ∃ A n c, e = .returned (.tuple #[.slice A n c, .agg #[.int .i64 r, .int .i64 a]]) ∧ Sl w' A n c 1 (ints zs) ∧ Below w.heap.size w w'
/-- A block of two cells that is known whole: what the walk asks of each. -/
theorem box2 {w : World} {g : Nat} {t : TypeId} {x y : Value} (h : w.heap[g]? = some (.cells #[x, y] t (0, 0))) :
    (w.cell? ⟨g, 0, none⟩ = some x ∧ w.cell? ⟨g, 1, none⟩ = some y) ∧ (w.frozen? ⟨g, 0, none⟩ = false ∧ w.frozen? ⟨g, 1, none⟩ = false) := by
  refine ⟨⟨cell_of_row w g 0 _ t _ h, cell_of_row w g 1 _ t _ h⟩, ?_, ?_⟩ <;> simp [World.frozen?, h]

theorem fields_fault : (Tryd.prog.fieldsOf 33).toList = [{ name := "Errno", type := 24, offset := 0, embedded := false, tag := "", pkgPath := "", byteOffset := 0 }, { name := "At", type := 3, offset := 1, embedded := false, tag := "", pkgPath := "", byteOffset := 8 }] := by kernel_rfl
theorem eq_fault (a b c d : Int) (w : World) : (Op.equalIn 10000 33 (.agg #[.int .i64 a, .int .i64 b]) (.agg #[.int .i64 c, .int .i64 d])).run Tryd.prog w = .ok (a == c && b == d) w := by
  have u3 := Tryd.underlying3
  have a3 := Tryd.isAgg3
  have z3 := Tryd.sizeOf3
  have u4 := Tryd.underlying24
  have a4 := Tryd.isAgg24
  have z4 := Tryd.sizeOf24
  rw [show (10000 : Nat) = 9999 + 1 from rfl, run_equalIn_struct _ _ _ _ _ (by kernel_rfl) (by kernel_rfl), fields_fault]
  simp only [Op.eqFields]
  go_simp
  by_cases h1 : a = c <;> by_cases h2 : b = d <;> simp [h1, h2]
theorem fault_same (a b : Int) (w : World) : (Op.equalIn 10000 33 (.agg #[.int .i64 a, .int .i64 b]) (.agg #[.int .i64 a, .int .i64 b])).run Tryd.prog w = .ok true w := by
  rw [eq_fault]
  simp
theorem Tab.alloc {w : World} (h : Tab w) (o : Obj) : Tab (w.alloc o) := h.below h.lt ((Below.refl _ w).alloc (Nat.le_refl _) o)
theorem Tab.next {w w1 : World} (h : Tab w) (hb : Below w.heap.size w w1) : Tab w1 := h.below h.lt hb
theorem Sl.alloc {w : World} {A : Option Addr} {n c size : Nat} {cs : List Value} (h : Sl w A n c size cs) (o : Obj) : Sl (w.alloc o) A n c size cs := h.keep ((Below.refl _ w).alloc (Nat.le_refl _) o)
theorem Below.past {w : World} {o : Obj} {w1 : World} (hb : Below (w.alloc o).heap.size (w.alloc o) w1) : Below w.heap.size w w1 := ((Below.refl _ _).alloc (Nat.le_refl _) _).trans (hb.mono (by simp))
theorem Below.then {w w1 w2 : World} (h : Below w.heap.size w w1) (h2 : Below w1.heap.size w1 w2) : Below w.heap.size w w2 := h.trans (h2.mono h.size)
theorem ml (n : Nat) (h : n ≤ 1000) : n ≤ maxLen := by unfold maxLen; omega

theorem vint {a b : Int} (h : a = b) : Value.int .i64 a = .int .i64 b := by rw [h]

theorem strInts_range (s : ByteArray) : ∀ x ∈ strInts s, 0 ≤ x ∧ x ≤ 255 := by
  intro x hx
  obtain ⟨b, _, rfl⟩ := List.mem_map.1 hx
  have := b.toNat_lt
  omega
theorem strOf_strInts (s : ByteArray) : strOfNums (strInts s) = s := by
  apply ByteArray.ext
  apply Array.ext'
  rw [strOfNums_data, strInts, List.map_map]
  conv => rhs; rw [← List.map_id s.data.toList]
  refine List.map_congr_left fun b _ => ?_
  simp
theorem strOf_inj {a b : List Int} (ha : ∀ x ∈ a, 0 ≤ x ∧ x ≤ 255) (hb : ∀ x ∈ b, 0 ≤ x ∧ x ≤ 255) (h : strOfNums a = strOfNums b) : a = b := by
  rw [← strOf_ints ha, ← strOf_ints hb, h]
theorem strCells_bys (s : ByteArray) : Go.Lib.strCells s = bys (strInts s) := by
  simp [Go.Lib.strCells, bys, strInts]
/-- 'append(out, s...)' of a string to bytes. -/
theorem wpList_append_str {w : World} {ops : Array Oper} {rest : List Oper} {o : Oper} {a : Act} {Q : Exit → Act → World → Prop} (hgd : o.guard = none) (s x : Operand)
    (ho : o.op = .call { callee := .builtin .append, args := #[s, x], argTypes := #[39, 9] }) (base : Nat) (v : Value) (n : Nat) (xs : List Int) (hs : a.eval s = v) (hown : Own w base 5 1 v n (bys xs))
    (t : ByteArray) (hx : a.eval x = .string t) (m : Nat) (hm : t.size = m) (k : Nat) (hk : k = n + m) (zs : List Int) (hzs : zs = xs ++ strInts t) (hsz : k ≤ 1000000) (hbase : base ≤ w.heap.size)
    (h : ∀ v' w', Own w' base 5 1 v' k (bys zs) → Below base w w' → wpList Tryd.prog ops Q rest (a.put o.dst v') w') : wpList Tryd.prog ops Q (o :: rest) a w := by
  obtain ⟨i, hi, hz, hsize, hby⟩ := info_parts byte_info
  subst hm hk hzs
  refine Go.Lib.wpList_append_own_string (w := w) hgd s x 39 9 ho base 5 i Tryd.underlying39 Tryd.underlying9 hi hz hsize hby v n (bys xs) hs hown t hx (by unfold maxLen; omega) (by omega) hbase ?_
  intro v' w' h2 h3 _
  refine h v' w' ?_ (below_append hown h3 hbase)
  rw [strCells_bys, bys_append] at h2
  exact h2
end Go.Proofs.YtkfchcmbpgcncaaDoor
