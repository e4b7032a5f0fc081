/-
  Lists of strings in memory; strings.Split at a separator of one byte.
-/
import Derived.Test.YtkfchcmbpgcncaaDoorCutL
import Derived.Test.YtkfchcmbpgcncaaDoorMem
import Derived.Test.YtkfchcmbpgcncaaDoorCpRefHex
import Derived.Test.YtkfchcmbpgcncaaDoorShelf
namespace Go.Proofs.YtkfchcmbpgcncaaDoor
open Go.RowKit
set_option linter.unusedVariables false

def strV (p : List UInt8) : Value := .string (bytesOf p)
/-- The cells of a list of strings. -/
def strs (ps : List (List UInt8)) : List Value := ps.map strV
theorem strs_length (ps : List (List UInt8)) : (strs ps).length = ps.length := by simp [strs]
theorem strs_append (xs ys : List (List UInt8)) : strs xs ++ strs ys = strs (xs ++ ys) := by simp [strs]
theorem strs_one (ps : List (List UInt8)) : ∀ v ∈ strs ps, v.oneCell' = true := by
  intro v hv
  obtain ⟨x, _, rfl⟩ := List.mem_map.1 hv
  rfl
theorem strs_at {ps : List (List UInt8)} {k : Nat} (h : k < ps.length) : (strs ps)[k]? = some (.string (bytesOf (ps.getD k []))) := by simp [strs, strV, List.getElem?_eq_getElem h, List.getD]
theorem Sl.scount {w : World} {A : Option Addr} {n c : Nat} {ps : List (List UInt8)} (h : Sl w A n c 1 (strs ps)) : n = ps.length := by have := h.1; rw [strs_length] at this; omega
theorem Sl.str_at {w : World} {A : Option Addr} {n c : Nat} {ps : List (List UInt8)} (h : Sl w A n c 1 (strs ps)) {k : Nat} (hk : k < n) :
    ∃ b off, A = some ⟨b, off, none⟩ ∧ b < w.heap.size ∧ w.cell? ⟨b, off + k, none⟩ = some (.string (bytesOf (ps.getD k []))) :=
  h.2.2.2.2 k _ (strs_at (by rw [← h.scount]; exact hk))
theorem string_info : (Tryd.prog.info? 9).map (fun i => (i.zero, i.size, i.bytes)) = some (some (.string ByteArray.empty), 1, 16) := by kernel_rfl
/-- 'append(out, xs...)' of strings. -/
theorem wpList_append_strs {w : World} {ops : Array Oper} {rest : List Oper} {o : Oper} {a : Act} {Q : Exit → Act → World → Prop} (hgd : o.guard = none) (s x : Operand)
    (ho : o.op = .call { callee := .builtin .append, args := #[s, x], argTypes := #[53, 53] }) (base : Nat) (v : Value) (n : Nat) (xs : List (List UInt8)) (hs : a.eval s = v) (hown : Own w base 9 1 v n (strs xs))
    (A : Option Addr) (m c : Nat) (ys : List (List UInt8)) (hx : a.eval x = .slice A m c) (hl : Sl w A m c 1 (strs ys)) (k : Nat) (hk : k = n + m) (zs : List (List UInt8)) (hzs : zs = xs ++ ys) (hsz : k ≤ 1000000) (hbase : base ≤ w.heap.size)
    (h : ∀ v' w', Own w' base 9 1 v' k (strs zs) → Below base w w' → wpList Tryd.prog ops Q rest (a.put o.dst v') w') : wpList Tryd.prog ops Q (o :: rest) a w :=
  wpList_append_cells hgd s x 53 9 1 16 (.string ByteArray.empty) Tryd.underlying53 string_info rfl (by omega) ho base v n _ hs hown A m c _ hx hl (strs_one _) k hk _ (by rw [hzs, strs_append]) (by unfold maxLen; omega) (by omega) hbase h
/-- The library's variable MaxLen holds a number. -/
def MaxL (w : World) : Prop := ∃ m, w.cell? ⟨1, 0, none⟩ = some (.int .i64 m)
theorem MaxL.lt {w : World} (h : MaxL w) : 1 < w.heap.size := by
  obtain ⟨m, h⟩ := h
  rcases Nat.lt_or_ge 1 w.heap.size with hlt | hge
  · exact hlt
  · simp [World.cell?, Array.getElem?_eq_none hge] at h
theorem MaxL.below {w w' : World} (h : MaxL w) {B : Nat} (hB : 1 < B) (hb : Below B w w') : MaxL w' := by
  obtain ⟨m, h⟩ := h
  exact ⟨m, (hb.cell (p := ⟨_, 0, none⟩) hB).trans h⟩
theorem MaxL.of {w : World} (h : w.ShapedOpen Tryd.prog) : MaxL w := Tryd.laysM146.s1_3 w h
/-- The call returns a list of strings in memory, all old memory as it was. -/
def StrLists (ps : List (List UInt8)) (w : World) (e : Ending) (w' : World) : Prop := ∃ A n c, e = .returned (.slice A n c) ∧ Sl w' A n c 1 (strs ps) ∧ Below w.heap.size w w'
theorem bytesOf_data (s : ByteArray) : bytesOf s.data.toList = s := by
  apply ByteArray.ext
  simp [bytesOf]
theorem split_any (s : ByteArray) (c : UInt8) (hs : s.size ≤ 100000) (w : World) (hm : MaxL w) :
    Calls Tryd.prog 29 #[.string s, .string ⟨#[c]⟩] w (StrLists (cutL c s.data.toList) w) := by
  obtain ⟨m, hm⟩ := hm
  have hc := cutL_length c s.data.toList
  have e : (Lib.splitB ⟨#[c]⟩ 0 (Lib.countB s ⟨#[c]⟩) s).map Value.string = strs (cutL c s.data.toList) := by
    rw [← splitB_cut, strs, List.map_map]
    refine List.map_congr_left fun x _ => ?_
    simp only [Function.comp, strV, bytesOf_data]
  have hn : Lib.countB s ⟨#[c]⟩ + 1 = (strs (cutL c s.data.toList)).length := by
    rw [← e, List.length_map, Lib.splitB_all _ (by show 1 ≤ 1; omega) 0 _ s rfl]
  have hle := Lib.countB_le ⟨#[c]⟩ (by show 1 ≤ 1; omega) s.size s (Nat.le_refl _)
  refine (Tryd.strings_Split s ⟨#[c]⟩ m w (by omega) hm (by show 1 ≤ 1; omega)).mono ?_
  rintro e' w' ⟨rfl, rfl⟩
  rw [e]
  exact ⟨_, _, _, rfl, Sl.built w 9 1 _ _ (by omega) (by unfold maxLen; omega), (Below.refl _ _).alloc (Nat.le_refl _) _⟩
end Go.Proofs.YtkfchcmbpgcncaaDoor
