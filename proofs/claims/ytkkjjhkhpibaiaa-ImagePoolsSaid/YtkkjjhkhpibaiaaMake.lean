/-
  make([]int, n) and copy into what it made: the cells of a block of the call's own.
-/
import Derived.Test.YtkkjjhkhpibaiaaMem
import Derived.Laws.OwnMore
import Derived.Laws.CopyOwn
import Derived.Deep.RegionLaw
namespace Go.Proofs.Ytkkjjhkhpibaiaa
open Go.RowKit
set_option linter.unusedVariables false

/-- A block of ints of the call's own. -/
def Blk (w : World) (g : Nat) (zs : List Int) : Prop := w.heap[g]? = some (.cells (ints zs).toArray 3 (0, 0))
theorem Blk.lt {w : World} {g : Nat} {zs : List Int} (h : Blk w g zs) : g < w.heap.size := by
  unfold Blk at h
  rcases Nat.lt_or_ge g w.heap.size with hlt | hge
  · exact hlt
  · rw [Array.getElem?_eq_none hge] at h; cases h
theorem Blk.sl {w : World} {g : Nat} {zs : List Int} (h : Blk w g zs) {n : Nat} (hn : n = zs.length) (hm : n ≤ maxLen) : Sl w (some ⟨g, 0, none⟩) n n 1 (ints zs) :=
  ⟨by rw [ints_length]; omega, Nat.le_refl _, hm, (fun e => by cases e), CellsAt.of_row h (fun j u hj => by simpa using hj)⟩
theorem Blk.keep {w w' : World} {g : Nat} {zs : List Int} (h : Blk w g zs) {B : Nat} (hb : Below B w w') (hg : g < B) : Blk w' g zs := (hb.block g hg).trans h
theorem Blk.cell {w : World} {g : Nat} {zs : List Int} (h : Blk w g zs) {k : Nat} (hk : k < zs.length) : w.cell? ⟨g, k, none⟩ = some (.int .i64 (zs.getD k 0)) := by
  rw [cell_of_row w g k _ _ _ h]
  simpa using ints_at hk
theorem Blk.free {w : World} {g : Nat} {zs : List Int} (h : Blk w g zs) (k : Nat) : w.frozen? ⟨g, k, none⟩ = false := by
  unfold Blk at h
  simp [World.frozen?, h]
theorem Blk.set {w : World} {g : Nat} {zs : List Int} (h : Blk w g zs) (k : Nat) (x : Int) : Blk (w.setCell ⟨g, k, none⟩ (.int .i64 x)) g (zs.set k x) := by
  have := heap_setCell_same w g k _ _ (.int .i64 x) h
  unfold Blk
  rw [this]
  congr 2
  apply Array.ext'
  simp [ints, List.map_set]
theorem below_set {w w0 : World} {g B : Nat} (hb : Below B w0 w) (hg : B ≤ g) (k : Nat) (x : Value) : Below B w0 (w.setCell ⟨g, k, none⟩ x) := hb.setCell (by simpa using hg) _

theorem run_make_ints (w : World) {k : Int} {n : Nat} (hk : k = (n : Int)) (hn : n ≤ 100000000) :
    ∃ w', (Instr.makeSlice 26 (.int .i64 k) (.int .i64 k)).run Try.prog w = .ok (.slice (some ⟨w.heap.size, 0, none⟩) n n) w' ∧ Blk w' w.heap.size (List.replicate n 0) ∧ Below w.heap.size w w' ∧ w'.heap.size = w.heap.size + 1 := by
  subst hk
  obtain ⟨i, hi, hz, hsize, hby⟩ := info_parts int_info
  have hr := run_make (P := Try.prog) w 26 3 i (.int .i64 0) Try.underlying26 hi hz .i64 .i64 n n (by omega) (Int.le_refl _) (by rw [hby]; omega) (by omega)
  simp only [Int.toNat_natCast] at hr
  refine ⟨_, hr, ?_, (Below.refl _ _).alloc (Nat.le_refl _) _, by simp⟩
  unfold Blk
  rw [heap_alloc_new w _]
  congr 2
  apply Array.ext'
  rw [hsize, Nat.mul_one]
  show (madeCells #[.int .i64 0] n).toList = _
  rw [toList_madeCells_one]
  simp [ints]

theorem ints_one (zs : List Int) : ∀ v ∈ ints zs, v.oneCell' = true := by
  intro v hv
  obtain ⟨x, _, rfl⟩ := List.mem_map.1 hv
  rfl
theorem int_size1 : (Try.prog.info? 3).map (·.size) = some 1 := by kernel_rfl
theorem splice_ints (cur xs : List Int) (off : Nat) : splice (ints cur) off (ints xs) = ints (cur.take off ++ (xs ++ cur.drop (off + xs.length))) := by
  simp [splice, ints]

/-- 'copy(dst, src)' of ints: dst is a block of the call's own from 'off' on; k is the number of ints that are copied. -/
theorem wpList_copy_ints {w : World} {ops : Array Oper} {rest : List Oper} {o : Oper} {a : Act} {Q : Exit → Act → World → Prop} (hgd : o.guard = none) (d s : Operand)
    (ho : o.op = .call { callee := .builtin .copy, args := #[d, s], argTypes := #[26, 26] }) (dp sp : Option Addr) (dLen dCap sLen sCap : Nat) (hd : a.eval d = .slice dp dLen dCap) (hs : a.eval s = .slice sp sLen sCap)
    (g off : Nat) (cur : List Int) (hg : Blk w g cur) (xs : List Int) (hx : Sl w sp sLen sCap 1 (ints xs)) (k : Nat) (hk : k = min sLen dLen) (hdp : 0 < k → dp = some ⟨g, off, none⟩) (hfit : off + k ≤ cur.length)
    (B : Nat) (w0 : World) (hb : Below B w0 w) (hBg : B ≤ g) (zs : List Int) (hz : zs = cur.take off ++ (xs.take k ++ cur.drop (off + k)))
    (h : ∀ w', Hid (Blk w' g zs) → Below B w0 w' → wpList Try.prog ops Q rest (a.put o.dst (.int .i64 (k : Int))) w') : wpList Try.prog ops Q (o :: rest) a w := by
  have hc := hx.count
  have hlen : (xs.take k).length = k := by rw [List.length_take]; omega
  refine wpList_copy_splice hgd d s 26 26 ho 3 Try.underlying26 int_size1 dp sp dLen dCap sLen sCap hd hs g off (ints cur) 3 hg (ints (xs.take k)) (by rw [ints_length, hlen, hk]) ?_ (by rw [ints_length, ints_length, hlen]; exact hfit) (ints_one _) B w0 hb hBg ?_
  · intro hpos
    rw [ints_length, hlen] at hpos
    refine ⟨hdp hpos, ?_⟩
    obtain ⟨b, o', e, _, _⟩ := hx.int_at (k := 0) (by omega)
    refine ⟨⟨b, o', none⟩, e, fun j v hj => ?_⟩
    have hjl : j < (xs.take k).length := by have := (List.getElem?_eq_some_iff.1 hj).1; rwa [ints_length] at this
    have hjk : j < k := by omega
    obtain ⟨b', o'', e', _, hcell⟩ := hx.int_at (k := j) (by omega)
    rw [e] at e'
    cases e'
    rw [addr_add, hcell]
    rw [ints_at hjl] at hj
    rw [← hj]
    simp [List.getD, hjk]
  · intro w' hg' hb'
    have e : goInt (ints (xs.take k)).length = .int .i64 (k : Int) := by rw [ints_length, hlen]; rfl
    rw [e]
    refine h w' (Lib.hid ?_) hb'
    have := hg'.out
    rw [splice_ints, hlen, ← hz] at this
    exact this

/-- The same as one step of a region that draws its order. -/
theorem step_copy_ints {ops : Array Oper} {o : Oper} {a : Act} {w : World} {K : Act → World → Prop} {Q : Exit → Act → World → Prop} {E : Prop} (hgd : o.guard = none) (d s : Operand)
    (ho : o.op = .call { callee := .builtin .copy, args := #[d, s], argTypes := #[26, 26] }) (dp sp : Option Addr) (dLen dCap sLen sCap : Nat) (hd : a.eval d = .slice dp dLen dCap) (hs : a.eval s = .slice sp sLen sCap)
    (g off : Nat) (cur : List Int) (hg : Blk w g cur) (xs : List Int) (hx : Sl w sp sLen sCap 1 (ints xs)) (k : Nat) (hk : k = min sLen dLen) (hdp : 0 < k → dp = some ⟨g, off, none⟩) (hfit : off + k ≤ cur.length)
    (B : Nat) (w0 : World) (hb : Below B w0 w) (hBg : B ≤ g) (zs : List Int) (hz : zs = cur.take off ++ (xs.take k ++ cur.drop (off + k)))
    (h : ∀ w', Hid (Blk w' g zs) → Below B w0 w' → K (a.put o.dst (.int .i64 (k : Int))) w') : if Region.wanted o (yielded ops a.tmps) = true then Oper.wp Try.prog o a w K Q else E := by
  have hc := hx.count
  have hlen : (xs.take k).length = k := by rw [List.length_take]; omega
  refine step_copy_splice hgd d s 26 26 ho 3 Try.underlying26 int_size1 dp sp dLen dCap sLen sCap hd hs g off (ints cur) 3 hg (ints (xs.take k)) (by rw [ints_length, hlen, hk]) ?_ (by rw [ints_length, ints_length, hlen]; exact hfit) (ints_one _) B w0 hb hBg ?_
  · intro hpos
    rw [ints_length, hlen] at hpos
    refine ⟨hdp hpos, ?_⟩
    obtain ⟨b, o', e, _, _⟩ := hx.int_at (k := 0) (by omega)
    refine ⟨⟨b, o', none⟩, e, fun j v hj => ?_⟩
    have hjl : j < (xs.take k).length := by have := (List.getElem?_eq_some_iff.1 hj).1; rwa [ints_length] at this
    have hjk : j < k := by omega
    obtain ⟨b', o'', e', _, hcell⟩ := hx.int_at (k := j) (by omega)
    rw [e] at e'
    cases e'
    rw [addr_add, hcell]
    rw [ints_at hjl] at hj
    rw [← hj]
    simp [List.getD, hjk]
  · intro w' hg' hb'
    have e : goInt (ints (xs.take k)).length = .int .i64 (k : Int) := by rw [ints_length, hlen]; rfl
    rw [e]
    refine h w' (Lib.hid ?_) hb'
    have := hg'.out
    rw [splice_ints, hlen, ← hz] at this
    exact this
end Go.Proofs.Ytkkjjhkhpibaiaa
