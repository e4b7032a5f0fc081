/-
  The contract of codepoint.Hex, for every int: the digits, written into an array of the call's own.
-/
import Derived.Test.YtkfchcmbpgcncaaDoorCpRefHex
namespace Go.Proofs.YtkfchcmbpgcncaaDoor
open Go.RowKit
set_option linter.unusedVariables false

/-- The array's cells, j digits written. -/
def hexCells (j m : Nat) : Array Value := (List.replicate (6 - j) (Value.int .u8 0) ++ (digs j m).map fun b => Value.int .u8 (b.toNat : Int)).toArray

theorem hexCells_size {j m : Nat} (h : j ≤ 6) : (hexCells j m).size = 6 := by simp [hexCells, digs_length]; omega
theorem hexCells_zero (m : Nat) : hexCells 0 m = #[.int .u8 0, .int .u8 0, .int .u8 0, .int .u8 0, .int .u8 0, .int .u8 0] := rfl
theorem hexCells_step {j m i : Nat} (h : i + j + 1 = 6) : (hexCells j m).setIfInBounds i (.int .u8 (tabN (sh j m % 16))) = hexCells (j + 1) m := by
  have e : ((hd (sh j m % 16)).toNat : Int) = tabN (sh j m % 16) := hd_toNat _ (Nat.mod_lt _ (by omega))
  have e1 : 6 - j = i + 1 := by omega
  have e2 : 6 - (j + 1) = i := by omega
  simp only [hexCells, digs, e1, e2, List.map_cons, e, List.setIfInBounds_toArray]
  congr 1
  rw [List.replicate_succ', List.append_assoc, List.set_append_right _ _ (by simp)]
  simp
/-- The world w, and the array's block behind it. -/
def HasCells (w wr : World) (j m : Nat) : Prop := wr = w.alloc (.cells (hexCells j m) 63)
theorem HasCells.tab {w wr : World} {j m : Nat} (h : HasCells w wr j m) (ht : Tab w) (i : Nat) (hi : i < 16) : wr.cell? ⟨0, i, none⟩ = some (.int .u8 (tabN i)) := by
  have hl := ht.lt
  obtain ⟨t, fr, hg⟩ := ht
  rw [h, World.cell?_alloc_lt w _ _ hl, cell_of_row w _ i tabCells t fr hg]
  exact tabCells_at hi
theorem HasCells.cell {w wr : World} {j m : Nat} (h : HasCells w wr j m) {i : Nat} (hi : i < 6 - j) : wr.cell? ⟨w.heap.size, i, none⟩ = some (.int .u8 0) := by
  rw [h, cell_of_row _ _ i _ _ _ (heap_alloc_new w _)]
  simp [hexCells, List.getElem?_append_left, hi]
theorem HasCells.frozen {w wr : World} {j m : Nat} (h : HasCells w wr j m) {i : Nat} : wr.frozen? ⟨w.heap.size, i, none⟩ = false := by
  have e := heap_alloc_new w (.cells (hexCells j m) 63)
  rw [← h] at e
  simp only [World.frozen?, e]
  simp
theorem HasCells.step {w wr : World} {j m i : Nat} (h : HasCells w wr j m) (hi : i + j + 1 = 6) : HasCells w (wr.setCell ⟨w.heap.size, i, none⟩ (.int .u8 (tabN (sh j m % 16)))) (j + 1) m := by
  unfold HasCells
  rw [h, World.setCell_alloc_at _ _ _ _ _ rfl, hexCells_step hi]
theorem HasCells.digit {w wr : World} {j m f : Nat} (h : HasCells w wr j m) (hf : f + j = 6) (i : Nat) (hi : i < (digs j m).length) :
    wr.cell? (Addr.add ⟨w.heap.size, f, none⟩ i) = some (.int .u8 (((digs j m)[i]).toNat : Int)) := by
  have e : (Addr.add ⟨w.heap.size, f, none⟩ i) = ⟨w.heap.size, f + i, none⟩ := by simp [Addr.add]
  rw [e, h, cell_of_row _ _ (f + i) _ _ _ (heap_alloc_new w _)]
  have e1 : 6 - j = f := by omega
  simp only [hexCells, e1]
  simp [List.getElem?_append_right, List.getElem?_eq_getElem hi]
theorem slice_at0 (B : Nat) (W : World) : (Instr.sliceAt 63 (.pointer (some ⟨B, 0, none⟩)) (some (.int .i64 0)) none none).run Tryd.prog W = .ok (.slice (some ⟨B, 0, none⟩) 6 6) W := by kernel_rfl
theorem slice_at1 (B : Nat) (W : World) : (Instr.sliceAt 63 (.pointer (some ⟨B, 0, none⟩)) (some (.int .i64 1)) none none).run Tryd.prog W = .ok (.slice (some ⟨B, 1, none⟩) 5 5) W := by kernel_rfl
theorem slice_at2 (B : Nat) (W : World) : (Instr.sliceAt 63 (.pointer (some ⟨B, 0, none⟩)) (some (.int .i64 2)) none none).run Tryd.prog W = .ok (.slice (some ⟨B, 2, none⟩) 4 4) W := by kernel_rfl

set_option maxHeartbeats 400000 in
theorem hex_any (c : Int) (w : World) (ht : Tab w) : Calls Tryd.prog 28 #[.int .i64 c] w (Makes (.string (bytesOf (hexL c))) w) := by
  rcases hv : isValid c with _ | _
  · have H := Lib.hid (hexL_not hv)
    go_enter Tryd.func28, Tryd.ntmps28
    go_wp2_with (go_at_call 37; refine (valid_any _ _).mono ?_; rintro e w' ⟨rfl, rfl⟩)
    go_ret
    exact ⟨congrArg (fun b => Ending.returned (.string b)) (show (⟨#[]⟩ : ByteArray) = bytesOf (hexL c) by rw [H.out]; rfl), Below.refl _ _⟩
  · obtain ⟨h0, h1⟩ := isValid_bounds hv
    obtain ⟨m, rfl⟩ := Int.eq_ofNat_of_zero_le h0
    have HV := Lib.hid hv
    go_enter Tryd.func28, Tryd.ntmps28
    go_wp2_with (go_at_call 37; refine (valid_any _ _).mono ?_; rintro e w' ⟨rfl, rfl⟩)
    clear hv
    have hB := ht.lt
    go_loopw [0, 4] (fun c i wr => ∃ (j x f : Nat), c = .int .i64 x ∧ i = .int .i64 f ∧ f + j = 6 ∧ Hid (x = sh j m) ∧ Taken m j ∧ HasCells w wr j m) (fun c i _ => (intOf c).toNat + (intOf i).toNat)
    case atStart => exact ⟨0, m, 6, rfl, rfl, rfl, Lib.hid rfl, Taken.zero m, rfl⟩
    case round =>
      obtain ⟨j, x, f, rfl, rfl, hf, HX, hk, hw⟩ := hrel
      have hj6 := hk.1
      have hxm : x ≤ m := by rw [HX.out]; exact sh_le j m
      have HW := Lib.hid hw
      have htab := hw.tab ht (x % 16) (Nat.mod_lt _ (by omega))
      clear hw
      by_cases hgo : j < 4 ∨ 0 < x
      · have HT := Lib.hid (hk.step (by omega) (by rcases hgo with h | h; exact .inl h; exact .inr (by rw [← HX.out]; omega)))
        have hj7 : j + 1 ≤ 6 := HT.out.1
        clear hk
        obtain ⟨g, rfl⟩ : ∃ g, f = g + 1 := ⟨f - 1, by omega⟩
        have hcell := HW.out.cell (i := g) (by omega)
        have hfz := HW.out.frozen (i := g)
        rcases Nat.eq_zero_or_pos x with hx0 | hx0
        · subst hx0
          simp only [Nat.zero_mod] at htab
          have HC : Hid (HasCells w (wr.setCell ⟨w.heap.size, g, none⟩ (.int .u8 (tabN 0))) (j + 1) m) := Lib.hid (by
            have := HW.out.step (i := g) (by omega)
            rw [← HX.out] at this
            exact this)
          go_wp2
          go_roundw
          case rel => exact ⟨j + 1, 0, g, rfl, rfl, by omega, Lib.hid (sh_less HX.out.symm).symm, HT.out, HC.out⟩
          case measure => simp only [intOf]; omega
        · have HC : Hid (HasCells w (wr.setCell ⟨w.heap.size, g, none⟩ (.int .u8 (tabN (x % 16)))) (j + 1) m) := Lib.hid (by
            have := HW.out.step (i := g) (by omega)
            rw [← HX.out] at this
            exact this)
          go_wp2
          go_roundw
          case rel => exact ⟨j + 1, x / 16, g, by go_num, rfl, by omega, Lib.hid (sh_step HX.out), HT.out, HC.out⟩
          case measure => simp only [intOf]; omega
      · have h4 : ¬ j < 4 := fun h => hgo (.inl h)
        obtain rfl : x = 0 := by omega
        have HE := Lib.hid (hexL_taken HV.out (j := j) (hk.stop (by omega) HX.out.symm))
        clear hk
        obtain ⟨r, hr⟩ : ∃ r, r = bytesOf (digs j m) := ⟨_, rfl⟩
        have hcv : (convert 39 9 (.slice (some ⟨w.heap.size, f, none⟩) j (6 - f))).run Tryd.prog wr = .ok (.string r) wr := by
          have := run_convert_bytes_back (P := Tryd.prog) wr 39 9 5 ⟨w.heap.size, f, none⟩ (6 - f) (digs j m) Tryd.underlying39 Tryd.underlying5 Tryd.underlying9 (fun i hi => HW.out.digit hf i hi)
          rw [digs_length] at this
          rw [hr]
          exact this
        have HR := Lib.hid hr
        have HB : Hid (Below w.heap.size w wr) := Lib.hid (by rw [HW.out]; exact (Below.refl _ _).alloc (Nat.le_refl _) _)
        have hj : j = 6 - f := by omega
        rw [hj] at hcv
        have hf012 : f = 0 ∨ f = 1 ∨ f = 2 := by omega
        clear hr hj hf
        rcases hf012 with e | e | e <;> subst e
        · have hsl := slice_at0 w.heap.size wr
          go_wp2
          go_ret
          exact ⟨congrArg (fun b => Ending.returned (.string b)) (show r = bytesOf (hexL m) by rw [HR.out, HE.out]; rfl), HB.out⟩
        · have hsl := slice_at1 w.heap.size wr
          go_wp2
          go_ret
          exact ⟨congrArg (fun b => Ending.returned (.string b)) (show r = bytesOf (hexL m) by rw [HR.out, HE.out]; rfl), HB.out⟩
        · have hsl := slice_at2 w.heap.size wr
          go_wp2
          go_ret
          exact ⟨congrArg (fun b => Ending.returned (.string b)) (show r = bytesOf (hexL m) by rw [HR.out, HE.out]; rfl), HB.out⟩
end Go.Proofs.YtkfchcmbpgcncaaDoor
