/-
  The contract of package escape's ParseCodes.
-/
import Derived.Test.YtkfchcmbpgcncaaDoorEsCodes
namespace Go.Proofs.YtkfchcmbpgcncaaDoor.Es
open Go.RowKit
set_option linter.unusedVariables false

/-- A list of ints in memory and an error's number. -/
def ListErr (p : List Int × Int) (w : World) (e : Ending) (w' : World) : Prop := ∃ A n c, e = .returned (.tuple #[.slice A n c, .int .i64 p.2]) ∧ Sl w' A n c 1 (ints p.1) ∧ Below w.heap.size w w'
theorem pc_step {ps : List (List UInt8)} {k : Nat} {acc : List Int} {p : List UInt8} {x : Int} (hk : k < ps.length) (hp : ps.getD k [] = p) (h : parseR p = (x, 0)) : pcGo (ps.drop k) acc = pcGo (ps.drop (k + 1)) (acc ++ [x]) := by
  rw [List.drop_eq_getElem_cons hk]
  rw [List.getD, List.getElem?_eq_getElem hk] at hp
  simp only [Option.getD_some] at hp
  rw [hp, pcGo, h]
  simp
theorem pc_bad {ps : List (List UInt8)} {k : Nat} {acc : List Int} {p : List UInt8} {x : Int} (hk : k < ps.length) (hp : ps.getD k [] = p) (h : parseR p = (x, 3)) : pcGo (ps.drop k) acc = ([], 3) := by
  rw [List.drop_eq_getElem_cons hk]
  rw [List.getD, List.getElem?_eq_getElem hk] at hp
  simp only [Option.getD_some] at hp
  rw [hp, pcGo, h]
  simp
theorem pc_end {ps : List (List UInt8)} {k : Nat} {acc : List Int} (hk : ps.length ≤ k) : pcGo (ps.drop k) acc = (acc, 0) := by
  rw [List.drop_eq_nil_of_le hk, pcGo]
theorem parse_x {p : List UInt8} {x y : Int} (h : parseR p = (x, y)) (hp : p.length ≤ 100000) (w : World) (ht : Tab w) : Calls Tryd.prog 30 #[.string (bytesOf p)] w (Gives (.tuple #[.int .i64 x, .int .i64 y]) w) := by
  have := parse_any (bytesOf p) (by rw [bytesOf_size]; unfold maxLen; omega) w ht
  rw [bytesOf_list, h] at this
  exact this
theorem getD_mem {ps : List (List UInt8)} {k : Nat} (h : k < ps.length) : ps.getD k [] ∈ ps := by
  rw [List.getD, List.getElem?_eq_getElem h]
  exact List.getElem_mem h
theorem pcR_some {l : List UInt8} (h : l ≠ []) : pcR l = pcGo (cutL 32 l) [] := by unfold pcR; rw [if_neg h]
theorem list_ne {s : ByteArray} (h : 0 < s.size) : s.data.toList ≠ [] := by
  intro e
  have := length_of s
  rw [e] at this
  simp at this
  omega

set_option maxRecDepth 100000 in
set_option maxHeartbeats 2000000 in
theorem pcodes_any (s : ByteArray) (hs : s.size ≤ 50000) (w : World) (he : Env w) : Calls Tryd.prog 17 #[.string s] w (ListErr (pcR s.data.toList) w) := by
  rcases Nat.eq_zero_or_pos s.size with h0 | h0
  · have e1 := str_none h0
    have HE : Hid (pcR s.data.toList = ([], 0)) := Lib.hid (by
      have : s.data.toList = [] := List.eq_nil_of_length_eq_zero (by rw [length_of]; exact h0)
      rw [this]; rfl)
    go_enter Tryd.func17, Tryd.ntmps17
    go_wp2
    go_ret2
    rw [HE.out]
    exact ⟨none, 0, 0, rfl, Sl.nil _ _, Below.refl _ _⟩
  · have e1 := str_some h0
    have e2 : s.toList ≠ [] := by
      intro e
      rw [e] at e1
      simp at e1
    have HE := Lib.hid (pcR_some (list_ne h0))
    have hmem := Lib.hid (cutL_mem_len 32 s.data.toList)
    have hcl := cutL_length 32 s.data.toList
    have hcc := List.count_le_length (a := (32 : UInt8)) (l := s.data.toList)
    rw [length_of] at hcc
    obtain ⟨ps, hps⟩ : ∃ ps, cutL 32 s.data.toList = ps := ⟨_, rfl⟩
    rw [hps] at hcl
    have HP := Lib.hid hps
    go_enter Tryd.func17, Tryd.ntmps17
    go_wp2_with (go_at_call 29; refine (split_any s 32 (by omega) _ he.max).mono ?_; rintro e w1 ⟨A, m, c, rfl, hl, hb1⟩)
    clear hps
    rw [HP.out] at hl
    have hm := Lib.hid hl.scount
    have hcap := hl.cap
    have hmax := hl.max
    have hb1s := hb1.size
    have hm2 : m ≤ 50001 := by rw [hm.out]; omega
    clear hcl
    go_loopw [4, 14] (fun v i wr => ∃ (k : Nat) (acc : List Int), k ≤ m ∧ i = .int .i64 k ∧ Own wr w1.heap.size 3 1 v k (ints acc) ∧ Below w1.heap.size w1 wr ∧ Hid (pcGo ps [] = pcGo (ps.drop k) acc)) (fun _ i _ => m - (intOf i).toNat)
    case atStart => exact ⟨0, [], Nat.zero_le _, rfl, Own.nil _ _ _ _, Below.refl _ _, Lib.hid rfl⟩
    case round =>
      obtain ⟨k, acc, hk, rfl, ho, hb, HG⟩ := hrel
      have hbs := hb.size
      have henv : Env wr := (he.next hb1).next hb
      by_cases hlt : k < m
      · obtain ⟨b, off, rfl, _, hcell⟩ := (hl.keep hb).str_at hlt
        have hkp : k < ps.length := by rw [← hm.out]; exact hlt
        obtain ⟨p, hp⟩ : ∃ p, ps.getD k [] = p := ⟨_, rfl⟩
        rw [hp] at hcell
        have hpl : p.length ≤ 50000 := by
          have := hmem.out p (by rw [← hp, HP.out]; exact getD_mem hkp)
          rw [length_of] at this
          omega
        have hpl2 : (bytesOf p).size ≤ 50000 := by rw [bytesOf_size]; exact hpl
        obtain ⟨⟨x, y⟩, hxy⟩ : ∃ q, parseR p = q := ⟨_, rfl⟩
        have hy := parseR_err p
        rw [hxy] at hy
        rcases hy with hy | hy <;> simp only at hy <;> subst hy
        · have HS := Lib.hid (pc_step (acc := acc) hkp hp hxy)
          have HX := Lib.hid hxy
          clear hxy hp
          go_wp2_with (first | (go_at_call 30; refine (parse_x HX.out (by omega) _ henv.tab).mono ?_; rintro e w' ⟨rfl, rfl⟩) | (at_builtin; refine wpList_append_ints rfl (.tmp 26) (.tmp 28) rfl w1.heap.size _ k acc rfl (ho.alloc _) _ 1 1 [x] rfl (Sl.built wr 3 1 1 _ rfl (by unfold maxLen; omega)) (k + 1) rfl (acc ++ [x]) rfl (by omega) (by simp; omega) ?_; intro v2 w2 o2 b2))
          go_roundw
          case rel => exact ⟨k + 1, acc ++ [x], by omega, by go_num, o2, (hb.alloc hbs _).trans b2, Lib.hid (by rw [HG.out, HS.out])⟩
          case measure => simp [intOf]; omega
        · have HS := Lib.hid (pc_bad (acc := acc) hkp hp hxy)
          have HX := Lib.hid hxy
          clear hxy hp
          go_wp2_with (go_at_call 30; refine (parse_x HX.out (by omega) _ henv.tab).mono ?_; rintro e w' ⟨rfl, rfl⟩)
          go_ret2
          rw [HE.out, HP.out, HG.out, HS.out]
          exact ⟨none, 0, 0, rfl, Sl.nil _ _, hb1.trans (hb.mono hb1s)⟩
      · have HS := Lib.hid (pc_end (ps := ps) (acc := acc) (k := k) (by rw [← hm.out]; omega))
        obtain ⟨E, g, rfl, hlo⟩ := ho.sl
        go_wp2
        go_ret2
        rw [HE.out, HP.out, HG.out, HS.out]
        exact ⟨E, k, g, rfl, hlo, hb1.trans (hb.mono hb1s)⟩
end Go.Proofs.YtkfchcmbpgcncaaDoor.Es
