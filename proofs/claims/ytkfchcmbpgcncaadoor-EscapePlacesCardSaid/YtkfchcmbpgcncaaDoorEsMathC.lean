/-
  Plain facts on notations separated by blanks (no program stands here).
-/
import Derived.Test.YtkfchcmbpgcncaaDoorEsMathB
import Derived.Test.YtkfchcmbpgcncaaDoorCutL
namespace Go.Proofs.YtkfchcmbpgcncaaDoor

theorem joinL_snoc (c : UInt8) (ps : List (List UInt8)) (q : List UInt8) : joinL c (ps ++ [q]) = if ps = [] then q else joinL c ps ++ c :: q := by
  cases ps with
  | nil => simp [joinL]
  | cons p ps => simp [joinL]
/-- The notations of a text. -/
def codesL (zs : List Int) : List UInt8 := joinL 32 (zs.map hexL)
theorem codesL_snoc (zs : List Int) (x : Int) : codesL (zs ++ [x]) = if zs = [] then hexL x else codesL zs ++ 32 :: hexL x := by
  unfold codesL
  rw [List.map_append, List.map_singleton, joinL_snoc]
  simp only [List.map_eq_nil_iff]
theorem hexL_le (c : Int) : (hexL c).length ≤ 6 := by
  unfold hexL
  split
  · rw [digs_length]; have := nd_range c.toNat; omega
  · simp
theorem codesL_len (zs : List Int) : (codesL zs).length ≤ 7 * zs.length := by
  suffices h : ∀ r : List Int, ((r.map hexL).flatMap (fun q => (32 : UInt8) :: q)).length ≤ 7 * r.length by
    cases zs with
    | nil => simp [codesL, joinL]
    | cons c r =>
      have h1 := h r
      have h2 := hexL_le c
      simp only [codesL, List.map_cons, joinL, List.length_append, List.length_cons]
      omega
  intro r
  induction r with
  | nil => simp
  | cons c r ih =>
    have := hexL_le c
    simp only [List.map_cons, List.flatMap_cons, List.length_append, List.length_cons]
    omega
theorem hexL_free {c : Int} : (32 : UInt8) ∉ hexL c := by
  by_cases h : isCode c = true
  · intro hm
    have := (valD_scan (hexL c) 0 c (scan_hexL h)).2 32 hm
    revert this
    decide
  · unfold hexL
    rw [if_neg h]
    simp
/-- Reading the pieces. -/
def pcGo : List (List UInt8) → List Int → List Int × Int
  | [], acc => (acc, 0)
  | p :: r, acc => if (parseR p).2 ≠ 0 then ([], 3) else pcGo r (acc ++ [(parseR p).1])
/-- Reading notations. -/
def pcR (l : List UInt8) : List Int × Int := if l = [] then ([], 0) else pcGo (cutL 32 l) []
theorem parseR_err (l : List UInt8) : (parseR l).2 = 0 ∨ (parseR l).2 = 3 := by
  unfold parseR
  split
  · exact .inr rfl
  · split
    · exact .inr rfl
    · unfold scanned
      split
      · exact .inr rfl
      · dsimp only
        split
        · exact .inl rfl
        · exact .inr rfl
theorem pcGo_all : ∀ (t acc : List Int), (∀ c ∈ t, isCode c = true) → pcGo (t.map hexL) acc = (acc ++ t, 0)
  | [], acc, _ => by simp [pcGo]
  | c :: t, acc, h => by
    simp only [List.map_cons, pcGo, parse_hex (h c (by simp))]
    rw [if_neg (by simp), pcGo_all t _ (fun x hx => h x (by simp [hx]))]
    simp
theorem pcR_codes {t : List Int} (h : ∀ c ∈ t, isCode c = true) : pcR (codesL t) = (t, 0) := by
  cases t with
  | nil => rfl
  | cons c t =>
    unfold pcR
    have hne : codesL (c :: t) ≠ [] := by
      intro e
      have := congrArg List.length e
      simp only [codesL, List.map_cons, joinL, List.length_append, List.length_nil] at this
      have h4 := hexL_length (h c (by simp))
      have := nd_range c.toNat
      omega
    rw [if_neg hne, codesL, List.map_cons, cut_join 32 (hexL c) (t.map hexL) (fun q hq => ?_)]
    · have := pcGo_all (c :: t) [] h
      simpa using this
    · rcases List.mem_cons.1 hq with rfl | hq
      · exact hexL_free
      · obtain ⟨x, _, rfl⟩ := List.mem_map.1 hq
        exact hexL_free
theorem isCode_of_hex {c : Int} (h : hexL c ≠ []) : isCode c = true := by
  by_cases hc : isCode c = true
  · exact hc
  · exact absurd (by unfold hexL; rw [if_neg hc]) h
theorem pcGo_back : ∀ (ps : List (List UInt8)) (acc t : List Int) (e : Int), pcGo ps acc = (t, e) → (e = 0 ∧ ∃ u, t = acc ++ u ∧ u.map hexL = ps ∧ ∀ c ∈ u, isCode c = true) ∨ (e = 3 ∧ t = [])
  | [], acc, t, e, h => by
    simp only [pcGo, Prod.mk.injEq] at h
    obtain ⟨rfl, rfl⟩ := h
    exact .inl ⟨rfl, [], by simp⟩
  | p :: r, acc, t, e, h => by
    simp only [pcGo] at h
    split at h
    · simp only [Prod.mk.injEq] at h
      exact .inr ⟨h.2.symm, h.1.symm⟩
    · rename_i h0
      have h0 : (parseR p).2 = 0 := by simpa using h0
      have hp := parse_ok h0
      rcases pcGo_back r _ t e h with ⟨he, u, hu, hm, hc⟩ | h'
      · refine .inl ⟨he, (parseR p).1 :: u, by rw [hu]; simp, by rw [List.map_cons, hp, hm], fun c hx => ?_⟩
        rcases List.mem_cons.1 hx with rfl | hx
        · refine isCode_of_hex fun e => ?_
          rw [hp] at e
          subst e
          rw [parse_nil] at h0
          cases h0
        · exact hc c hx
      · exact .inr h'
theorem pcR_back {l : List UInt8} {t : List Int} {e : Int} (h : pcR l = (t, e)) : (e = 0 ∧ codesL t = l ∧ ∀ c ∈ t, isCode c = true) ∨ (e = 3 ∧ t = []) := by
  unfold pcR at h
  split at h
  · rename_i hl
    subst hl
    simp only [Prod.mk.injEq] at h
    obtain ⟨rfl, rfl⟩ := h
    exact .inl ⟨rfl, rfl, by simp⟩
  · rcases pcGo_back _ _ _ _ h with ⟨he, u, hu, hm, hc⟩ | h'
    · refine .inl ⟨he, ?_, ?_⟩
      · rw [hu, List.nil_append, codesL, hm, join_cut]
      · rw [hu, List.nil_append]; exact hc
    · exact .inr h'
end Go.Proofs.YtkfchcmbpgcncaaDoor
