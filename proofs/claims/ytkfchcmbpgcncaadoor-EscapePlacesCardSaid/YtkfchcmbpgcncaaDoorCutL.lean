/-
  Plain facts on cutting a list of bytes at each occurrence of a byte (no program stands here): the library's words for strings.Split are the same; joining is the inverse.
-/
import Derived.Lib.SplitLaws
namespace Go.Proofs.YtkfchcmbpgcncaaDoor
open Go.Lib

/-- Cut at each c. -/
def cutL (c : UInt8) : List UInt8 → List (List UInt8)
  | [] => [[]]
  | b :: r => if b = c then [] :: cutL c r else match cutL c r with
    | [] => [[b]]
    | p :: ps => (b :: p) :: ps
theorem cutL_ne (c : UInt8) : ∀ l : List UInt8, cutL c l ≠ []
  | [] => by simp [cutL]
  | b :: r => by
    simp only [cutL]
    split
    · simp
    · split <;> simp
theorem cutL_hit (c : UInt8) (r : List UInt8) : cutL c (c :: r) = [] :: cutL c r := by simp [cutL]
theorem cutL_miss {b c : UInt8} (h : b ≠ c) {r p : List UInt8} {ps : List (List UInt8)} (e : cutL c r = p :: ps) : cutL c (b :: r) = (b :: p) :: ps := by
  simp only [cutL, if_neg h, e]
/-- A piece without the byte, and the byte behind it. -/
theorem cutL_piece (c : UInt8) : ∀ (a r : List UInt8), c ∉ a → cutL c (a ++ c :: r) = a :: cutL c r
  | [], r, _ => cutL_hit c r
  | b :: a, r, h => by
    have hb : b ≠ c := fun e => h (by simp [e])
    exact cutL_miss hb (cutL_piece c a r (fun hm => h (by simp [hm])))
theorem cutL_last (c : UInt8) : ∀ (a : List UInt8), c ∉ a → cutL c a = [a]
  | [], _ => rfl
  | b :: a, h => by
    have hb : b ≠ c := fun e => h (by simp [e])
    exact cutL_miss hb (cutL_last c a (fun hm => h (by simp [hm])))
/-- Pieces joined by the byte. -/
def joinL (c : UInt8) : List (List UInt8) → List UInt8
  | [] => []
  | p :: ps => p ++ ps.flatMap (fun q => c :: q)
theorem join_cut (c : UInt8) : ∀ l : List UInt8, joinL c (cutL c l) = l
  | [] => rfl
  | b :: r => by
    have ih := join_cut c r
    rcases e : cutL c r with _ | ⟨p, ps⟩
    · exact absurd e (cutL_ne c r)
    · rw [e] at ih
      by_cases h : b = c
      · subst h
        rw [cutL_hit, e]
        simp only [joinL, List.nil_append, List.flatMap_cons, List.cons_append] at ih ⊢
        rw [ih]
      · rw [cutL_miss h e]
        simp only [joinL, List.cons_append] at ih ⊢
        rw [ih]
theorem cut_join (c : UInt8) : ∀ (p : List UInt8) (ps : List (List UInt8)), (∀ q ∈ p :: ps, c ∉ q) → cutL c (joinL c (p :: ps)) = p :: ps
  | p, [], h => by simp only [joinL, List.flatMap_nil, List.append_nil]; exact cutL_last c p (h p (by simp))
  | p, q :: ps, h => by
    simp only [joinL, List.flatMap_cons, List.cons_append]
    rw [cutL_piece c p _ (h p (by simp))]
    have := cut_join c q ps (fun x hx => h x (by simp at hx ⊢; exact .inr hx))
    simp only [joinL] at this
    rw [this]
theorem cutL_free (c : UInt8) : ∀ (l : List UInt8), ∀ q ∈ cutL c l, c ∉ q
  | [], q, h => by simp [cutL] at h; simp [h]
  | b :: r, q, h => by
    rcases e : cutL c r with _ | ⟨p, ps⟩
    · exact absurd e (cutL_ne c r)
    · have ih := cutL_free c r
      rw [e] at ih
      by_cases hb : b = c
      · subst hb
        rw [cutL_hit, e] at h
        rcases List.mem_cons.1 h with rfl | h
        · simp
        · exact ih q h
      · rw [cutL_miss hb e] at h
        rcases List.mem_cons.1 h with rfl | h
        · intro hm
          rcases List.mem_cons.1 hm with rfl | hm
          · exact hb rfl
          · exact ih p (by simp) hm
        · exact ih q (by simp [h])
theorem cutL_length (c : UInt8) (l : List UInt8) : (cutL c l).length = l.count c + 1 := by
  induction l with
  | nil => rfl
  | cons b r ih =>
    rcases e : cutL c r with _ | ⟨p, ps⟩
    · exact absurd e (cutL_ne c r)
    · rw [e] at ih
      by_cases h : b = c
      · subst h
        rw [cutL_hit, e]
        simp at ih ⊢
        omega
      · rw [cutL_miss h e]
        rw [List.count_cons_of_ne (by simpa using h)]
        simpa using ih
theorem cutL_mem_len (c : UInt8) : ∀ (l : List UInt8), ∀ q ∈ cutL c l, q.length ≤ l.length
  | [], q, h => by simp [cutL] at h; simp [h]
  | b :: r, q, h => by
    rcases e : cutL c r with _ | ⟨p, ps⟩
    · exact absurd e (cutL_ne c r)
    · have ih := cutL_mem_len c r
      rw [e] at ih
      by_cases hb : b = c
      · subst hb
        rw [cutL_hit, e] at h
        rcases List.mem_cons.1 h with rfl | h
        · simp
        · have := ih q h; simp; omega
      · rw [cutL_miss hb e] at h
        rcases List.mem_cons.1 h with rfl | h
        · have := ih p (by simp); simp; omega
        · have := ih q (by simp [h]); simp; omega

theorem index_hd (c : UInt8) (l : List UInt8) : index (c :: l) [c] = 0 := by rw [index]; simp [List.isPrefixOf]
theorem index_tl {b c : UInt8} (h : b ≠ c) (l : List UInt8) : index (b :: l) [c] = if index l [c] == -1 then -1 else index l [c] + 1 := by
  have hp : ([c] : List UInt8).isPrefixOf (b :: l) = false := by simp [List.isPrefixOf, Ne.symm h]
  rw [index, hp]; simp
theorem index_some (c : UInt8) : ∀ l : List UInt8, 0 < l.count c → ∃ i : Nat, index l [c] = i
  | [], h => by simp at h
  | b :: l, h => by
    by_cases hb : b = c
    · subst hb; exact ⟨0, index_hd b l⟩
    · rw [List.count_cons_of_ne (by simpa using hb)] at h
      obtain ⟨i, hi⟩ := index_some c l h
      refine ⟨i + 1, ?_⟩
      rw [index_tl hb, hi, if_neg (by simp)]
      simp
theorem splitK_cut (c : UInt8) : ∀ l : List UInt8, splitK [c] 0 (l.count c) l = cutL c l
  | [] => rfl
  | b :: r => by
    have ih := splitK_cut c r
    by_cases h : b = c
    · subst h
      rw [List.count_cons_self, cutL_hit, ← ih]
      simp only [splitK, index_hd]
      rfl
    · rw [List.count_cons_of_ne (by simpa using h)]
      rcases hk : r.count c with _ | k
      · have h0 : c ∉ b :: r := by
          rw [← List.count_eq_zero, List.count_cons_of_ne (by simpa using h), hk]
        rw [cutL_last c _ h0]
        rfl
      · obtain ⟨i, hi⟩ := index_some c r (by omega)
        have e : cutL c r = r.take i :: splitK [c] 0 k (r.drop (i + 1)) := by
          rw [← ih, hk]
          simp only [splitK, hi]
          rw [if_neg (by simp)]
          simp
        rw [cutL_miss h e]
        simp only [splitK, index_tl h, hi]
        rw [if_neg (by simp; omega)]
        have e2 : (if ((i : Int) == -1) = true then (-1 : Int) else (i : Int) + 1) = ((i + 1 : Nat) : Int) := by rw [if_neg (by simp)]; simp
        rw [e2]
        simp
theorem splitB_cut (c : UInt8) (s : ByteArray) : (splitB ⟨#[c]⟩ 0 (countB s ⟨#[c]⟩) s).map (·.data.toList) = cutL c s.data.toList := by
  rw [splitB_data, ← splitK_cut, show countB s ⟨#[c]⟩ = count s.data.toList [c] from rfl, count_one]
end Go.Proofs.YtkfchcmbpgcncaaDoor
