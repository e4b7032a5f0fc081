/-
  Plain facts on bytes of units (no program stands here), after chapter 4.
-/
import Derived.Test.YtjfhhcaikapfiaaDoorUxProgA
import Derived.Laws.BytesArg
namespace Go.Proofs.YtjfhhcaikapfiaaDoor.Ux
set_option linter.unusedVariables false

/-- The two bytes of a unit. -/
def two (u : Int) (big : Bool) : List Int := if big = true then [u / 256, u % 256] else [u % 256, u / 256]
/-- The unit of two bytes. -/
def val (a b : Int) (big : Bool) : Int := if big = true then 256 * a + b else 256 * b + a
def good (u : Int) : Bool := decide (0 ≤ u ∧ u ≤ 65535)
def badB : List Int → Nat
  | [] => 0
  | u :: r => if good u = true then badB r + 1 else 0
def bytesL (l : List Int) (big : Bool) : List Int := l.flatMap fun u => two u big
def markL (big mark : Bool) : List Int := if mark = true then two 65279 big else []
def bytesR (l : List Int) (big mark : Bool) : List Int × Int × Int := if badB l < l.length then ([], 1, (badB l : Int)) else (markL big mark ++ bytesL l big, 0, 0)
def rd (big : Bool) : List Int → List Int
  | a :: b :: r => val a b big :: rd big r
  | _ => []
def unitsR (l : List Int) (big : Bool) : List Int × Bool × Int × Int :=
  if l.length % 2 = 1 then ([], false, 9, (l.length : Int) - 1)
  else if (rd big l).head? = some 65534 then ((rd (!big) l).drop 1, !big, 0, 0)
  else if (rd big l).head? = some 65279 then ((rd big l).drop 1, big, 0, 0) else (rd big l, big, 0, 0)

theorem two_len (u : Int) (big : Bool) : (two u big).length = 2 := by cases big <;> rfl
theorem bytesL_len (big : Bool) : ∀ l : List Int, (bytesL l big).length = 2 * l.length
  | [] => rfl
  | u :: r => by
    show (two u big ++ bytesL r big).length = _
    rw [List.length_append, two_len, bytesL_len big r, List.length_cons]
    omega
theorem bytesL_append (big : Bool) (a b : List Int) : bytesL (a ++ b) big = bytesL a big ++ bytesL b big := List.flatMap_append
theorem bytesL_take {big : Bool} {zs : List Int} {k : Nat} (h : k < zs.length) : bytesL (zs.take (k + 1)) big = bytesL (zs.take k) big ++ two (zs.getD k 0) big := by
  rw [List.take_succ_eq_append_getElem h, bytesL_append]
  show _ ++ (two _ big ++ []) = _
  rw [List.append_nil]
  simp [List.getD, List.getElem?_eq_getElem h]
theorem badB_take : ∀ {zs : List Int} {k : Nat}, k < zs.length → (∀ j, j < k → good (zs.getD j 0) = true) → good (zs.getD k 0) = false → badB zs = k
  | [], k, h, _, _ => by simp at h
  | c :: r, 0, _, _, h => by
    have : good c = false := h
    rw [badB, this]
    rfl
  | c :: r, k + 1, hk, ha, h => by
    have h0 : good c = true := ha 0 (by omega)
    rw [badB, if_pos h0, badB_take (zs := r) (k := k) (by simpa using hk) (fun j hj => ha (j + 1) (by omega)) h]
theorem badB_none : ∀ {zs : List Int}, (∀ j, j < zs.length → good (zs.getD j 0) = true) → badB zs = zs.length
  | [], _ => rfl
  | c :: r, h => by
    have h0 : good c = true := h 0 (by simp)
    rw [badB, if_pos h0, badB_none (zs := r) (fun j hj => h (j + 1) (by simpa using hj))]
    rfl
theorem badB_good : ∀ {zs : List Int}, badB zs = zs.length → ∀ u ∈ zs, good u = true
  | [], _, c, h => by cases h
  | d :: r, h, c, hc => by
    rw [badB] at h
    split at h
    · rename_i hd
      rcases List.mem_cons.1 hc with rfl | hc
      · exact hd
      · exact badB_good (by simpa using h) c hc
    · simp at h
theorem badB_le : ∀ l : List Int, badB l ≤ l.length
  | [] => Nat.le_refl _
  | c :: r => by
    have := badB_le r
    rw [badB]
    split <;> simp <;> omega
theorem val_two {u : Int} {big : Bool} : ∀ {a b : Int}, two u big = [a, b] → val a b big = u := by
  intro a b h
  cases big
  · simp only [two, Bool.false_eq_true, if_false, List.cons.injEq, and_true] at h
    simp only [val, Bool.false_eq_true, if_false]
    omega
  · simp only [two, if_true, List.cons.injEq, and_true] at h
    simp only [val, if_true]
    omega
theorem two_is_pair (u : Int) (big : Bool) : ∃ a b, two u big = [a, b] ∧ val a b big = u := by
  cases big
  · exact ⟨_, _, rfl, val_two rfl⟩
  · exact ⟨_, _, rfl, val_two rfl⟩
theorem rd_bytes (big : Bool) : ∀ l : List Int, rd big (bytesL l big) = l
  | [] => rfl
  | u :: r => by
    obtain ⟨a, b, h, hv⟩ := two_is_pair u big
    show rd big (two u big ++ bytesL r big) = _
    rw [h]
    show val a b big :: rd big (bytesL r big) = _
    rw [hv, rd_bytes big r]
theorem rd_mark (big mark : Bool) (l : List Int) : rd big (markL big mark ++ bytesL l big) = (if mark = true then [65279] else []) ++ l := by
  cases mark
  · simp [markL, rd_bytes]
  · have : markL big true ++ bytesL l big = bytesL (65279 :: l) big := rfl
    rw [this, rd_bytes]
    rfl
theorem rd_len (big : Bool) : ∀ (f : Nat) (l : List Int), l.length ≤ f → (rd big l).length ≤ l.length
  | _, [], _ => by simp [rd]
  | _, [a], _ => by simp [rd]
  | f + 1, a :: b :: r, h => by
    have := rd_len big f r (by simp at h; omega)
    rw [rd]
    simp
    omega
theorem rd_step {big : Bool} {l : List Int} {k : Nat} (h : k + 1 < l.length) : rd big (l.drop k) = [val (l.getD k 0) (l.getD (k + 1) 0) big] ++ rd big (l.drop (k + 2)) := by
  rw [drop2 h, rd]
  rfl
theorem rd_end {big : Bool} {l : List Int} {k : Nat} (h : ¬ k + 1 < l.length) : rd big (l.drop k) = [] := by
  have h2 : (l.drop k).length ≤ 1 := by rw [List.length_drop]; omega
  match hl : l.drop k, h2 with
  | [], _ => rfl
  | [a], _ => rfl
theorem rd_drop (big : Bool) (l : List Int) : (rd big l).drop 1 = rd big (l.drop 2) := by
  match l with
  | [] => rfl
  | [a] => rfl
  | a :: b :: r => rfl
theorem rd_head {big : Bool} {l : List Int} (h : 1 < l.length) : (rd big l).head? = some (val (l.getD 0 0) (l.getD 1 0) big) := by
  have := rd_step (big := big) (l := l) (k := 0) h
  rw [List.drop_zero] at this
  rw [this]
  rfl
theorem strOf_ints {l : List Int} (h : ∀ x ∈ l, 0 ≤ x ∧ x ≤ 255) : strInts (strOfNums l) = l := by
  unfold strInts
  rw [strOfNums_data, List.map_map]
  conv => rhs; rw [← List.map_id l]
  refine List.map_congr_left fun x hx => ?_
  have := h x hx
  simp only [Function.comp, id]
  rw [UInt8.toNat_ofNat_of_lt' (by show x.toNat < 256; omega)]
  omega
theorem two_byte {u : Int} {big : Bool} (h : good u = true) : ∀ x ∈ two u big, 0 ≤ x ∧ x ≤ 255 := by
  simp only [good, decide_eq_true_eq] at h
  intro x hx
  cases big
  · simp [two] at hx
    omega
  · simp [two] at hx
    omega
theorem bytesL_byte {big : Bool} : ∀ {l : List Int}, (∀ u ∈ l, good u = true) → ∀ x ∈ bytesL l big, 0 ≤ x ∧ x ≤ 255
  | [], _, x, hx => by cases hx
  | u :: r, h, x, hx => by
    have hx' : x ∈ two u big ++ bytesL r big := hx
    rcases List.mem_append.1 hx' with hx | hx
    · exact two_byte (h u (List.mem_cons_self ..)) x hx
    · exact bytesL_byte (fun v hv => h v (List.mem_cons_of_mem _ hv)) x hx
theorem strOf_append (a b : List Int) : strOfNums a ++ strOfNums b = strOfNums (a ++ b) := by
  apply ByteArray.ext
  apply Array.ext'
  simp [strOfNums]
/-- The bytes with a mark, read in any order. -/
theorem units_marked (l : List Int) (big other : Bool) : unitsR (markL big true ++ bytesL l big) other = (l, big, 0, 0) := by
  have e : markL big true ++ bytesL l big = bytesL (65279 :: l) big := rfl
  have hlen : (bytesL (65279 :: l) big).length % 2 = 0 := by rw [bytesL_len]; omega
  rw [e, unitsR, if_neg (by omega)]
  by_cases h : other = big
  · subst h
    rw [rd_bytes, if_neg (by simp), if_pos (by simp)]
    rfl
  · have hn : (!other) = big := by cases other <;> cases big <;> simp_all
    have h1 : (rd other (bytesL (65279 :: l) big)).head? = some 65534 := by
      cases big <;> cases other <;> first | (exfalso; exact h rfl) | rfl
    rw [if_pos h1, hn, rd_bytes]
    rfl
open Go.RowKit in
theorem wr1 (a : Nat) (h : a ≤ 255) : wrap64 ((a : Int)) = (a : Int) := IntWalk.wrap64_in _ (by omega)
open Go.RowKit in
theorem wr256 (a : Nat) (h : a ≤ 255) : wrap64 ((a : Int) * 256) = (a : Int) * 256 := IntWalk.wrap64_in _ (by omega)
open Go.RowKit in
theorem bits_or {a b : Nat} (ha : a ≤ 255) (hb : b ≤ 255) : bits BinOp.or IntKind.i64 ((a : Int) * 256) (b : Int) = 256 * (a : Int) + (b : Int) := by
  have h1 : (BitVec.ofInt 64 ((a : Int) * 256)).toNat = a * 256 := by rw [BitVec.toNat_ofInt]; omega
  have h2 : (BitVec.ofInt 64 (b : Int)).toNat = b := by rw [BitVec.toNat_ofInt]; omega
  have h3 : (a * 256 ||| b) = a * 256 + b := by
    have := Nat.shiftLeft_add_eq_or_of_lt (i := 8) (b := b) (by omega) a
    rw [Nat.shiftLeft_eq] at this
    exact this.symm
  show IntKind.i64.wrap (((BitVec.ofInt 64 ((a : Int) * 256)) ||| (BitVec.ofInt 64 (b : Int))).toNat : Int) = _
  rw [BitVec.toNat_or, h1, h2, h3]
  rw [IntWalk.i64_in _ (by omega)]
  omega
end Go.Proofs.YtjfhhcaikapfiaaDoor.Ux
