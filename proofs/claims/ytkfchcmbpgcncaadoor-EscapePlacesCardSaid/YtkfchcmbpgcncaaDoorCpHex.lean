/-
  Plain facts on hexadecimal writing (no program stands here): digits and their values, the writing of a number, reading it, and that each undoes the other.
-/
import Derived.NoCompiler
namespace Go.Proofs.YtkfchcmbpgcncaaDoor

/-- The value of a digit's code, or -1. -/
def dig (b : Int) : Int := if 48 ≤ b ∧ b ≤ 57 then b - 48 else if 65 ≤ b ∧ b ≤ 70 then b - 55 else -1
/-- The code of the digit j. -/
def tabN (j : Nat) : Int := if j < 10 then 48 + j else 55 + j
/-- The same, a byte. -/
def hd (j : Nat) : UInt8 := UInt8.ofNat (if j < 10 then 48 + j else 55 + j)
def sh : Nat → Nat → Nat
  | 0, c => c
  | j + 1, c => sh j c / 16
/-- The lowest j digits of c, the highest of them first. -/
def digs : Nat → Nat → List UInt8
  | 0, _ => []
  | j + 1, c => hd (sh j c % 16) :: digs j c
/-- How many digits the writing has. -/
def nd (c : Nat) : Nat := if c < 65536 then 4 else if c < 1048576 then 5 else 6
def isCode (c : Int) : Bool := decide (0 ≤ c ∧ c ≤ 1114111)
def hexL (c : Int) : List UInt8 := if isCode c = true then digs (nd c.toNat) c.toNat else []
/-- Reading digits, from the number read so far. -/
def scan : List UInt8 → Int → Option Int
  | [], c => some c
  | b :: r, c => if dig b.toNat < 0 then none else scan r (c * 16 + dig b.toNat)
def scanned (o : Option Int) (f : Int → Int × Int) : Int × Int := match o with
  | none => (0, 3)
  | some c => f c
/-- What Parse returns: the number, the error's number. -/
def parseR (l : List UInt8) : Int × Int :=
  if l.length < 4 ∨ 6 < l.length then (0, 3) else if 4 < l.length ∧ l.head? = some 48 then (0, 3) else scanned (scan l 0) fun c => if isCode c = true then (c, 0) else (0, 3)
/-- The same, as the reference has it. -/
def parseF (l : List UInt8) : Int × Int :=
  if l.length < 4 ∨ 6 < l.length then (0, 3) else scanned (scan l 0) fun c => if hexL c = l then (c, 0) else (0, 3)

theorem dig_tab {j : Nat} (h : j < 16) : dig (tabN j) = j := by unfold dig tabN; split <;> (repeat' split) <;> omega
theorem dig_hit {j : Nat} {b : Int} (h : j < 16) (e : tabN j = b) : dig b = j := by rw [← e, dig_tab h]
theorem dig_miss {b : Int} (h : ∀ j : Nat, j < 16 → tabN j ≠ b) : dig b = -1 := by
  unfold dig
  split
  · rename_i hb
    exact absurd (by unfold tabN; rw [if_pos (by omega)]; omega) (h (b - 48).toNat (by omega))
  · split
    · rename_i hb
      exact absurd (by unfold tabN; rw [if_neg (by omega)]; omega) (h (b - 55).toNat (by omega))
    · rfl
theorem dig_range (b : Int) : -1 ≤ dig b ∧ dig b ≤ 15 := by unfold dig; repeat' split
                                                            all_goals omega
theorem hd_toNat : ∀ j : Nat, j < 16 → ((hd j).toNat : Int) = tabN j := by decide
theorem hd_dig (b : UInt8) (h : 0 ≤ dig b.toNat) : hd (dig b.toNat).toNat = b := by
  have hb : b.toNat < 256 := b.toNat_lt
  unfold dig at h ⊢
  unfold hd
  apply UInt8.toNat.inj
  repeat' split at h
  · rename_i h1
    rw [if_pos h1, if_pos (by omega), UInt8.toNat_ofNat']
    omega
  · rename_i h1 h2
    rw [if_neg h1, if_pos h2, if_neg (by omega), UInt8.toNat_ofNat']
    omega
  · omega
theorem hd_zero : ∀ j : Nat, j < 16 → (hd j = 48 ↔ j = 0) := by decide
theorem digs_length (j c : Nat) : (digs j c).length = j := by
  induction j with
  | zero => rfl
  | succ j ih => simp [digs, ih]
theorem scan_back : ∀ (l : List UInt8) (c : Nat) (z : Int), scan l c = some z → 0 ≤ z ∧ sh l.length z.toNat = c ∧ digs l.length z.toNat = l
  | [], c, z, h => by
    simp only [scan, Option.some.injEq] at h
    subst h
    exact ⟨by omega, by simp [sh], rfl⟩
  | b :: r, c, z, h => by
    simp only [scan] at h
    split at h
    · cases h
    · rename_i hd0
      have hr := dig_range b.toNat
      have e : ((c : Int) * 16 + dig b.toNat) = ((c * 16 + (dig b.toNat).toNat : Nat) : Int) := by omega
      rw [e] at h
      obtain ⟨h0, h1, h2⟩ := scan_back r _ z h
      refine ⟨h0, ?_, ?_⟩
      · show sh r.length z.toNat / 16 = c
        rw [h1]; omega
      · show hd (sh r.length z.toNat % 16) :: digs r.length z.toNat = b :: r
        rw [h1, h2, show (c * 16 + (dig b.toNat).toNat) % 16 = (dig b.toNat).toNat by omega, hd_dig b (by omega)]
theorem dig_hd {j : Nat} (h : j < 16) : dig (hd j).toNat = j := by rw [hd_toNat j h, dig_tab h]
theorem scan_digs : ∀ (n z : Nat), scan (digs n z) (sh n z : Nat) = some (z : Int)
  | 0, z => rfl
  | n + 1, z => by
    have hm : sh n z % 16 < 16 := Nat.mod_lt _ (by omega)
    simp only [digs, scan, dig_hd hm]
    rw [if_neg (by omega)]
    have e : ((sh (n + 1) z : Nat) : Int) * 16 + ((sh n z % 16 : Nat) : Int) = ((sh n z : Nat) : Int) := by
      show ((sh n z / 16 : Nat) : Int) * 16 + ((sh n z % 16 : Nat) : Int) = ((sh n z : Nat) : Int)
      omega
    rw [e]
    exact scan_digs n z
theorem sh_nd {z : Nat} (h : z < 16777216) : sh (nd z) z = 0 := by
  unfold nd
  repeat' split
  all_goals simp only [sh]; omega
theorem nd_range (z : Nat) : 4 ≤ nd z ∧ nd z ≤ 6 := by unfold nd; repeat' split
                                                       all_goals omega
theorem isCode_bounds {c : Int} (h : isCode c = true) : 0 ≤ c ∧ c ≤ 1114111 := by simpa [isCode] using h
theorem isCode_not {c : Int} (h : ¬ isCode c = true) : c < 0 ∨ 1114111 < c := by
  simp [isCode] at h
  omega
theorem hexL_length {c : Int} (h : isCode c = true) : (hexL c).length = nd c.toNat := by rw [hexL, if_pos h, digs_length]
theorem scan_hexL {c : Int} (h : isCode c = true) : scan (hexL c) 0 = some c := by
  have hb := isCode_bounds h
  have := scan_digs (nd c.toNat) c.toNat
  rw [sh_nd (by omega)] at this
  rw [hexL, if_pos h]
  rw [show ((0 : Nat) : Int) = 0 from rfl] at this
  rw [this]
  congr 1
  omega
/-- A writing that reads as z: it is the writing of z exactly if it has no leading zero beyond four digits. -/
theorem hexL_read {l : List UInt8} {z : Int} (h4 : 4 ≤ l.length) (h6 : l.length ≤ 6) (h : scan l 0 = some z) :
    (hexL z = l ↔ isCode z = true ∧ ¬ (4 < l.length ∧ l.head? = some 48)) := by
  obtain ⟨h0, h1, h2⟩ := scan_back l 0 z h
  obtain ⟨n, hn⟩ : ∃ n, n = l.length := ⟨_, rfl⟩
  rw [← hn] at h1 h2 h4 h6 ⊢
  obtain ⟨c, hc⟩ : ∃ c, c = z.toNat := ⟨_, rfl⟩
  have head : 4 < n → (l.head? = some 48 ↔ sh (n - 1) c = 0) := by
    intro h5
    obtain ⟨m, rfl⟩ : ∃ m, n = m + 1 := ⟨n - 1, by omega⟩
    have hm : sh m c < 16 := by
      have : sh m z.toNat / 16 = 0 := h1
      rw [hc]; omega
    rw [← h2, ← hc]
    simp only [digs, List.head?_cons, Option.some.injEq, Nat.add_sub_cancel]
    rw [hd_zero _ (Nat.mod_lt _ (by omega)), Nat.mod_eq_of_lt hm]
  have key : nd c = n ↔ ¬ (4 < n ∧ l.head? = some 48) := by
    rw [← hc] at h1
    have h456 : n = 4 ∨ n = 5 ∨ n = 6 := by omega
    rcases h456 with e | e | e <;> subst e
    · simp only [sh] at h1
      have : nd c = 4 := by unfold nd; rw [if_pos (by omega)]
      simp [this]
    · rw [head (by omega)]
      simp only [sh, Nat.reduceSub, Nat.reduceLT, true_and] at h1 ⊢
      unfold nd
      repeat' split
      all_goals omega
    · rw [head (by omega)]
      simp only [sh, Nat.reduceSub, Nat.reduceLT, true_and] at h1 ⊢
      unfold nd
      repeat' split
      all_goals omega
  constructor
  · intro he
    have hv : isCode z = true := by
      rcases hb : isCode z with _ | _
      · rw [hexL, hb] at he
        simp only [Bool.false_eq_true, if_false] at he
        rw [← he] at hn
        simp at hn
        omega
      · rfl
    refine ⟨hv, key.1 ?_⟩
    have := hexL_length hv
    rw [he, ← hn, ← hc] at this
    exact this.symm
  · rintro ⟨hv, hk⟩
    rw [hexL, if_pos hv, ← hc, key.2 hk, hc]
    exact h2
theorem parse_same (l : List UInt8) : parseR l = parseF l := by
  unfold parseR parseF
  split
  · rfl
  · rename_i hl
    rcases hs : scan l 0 with _ | z
    · simp only [scanned]
      split <;> rfl
    · simp only [scanned]
      have k := hexL_read (by omega) (by omega) hs
      by_cases hz : 4 < l.length ∧ l.head? = some 48
      · rw [if_pos hz, if_neg (fun e => (k.1 e).2 hz)]
      · rw [if_neg hz]
        by_cases hv : isCode z = true
        · rw [if_pos hv, if_pos (k.2 ⟨hv, hz⟩)]
        · rw [if_neg hv, if_neg (fun e => hv (k.1 e).1)]
/-- What Parse accepts is the writing of its result. -/
theorem parse_ok {l : List UInt8} (h : (parseR l).2 = 0) : hexL (parseR l).1 = l := by
  rw [parse_same] at h ⊢
  unfold parseF at h ⊢
  split at h
  · simp at h
  · rename_i hl
    rw [if_neg hl]
    rcases hs : scan l 0 with _ | z
    · simp [hs, scanned] at h
    · simp only [hs, scanned] at h ⊢
      split at h
      · rename_i he
        rw [if_pos he]
        exact he
      · simp at h
theorem parse_hex {c : Int} (h : isCode c = true) : parseR (hexL c) = (c, 0) := by
  rw [parse_same]
  have hl := hexL_length h
  have hn := nd_range c.toNat
  unfold parseF
  rw [if_neg (by omega), scan_hexL h]
  simp only [scanned, if_true]
theorem parse_nil : parseR [] = (0, 3) := rfl
end Go.Proofs.YtkfchcmbpgcncaaDoor
