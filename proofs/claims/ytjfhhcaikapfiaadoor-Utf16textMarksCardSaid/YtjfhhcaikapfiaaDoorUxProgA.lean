/-
  The contracts of package utf16text: known, pair, escape, substitute.
-/
import Derived.Test.YtjfhhcaikapfiaaDoorUxMath
import Derived.Test.YtjfhhcaikapfiaaDoorCpWriteHex
import Derived.Test.YtjfhhcaikapfiaaDoorMake
import Derived.Laws.Rows
namespace Go.Proofs.YtjfhhcaikapfiaaDoor.Ux
open Go.RowKit
set_option linter.unusedVariables false

theorem known_x {p : Int} {r : Bool} (h : known p = r) (w : World) : Calls Tryd.prog 22 #[.int .i64 p] w (Gives (.bool r) w) := by
  have hcase : p < 1 ∨ (1 ≤ p ∧ p ≤ 4) ∨ (1 ≤ p ∧ 4 < p) := by omega
  rcases hcase with h1 | ⟨h1, h2⟩ | ⟨h1, h2⟩
  · have H : Hid (r = false) := Lib.hid (by rw [← h]; simp [known]; omega)
    clear h
    go_enter Tryd.func22, Tryd.ntmps22
    go_wp2
    go_ret
    exact gives_bool (H.out.trans (by simp <;> omega))
  · have H : Hid (r = true) := Lib.hid (by rw [← h]; simp [known]; omega)
    clear h
    go_enter Tryd.func22, Tryd.ntmps22
    go_wp2
    go_ret
    exact gives_bool (H.out.trans (by simp <;> omega))
  · have H : Hid (r = false) := Lib.hid (by rw [← h]; simp [known]; omega)
    clear h
    go_enter Tryd.func22, Tryd.ntmps22
    go_wp2
    go_ret
    exact gives_bool (H.out.trans (by simp <;> omega))

theorem pair_x {c x y : Int} (h1 : 65536 ≤ c) (h2 : c ≤ 1114111) (hx : 55296 + (c - 65536) / 1024 = x) (hy : 56320 + (c - 65536) % 1024 = y) (w : World) : Calls Tryd.prog 25 #[.int .i64 c] w (Makes (.agg #[.int .i64 x, .int .i64 y]) w) := by
  subst hx
  subst hy
  go_enter Tryd.func25, Tryd.ntmps25
  go_wp2
  exact bodyPost_ret (v := .agg #[.int .i64 (55296 + (c - 65536) / 1024), .int .i64 (56320 + (c - 65536) % 1024)]) (by simp [results, Tryd.results25, go_sem]) rfl ⟨rfl, (Below.refl _ _).alloc (Nat.le_refl _) _⟩

/-- The bytes of a string as ints. -/
def strInts (s : ByteArray) : List Int := s.data.toList.map (fun b => (b.toNat : Int))
theorem strInts_len (s : ByteArray) : (strInts s).length = s.size := by simp [strInts]
theorem strInts_at {s : ByteArray} {k : Nat} (h : k < s.size) : (strInts s).getD k 0 = (s[k].toNat : Int) := by
  have : k < (strInts s).length := by rw [strInts_len]; exact h
  rw [List.getD, List.getElem?_eq_getElem this]
  simp [strInts]
  rfl
/-- What the slice holds behind k rounds. -/
def filled (l : List Int) (k : Nat) : List Int := l.take k ++ List.replicate (l.length - k) 0
theorem filled_zero (l : List Int) : filled l 0 = List.replicate l.length 0 := by simp [filled]
theorem filled_all (l : List Int) : filled l l.length = l := by simp [filled]
theorem filled_set {l : List Int} {k : Nat} (h : k < l.length) : (filled l k).set k (l.getD k 0) = filled l (k + 1) := by
  unfold filled
  have hl : (l.take k).length = k := by rw [List.length_take]; omega
  rw [List.set_append_right _ _ (by omega), hl, Nat.sub_self, show l.length - k = (l.length - (k + 1)) + 1 by omega, List.replicate_succ, List.set_cons_zero, List.take_succ_eq_append_getElem h, List.append_assoc]
  simp [List.getD, List.getElem?_eq_getElem h]
theorem filled_len (l : List Int) {k : Nat} (h : k ≤ l.length) : (filled l k).length = l.length := by simp [filled]; omega

theorem esc_bytes (c : Int) : strInts ((⟨#[92, 117, 123]⟩ : ByteArray) ++ bytesOf (hexL c) ++ (⟨#[125]⟩ : ByteArray)) = esc c := by
  simp [strInts, esc, bytesOf]

theorem wrap_byte (b : UInt8) : wrap64 (b.toNat : Int) = (b.toNat : Int) := by
  have := b.toNat_lt
  unfold wrap64
  omega
theorem filled_blk {w : World} {g k : Nat} {s : ByteArray} (h : Blk w g (filled (strInts s) k)) (hk : k < s.size) : Blk (w.setCell ⟨g, k, none⟩ (.int .i64 ((s[k]'hk).toNat : Int))) g (filled (strInts s) (k + 1)) := by
  have := h.set k ((strInts s).getD k 0)
  rw [filled_set (by rw [strInts_len]; exact hk), strInts_at hk] at this
  exact this

set_option maxHeartbeats 1000000 in
theorem escape_any (c : Int) (w : World) (ht : Tab w) : Calls Tryd.prog 39 #[.int .i64 c] w (ListsNew (esc c) w) := by
  have hl := hexL_len c
  have hls : (bytesOf (hexL c)).size ≤ 6 := by rw [bytesOf_size]; exact hl
  obtain ⟨s, hs⟩ : ∃ s, s = (⟨#[92, 117, 123]⟩ : ByteArray) ++ bytesOf (hexL c) ++ (⟨#[125]⟩ : ByteArray) := ⟨_, rfl⟩
  have HL : Hid (strInts s = esc c) := Lib.hid (by rw [hs]; exact esc_bytes c)
  have hsz : s.size = 3 + (bytesOf (hexL c)).size + 1 := by rw [hs]; simp; rfl
  obtain ⟨z, hz⟩ : ∃ z, z = (bytesOf (hexL c)).size := ⟨_, rfl⟩
  have HS := Lib.hid hs
  have HSZ : Hid (s.size = 3 + z + 1) := Lib.hid (by rw [hz]; exact hsz)
  have hz6 : z ≤ 6 := by omega
  have hsz1 : s.size ≤ 3 + z + 1 := by omega
  have hsz2 : 3 + z + 1 ≤ s.size := by omega
  have HZ := Lib.hid hz
  clear hs hsz hz hl hls
  go_enter Tryd.func39, Tryd.ntmps39
  go_wp2_with fail
  refine (hex_any c _ ht).mono ?_
  rintro e w1 ⟨rfl, b1⟩
  have hzi : ((bytesOf (hexL c)).size : Int) = (z : Int) := by rw [HZ.out]
  have b1s := b1.size
  obtain ⟨w2, hmk, hg2, hb2, hs2⟩ := run_make_ints w1 (k := 3 + (z : Int) + 1) (n := s.size) (by omega) (by omega)
  have HG := Lib.hid hg2
  have hw2 := b1.trans (hb2.mono b1s)
  have hsl := hg2.lt
  clear hs2 hg2
  go_wp2_with fail
  rw [← HS.out]
  clear hmk hzi
  have HF : Hid (Blk w2 w1.heap.size (filled (strInts s) 0)) := Lib.hid (by rw [filled_zero, strInts_len]; exact HG.out)
  go_loopw [15] (fun i wr => ∃ k : Nat, k ≤ s.size ∧ i = .int .i64 k ∧ Hid (Blk wr w1.heap.size (filled (strInts s) k)) ∧ Below w.heap.size w wr) (fun i _ => s.size - (intOf i).toNat)
  case atStart => exact ⟨0, by omega, rfl, HF, hw2⟩
  case round =>
    obtain ⟨k, hk, rfl, HB, hb⟩ := hrel
    by_cases hlt : k < s.size
    · have hlt2 : (k : Int) < 3 + (z : Int) + 1 := by omega
      have hcell := HB.out.cell (k := k) (by rw [filled_len _ (by rw [strInts_len]; exact hk), strInts_len]; exact hlt)
      have hfr := HB.out.free k
      have HN := Lib.hid (filled_blk HB.out hlt)
      have hki : (k : Int) < (s.size : Int) := by omega
      have hwb := wrap_byte (s[k]'hlt)
      go_wp2_with fail
      go_roundw
      case rel => exact ⟨k + 1, hlt, by go_num, HN, below_set hb b1s _ _⟩
      case measure => simp [intOf] <;> omega
    · have hlt2 : ¬ (k : Int) < 3 + (z : Int) + 1 := by omega
      obtain rfl : k = s.size := by omega
      go_wp2_with fail
      go_ret
      refine ⟨_, _, _, rfl, ?_, hb, fun a' ha => by cases ha; exact b1s⟩
      have := HB.out
      rw [show s.size = (strInts s).length from (strInts_len s).symm, filled_all, HL.out] at this
      exact this.sl (by rw [← HL.out, strInts_len]) (by unfold maxLen; omega)

/-- The call returns a list of ints in memory and a Bool, all old memory as it was. -/
def ListOk (zs : List Int) (r : Bool) (w : World) (e : Ending) (w' : World) : Prop := ∃ A n c, e = .returned (.tuple #[.slice A n c, .bool r]) ∧ Sl w' A n c 1 (ints zs) ∧ Below w.heap.size w w'

set_option maxHeartbeats 1000000 in
theorem substitute_x {c p : Int} {zs : List Int} {r : Bool} (hz : sub c p = zs) (hr : decide (p = 2 ∨ p = 3 ∨ p = 4) = r) (w : World) (ht : Tab w) : Calls Tryd.prog 24 #[.int .i64 c, .int .i64 p] w (ListOk zs r w) := by
  have hcase : p = 2 ∨ p = 3 ∨ p = 4 ∨ (¬ p = 2 ∧ ¬ p = 3 ∧ ¬ p = 4) := by omega
  rcases hcase with h | h | h | ⟨h1, h2, h3⟩
  · subst h
    have HZ : Hid (zs = [65533]) := Lib.hid (by rw [← hz]; rfl)
    have HR : Hid (r = true) := Lib.hid (by rw [← hr]; decide)
    clear hz hr
    go_enter Tryd.func24, Tryd.ntmps24
    go_wp2_with fail
    go_ret2
    exact ⟨_, _, _, by rw [HR.out]; rfl, by rw [HZ.out]; exact Sl.built w 3 1 1 _ rfl (by unfold maxLen; omega), (Below.refl _ _).alloc (Nat.le_refl _) _⟩
  · subst h
    have HZ : Hid (zs = []) := Lib.hid (by rw [← hz]; rfl)
    have HR : Hid (r = true) := Lib.hid (by rw [← hr]; decide)
    clear hz hr
    go_enter Tryd.func24, Tryd.ntmps24
    go_wp2_with fail
    go_ret2
    exact ⟨none, 0, 0, by rw [HR.out]; rfl, by rw [HZ.out]; exact Sl.nil _ _, Below.refl _ _⟩
  · subst h
    have HZ : Hid (zs = esc c) := Lib.hid (by rw [← hz]; rfl)
    have HR : Hid (r = true) := Lib.hid (by rw [← hr]; decide)
    clear hz hr
    go_enter Tryd.func24, Tryd.ntmps24
    go_wp2_with fail
    refine (escape_any c _ ht).mono ?_
    rintro e w1 ⟨A, n, d, rfl, hl, hb, _⟩
    go_wp2_with fail
    go_ret2
    exact ⟨A, n, d, by rw [HR.out]; rfl, by rw [HZ.out]; exact hl, hb⟩
  · have HZ : Hid (zs = []) := Lib.hid (by rw [← hz, sub, if_neg h1, if_neg h3])
    have HR : Hid (r = false) := Lib.hid (by rw [← hr, decide_eq_false_iff_not]; omega)
    have q1 : (p == 2) = false := by rw [beq_eq_false_iff_ne]; exact h1
    have q2 : (p == 3) = false := by rw [beq_eq_false_iff_ne]; exact h2
    have q3 : (p == 4) = false := by rw [beq_eq_false_iff_ne]; exact h3
    clear hz hr h1 h2 h3
    go_enter Tryd.func24, Tryd.ntmps24
    go_wp2_with fail
    go_ret2
    exact ⟨none, 0, 0, by rw [HR.out]; rfl, by rw [HZ.out]; exact Sl.nil _ _, Below.refl _ _⟩
end Go.Proofs.YtjfhhcaikapfiaaDoor.Ux
