/-
  The contracts of sumBytes, Seal and Open of package image and of their references.
-/
import Derived.Test.YtkkjjhkhpibaiaaImSum
import Derived.BigQuiet
import Derived.Deep.QuietTactic
import Derived.Deep.RegionHeld3
namespace Go.Proofs.Ytkkjjhkhpibaiaa.Im
open Go.RowKit
set_option linter.unusedVariables false

theorem conv_b4 (n : Nat) (w : World) : (convert 39 9 (.slice (some ⟨w.heap.size, 0, none⟩) 4 4)).run Try.prog (w.alloc (.cells #[.int .u8 ((n : Int) / 16777216), .int .u8 ((n : Int) / 65536 % 256), .int .u8 ((n : Int) / 256 % 256), .int .u8 ((n : Int) % 256)] 5)) =
    .ok (.string (strOfNums (b4 n))) (w.alloc (.cells #[.int .u8 ((n : Int) / 16777216), .int .u8 ((n : Int) / 65536 % 256), .int .u8 ((n : Int) / 256 % 256), .int .u8 ((n : Int) % 256)] 5)) :=
  conv_bytes (l := b4 n) (Sl.built w 5 1 4 (bys (b4 n)) rfl (by unfold maxLen; omega))
theorem str_len (s : ByteArray) : s.data.toList.length = s.size := by simp
theorem makes_str {a b : ByteArray} {w w' : World} (h : a = b) (hb : Below w.heap.size w w') : Makes (.string a) w (.returned (.string b)) w' := by rw [h]; exact ⟨rfl, hb⟩

set_option maxHeartbeats 1000000 in
theorem sumBytes_any (s : ByteArray) (w : World) (hs : s.size ≤ 9223372036854775807) : Calls Try.prog 41 #[.string s] w (Makes (.string (strOfNums (b4 (sumL (strInts s))))) w) := by
  obtain ⟨n, hn⟩ : ∃ n, sumL (strInts s) = n := ⟨_, rfl⟩
  have hlt : n < 4294967296 := by rw [← hn]; exact sumL_lt _
  have HN := Lib.hid hn
  have hc := conv_b4 n w
  rw [hn]
  clear hn
  go_enter Try.func41, Try.ntmps41
  go_wp2_with (first | (go_at_call 13; refine (sum_any s _ hs).mono ?_; rintro e w1 ⟨rfl, rfl⟩; rw [HN.out]))
  go_ret
  exact ⟨rfl, (Below.refl _ _).alloc (Nat.le_refl _) _⟩

/-- The sealed string. -/
noncomputable def sealS (s : ByteArray) : ByteArray := strOfNums (b4 (sumL (strInts s))) ++ s
theorem b4_size (n : Nat) : (strOfNums (b4 n)).size = 4 := by
  rw [← strInts_len, strInts, strOfNums_data]
  simp [b4]

set_option maxHeartbeats 1000000 in
theorem seal_any (s : ByteArray) (w : World) (hs : s.size ≤ 1000000) : Calls Try.prog 20 #[.string s] w (Makes (.string (sealS s)) w) := by
  have HS : Hid (sealS s = strOfNums (b4 (sumL (strInts s))) ++ s) := Lib.hid rfl
  have hz := b4_size (sumL (strInts s))
  obtain ⟨t, ht⟩ : ∃ t, strOfNums (b4 (sumL (strInts s))) = t := ⟨_, rfl⟩
  have HT := Lib.hid ht
  rw [ht] at HS hz
  have hz2 : t.size ≤ 4 := by omega
  clear ht hz
  go_enter Try.func20, Try.ntmps20
  go_wp2_with (first | (go_at_call 41; refine (sumBytes_any s _ (by omega)).mono ?_; rintro e w1 ⟨rfl, b1⟩; rw [HT.out]))
  go_ret
  exact makes_str HS.out b1

set_option maxHeartbeats 1000000 in
theorem rseal_any (s : ByteArray) (w : World) (hs : s.size ≤ 1000000) : Calls Try.prog 23 #[.string s] w (Makes (.string (sealS s)) w) := by
  have HS : Hid (sealS s = strOfNums (b4 (sumL (strInts s))) ++ s) := Lib.hid rfl
  have hz := b4_size (sumL (strInts s))
  have hlt := sumL_lt (strInts s)
  obtain ⟨n, hn⟩ : ∃ n, sumL (strInts s) = n := ⟨_, rfl⟩
  have HN := Lib.hid hn
  have hc := conv_b4 n w
  rw [hn] at HS hz hlt
  clear hn
  obtain ⟨t, ht⟩ : ∃ t, strOfNums (b4 n) = t := ⟨_, rfl⟩
  rw [ht] at HS hz hc
  have hz2 : t.size ≤ 4 := by omega
  clear ht hz
  go_enter Try.func23, Try.ntmps23
  go_wp2_with (first | (go_at_call 14; refine (rsum_any s _ (by omega)).mono ?_; rintro e w1 ⟨rfl, rfl⟩; rw [HN.out]))
  go_ret
  exact makes_str HS.out ((Below.refl _ _).alloc (Nat.le_refl _) _)

theorem beq_yes {a b : ByteArray} (h : a = b) : (a.toList == b.toList) = true := by rw [h]; exact beq_self_eq_true _
theorem beq_no {a b : ByteArray} (h : a ≠ b) : (a.toList == b.toList) = false := by
  rw [beq_eq_false_iff_ne, ByteArray.toList_eq, ByteArray.toList_eq]
  intro h2
  exact h (ByteArray.ext (Array.ext' h2))
theorem bne_no {a b : ByteArray} (h : a = b) : (a.toList != b.toList) = false := by rw [bne, beq_yes h]; rfl
theorem bne_yes {a b : ByteArray} (h : a ≠ b) : (a.toList != b.toList) = true := by rw [bne, beq_no h]; rfl
theorem split4 {s t : ByteArray} (h : 4 ≤ s.size) (ht : t.size = 4) : t ++ s.extract 4 s.size = s ↔ t = s.extract 0 4 := by
  have e : s.extract 0 4 ++ s.extract 4 s.size = s := by rw [ByteArray.extract_append_extract, Nat.min_eq_left (by omega), Nat.max_eq_right h, ByteArray.extract_zero_size]
  constructor
  · intro h2
    have h3 : (t ++ s.extract 4 s.size).data.toList = s.data.toList := by rw [h2]
    have h4 : (s.extract 0 4 ++ s.extract 4 s.size).data.toList = s.data.toList := by rw [e]
    rw [ByteArray.data_append, Array.toList_append] at h3 h4
    have h5 := List.append_inj_left (h3.trans h4.symm) (by simp; omega)
    exact ByteArray.ext (Array.ext' h5)
  · rintro rfl
    exact e
/-- What Open gives. -/
noncomputable def openS (s : ByteArray) : ByteArray × Int := if s.size < 4 then (⟨#[]⟩, 2) else if strOfNums (b4 (sumL (strInts (s.extract 4 s.size)))) = s.extract 0 4 then (s.extract 4 s.size, 0) else (⟨#[]⟩, 14)
def OpenRes (r : ByteArray × Int) (w : World) (e : Ending) (w' : World) : Prop := e = .returned (.tuple #[.string r.1, .int .i64 r.2]) ∧ Below w.heap.size w w'

set_option maxHeartbeats 2000000 in
theorem open_any (s : ByteArray) (w : World) (hs : s.size ≤ 1000000) {r : ByteArray × Int} (hr : openS s = r) : Calls Try.prog 21 #[.string s] w (OpenRes r w) := by
  rcases Nat.lt_or_ge s.size 4 with h4 | h4
  · have HR : Hid (r = (⟨#[]⟩, 2)) := Lib.hid (by rw [← hr, openS, if_pos h4])
    clear hr
    have i1 : (s.size : Int) < 4 := by omega
    go_enter Try.func21, Try.ntmps21
    go_wp2_with fail
    rw [HR.out]
    exact bodyPost_ret (v := .tuple #[.string ⟨#[]⟩, .int .i64 2]) (by simp [results, Try.results21, go_sem]) rfl ⟨rfl, Below.refl _ _⟩
  · obtain ⟨t, ht⟩ : ∃ t, strOfNums (b4 (sumL (strInts (s.extract 4 s.size)))) = t := ⟨_, rfl⟩
    have HT := Lib.hid ht
    have i1 : ¬ (s.size : Int) < 4 := by omega
    have i2 : (4 : Int) ≤ (s.size : Int) := by omega
    have arm : ∀ W : World, Calls Try.prog 41 #[.string (s.extract 4 s.size)] W (Makes (.string t) W) := fun W => by
      have := sumBytes_any (s.extract 4 s.size) W (by simp; omega)
      rwa [ht] at this
    by_cases he : t = s.extract 0 4
    · have HR : Hid (r = (s.extract 4 s.size, 0)) := Lib.hid (by rw [← hr, openS, if_neg (by omega), ht, if_pos he])
      have hq := beq_yes he
      clear hr ht he
      go_enter Try.func21, Try.ntmps21
      go_wp2_with fail
      go_region_held3 (fun _ => True) (trivial) (first | (go_at_call 41; refine (arm _).mono ?_; rintro e w1 ⟨rfl, b1⟩))
      go_wp2_with fail
      rw [HR.out]
      exact bodyPost_ret (v := .tuple #[.string (s.extract 4 s.size), .int .i64 0]) (by simp [results, Try.results21, go_sem]) rfl ⟨rfl, by first | exact b1 | exact undrew b1⟩
    · have HR : Hid (r = (⟨#[]⟩, 14)) := Lib.hid (by rw [← hr, openS, if_neg (by omega), ht, if_neg he])
      have hq := beq_no he
      clear hr ht he
      go_enter Try.func21, Try.ntmps21
      go_wp2_with fail
      go_region_held3 (fun _ => True) (trivial) (first | (go_at_call 41; refine (arm _).mono ?_; rintro e w1 ⟨rfl, b1⟩))
      go_wp2_with fail
      rw [HR.out]
      exact bodyPost_ret (v := .tuple #[.string ⟨#[]⟩, .int .i64 14]) (by simp [results, Try.results21, go_sem]) rfl ⟨rfl, by first | exact b1 | exact undrew b1⟩

set_option maxHeartbeats 2000000 in
theorem ropen_any (s : ByteArray) (w : World) (hs : s.size ≤ 1000000) {r : ByteArray × Int} (hr : openS s = r) : Calls Try.prog 22 #[.string s] w (OpenRes r w) := by
  rcases Nat.lt_or_ge s.size 4 with h4 | h4
  · have HR : Hid (r = (⟨#[]⟩, 2)) := Lib.hid (by rw [← hr, openS, if_pos h4])
    clear hr
    have i1 : (s.size : Int) < 4 := by omega
    go_enter Try.func22, Try.ntmps22
    go_wp2_with fail
    rw [HR.out]
    exact bodyPost_ret (v := .tuple #[.string ⟨#[]⟩, .int .i64 2]) (by simp [results, Try.results22, go_sem]) rfl ⟨rfl, Below.refl _ _⟩
  · have i1 : ¬ (s.size : Int) < 4 := by omega
    have i2 : (4 : Int) ≤ (s.size : Int) := by omega
    have hsp := split4 (s := s) (t := strOfNums (b4 (sumL (strInts (s.extract 4 s.size))))) h4 (b4_size _)
    obtain ⟨u, hu⟩ : ∃ u, sealS (s.extract 4 s.size) = u := ⟨_, rfl⟩
    have hu2 : strOfNums (b4 (sumL (strInts (s.extract 4 s.size)))) ++ s.extract 4 s.size = u := hu
    rw [hu2] at hsp
    have arm : ∀ W : World, Calls Try.prog 23 #[.string (s.extract 4 s.size)] W (Makes (.string u) W) := fun W => by
      have := rseal_any (s.extract 4 s.size) W (by simp; omega)
      rwa [hu] at this
    by_cases he : u = s
    · have HR : Hid (r = (s.extract 4 s.size, 0)) := Lib.hid (by rw [← hr, openS, if_neg (by omega), if_pos (hsp.1 he)])
      have hq := beq_yes he
      clear hr he hsp hu hu2
      go_enter Try.func22, Try.ntmps22
      go_wp2_with (first | (go_at_call 23; refine (arm _).mono ?_; rintro e w1 ⟨rfl, b1⟩))
      rw [HR.out]
      exact bodyPost_ret (v := .tuple #[.string (s.extract 4 s.size), .int .i64 0]) (by simp [results, Try.results22, go_sem]) rfl ⟨rfl, b1⟩
    · have HR : Hid (r = (⟨#[]⟩, 14)) := Lib.hid (by rw [← hr, openS, if_neg (by omega), if_neg (fun h => he (hsp.2 h))])
      have hq := beq_no he
      clear hr he hsp hu hu2
      go_enter Try.func22, Try.ntmps22
      go_wp2_with (first | (go_at_call 23; refine (arm _).mono ?_; rintro e w1 ⟨rfl, b1⟩))
      rw [HR.out]
      exact bodyPost_ret (v := .tuple #[.string ⟨#[]⟩, .int .i64 14]) (by simp [results, Try.results22, go_sem]) rfl ⟨rfl, b1⟩
end Go.Proofs.Ytkkjjhkhpibaiaa.Im
