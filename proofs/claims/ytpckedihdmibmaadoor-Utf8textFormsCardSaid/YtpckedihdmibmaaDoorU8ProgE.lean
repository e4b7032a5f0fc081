/-
  The contracts of Decode and Valid of package utf8text, for every string of bounded length.
-/
import Derived.Test.YtpckedihdmibmaaDoorU8ProgB
import Derived.Test.YtpckedihdmibmaaDoorU8ProgD
namespace Go.Proofs.YtpckedihdmibmaaDoor.U8
open Go.RowKit
set_option linter.unusedVariables false

theorem strInts_part (s : ByteArray) (k n : Nat) : strInts (s.extract k (k + n)) = ((strInts s).drop k).take n := by
  simp only [strInts, ByteArray.data_extract, Array.toList_extract, List.extract, List.map_take, List.map_drop]
  rw [Nat.add_sub_cancel_left]
/-- One step of decoding at a place. -/
theorem dec_at {p : Int} {l : List Int} {k n : Nat} {c : Int} {ok : Bool} (hk : k < l.length) (hs : step (l.drop k) = (c, n, ok)) :
    decL p (l.drop k) = (if ok = true then [c] else sub8d p ((l.drop k).take n)) ++ decL p (l.drop (k + n)) ∧ badD (l.drop k) = (if ok = true then n + badD (l.drop (k + n)) else 0) ∧ 1 ≤ n ∧ k + n ≤ l.length ∧ n ≤ 4 := by
  have hl : 0 < (l.drop k).length := by rw [List.length_drop]; omega
  have hb := step_bounds hl
  rw [hs, List.length_drop] at hb
  dsimp only at hb
  refine ⟨?_, ?_, hb.1, by omega, hb.2.2⟩
  · rw [decL_step p hl, piece, hs, List.drop_drop]
  · rw [badD_step hl, hs, List.drop_drop]

set_option maxRecDepth 100000 in
set_option maxHeartbeats 2000000 in
theorem decode_any (s : ByteArray) (p : Int) (w : World) (ht : Tab2 w) (hs : s.size ≤ 5000) :
    Calls Tryd.prog 20 #[.string s, .int .i64 p] w (ListFault (decR p (strInts s)).1 (decR p (strInts s)).2.1 (decR p (strInts s)).2.2 w) := by
  have HC := Lib.hid (strInts_len s)
  obtain ⟨W, hW⟩ : ∃ W, W = w.alloc (.cells #[.int .i64 0, .int .i64 0] 24) := ⟨_, rfl⟩
  have bW : Below w.heap.size w W := by rw [hW]; exact (Below.refl _ _).alloc (Nat.le_refl _) _
  have gW : W.heap[w.heap.size]? = some (.cells #[.int .i64 0, .int .i64 0] 24 (0, 0)) := by rw [hW]; exact heap_alloc_new w _
  have sW : w.heap.size < W.heap.size := by rw [hW]; simp
  have tW : Tab2 W := ht.next bW
  have HW := Lib.hid hW
  have GW := Lib.hid gW
  clear hW gW
  rcases hk : known p with _ | _
  · have HE : Hid (decR p (strInts s) = ([], 8, 0)) := Lib.hid (by rw [decR, hk]; rfl)
    have HK := Lib.hid hk
    clear hk
    go_enter Tryd.func20, Tryd.ntmps20
    go_wp2_with fail
    go_step3
    go_wp2_with fail
    refine (known_x HK.out _).mono ?_
    rintro e w' ⟨rfl, rfl⟩
    go_wp2_with fail
    rw [Exit.noGoto_ret, HE.out]
    exact bodyPost_ret (v := .tuple #[.slice none 0 0, .agg #[.int .i64 8, .int .i64 0]]) (by simp [results, Tryd.results20, go_sem]) rfl ⟨none, 0, 0, rfl, Sl.nil _ _, (Below.refl _ _).alloc (Nat.le_refl _) _⟩
  · have HK := Lib.hid hk
    have hkp : 1 ≤ p ∧ p ≤ 4 := by simpa [known] using hk
    clear hk
    go_enter Tryd.func20, Tryd.ntmps20
    go_wp2_with fail
    go_step3
    go_wp2_with fail
    refine (known_x HK.out _).mono ?_
    rintro e w' ⟨rfl, rfl⟩
    go_wp2_with fail
    go_step3
    go_wp2_with fail
    go_loopw [6, 7] (fun v i wr => ∃ (k m : Nat) (done : List Int), k ≤ s.size ∧ m ≤ 4 * k ∧ i = .int .i64 k ∧ Own wr W.heap.size 3 1 v m (ints done) ∧ Below W.heap.size W wr ∧ Hid (decL p (strInts s) = done ++ decL p ((strInts s).drop k)) ∧ Hid (p = 1 → badD (strInts s) = k + badD ((strInts s).drop k))) (fun _ i _ => s.size - (intOf i).toNat)
    case atStart => exact ⟨0, 0, [], by omega, by omega, rfl, Own.nil _ _ _ _, by rw [HW.out]; exact Below.refl _ _, Lib.hid rfl, Lib.hid (fun _ => by simp)⟩
    case round =>
      obtain ⟨k, m, done, hkn, hm, rfl, ho, hb, HD, HA⟩ := hrel
      have hbs := hb.size
      by_cases hlt : k < s.size
      · have hkz : k < (strInts s).length := by rw [HC.out]; exact hlt
        obtain ⟨⟨c, n, ok⟩, hst⟩ : ∃ x, step ((strInts s).drop k) = x := ⟨_, rfl⟩
        obtain ⟨hd1, hd2, hn1, hn2, hn4⟩ := dec_at (p := p) hkz hst
        rw [HC.out] at hn2
        have HD1 := Lib.hid hd1
        have HD2 := Lib.hid hd2
        have HST : Hid (step (strInts (s.extract k s.size)) = (c, n, ok)) := Lib.hid (by rw [strInts_drop, hst])
        have hsz : (s.extract k s.size).size ≤ 100000 := by rw [ByteArray.size_extract]; omega
        have HSZ := Lib.hid hsz
        have i1 : (k : Int) + (n : Int) ≤ (s.size : Int) := by omega
        have i2 : (k : Int) ≤ (k : Int) + (n : Int) := by omega
        have i3 : ((k : Int) + (n : Int)).toNat = k + n := by omega
        have i4 : (k : Int) + (n : Int) - (n : Int) = (k : Int) := by omega
        have i5 : (0 : Int) ≤ (k : Int) + (n : Int) := by omega
        clear hd1 hd2 hst hsz hkz
        go_wp2_with fail
        refine (pstep_x HST.out HSZ.out _).mono ?_
        rintro e w1 ⟨rfl, d1⟩
        have ho1 := ho.drawn d1
        have hb1 := hb.trans (d1.below _)
        have hb1s := hb1.size
        have tr : Tab2 w1 := tW.next hb1
        clear ho hb d1
        rcases ok with _ | _
        · have hp4 : p = 1 ∨ p = 2 ∨ p = 3 ∨ p = 4 := by omega
          rcases hp4 with rfl | rfl | rfl | rfl
          · have HB : Hid (decR 1 (strInts s) = ([], 9, (k : Int))) := Lib.hid (by
              have hb := HA.out rfl
              rw [HD2.out] at hb
              simp at hb
              rw [decR, if_pos HK.out, if_pos ⟨rfl, by rw [hb, HC.out]; exact hlt⟩, hb])
            have g1 := (hb1.block w.heap.size sW).trans GW.out
            obtain ⟨⟨y0, y1⟩, f0, f1⟩ := box2 g1
            have t1 := bW.trans (hb1.mono (Nat.le_of_lt sW))
            go_wp2_with fail
            rw [Exit.noGoto_ret, HB.out]
            exact bodyPost_ret (v := .tuple #[.slice none 0 0, .agg #[.int .i64 9, .int .i64 k]]) (by simp [results, Tryd.results20, go_sem, y0, y1]) rfl ⟨none, 0, 0, rfl, Sl.nil _ _, (t1.setCell (by simp) _).setCell (by simp) _⟩
          · go_wp2_with (at_builtin; refine wpList_append_ints rfl (.tmp 53) (.tmp 55) rfl W.heap.size u6 m done rfl (ho1.alloc _) _ 1 1 [65533] rfl (Sl.built w1 3 1 1 (ints [65533]) rfl (by unfold maxLen; omega)) (m + 1) rfl (done ++ [65533]) rfl (by omega) (by simp; omega) ?_; intro v2 w2 o2 b2)
            have hb2 := (hb1.alloc hb1s _).trans b2
            go_roundw
            case rel => exact ⟨k + n, m + 1, done ++ [65533], by omega, by omega, vint (by omega), o2, hb2, Lib.hid (by rw [HD.out, HD1.out, List.append_assoc]; rfl), Lib.hid (fun hp => absurd hp (by decide))⟩
            case measure => simp [intOf]; omega
          · go_wp2_with fail
            go_roundw
            case rel => exact ⟨k + n, m, done, by omega, by omega, vint (by omega), ho1, hb1, Lib.hid (by rw [HD.out, HD1.out]; rfl), Lib.hid (fun hp => absurd hp (by decide))⟩
            case measure => simp [intOf]; omega
          · have HP : Hid (strInts (s.extract k (k + n)) = ((strInts s).drop k).take n) := Lib.hid (strInts_part s k n)
            have hps : (s.extract k (k + n)).size = n := by rw [ByteArray.size_extract]; omega
            have HPS := Lib.hid hps
            clear hps
            go_wp2_with fail
            refine (escapes_any (xs := done) (k0 := m + 4 * n) rfl (by rw [HPS.out]) (by rw [HPS.out]; omega) (by omega) _ tr tW.lt ho1 hb1s).mono ?_
            rintro e w2 ⟨v2, rfl, o2, b2⟩
            go_wp2_with fail
            go_roundw
            case rel => exact ⟨k + n, m + 4 * n, _, by omega, by omega, vint (by omega), o2, hb1.trans b2, Lib.hid (by rw [HD.out, HD1.out, HP.out, List.append_assoc]; rfl), Lib.hid (fun hp => absurd hp (by decide))⟩
            case measure => simp [intOf]; omega
        · go_wp2_with (at_builtin; refine wpList_append_ints rfl (.tmp 53) (.tmp 55) rfl W.heap.size u6 m done rfl (ho1.alloc _) _ 1 1 [c] rfl (Sl.built w1 3 1 1 (ints [c]) rfl (by unfold maxLen; omega)) (m + 1) rfl (done ++ [c]) rfl (by omega) (by simp; omega) ?_; intro v2 w2 o2 b2)
          have hb2 := (hb1.alloc hb1s _).trans b2
          go_roundw
          case rel => exact ⟨k + n, m + 1, done ++ [c], by omega, by omega, vint (by omega), o2, hb2, Lib.hid (by rw [HD.out, HD1.out, List.append_assoc]; rfl), Lib.hid (fun hp => by have h2 := HD2.out; simp at h2; rw [HA.out hp, h2]; omega)⟩
          case measure => simp [intOf]; omega
      · obtain rfl : k = s.size := by omega
        have HE : Hid (decR p (strInts s) = (done, 0, 0)) := Lib.hid (by
          have e : (strInts s).drop s.size = [] := List.drop_eq_nil_of_le (by rw [HC.out]; exact Nat.le_refl _)
          have hd := HD.out
          have ha := HA.out
          rw [e] at hd ha
          rw [decR, if_pos HK.out, if_neg, hd]
          · simp [decL_nil]
          · rintro ⟨hp, hlt⟩
            have := ha hp
            rw [HC.out] at hlt
            simp [badD_nil] at this
            omega)
        have g1 := (hb.block w.heap.size sW).trans GW.out
        obtain ⟨⟨y0, y1⟩, f0, f1⟩ := box2 g1
        have t1 := bW.trans (hb.mono (Nat.le_of_lt sW))
        obtain ⟨E, g, rfl, hl, hf⟩ := ho.sl_from
        go_wp2_with fail
        rw [Exit.noGoto_ret, HE.out]
        refine bodyPost_ret (v := .tuple #[.slice E m g, .agg #[.int .i64 0, .int .i64 0]]) (by simp [results, Tryd.results20, go_sem, y0, y1]) rfl ⟨E, m, g, rfl, ?_, (t1.setCell (by simp) _).setCell (by simp) _⟩
        exact (hl.setCell hf sW _).setCell hf sW _

/-- Whether there is no ill-formed part. -/
def good (l : List Int) : Bool := decide (badD l = l.length)
theorem good_at {l : List Int} {n : Nat} {c : Int} (hk : 0 < l.length) (hs : step l = (c, n, true)) : good l = good (l.drop n) := by
  have hb := step_bounds hk
  rw [hs] at hb
  dsimp only at hb
  have := badD_step hk
  rw [hs] at this
  simp at this
  unfold good
  rw [this, List.length_drop]
  congr 1
  simp only [eq_iff_iff]
  omega
theorem good_no {l : List Int} {n : Nat} {c : Int} (hk : 0 < l.length) (hs : step l = (c, n, false)) : good l = false := by
  have := badD_step hk
  rw [hs] at this
  simp at this
  unfold good
  rw [this, decide_eq_false_iff_not]
  omega

set_option maxHeartbeats 1000000 in
theorem valid8_x {s : ByteArray} {r : Bool} (h : good (strInts s) = r) (hs : s.size ≤ 5000) (w : World) : Calls Tryd.prog 23 #[.string s] w (Tells (.bool r) w) := by
  have H := Lib.hid h
  clear h
  go_enter Tryd.func23, Tryd.ntmps23
  go_wp2_with fail
  go_loopw [0] (fun v wr => ∃ t : ByteArray, v = .string t ∧ t.size ≤ 5000 ∧ Hid (good (strInts t) = r) ∧ Drawn w wr) (fun v _ => match v with | .string t => t.size | _ => 0)
  case atStart => exact ⟨s, rfl, hs, H, Drawn.refl _⟩
  case round =>
    obtain ⟨t, rfl, hts, HG, hd⟩ := hrel
    rcases Nat.eq_zero_or_pos t.size with h0 | h0
    · have HR : Hid (r = true) := Lib.hid (by
        have : strInts t = [] := List.eq_nil_of_length_eq_zero (by rw [strInts_len]; exact h0)
        rw [← HG.out, this]; rfl)
      go_wp2_with fail
      go_ret
      exact ⟨by rw [HR.out]; rfl, hd⟩
    · obtain ⟨⟨c, n, ok⟩, hst⟩ : ∃ x, step (strInts t) = x := ⟨_, rfl⟩
      have hl : 0 < (strInts t).length := by rw [strInts_len]; exact h0
      have hb := step_bounds hl
      rw [hst, strInts_len] at hb
      have hn2 : n ≤ t.size := hb.2.1
      have hn1 : 1 ≤ n := hb.1
      have HST := Lib.hid hst
      have HL := Lib.hid hl
      have i1 : (n : Int) ≤ (t.size : Int) := by omega
      have i0 : (0 : Int) < (t.size : Int) := by omega
      clear hst hl hb
      go_wp2_with fail
      refine (pstep_x HST.out (by omega) _).mono ?_
      rintro e w1 ⟨rfl, d1⟩
      rcases ok with _ | _
      · have HR : Hid (r = false) := Lib.hid (by rw [← HG.out, good_no HL.out HST.out])
        go_wp2_with fail
        go_ret
        exact ⟨by rw [HR.out]; rfl, hd.trans d1⟩
      · have HN : Hid (good (strInts (t.extract n t.size)) = r) := Lib.hid (by rw [strInts_drop, ← good_at HL.out HST.out, HG.out])
        have hes : (t.extract n t.size).size = t.size - n := by rw [ByteArray.size_extract]; omega
        go_wp2_with fail
        go_roundw
        case rel => exact ⟨_, rfl, by omega, HN, hd.trans d1⟩
        case measure => simp only [hes]; omega
end Go.Proofs.YtpckedihdmibmaaDoor.U8
