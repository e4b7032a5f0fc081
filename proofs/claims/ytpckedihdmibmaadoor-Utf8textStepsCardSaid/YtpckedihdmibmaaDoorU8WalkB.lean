/-
  The walks of Utf8textForms, Utf8textBack and Utf8textAgain.
-/
import Derived.Test.YtpckedihdmibmaaDoorU8WalkA
namespace Go.Proofs.YtpckedihdmibmaaDoor.U8
open Go.RowKit
set_option linter.unusedVariables false

theorem form8_range {c : Int} (h : isScalar c = true) : ∀ x ∈ form8 c, 0 ≤ x ∧ x ≤ 255 := by
  have hs := isScalar_iff.1 h
  intro x hx
  rcases Int.lt_or_le c 128 with h1 | h1
  · rw [form1 h1] at hx; simp at hx; omega
  · rcases Int.lt_or_le c 2048 with h2 | h2
    · rw [form2 h1 h2] at hx; simp at hx; omega
    · rcases Int.lt_or_le c 65536 with h3 | h3
      · rw [form3 h2 h3] at hx; simp at hx; omega
      · rw [form4 h3] at hx; simp at hx; omega
theorem encL_range (q : Int) : ∀ {l : List Int}, (∀ c ∈ l, isScalar c = true) → ∀ x ∈ encL q l, 0 ≤ x ∧ x ≤ 255
  | [], _, x, hx => by cases hx
  | c :: r, h, x, hx => by
    have hc := h c (List.mem_cons_self ..)
    rw [encL_cons, one8, if_pos hc] at hx
    rcases List.mem_append.1 hx with hx | hx
    · exact form8_range hc x hx
    · exact encL_range q (fun d hd => h d (List.mem_cons_of_mem _ hd)) x hx
theorem known_ok {p : Int} (h1 : 1 ≤ p) (h2 : p ≤ 4) : known p = true := by simp only [known, decide_eq_true_eq]; omega
theorem encR_good {p : Int} {zs : List Int} (hp : known p = true) (h : bad zs = zs.length) : encR p zs = (encL p zs, 0, 0) := by rw [encR, if_pos hp, if_neg (fun e => by omega)]
theorem decR_good {p : Int} {l : List Int} (hp : known p = true) (h : badD l = l.length) : decR p l = (decL p l, 0, 0) := by rw [decR, if_pos hp, if_neg (fun e => by omega)]
theorem decR_skip {p : Int} {l : List Int} (hp : known p = true) (h : p ≠ 1) : decR p l = (decL p l, 0, 0) := by rw [decR, if_pos hp, if_neg (fun e => h e.1)]
theorem decR_fail {l : List Int} (h : badD l < l.length) : decR 1 l = ([], 9, (badD l : Int)) := by rw [decR, if_pos (by decide), if_pos ⟨rfl, h⟩]
theorem encL_one {c : Int} (h : isScalar c = true) : encL 1 [c] = form8 c := by rw [encL_cons, encL_nil, one8, if_pos h, List.append_nil]

set_option maxRecDepth 100000 in
set_option maxHeartbeats 1000000 in
theorem forms_walk (c : Int) (w : World) (ht : Tabs w) : Calls Tryd.prog 3 #[.int .i64 c] w (Makes (.bool true) w) := by
  obtain ⟨n, hn⟩ : ∃ n, len8 c = n := ⟨_, rfl⟩
  have HN := Lib.hid hn
  have qn : ((n : Int) == (n : Int)) = true := beq_self_eq_true _
  rcases hs : isScalar c with _ | _
  · have HS := Lib.hid hs
    obtain rfl : n = 0 := by rw [← hn, len8, hs]; rfl
    have HE : Hid (encR 1 [c] = ([], 9, 0)) := Lib.hid (by rw [encR, if_pos (by decide), bad, hs]; rfl)
    clear hn hs
    go_enter Tryd.func3, Tryd.ntmps3
    go_wp2_with fail
    refine (encode_x HE.out (t := ⟨#[]⟩) rfl _ (Tab.alloc ht.1 _) (Sl.built w 3 1 1 (ints [c]) rfl (ml 1 (by omega))) (by omega)).mono ?_
    rintro e w1 ⟨rfl, b1⟩
    have k1 := Bk.fresh (Below.past b1) #[.int .i64 9, .int .i64 0] 24
    obtain ⟨x0, x1⟩ := k1.two
    have t1 := k1.below
    clear k1 b1
    go_wp2_with fail
    refine (length_x HN.out _).mono ?_
    rintro e w' ⟨rfl, rfl⟩
    go_wp2_with fail
    go_quiet (first
      | (go_at_call 13; exact Calls.quiet_of_same ((ref_length_x HN.out _).mono (fun e w' h => ⟨h.1, h.2.symm⟩)))
      | (go_at_call 14; exact Calls.quiet_of_same ((ref_scalar_x HS.out _).mono (fun e w' h => ⟨h.1, h.2.symm⟩))))
    go_wp2_with fail
    refine (ref_form_none HS.out _).mono ?_
    rintro e w2 ⟨rfl, b2⟩
    have t2 := Below.then (drewN_below t1 _) b2
    clear t1 b2 x0 x1
    go_wp2_with fail
    refine (alive_any _ (ht.next t2)).mono ?_
    rintro e w4 ⟨rfl, b4⟩
    go_wp2_with fail
    go_ret
    exact ⟨rfl, Below.then t2 b4⟩
  · have HS := Lib.hid hs
    obtain ⟨t, hst⟩ : ∃ t, strOfNums (form8 c) = t := ⟨_, rfl⟩
    have hts : t.size = n := by rw [← hst, strOfNums_size, ← hn, len8, hs, if_pos rfl]
    have htt : (t.toList == t.toList) = true := beq_self_eq_true _
    have HT := Lib.hid hst
    have HE : Hid (encR 1 [c] = (form8 c, 0, 0)) := Lib.hid (by rw [encR_good (by decide) (by simp [bad, hs]), encL_one hs])
    clear hn hs hst
    go_enter Tryd.func3, Tryd.ntmps3
    go_wp2_with fail
    refine (encode_x HE.out HT.out _ (Tab.alloc ht.1 _) (Sl.built w 3 1 1 (ints [c]) rfl (ml 1 (by omega))) (by omega)).mono ?_
    rintro e w1 ⟨rfl, b1⟩
    have k1 := Bk.fresh (Below.past b1) #[.int .i64 0, .int .i64 0] 24
    obtain ⟨x0, x1⟩ := k1.two
    have t1 := k1.below
    clear k1 b1
    go_wp2_with fail
    refine (length_x HN.out _).mono ?_
    rintro e w' ⟨rfl, rfl⟩
    go_wp2_with fail
    go_quiet (first
      | (go_at_call 13; exact Calls.quiet_of_same ((ref_length_x HN.out _).mono (fun e w' h => ⟨h.1, h.2.symm⟩)))
      | (go_at_call 14; exact Calls.quiet_of_same ((ref_scalar_x HS.out _).mono (fun e w' h => ⟨h.1, h.2.symm⟩))))
    go_wp2_with fail
    refine (ref_form_any HS.out _).mono ?_
    rw [HT.out]
    rintro e w2 ⟨rfl, b2⟩
    have t2 := Below.then (drewN_below t1 _) b2
    clear t1 b2 x0 x1
    go_wp2_with fail
    refine (alive_any _ (ht.next t2)).mono ?_
    rintro e w4 ⟨rfl, b4⟩
    go_wp2_with fail
    go_ret
    exact ⟨rfl, Below.then t2 b4⟩

set_option maxRecDepth 100000 in
set_option maxHeartbeats 1000000 in
theorem back_walk (A : Option Addr) (n c : Nat) (zs : List Int) (a : Int) (ha0 : 0 ≤ a) (ha1 : a ≤ 255) (w : World) (ht : Tabs w) (hx : Sl w A n c 1 (ints zs)) :
    Calls Tryd.prog 7 #[.slice A n c, .int .u8 a] w (Makes (.bool true) w) := by
  have hcap := hx.cap
  have hmax := hx.max
  have HC := Lib.hid hx.count
  rcases Nat.lt_or_ge 200 n with hn | hn
  · go_enter Tryd.func7, Tryd.ntmps7
    go_wp2_with fail
    refine (alive_any _ ht).mono ?_
    rintro e w1 ⟨rfl, b1⟩
    go_wp2_with fail
    go_ret
    exact ⟨rfl, b1⟩
  · obtain ⟨p, hp⟩ : ∃ p, 1 + a % 4 = p := ⟨_, rfl⟩
    have HP := Lib.hid hp
    go_enter Tryd.func7, Tryd.ntmps7
    have hp1 : 1 ≤ p := by omega
    have hp4 : p ≤ 4 := by omega
    have HK := Lib.hid (known_ok hp1 hp4)
    go_wp2_with fail
    go_loopw [6] (fun i wr => ∃ k : Nat, k ≤ n ∧ i = .int .i64 k ∧ wr = w ∧ Hid (∀ j, j < k → isScalar (zs.getD j 0) = true)) (fun i _ => n - (intOf i).toNat)
    case atStart => exact ⟨0, by omega, rfl, rfl, Lib.hid (fun j hj => by omega)⟩
    case round =>
      obtain ⟨k, hkn, rfl, rfl, HA⟩ := hrel
      by_cases hlt : k < n
      · obtain ⟨b, off, rfl, _, hcell⟩ := hx.int_at hlt
        obtain ⟨x, hx'⟩ : ∃ x, zs.getD k 0 = x := ⟨_, rfl⟩
        have HX := Lib.hid hx'
        rw [hx'] at hcell
        clear hx'
        rcases hs : isScalar x with _ | _
        · have HS := Lib.hid hs
          clear hs
          go_wp2_with fail
          refine (ref_scalar_x HS.out _).mono ?_
          rintro e w' ⟨rfl, rfl⟩
          go_wp2_with fail
          refine (alive_any _ ht).mono ?_
          rintro e w1 ⟨rfl, b1⟩
          go_wp2_with fail
          go_ret
          exact ⟨rfl, b1⟩
        · have HS := Lib.hid hs
          have HAN : Hid (∀ j, j < k + 1 → isScalar (zs.getD j 0) = true) := Lib.hid (fun j hj => by
            rcases Nat.lt_or_ge j k with h | h
            · exact HA.out j h
            · obtain rfl : j = k := by omega
              rw [HX.out]; exact HS.out)
          clear hs
          go_wp2_with fail
          refine (ref_scalar_x HS.out _).mono ?_
          rintro e w' ⟨rfl, rfl⟩
          go_wp2_with fail
          go_roundw
          case rel => exact ⟨k + 1, by omega, by go_num, trivial, HAN⟩
          case measure => simp [intOf]; omega
      · obtain rfl : k = n := by omega
        have hbad : bad zs = zs.length := bad_none (fun j hj => HA.out j (by rw [HC.out]; exact hj))
        have hall := bad_all hbad
        have hr := encL_range p hall
        obtain ⟨t, hst⟩ : ∃ t, strOfNums (encL p zs) = t := ⟨_, rfl⟩
        have hti : strInts t = encL p zs := by rw [← hst, strOf_ints hr]
        have htz : t.size ≤ 5000 := by
          have h1 := encL_len p zs
          rw [← hst, strOfNums_size]
          have := HC.out
          omega
        obtain ⟨e1, e2⟩ := dec_enc p p hall
        have HE := Lib.hid (encR_good HK.out hbad)
        have HT := Lib.hid hst
        have HD : Hid (decR p (strInts t) = (zs, 0, 0)) := Lib.hid (by rw [hti, decR_good HK.out e2, e1])
        have HG : Hid (good (strInts t) = true) := Lib.hid (by rw [hti, good, e2]; simp)
        have HZ := Lib.hid htz
        have hq := fault_same 0 0
        have hg := Tryd.eqGuardType24
        clear hbad hall hr hst hti htz e1 e2
        go_wp2_with fail
        refine (encode_x HE.out HT.out _ ht.1 hx (by omega)).mono ?_
        rintro e w1 ⟨rfl, b1⟩
        have k1 := Bk.fresh b1 #[.int .i64 0, .int .i64 0] 24
        have hx1 := Sl.alloc (hx.keep b1) (.cells #[.int .i64 0, .int .i64 0] 24)
        clear b1
        go_wp2_with fail
        refine (decode_x HD.out _ (ht.next k1.below).2 HZ.out).mono ?_
        rintro e w2 ⟨A2, n2, c2, rfl, l2, b2⟩
        have q1 := (k1.step b2).alloc (.cells #[.int .i64 0, .int .i64 0] 24)
        have q2 := Bk.fresh (k1.step b2).below #[.int .i64 0, .int .i64 0] 24
        have hx2 := Sl.alloc (hx1.keep b2) (.cells #[.int .i64 0, .int .i64 0] 24)
        have m2 := Sl.alloc l2 (.cells #[.int .i64 0, .int .i64 0] 24)
        obtain ⟨x0, x1⟩ := q1.two
        obtain ⟨y0, y1⟩ := q2.two
        have t2 := q1.below
        clear k1 hx1 b2 l2 q1 q2
        go_wp2_with fail
        refine (ref_equal_x (b := true) (by simp) m2 hx2).mono ?_
        rintro e w3 ⟨rfl, d3⟩
        have t3 := Below.then t2 (d3.below _)
        clear m2 hx2 d3 t2 x0 x1 y0 y1
        go_wp2_with fail
        refine (valid8_x HG.out HZ.out _).mono ?_
        rintro e w4 ⟨rfl, d4⟩
        have t4 := Below.then t3 (d4.below _)
        clear t3 d4
        go_wp2_with fail
        refine (alive_any _ (ht.next t4)).mono ?_
        rintro e w5 ⟨rfl, b5⟩
        go_wp2_with fail
        go_ret
        exact ⟨rfl, Below.then t4 b5⟩

set_option maxRecDepth 100000 in
set_option maxHeartbeats 1000000 in
theorem again_long (s : ByteArray) (a : Int) (w : World) (ht : Tabs w) (hsz : s.size ≤ 9223372036854775807) (hn : 300 < s.size) :
    Calls Tryd.prog 8 #[.string s, .int .u8 a] w (Makes (.bool true) w) := by
  go_enter Tryd.func8, Tryd.ntmps8
  go_wp2_with fail
  refine (alive_any _ ht).mono ?_
  rintro e w1 ⟨rfl, b1⟩
  go_wp2_with fail
  go_ret
  exact ⟨rfl, b1⟩
set_option maxRecDepth 100000 in
set_option maxHeartbeats 1000000 in
theorem again_bad (s : ByteArray) (a : Int) (ha0 : 0 ≤ a) (ha1 : a ≤ 255) (w : World) (ht : Tabs w) (hn : s.size ≤ 300) (hp : 1 + a % 4 = 1) (hb : badD (strInts s) < (strInts s).length) :
    Calls Tryd.prog 8 #[.string s, .int .u8 a] w (Makes (.bool true) w) := by
  have HE := Lib.hid (decR_fail hb)
  have HG : Hid (good (strInts s) = false) := Lib.hid (by rw [good, decide_eq_false_iff_not]; omega)
  obtain ⟨d, hd⟩ : ∃ d, badD (strInts s) = d := ⟨_, rfl⟩
  rw [hd, strInts_len] at hb
  rw [hd] at HE
  have hdi : (d : Int) < (s.size : Int) := by omega
  have hd0 : (0 : Int) ≤ (d : Int) := by omega
  clear hb hd
  go_enter Tryd.func8, Tryd.ntmps8
  go_wp2_with fail
  refine (decode_x HE.out _ ht.2 (by omega)).mono ?_
  rintro e w1 ⟨A1, n1, c1, rfl, l1, b1⟩
  obtain rfl : n1 = 0 := l1.count
  have k1 := Bk.fresh b1 #[.int .i64 9, .int .i64 (d : Int)] 24
  have t1 := k1.below
  clear l1 b1
  go_wp2_with fail
  refine (valid8_x HG.out (by omega) _).mono ?_
  rintro e w2 ⟨rfl, d2⟩
  have k2 := k1.drawn d2
  obtain ⟨x0, x1⟩ := k2.two
  have t2 := k2.below
  clear k1 k2 d2 t1
  go_wp2_with fail
  refine (alive_any _ (ht.next t2)).mono ?_
  rintro e w3 ⟨rfl, b3⟩
  go_wp2_with fail
  go_ret
  exact ⟨rfl, Below.then t2 b3⟩
set_option maxRecDepth 100000 in
set_option maxHeartbeats 1000000 in
theorem again_good (s : ByteArray) (a p : Int) (ha0 : 0 ≤ a) (ha1 : a ≤ 255) (w : World) (ht : Tabs w) (hn : s.size ≤ 300) (hp : 1 + a % 4 = p) (hb : badD (strInts s) = (strInts s).length) :
    Calls Tryd.prog 8 #[.string s, .int .u8 a] w (Makes (.bool true) w) := by
  have hp1 : 1 ≤ p := by omega
  have hp4 : p ≤ 4 := by omega
  have hk := known_ok hp1 hp4
  obtain ⟨e1, e2⟩ := enc_dec p 1 _ _ (Nat.le_refl _) (strInts_range s) hb
  have HD := Lib.hid (decR_good hk hb)
  have HE : Hid (encR 1 (decL p (strInts s)) = (strInts s, 0, 0)) := Lib.hid (by rw [encR_good (by decide) (all_bad e2), e1])
  have HS := Lib.hid (strOf_strInts s)
  have HG : Hid (good (strInts s) = true) := Lib.hid (by rw [good, hb]; simp)
  have hl := decL_len p _ _ (Nat.le_refl (strInts s).length)
  rw [strInts_len] at hl
  have HL := Lib.hid hl
  have htt : (s.toList == s.toList) = true := beq_self_eq_true _
  have hq := fault_same 0 0
  have hg := Tryd.eqGuardType24
  clear hk e1 e2 hl hb
  have hpc : p = 1 ∨ (p ≠ 1 ∧ (p == 1) = false) := by
    by_cases h : p = 1
    · exact .inl h
    · exact .inr ⟨h, by rw [beq_eq_false_iff_ne]; exact h⟩
  rcases hpc with rfl | ⟨hne, hpb⟩
  all_goals
    go_enter Tryd.func8, Tryd.ntmps8
    go_wp2_with fail
    refine (decode_x HD.out _ ht.2 (by omega)).mono ?_
    rintro e w1 ⟨A1, n1, c1, rfl, l1, b1⟩
    have hn1 : n1 ≤ 5000 := by rw [l1.count]; have := HL.out; omega
    have k1 := Bk.fresh b1 #[.int .i64 0, .int .i64 0] 24
    have m1 := Sl.alloc l1 (.cells #[.int .i64 0, .int .i64 0] 24)
    clear l1 b1
    go_wp2_with fail
    refine (encode_x HE.out HS.out _ (ht.next k1.below).1 m1 hn1).mono ?_
    rintro e w2 ⟨rfl, b2⟩
    have k2 := Bk.fresh (k1.step b2).below #[.int .i64 0, .int .i64 0] 24
    obtain ⟨x0, x1⟩ := k2.two
    have t2 := k2.below
    clear m1 k1 b2 k2
    go_wp2_with fail
  · refine (alive_any _ (ht.next t2)).mono ?_
    rintro e w3 ⟨rfl, b3⟩
    go_wp2_with fail
    go_ret
    exact ⟨rfl, Below.then t2 b3⟩
  · refine (valid8_x HG.out (by omega) _).mono ?_
    rintro e w3 ⟨rfl, d3⟩
    have t3 := Below.then t2 (d3.below _)
    clear x0 x1 t2 d3
    go_wp2_with fail
    refine (alive_any _ (ht.next t3)).mono ?_
    rintro e w4 ⟨rfl, b4⟩
    go_wp2_with fail
    go_ret
    exact ⟨rfl, Below.then t3 b4⟩
set_option maxRecDepth 100000 in
set_option maxHeartbeats 1000000 in
theorem again_skip (s : ByteArray) (a p : Int) (ha0 : 0 ≤ a) (ha1 : a ≤ 255) (w : World) (ht : Tabs w) (hn : s.size ≤ 300) (hp : 1 + a % 4 = p) (hne : p ≠ 1) (hb : badD (strInts s) < (strInts s).length) :
    Calls Tryd.prog 8 #[.string s, .int .u8 a] w (Makes (.bool true) w) := by
  have hk := known_ok (p := p) (by omega) (by omega)
  have hsc := dec_scalars (p := p) _ _ (Nat.le_refl _) (strInts_range s)
  have HD := Lib.hid (decR_skip (l := strInts s) hk hne)
  obtain ⟨us, hus⟩ : ∃ us, encL 1 (decL p (strInts s)) = us := ⟨_, rfl⟩
  obtain ⟨t, hst⟩ : ∃ t, strOfNums us = t := ⟨_, rfl⟩
  have HE : Hid (encR 1 (decL p (strInts s)) = (us, 0, 0)) := Lib.hid (by rw [encR_good (by decide) (all_bad hsc), hus])
  have HS := Lib.hid hst
  have HG : Hid (good (strInts s) = false) := Lib.hid (by rw [good, decide_eq_false_iff_not]; omega)
  have hl := decL_len p _ _ (Nat.le_refl (strInts s).length)
  rw [strInts_len] at hl
  have HL := Lib.hid hl
  have hq := fault_same 0 0
  have hg := Tryd.eqGuardType24
  have hpb : (p == 1) = false := by rw [beq_eq_false_iff_ne]; exact hne
  clear hk hsc hl hb hus hst
  go_enter Tryd.func8, Tryd.ntmps8
  go_wp2_with fail
  refine (decode_x HD.out _ ht.2 (by omega)).mono ?_
  rintro e w1 ⟨A1, n1, c1, rfl, l1, b1⟩
  have hn1 : n1 ≤ 5000 := by rw [l1.count]; have := HL.out; omega
  have k1 := Bk.fresh b1 #[.int .i64 0, .int .i64 0] 24
  have m1 := Sl.alloc l1 (.cells #[.int .i64 0, .int .i64 0] 24)
  clear l1 b1
  go_wp2_with fail
  refine (encode_x HE.out HS.out _ (ht.next k1.below).1 m1 hn1).mono ?_
  rintro e w2 ⟨rfl, b2⟩
  have k2 := Bk.fresh (k1.step b2).below #[.int .i64 0, .int .i64 0] 24
  obtain ⟨x0, x1⟩ := k2.two
  have t2 := k2.below
  clear m1 k1 b2 k2
  go_wp2_with fail
  refine (valid8_x HG.out (by omega) _).mono ?_
  rintro e w3 ⟨rfl, d3⟩
  have t3 := Below.then t2 (d3.below _)
  clear x0 x1 t2 d3
  go_wp2_with fail
  refine (alive_any _ (ht.next t3)).mono ?_
  rintro e w4 ⟨rfl, b4⟩
  go_wp2_with fail
  go_ret
  exact ⟨rfl, Below.then t3 b4⟩
theorem again_walk (s : ByteArray) (a : Int) (ha0 : 0 ≤ a) (ha1 : a ≤ 255) (w : World) (ht : Tabs w) (hsz : s.size ≤ 9223372036854775807) :
    Calls Tryd.prog 8 #[.string s, .int .u8 a] w (Makes (.bool true) w) := by
  rcases Nat.lt_or_ge 300 s.size with hn | hn
  · exact again_long s a w ht hsz hn
  · have hle := badD_le _ _ (Nat.le_refl (strInts s).length)
    rcases Nat.lt_or_ge (badD (strInts s)) (strInts s).length with hb | hb
    · by_cases hp : 1 + a % 4 = 1
      · exact again_bad s a ha0 ha1 w ht hn hp hb
      · exact again_skip s a _ ha0 ha1 w ht hn rfl hp hb
    · exact again_good s a _ ha0 ha1 w ht hn rfl (by omega)
end Go.Proofs.YtpckedihdmibmaaDoor.U8
