/-
  The walks of Utf16textEncodes, Utf16textDecodes, Utf16textReturns, Utf16textMarks and Utf16textWhole.
-/
import Derived.Test.YtjfhhcaikapfiaaDoorUxAwake
import Derived.Test.YtjfhhcaikapfiaaDoorUxRefB
namespace Go.Proofs.YtjfhhcaikapfiaaDoor.Ux
open Go.RowKit
set_option linter.unusedVariables false

theorem decL_len (p : Int) : ∀ l : List Int, (decL p l).length ≤ 10 * l.length
  | [] => by simp [decL]
  | [u] => by
    have := sub_len u p
    rw [decL]
    split <;> simp <;> omega
  | u :: v :: r => by
    have h1 := decL_len p (v :: r)
    have h2 := decL_len p r
    have := sub_len u p
    rw [decL]
    repeat' split
    · simp at h1 ⊢; omega
    · simp; omega
    · rw [List.length_append]
      simp at h1 ⊢; omega
theorem known_ok {p : Int} (h : known p = true) : 1 ≤ p ∧ p ≤ 4 := by simpa [known] using h
theorem encR_fail {zs : List Int} (h : bad zs < zs.length) : encR 1 zs = ([], 9, (bad zs : Int)) := by rw [encR, if_pos (by decide), if_pos ⟨rfl, h⟩]
theorem encR_good {zs : List Int} (h : bad zs = zs.length) : encR 1 zs = (encL 1 zs, 0, 0) := by rw [encR, if_pos (by decide), if_neg (fun e => by omega)]
theorem decR_fail {zs : List Int} (h : badD zs < zs.length) : decR 1 zs = ([], 9, (badD zs : Int)) := by rw [decR, if_pos (by decide), if_pos ⟨rfl, h⟩]
theorem decR_good {zs : List Int} {p : Int} (hp : known p = true) (h : badD zs = zs.length) : decR p zs = (decL p zs, 0, 0) := by rw [decR, if_pos hp, if_neg (fun e => by omega)]
theorem decR_skip {zs : List Int} {p : Int} (hp : known p = true) (h : p ≠ 1) : decR p zs = (decL p zs, 0, 0) := by rw [decR, if_pos hp, if_neg (fun e => h e.1)]
theorem decR_enc {zs : List Int} {p : Int} (hp : known p = true) (h : bad zs = zs.length) : decR p (encL 1 zs) = (zs, 0, 0) := by
  obtain ⟨h1, h2⟩ := dec_enc p 1 (bad_all h)
  rw [decR_good hp h2, h1]
theorem encR_dec {zs : List Int} {p : Int} (h : badD zs = zs.length) : encR 1 (decL p zs) = (zs, 0, 0) := by
  obtain ⟨h1, h2⟩ := enc_dec p 1 zs h
  rw [encR_good (all_bad h2), h1]
theorem encR_replace (zs : List Int) : encR 1 (decL 2 zs) = (encL 1 (decL 2 zs), 0, 0) := encR_good (all_bad (dec_scalars zs))

theorem ref_encode_x {A : Option Addr} {n c : Nat} {zs us : List Int} {p r a : Int} (he : encR p zs = (us, r, a)) (w : World) (h : Sl w A n c 1 (ints zs)) (hn : n ≤ 5000) :
    Calls Tryd.prog 12 #[.slice A n c, .int .i64 p] w (ListFault us r a w) := by
  have := ref_encode_any A n c zs p w h hn
  rw [he] at this
  exact this
theorem ref_decode_x {A : Option Addr} {n c : Nat} {zs us : List Int} {p r a : Int} (he : decR p zs = (us, r, a)) (w : World) (h : Sl w A n c 1 (ints zs)) (hn : n ≤ 5000) :
    Calls Tryd.prog 15 #[.slice A n c, .int .i64 p] w (ListFault us r a w) := by
  have := ref_decode_any A n c zs p w h hn
  rw [he] at this
  exact this
theorem ref_bytes_x {A : Option Addr} {n c : Nat} {zs : List Int} {big mark : Bool} {s : ByteArray} {us : List Int} {r a : Int} (he : bytesR zs big mark = (us, r, a)) (hs : strOfNums us = s) (w : World) (h : Sl w A n c 1 (ints zs)) (hn : n ≤ 5000) :
    Calls Tryd.prog 17 #[.slice A n c, .bool big, .bool mark] w (StrFault s r a w) := by
  have := ref_bytes_any A n c zs big mark w h hn
  rw [he, hs] at this
  exact this
theorem ref_units_x {s : ByteArray} {big b : Bool} {zs : List Int} {r a : Int} (he : unitsR (strInts s) big = (zs, b, r, a)) (w : World) (hn : s.size ≤ 10000) :
    Calls Tryd.prog 19 #[.string s, .bool big] w (UnitsRes zs b r a w) := by
  have := ref_units_any s big w hn
  rw [he] at this
  exact this

set_option maxRecDepth 100000 in
set_option maxHeartbeats 1000000 in
theorem encodes_walk (A : Option Addr) (n c : Nat) (zs : List Int) (p : Int) (w : World) (ht : Tab w) (hx : Sl w A n c 1 (ints zs)) :
    Calls Tryd.prog 3 #[.slice A n c, .int .i64 p] w (Makes (.bool true) w) := by
  have hcap := hx.cap
  have hmax := hx.max
  rcases Nat.lt_or_ge 300 n with hn | hn
  · go_enter Tryd.func3, Tryd.ntmps3
    go_wp2_with fail
    refine (awake_any _ ht).mono ?_
    rintro e w1 ⟨rfl, b1⟩
    go_wp2_with fail
    go_ret
    exact ⟨rfl, b1⟩
  · obtain ⟨⟨us, r, a⟩, he⟩ : ∃ x, encR p zs = x := ⟨_, rfl⟩
    have HE := Lib.hid he
    clear he
    go_enter Tryd.func3, Tryd.ntmps3
    go_wp2_with fail
    refine (encode_x HE.out _ ht hx (by omega)).mono ?_
    rintro e w1 ⟨A1, n1, c1, rfl, l1, b1⟩
    go_wp2_with fail
    refine (ref_encode_x HE.out _ (Sl.alloc (hx.keep b1) _) (by omega)).mono ?_
    rintro e w2 ⟨A2, n2, c2, rfl, l2, b2⟩
    have k1 := (Bk.fresh b1 #[.int .i64 r, .int .i64 a] 26).step b2
    have m1 := (Sl.alloc l1 _).keep b2
    clear b1 b2 l1
    go_wp2_with fail
    refine (ref_equal_x (b := true) (by simp) (Sl.alloc m1 _) (Sl.alloc l2 _)).mono ?_
    rintro e w3 ⟨rfl, d3⟩
    have q1 := (k1.alloc _).drawn d3
    have q2 := (Bk.fresh k1.below #[.int .i64 r, .int .i64 a] 26).drawn d3
    obtain ⟨x0, x1⟩ := q1.two
    obtain ⟨y0, y1⟩ := q2.two
    have t3 := q1.below
    have hq := fault_same r a
    have hg := Tryd.eqGuardType26
    clear d3 k1 m1 l2 q1 q2
    go_wp2_with fail
    refine (awake_any _ (Tab.next ht t3)).mono ?_
    rintro e w4 ⟨rfl, b4⟩
    go_wp2_with fail
    go_ret
    exact ⟨rfl, Below.then t3 b4⟩

set_option maxRecDepth 100000 in
set_option maxHeartbeats 1000000 in
theorem decodes_walk (A : Option Addr) (n c : Nat) (zs : List Int) (p : Int) (w : World) (ht : Tab w) (hx : Sl w A n c 1 (ints zs)) :
    Calls Tryd.prog 4 #[.slice A n c, .int .i64 p] w (Makes (.bool true) w) := by
  have hcap := hx.cap
  have hmax := hx.max
  rcases Nat.lt_or_ge 300 n with hn | hn
  · go_enter Tryd.func4, Tryd.ntmps4
    go_wp2_with fail
    refine (awake_any _ ht).mono ?_
    rintro e w1 ⟨rfl, b1⟩
    go_wp2_with fail
    go_ret
    exact ⟨rfl, b1⟩
  · obtain ⟨⟨us, r, a⟩, he⟩ : ∃ x, decR p zs = x := ⟨_, rfl⟩
    have HE := Lib.hid he
    clear he
    go_enter Tryd.func4, Tryd.ntmps4
    go_wp2_with fail
    refine (decode_x HE.out _ ht hx (by omega)).mono ?_
    rintro e w1 ⟨A1, n1, c1, rfl, l1, b1⟩
    go_wp2_with fail
    refine (ref_decode_x HE.out _ (Sl.alloc (hx.keep b1) _) (by omega)).mono ?_
    rintro e w2 ⟨A2, n2, c2, rfl, l2, b2⟩
    have k1 := (Bk.fresh b1 #[.int .i64 r, .int .i64 a] 26).step b2
    have m1 := (Sl.alloc l1 _).keep b2
    clear b1 b2 l1
    go_wp2_with fail
    refine (ref_equal_x (b := true) (by simp) (Sl.alloc m1 _) (Sl.alloc l2 _)).mono ?_
    rintro e w3 ⟨rfl, d3⟩
    have q1 := (k1.alloc _).drawn d3
    have q2 := (Bk.fresh k1.below #[.int .i64 r, .int .i64 a] 26).drawn d3
    obtain ⟨x0, x1⟩ := q1.two
    obtain ⟨y0, y1⟩ := q2.two
    have t3 := q1.below
    have hq := fault_same r a
    have hg := Tryd.eqGuardType26
    clear d3 k1 m1 l2 q1 q2
    go_wp2_with fail
    refine (awake_any _ (Tab.next ht t3)).mono ?_
    rintro e w4 ⟨rfl, b4⟩
    go_wp2_with fail
    go_ret
    exact ⟨rfl, Below.then t3 b4⟩

set_option maxRecDepth 100000 in
set_option maxHeartbeats 1000000 in
theorem returns_walk (A : Option Addr) (n c : Nat) (zs : List Int) (p : Int) (w : World) (ht : Tab w) (hx : Sl w A n c 1 (ints zs)) :
    Calls Tryd.prog 6 #[.slice A n c, .int .i64 p] w (Makes (.bool true) w) := by
  have hcap := hx.cap
  have hmax := hx.max
  have hcnt := hx.count
  rcases Nat.lt_or_ge 300 n with hn | hn
  · go_enter Tryd.func6, Tryd.ntmps6
    go_wp2_with fail
    refine (awake_any _ ht).mono ?_
    rintro e w1 ⟨rfl, b1⟩
    go_wp2_with fail
    go_ret
    exact ⟨rfl, b1⟩
  · rcases hk : known p with _ | _
    · have HK := Lib.hid hk
      clear hk
      go_enter Tryd.func6, Tryd.ntmps6
      go_wp2_with fail
      refine (ref_known_x HK.out _).mono ?_
      rintro e w' ⟨rfl, rfl⟩
      go_wp2_with fail
      refine (awake_any _ ht).mono ?_
      rintro e w1 ⟨rfl, b1⟩
      go_wp2_with fail
      go_ret
      exact ⟨rfl, b1⟩
    · have HK := Lib.hid hk
      clear hk
      have hle := bad_le zs
      rcases Nat.lt_or_ge (bad zs) zs.length with hb | hb
      · have HE := Lib.hid (encR_fail hb)
        clear hb hle hcnt
        go_enter Tryd.func6, Tryd.ntmps6
        go_wp2_with fail
        refine (ref_known_x HK.out _).mono ?_
        rintro e w' ⟨rfl, rfl⟩
        go_wp2_with fail
        refine (encode_x HE.out _ ht hx (by omega)).mono ?_
        rintro e w1 ⟨A1, n1, c1, rfl, l1, b1⟩
        obtain rfl : n1 = 0 := l1.count
        have k1 := Bk.fresh b1 #[.int .i64 9, .int .i64 (bad zs : Int)] 26
        go_wp2_with fail
        refine (awake_any _ (Tab.next ht k1.below)).mono ?_
        rintro e w4 ⟨rfl, b4⟩
        go_wp2_with fail
        go_ret
        exact ⟨rfl, Below.then k1.below b4⟩
      · have HB : Hid (bad zs = zs.length) := Lib.hid (by omega)
        have HE := Lib.hid (encR_good HB.out)
        have HD := Lib.hid (decR_enc HK.out HB.out)
        have hul := encL_len 1 zs
        have HUL : Hid ((encL 1 zs).length ≤ 5000) := Lib.hid (by omega)
        clear hb hle hcnt hul
        go_enter Tryd.func6, Tryd.ntmps6
        go_wp2_with fail
        refine (ref_known_x HK.out _).mono ?_
        rintro e w' ⟨rfl, rfl⟩
        go_wp2_with fail
        refine (encode_x HE.out _ ht hx (by omega)).mono ?_
        rintro e w1 ⟨A1, n1, c1, rfl, l1, b1⟩
        have hn1 : n1 ≤ 5000 := by rw [l1.count]; exact HUL.out
        have k1 := Bk.fresh b1 #[.int .i64 0, .int .i64 0] 26
        have m1 := Sl.alloc l1 (.cells #[.int .i64 0, .int .i64 0] 26)
        have mx := Sl.alloc (hx.keep b1) (.cells #[.int .i64 0, .int .i64 0] 26)
        go_wp2_with fail
        refine (decode_x HD.out _ (Tab.next ht k1.below) m1 hn1).mono ?_
        rintro e w2 ⟨A2, n2, c2, rfl, l2, b2⟩
        have k1' := k1.step b2
        have mx' := mx.keep b2
        clear b1 l1 k1 m1 mx b2
        go_wp2_with fail
        refine (ref_equal_x (b := true) (by simp) (Sl.alloc l2 _) (Sl.alloc mx' _)).mono ?_
        rintro e w3 ⟨rfl, d3⟩
        have q2 := (Bk.fresh k1'.below #[.int .i64 0, .int .i64 0] 26).drawn d3
        obtain ⟨y0, y1⟩ := q2.two
        have t3 := q2.below
        clear d3 k1' l2 q2 mx'
        go_wp2_with fail
        refine (awake_any _ (Tab.next ht t3)).mono ?_
        rintro e w4 ⟨rfl, b4⟩
        go_wp2_with fail
        go_ret
        exact ⟨rfl, Below.then t3 b4⟩

set_option maxRecDepth 100000 in
set_option maxHeartbeats 1000000 in
theorem marks_walk (A : Option Addr) (n c : Nat) (zs : List Int) (big other : Bool) (w : World) (ht : Tab w) (hx : Sl w A n c 1 (ints zs)) :
    Calls Tryd.prog 7 #[.slice A n c, .bool big, .bool other] w (Makes (.bool true) w) := by
  have hcap := hx.cap
  have hmax := hx.max
  have hcnt := hx.count
  rcases Nat.lt_or_ge 300 n with hn | hn
  · go_enter Tryd.func7, Tryd.ntmps7
    go_wp2_with fail
    refine (awake_any _ ht).mono ?_
    rintro e w1 ⟨rfl, b1⟩
    go_wp2_with fail
    go_ret
    exact ⟨rfl, b1⟩
  · have hle := badB_le zs
    rcases Nat.lt_or_ge (badB zs) zs.length with hb | hb
    · have HE : Hid (bytesR zs big true = ([], 1, (badB zs : Int))) := Lib.hid (by rw [bytesR, if_pos hb])
      clear hb hle hcnt
      go_enter Tryd.func7, Tryd.ntmps7
      go_wp2_with fail
      refine (bytes_x HE.out (s := ⟨#[]⟩) rfl _ hx (by omega)).mono ?_
      rintro e w1 ⟨rfl, b1⟩
      have k1 := Bk.fresh b1 #[.int .i64 1, .int .i64 (badB zs : Int)] 26
      go_wp2_with fail
      refine (awake_any _ (Tab.next ht k1.below)).mono ?_
      rintro e w4 ⟨rfl, b4⟩
      go_wp2_with fail
      go_ret
      exact ⟨rfl, Below.then k1.below b4⟩
    · have HB : Hid (badB zs = zs.length) := Lib.hid (by omega)
      have hrange : ∀ x ∈ markL big true ++ bytesL zs big, 0 ≤ x ∧ x ≤ 255 := fun x h => by
        rcases List.mem_append.1 h with h | h
        · exact two_byte (u := 65279) (big := big) (by decide) x h
        · exact bytesL_byte (badB_good HB.out) x h
      obtain ⟨s, hs⟩ : ∃ s, strOfNums (markL big true ++ bytesL zs big) = s := ⟨_, rfl⟩
      have HE : Hid (bytesR zs big true = (markL big true ++ bytesL zs big, 0, 0)) := Lib.hid (by rw [bytesR, if_neg (by rw [HB.out]; omega)])
      have HU : Hid (unitsR (strInts s) other = (zs, big, 0, 0)) := Lib.hid (by rw [← hs, strOf_ints hrange, units_marked])
      have HS := Lib.hid hs
      have hsz : s.size ≤ 10000 := by
        have h1 := strInts_len s
        rw [← hs, strOf_ints hrange, List.length_append, bytesL_len] at h1
        have h2 : (markL big true).length = 2 := by cases big <;> rfl
        rw [hs] at h1
        omega
      have HSZ := Lib.hid hsz
      have hbb : (big == big) = true := beq_self_eq_true _
      clear hb hle hcnt hrange hs hsz
      go_enter Tryd.func7, Tryd.ntmps7
      go_wp2_with fail
      refine (bytes_x HE.out HS.out _ hx (by omega)).mono ?_
      rintro e w1 ⟨rfl, b1⟩
      have k1 := Bk.fresh b1 #[.int .i64 0, .int .i64 0] 26
      have mx := Sl.alloc (hx.keep b1) (.cells #[.int .i64 0, .int .i64 0] 26)
      clear b1
      go_wp2_with fail
      refine (units_x HU.out _ HSZ.out).mono ?_
      rintro e w2 ⟨A2, n2, c2, rfl, l2, b2⟩
      have k1' := k1.step b2
      have mx' := mx.keep b2
      clear k1 mx b2
      go_wp2_with fail
      refine (ref_equal_x (b := true) (by simp) (Sl.alloc l2 _) (Sl.alloc mx' _)).mono ?_
      rintro e w3 ⟨rfl, d3⟩
      have q2 := (Bk.fresh k1'.below #[.int .i64 0, .int .i64 0] 26).drawn d3
      obtain ⟨y0, y1⟩ := q2.two
      have t3 := q2.below
      clear d3 k1' l2 q2 mx'
      go_wp2_with fail
      refine (awake_any _ (Tab.next ht t3)).mono ?_
      rintro e w4 ⟨rfl, b4⟩
      go_wp2_with fail
      go_ret
      exact ⟨rfl, Below.then t3 b4⟩
end Go.Proofs.YtjfhhcaikapfiaaDoor.Ux
