/-
  The walk of Utf8textOrders: the order of the strings is that of the texts.
-/
import Derived.Test.YtpckedihdmibmaaDoorU8WalkC
namespace Go.Proofs.YtpckedihdmibmaaDoor.U8
open Go.RowKit
set_option linter.unusedVariables false

theorem form_cases {c : Int} (h : isScalar c = true) : (0 ≤ c ∧ c < 128 ∧ form8 c = [c]) ∨ (128 ≤ c ∧ c < 2048 ∧ form8 c = [192 + c / 64, 128 + c % 64]) ∨ (2048 ≤ c ∧ c < 65536 ∧ form8 c = [224 + c / 4096, 128 + c / 64 % 64, 128 + c % 64]) ∨
    (65536 ≤ c ∧ c ≤ 1114111 ∧ form8 c = [240 + c / 262144, 128 + c / 4096 % 64, 128 + c / 64 % 64, 128 + c % 64]) := by
  have hs := isScalar_iff.1 h
  rcases Int.lt_or_le c 128 with h1 | h1
  · exact .inl ⟨by omega, h1, form1 h1⟩
  · rcases Int.lt_or_le c 2048 with h2 | h2
    · exact .inr (.inl ⟨h1, h2, form2 h1 h2⟩)
    · rcases Int.lt_or_le c 65536 with h3 | h3
      · exact .inr (.inr (.inl ⟨h2, h3, form3 h2 h3⟩))
      · exact .inr (.inr (.inr ⟨h3, by omega, form4 h3⟩))
theorem form_less {c d : Int} (hc : isScalar c = true) (hd : isScalar d = true) (h : c < d) (X Y : List Int) : cmpL (form8 c ++ X) (form8 d ++ Y) = -1 := by
  rcases form_cases hc with ⟨c1, c2, hf⟩ | ⟨c1, c2, hf⟩ | ⟨c1, c2, hf⟩ | ⟨c1, c2, hf⟩ <;>
  rcases form_cases hd with ⟨d1, d2, hg⟩ | ⟨d1, d2, hg⟩ | ⟨d1, d2, hg⟩ | ⟨d1, d2, hg⟩ <;>
  first
    | (exfalso; omega)
    | (rw [hf, hg]; simp only [List.cons_append, List.nil_append, cmpL]; (repeat' split) <;> first | exact ord2_less (by omega) | (exfalso; omega))
theorem cmp_pre : ∀ (l X Y : List Int), cmpL (l ++ X) (l ++ Y) = cmpL X Y
  | [], _, _ => rfl
  | a :: l, X, Y => by
    show cmpL (a :: (l ++ X)) (a :: (l ++ Y)) = _
    rw [cmpL, if_pos rfl, cmp_pre l X Y]
theorem form_more {c d : Int} (hc : isScalar c = true) (hd : isScalar d = true) (h : d < c) (X Y : List Int) : cmpL (form8 c ++ X) (form8 d ++ Y) = 1 := by
  rcases form_cases hc with ⟨c1, c2, hf⟩ | ⟨c1, c2, hf⟩ | ⟨c1, c2, hf⟩ | ⟨c1, c2, hf⟩ <;>
  rcases form_cases hd with ⟨d1, d2, hg⟩ | ⟨d1, d2, hg⟩ | ⟨d1, d2, hg⟩ | ⟨d1, d2, hg⟩ <;>
  first
    | (exfalso; omega)
    | (rw [hf, hg]; simp only [List.cons_append, List.nil_append, cmpL]; (repeat' split) <;> first | exact ord2_more (by omega) | (exfalso; omega))
/-- The order of the strings is that of the texts. -/
theorem cmp_enc (q : Int) : ∀ {a b : List Int}, (∀ c ∈ a, isScalar c = true) → (∀ c ∈ b, isScalar c = true) → cmpL (encL q a) (encL q b) = cmpL a b
  | [], [], _, _ => rfl
  | [], d :: t, _, hb => by
    have hl := form8_len d
    rw [encL_cons, one8, if_pos (hb d (List.mem_cons_self ..)), encL_nil]
    match form8 d, hl with
    | x :: xs, _ => rfl
  | c :: r, [], ha, _ => by
    have hl := form8_len c
    rw [encL_cons, one8, if_pos (ha c (List.mem_cons_self ..)), encL_nil]
    match form8 c, hl with
    | x :: xs, _ => rfl
  | c :: r, d :: t, ha, hb => by
    have hc := ha c (List.mem_cons_self ..)
    have hd := hb d (List.mem_cons_self ..)
    have ih := cmp_enc q (a := r) (b := t) (fun x hx => ha x (List.mem_cons_of_mem _ hx)) (fun x hx => hb x (List.mem_cons_of_mem _ hx))
    rw [encL_cons, encL_cons, one8, if_pos hc, one8, if_pos hd]
    rcases Int.lt_trichotomy c d with h | h | h
    · rw [form_less hc hd h, cmpL, if_neg (by omega), ord2_less h]
    · subst h
      rw [cmp_pre, ih, cmpL, if_pos rfl]
    · rw [form_more hc hd h, cmpL, if_neg (by omega), ord2_more h]
theorem less_bytes : ∀ x y : List UInt8, Op.bytesLess x y = decide (cmpL (x.map fun b => (b.toNat : Int)) (y.map fun b => (b.toNat : Int)) < 0)
  | [], [] => by simp [Op.bytesLess, cmpL]
  | [], _ :: _ => by simp [Op.bytesLess, cmpL]
  | _ :: _, [] => by simp [Op.bytesLess, cmpL]
  | a :: x, b :: y => by
    have ih := less_bytes x y
    simp only [Op.bytesLess, List.map_cons, cmpL]
    rcases Nat.lt_trichotomy a.toNat b.toNat with h | h | h
    · have hab : a < b := UInt8.lt_iff_toNat_lt.2 h
      rw [if_neg (by omega), ord2_less (by omega)]
      simp [hab]
    · have hab : a = b := UInt8.toNat_inj.1 h
      subst hab
      rw [if_pos rfl, ← ih]
      have : ¬ a < a := fun h => by have := UInt8.lt_iff_toNat_lt.1 h; omega
      simp [this]
    · have hab : ¬ a < b := fun h2 => by have := UInt8.lt_iff_toNat_lt.1 h2; omega
      have hne : (a == b) = false := by rw [beq_eq_false_iff_ne]; rintro rfl; omega
      rw [if_neg (by omega), ord2_more (by omega)]
      simp [hab, hne]
theorem same_bytes : ∀ x y : List UInt8, (x == y) = decide (cmpL (x.map fun b => (b.toNat : Int)) (y.map fun b => (b.toNat : Int)) = 0)
  | [], [] => by simp [cmpL]
  | [], _ :: _ => by simp [cmpL]
  | _ :: _, [] => by simp [cmpL]
  | a :: x, b :: y => by
    have ih := same_bytes x y
    simp only [List.map_cons, cmpL]
    rcases Nat.lt_trichotomy a.toNat b.toNat with h | h | h
    · have hne : (a == b) = false := by rw [beq_eq_false_iff_ne]; rintro rfl; omega
      rw [if_neg (by omega), ord2_less (by omega)]
      show (a == b && x == y) = _
      rw [hne]; rfl
    · have hab : a = b := UInt8.toNat_inj.1 h
      subst hab
      rw [if_pos rfl, ← ih]
      show (a == a && x == y) = _
      simp
    · have hne : (a == b) = false := by rw [beq_eq_false_iff_ne]; rintro rfl; omega
      rw [if_neg (by omega), ord2_more (by omega)]
      show (a == b && x == y) = _
      rw [hne]; rfl
theorem less_str (s t : ByteArray) : Op.bytesLess s.toList t.toList = decide (cmpL (strInts s) (strInts t) < 0) := by
  rw [ByteArray.toList_eq, ByteArray.toList_eq, less_bytes]
  rfl
theorem same_str (s t : ByteArray) : (s.toList == t.toList) = decide (cmpL (strInts s) (strInts t) = 0) := by
  rw [ByteArray.toList_eq, ByteArray.toList_eq, same_bytes]
  rfl
theorem encR_fail {zs : List Int} (h : bad zs < zs.length) : encR 1 zs = ([], 9, (bad zs : Int)) := by rw [encR, if_pos (by decide), if_pos ⟨rfl, h⟩]
theorem ref_compare_x {A B : Option Addr} {n1 n2 c d : Nat} {xs ys : List Int} {w : World} {r : Int} (h : cmpL xs ys = r) (ha : Sl w A n1 c 1 (ints xs)) (hb : Sl w B n2 d 1 (ints ys)) :
    Calls Tryd.prog 25 #[.slice A n1 c, .slice B n2 d] w (Tells (.int .i64 r) w) := by
  rw [← h]
  exact ref_compare_any A B n1 n2 c d xs ys w ha hb

set_option maxRecDepth 100000 in
set_option maxHeartbeats 1000000 in
theorem orders_long (A B : Option Addr) (n m c d : Nat) (xs ys : List Int) (w : World) (ht : Tabs w) (hx : Sl w A n c 1 (ints xs)) (hy : Sl w B m d 1 (ints ys)) (h : 100 < n ∨ (n ≤ 100 ∧ 100 < m)) :
    Calls Tryd.prog 10 #[.slice A n c, .slice B m d] w (Makes (.bool true) w) := by
  have hcx := hx.cap
  have hmx := hx.max
  have hcy := hy.cap
  have hmy := hy.max
  rcases h with h1 | ⟨h1, h2⟩
  all_goals
    go_enter Tryd.func10, Tryd.ntmps10
    go_wp2_with fail
    refine (alive_any _ ht).mono ?_
    rintro e w1 ⟨rfl, b1⟩
    go_wp2_with fail
    go_ret
    exact ⟨rfl, b1⟩
set_option maxRecDepth 100000 in
set_option maxHeartbeats 1000000 in
/-- One of the texts can't be encoded: r1, r2 the errors (0 or 9), s1, s2 the strings. -/
theorem orders_bad (A B : Option Addr) (n m c d : Nat) (xs ys : List Int) (w : World) (ht : Tabs w) (hx : Sl w A n c 1 (ints xs)) (hy : Sl w B m d 1 (ints ys)) (h1 : n ≤ 100) (h2 : m ≤ 100)
    (us vs : List Int) (a b r1 r2 : Int) (s1 s2 : ByteArray) (he : encR 1 xs = (us, r1, a)) (hf : encR 1 ys = (vs, r2, b)) (hs : strOfNums us = s1) (ht' : strOfNums vs = s2)
    (hcase : (r1 = 9 ∧ s1 = ⟨#[]⟩ ∧ r2 = 9 ∧ s2 = ⟨#[]⟩) ∨ (r1 = 9 ∧ s1 = ⟨#[]⟩ ∧ r2 = 0) ∨ (r1 = 0 ∧ r2 = 9 ∧ s2 = ⟨#[]⟩)) :
    Calls Tryd.prog 10 #[.slice A n c, .slice B m d] w (Makes (.bool true) w) := by
  have hcx := hx.cap
  have hmx := hx.max
  have hcy := hy.cap
  have hmy := hy.max
  have HE := Lib.hid he
  have HF := Lib.hid hf
  have HS := Lib.hid hs
  have HT := Lib.hid ht'
  clear he hf hs ht'
  rcases hcase with ⟨rfl, rfl, rfl, rfl⟩ | ⟨rfl, rfl, rfl⟩ | ⟨rfl, rfl, rfl⟩
  · go_enter Tryd.func10, Tryd.ntmps10
    go_wp2_with fail
    refine (encode_x HE.out HS.out _ ht.1 hx (by omega)).mono ?_
    rintro e w1 ⟨rfl, b1⟩
    have k1 := Bk.fresh b1 #[.int .i64 9, .int .i64 a] 24
    have hy1 := Sl.alloc (hy.keep b1) (.cells #[.int .i64 9, .int .i64 a] 24)
    clear b1
    go_wp2_with fail
    refine (encode_x HF.out HT.out _ (ht.next k1.below).1 hy1 (by omega)).mono ?_
    rintro e w2 ⟨rfl, b2⟩
    have q1 := (k1.step b2).alloc (.cells #[.int .i64 9, .int .i64 b] 24)
    have q2 := Bk.fresh (k1.step b2).below #[.int .i64 9, .int .i64 b] 24
    obtain ⟨x0, x1⟩ := q1.two
    obtain ⟨y0, y1⟩ := q2.two
    have t2 := q1.below
    clear k1 hy1 b2 q1 q2
    go_wp2_with fail
    refine (alive_any _ (ht.next t2)).mono ?_
    rintro e w3 ⟨rfl, b3⟩
    go_wp2_with fail
    go_ret
    exact ⟨rfl, Below.then t2 b3⟩
  · go_enter Tryd.func10, Tryd.ntmps10
    go_wp2_with fail
    refine (encode_x HE.out HS.out _ ht.1 hx (by omega)).mono ?_
    rintro e w1 ⟨rfl, b1⟩
    have k1 := Bk.fresh b1 #[.int .i64 9, .int .i64 a] 24
    have hy1 := Sl.alloc (hy.keep b1) (.cells #[.int .i64 9, .int .i64 a] 24)
    clear b1
    go_wp2_with fail
    refine (encode_x HF.out HT.out _ (ht.next k1.below).1 hy1 (by omega)).mono ?_
    rintro e w2 ⟨rfl, b2⟩
    have q1 := (k1.step b2).alloc (.cells #[.int .i64 0, .int .i64 b] 24)
    have q2 := Bk.fresh (k1.step b2).below #[.int .i64 0, .int .i64 b] 24
    obtain ⟨x0, x1⟩ := q1.two
    obtain ⟨y0, y1⟩ := q2.two
    have t2 := q1.below
    clear k1 hy1 b2 q1 q2
    go_wp2_with fail
    refine (alive_any _ (ht.next t2)).mono ?_
    rintro e w3 ⟨rfl, b3⟩
    go_wp2_with fail
    go_ret
    exact ⟨rfl, Below.then t2 b3⟩
  · go_enter Tryd.func10, Tryd.ntmps10
    go_wp2_with fail
    refine (encode_x HE.out HS.out _ ht.1 hx (by omega)).mono ?_
    rintro e w1 ⟨rfl, b1⟩
    have k1 := Bk.fresh b1 #[.int .i64 0, .int .i64 a] 24
    have hy1 := Sl.alloc (hy.keep b1) (.cells #[.int .i64 0, .int .i64 a] 24)
    clear b1
    go_wp2_with fail
    refine (encode_x HF.out HT.out _ (ht.next k1.below).1 hy1 (by omega)).mono ?_
    rintro e w2 ⟨rfl, b2⟩
    have q1 := (k1.step b2).alloc (.cells #[.int .i64 9, .int .i64 b] 24)
    have q2 := Bk.fresh (k1.step b2).below #[.int .i64 9, .int .i64 b] 24
    obtain ⟨x0, x1⟩ := q1.two
    obtain ⟨y0, y1⟩ := q2.two
    have t2 := q1.below
    clear k1 hy1 b2 q1 q2
    go_wp2_with fail
    refine (alive_any _ (ht.next t2)).mono ?_
    rintro e w3 ⟨rfl, b3⟩
    go_wp2_with fail
    go_ret
    exact ⟨rfl, Below.then t2 b3⟩
set_option maxRecDepth 100000 in
set_option maxHeartbeats 1000000 in
theorem orders_good (A B : Option Addr) (n m c d : Nat) (xs ys : List Int) (w : World) (ht : Tabs w) (hx : Sl w A n c 1 (ints xs)) (hy : Sl w B m d 1 (ints ys)) (h1 : n ≤ 100) (h2 : m ≤ 100)
    (hbx : bad xs = xs.length) (hby : bad ys = ys.length) :
    Calls Tryd.prog 10 #[.slice A n c, .slice B m d] w (Makes (.bool true) w) := by
  have hcx := hx.cap
  have hmx := hx.max
  have hcy := hy.cap
  have hmy := hy.max
  have hax := bad_all hbx
  have hay := bad_all hby
  obtain ⟨s1, hs1⟩ : ∃ s, strOfNums (encL 1 xs) = s := ⟨_, rfl⟩
  obtain ⟨s2, hs2⟩ : ∃ s, strOfNums (encL 1 ys) = s := ⟨_, rfl⟩
  have e1 : strInts s1 = encL 1 xs := by rw [← hs1, strOf_ints (encL_range 1 hax)]
  have e2 : strInts s2 = encL 1 ys := by rw [← hs2, strOf_ints (encL_range 1 hay)]
  have hL := less_str s1 s2
  have hS := same_str s1 s2
  rw [e1, e2, cmp_enc 1 hax hay] at hL hS
  have HE := Lib.hid (encR_good (p := 1) (by decide) hbx)
  have HF := Lib.hid (encR_good (p := 1) (by decide) hby)
  have HS1 := Lib.hid hs1
  have HS2 := Lib.hid hs2
  have hr := cmp_range xs ys
  obtain ⟨r, hR⟩ : ∃ r, cmpL xs ys = r := ⟨_, rfl⟩
  rw [hR] at hr hL hS
  have HR := Lib.hid hR
  clear hbx hby hax hay hs1 hs2 e1 e2 hR
  have hc : r = -1 ∨ r = 0 ∨ r = 1 := by omega
  clear hr
  rcases hc with rfl | rfl | rfl
  · have hL' : Op.bytesLess s1.toList s2.toList = true := hL.trans (by decide)
    have hS' : (s1.toList == s2.toList) = false := hS.trans (by decide)
    clear hL hS
    go_enter Tryd.func10, Tryd.ntmps10
    go_wp2_with fail
    refine (encode_x HE.out HS1.out _ ht.1 hx (by omega)).mono ?_
    rintro e w1 ⟨rfl, b1⟩
    have k1 := Bk.fresh b1 #[.int .i64 0, .int .i64 0] 24
    have hx1 := Sl.alloc (hx.keep b1) (.cells #[.int .i64 0, .int .i64 0] 24)
    have hy1 := Sl.alloc (hy.keep b1) (.cells #[.int .i64 0, .int .i64 0] 24)
    clear b1
    go_wp2_with fail
    refine (encode_x HF.out HS2.out _ (ht.next k1.below).1 hy1 (by omega)).mono ?_
    rintro e w2 ⟨rfl, b2⟩
    have q1 := (k1.step b2).alloc (.cells #[.int .i64 0, .int .i64 0] 24)
    have q2 := Bk.fresh (k1.step b2).below #[.int .i64 0, .int .i64 0] 24
    have hx2 := Sl.alloc (hx1.keep b2) (.cells #[.int .i64 0, .int .i64 0] 24)
    have hy2 := Sl.alloc (hy1.keep b2) (.cells #[.int .i64 0, .int .i64 0] 24)
    obtain ⟨x0, x1⟩ := q1.two
    obtain ⟨y0, y1⟩ := q2.two
    have t2 := q1.below
    clear k1 hx1 hy1 b2 q1 q2
    go_wp2_with fail
    refine (ref_compare_x HR.out hx2 hy2).mono ?_
    rintro e w3 ⟨rfl, d3⟩
    have t3 := Below.then t2 (d3.below _)
    clear hx2 hy2 d3 t2 x0 x1 y0 y1
    go_wp2_with fail
    refine (alive_any _ (ht.next t3)).mono ?_
    rintro e w4 ⟨rfl, b4⟩
    go_wp2_with fail
    go_ret
    exact ⟨rfl, Below.then t3 b4⟩
  · have hL' : Op.bytesLess s1.toList s2.toList = false := hL.trans (by decide)
    have hS' : (s1.toList == s2.toList) = true := hS.trans (by decide)
    clear hL hS
    go_enter Tryd.func10, Tryd.ntmps10
    go_wp2_with fail
    refine (encode_x HE.out HS1.out _ ht.1 hx (by omega)).mono ?_
    rintro e w1 ⟨rfl, b1⟩
    have k1 := Bk.fresh b1 #[.int .i64 0, .int .i64 0] 24
    have hx1 := Sl.alloc (hx.keep b1) (.cells #[.int .i64 0, .int .i64 0] 24)
    have hy1 := Sl.alloc (hy.keep b1) (.cells #[.int .i64 0, .int .i64 0] 24)
    clear b1
    go_wp2_with fail
    refine (encode_x HF.out HS2.out _ (ht.next k1.below).1 hy1 (by omega)).mono ?_
    rintro e w2 ⟨rfl, b2⟩
    have q1 := (k1.step b2).alloc (.cells #[.int .i64 0, .int .i64 0] 24)
    have q2 := Bk.fresh (k1.step b2).below #[.int .i64 0, .int .i64 0] 24
    have hx2 := Sl.alloc (hx1.keep b2) (.cells #[.int .i64 0, .int .i64 0] 24)
    have hy2 := Sl.alloc (hy1.keep b2) (.cells #[.int .i64 0, .int .i64 0] 24)
    obtain ⟨x0, x1⟩ := q1.two
    obtain ⟨y0, y1⟩ := q2.two
    have t2 := q1.below
    clear k1 hx1 hy1 b2 q1 q2
    go_wp2_with fail
    refine (ref_compare_x HR.out hx2 hy2).mono ?_
    rintro e w3 ⟨rfl, d3⟩
    have t3 := Below.then t2 (d3.below _)
    clear hx2 hy2 d3 t2 x0 x1 y0 y1
    go_wp2_with fail
    refine (alive_any _ (ht.next t3)).mono ?_
    rintro e w4 ⟨rfl, b4⟩
    go_wp2_with fail
    go_ret
    exact ⟨rfl, Below.then t3 b4⟩
  · have hL' : Op.bytesLess s1.toList s2.toList = false := hL.trans (by decide)
    have hS' : (s1.toList == s2.toList) = false := hS.trans (by decide)
    clear hL hS
    go_enter Tryd.func10, Tryd.ntmps10
    go_wp2_with fail
    refine (encode_x HE.out HS1.out _ ht.1 hx (by omega)).mono ?_
    rintro e w1 ⟨rfl, b1⟩
    have k1 := Bk.fresh b1 #[.int .i64 0, .int .i64 0] 24
    have hx1 := Sl.alloc (hx.keep b1) (.cells #[.int .i64 0, .int .i64 0] 24)
    have hy1 := Sl.alloc (hy.keep b1) (.cells #[.int .i64 0, .int .i64 0] 24)
    clear b1
    go_wp2_with fail
    refine (encode_x HF.out HS2.out _ (ht.next k1.below).1 hy1 (by omega)).mono ?_
    rintro e w2 ⟨rfl, b2⟩
    have q1 := (k1.step b2).alloc (.cells #[.int .i64 0, .int .i64 0] 24)
    have q2 := Bk.fresh (k1.step b2).below #[.int .i64 0, .int .i64 0] 24
    have hx2 := Sl.alloc (hx1.keep b2) (.cells #[.int .i64 0, .int .i64 0] 24)
    have hy2 := Sl.alloc (hy1.keep b2) (.cells #[.int .i64 0, .int .i64 0] 24)
    obtain ⟨x0, x1⟩ := q1.two
    obtain ⟨y0, y1⟩ := q2.two
    have t2 := q1.below
    clear k1 hx1 hy1 b2 q1 q2
    go_wp2_with fail
    refine (ref_compare_x HR.out hx2 hy2).mono ?_
    rintro e w3 ⟨rfl, d3⟩
    have t3 := Below.then t2 (d3.below _)
    clear hx2 hy2 d3 t2 x0 x1 y0 y1
    go_wp2_with fail
    refine (alive_any _ (ht.next t3)).mono ?_
    rintro e w4 ⟨rfl, b4⟩
    go_wp2_with fail
    go_ret
    exact ⟨rfl, Below.then t3 b4⟩
theorem orders_walk (A B : Option Addr) (n m c d : Nat) (xs ys : List Int) (w : World) (ht : Tabs w) (hx : Sl w A n c 1 (ints xs)) (hy : Sl w B m d 1 (ints ys)) :
    Calls Tryd.prog 10 #[.slice A n c, .slice B m d] w (Makes (.bool true) w) := by
  rcases Nat.lt_or_ge 100 n with h1 | h1
  · exact orders_long A B n m c d xs ys w ht hx hy (.inl h1)
  · rcases Nat.lt_or_ge 100 m with h2 | h2
    · exact orders_long A B n m c d xs ys w ht hx hy (.inr ⟨h1, h2⟩)
    · have hlx := bad_le xs
      have hly := bad_le ys
      rcases Nat.lt_or_ge (bad xs) xs.length with b1 | b1
      · rcases Nat.lt_or_ge (bad ys) ys.length with b2 | b2
        · exact orders_bad A B n m c d xs ys w ht hx hy h1 h2 _ _ _ _ _ _ _ _ (encR_fail b1) (encR_fail b2) rfl rfl (.inl ⟨rfl, rfl, rfl, rfl⟩)
        · exact orders_bad A B n m c d xs ys w ht hx hy h1 h2 _ _ _ _ _ _ _ _ (encR_fail b1) (encR_good (p := 1) (by decide) (by omega)) rfl rfl (.inr (.inl ⟨rfl, rfl, rfl⟩))
      · rcases Nat.lt_or_ge (bad ys) ys.length with b2 | b2
        · exact orders_bad A B n m c d xs ys w ht hx hy h1 h2 _ _ _ _ _ _ _ _ (encR_good (p := 1) (by decide) (by omega)) (encR_fail b2) rfl rfl (.inr (.inr ⟨rfl, rfl, rfl⟩))
        · exact orders_good A B n m c d xs ys w ht hx hy h1 h2 (by omega) (by omega)
end Go.Proofs.YtpckedihdmibmaaDoor.U8
