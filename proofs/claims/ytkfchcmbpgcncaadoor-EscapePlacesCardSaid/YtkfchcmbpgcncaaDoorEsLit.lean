/-
  The contract of package escape's Parse, for every string of at most 60000 bytes.
-/
import Derived.Test.YtkfchcmbpgcncaaDoorEsRead
namespace Go.Proofs.YtkfchcmbpgcncaaDoor.Es
open Go.RowKit
set_option linter.unusedVariables false

theorem drop_at_k (s : ByteArray) {k : Nat} (hk : k < s.size) : s.data.toList.drop k = s[k] :: s.data.toList.drop (k + 1) := AtScan.drop_ hk
theorem litR_head {s : ByteArray} (h0 : 0 < s.size) (h : ((s[0]).toNat : Int) = 34) : litR s.data.toList = lit (s.data.toList.drop 1) 1 [] := by
  have e : s.data.toList = 34 :: s.data.toList.drop 1 := by
    have := drop_at_k s h0
    rw [List.drop_zero] at this
    rw [this, u8_is h (by decide)]
    rfl
  rw [e, litR_some]
  rfl
theorem litR_other {s : ByteArray} (h : s.size = 0 ∨ ∃ h : 0 < s.size, ((s[0]).toNat : Int) ≠ 34) : litR s.data.toList = ⟨[], 3, 0⟩ := by
  refine litR_not fun e => ?_
  rcases h with h | ⟨h0, h⟩
  · have : s.data.toList = [] := List.eq_nil_of_length_eq_zero (by rw [length_of]; exact h)
    rw [this] at e
    cases e
  · rw [head_of h0, Option.some.injEq] at e
    exact h (by rw [e]; rfl)
theorem lit_q_end {s : ByteArray} {k : Nat} {acc : List Int} (hk : k < s.size) (h : ((s[k]).toNat : Int) = 34) (hl : k + 1 = s.size) : lit (s.data.toList.drop k) k acc = ⟨acc, 0, 0⟩ := by
  rw [drop_at_k s hk, u8_is h (by decide)]
  show lit (34 :: _) k acc = _
  rw [lit_quote, if_pos (List.drop_eq_nil_of_le (by rw [length_of]; omega))]
theorem lit_q_more {s : ByteArray} {k : Nat} {acc : List Int} (hk : k < s.size) (h : ((s[k]).toNat : Int) = 34) (hl : k + 1 < s.size) : lit (s.data.toList.drop k) k acc = ⟨[], 3, k + 1⟩ := by
  rw [drop_at_k s hk, u8_is h (by decide)]
  show lit (34 :: _) k acc = _
  rw [lit_quote, if_neg (fun e => by have := congrArg List.length e; rw [List.length_drop, length_of, List.length_nil] at this; omega)]
theorem lit_stop {s : ByteArray} {k : Nat} {acc : List Int} (hk : s.size ≤ k) : lit (s.data.toList.drop k) k acc = ⟨[], 3, k⟩ := by
  rw [List.drop_eq_nil_of_le (by rw [length_of]; exact hk), lit_nil]
theorem lit_e_bad {s : ByteArray} {k : Nat} {acc : List Int} (hk : k < s.size) (h : ((s[k]).toNat : Int) = 92) {c : Int} {n : Nat} (hr : escR (s.data.toList.drop k) = (c, n, 2)) : lit (s.data.toList.drop k) k acc = ⟨[], 3, k⟩ := by
  rw [drop_at_k s hk, u8_is h (by decide)] at hr ⊢
  exact lit_wrong k acc (by rw [show (92 : UInt8) = UInt8.ofNat 92 from rfl, hr])
theorem lit_e_open {s : ByteArray} {k : Nat} {acc : List Int} (hk : k < s.size) (h : ((s[k]).toNat : Int) = 92) {c : Int} {n : Nat} (hr : escR (s.data.toList.drop k) = (c, n, 1)) : lit (s.data.toList.drop k) k acc = ⟨[], 3, s.size⟩ := by
  rw [drop_at_k s hk, u8_is h (by decide)] at hr ⊢
  have := lit_open (r := s.data.toList.drop (k + 1)) k acc (by rw [show (92 : UInt8) = UInt8.ofNat 92 from rfl, hr])
  rw [show (UInt8.ofNat 92 : UInt8) = 92 from rfl, this, List.length_drop, length_of]
  congr 1
  omega
theorem lit_e_good {s : ByteArray} {k : Nat} {acc : List Int} (hk : k < s.size) (h : ((s[k]).toNat : Int) = 92) {c : Int} {n : Nat} (hr : escR (s.data.toList.drop k) = (c, n, 0)) : lit (s.data.toList.drop k) k acc = lit (s.data.toList.drop (k + n)) (k + n) (acc ++ [c]) := by
  have e := drop_at_k s hk
  rw [u8_is h (by decide)] at e
  have h2 := hr
  rw [e] at hr ⊢
  rw [show (UInt8.ofNat 92 : UInt8) = 92 from rfl] at hr e ⊢
  rw [lit_esc k acc (by rw [hr]), hr, ← e, List.drop_drop]
theorem esc_bounds {s : ByteArray} {k : Nat} {c : Int} {n : Nat} (hk : k ≤ s.size) (hr : escR (s.data.toList.drop k) = (c, n, 0)) : 2 ≤ n ∧ k + n ≤ s.size ∧ 0 ≤ c ∧ c ≤ 1114111 := by
  have := escR_done (l := s.data.toList.drop k) (by rw [hr]; simp) (by rw [hr]; simp)
  rw [hr, List.length_drop, length_of] at this
  have hb := isCode_bounds this.1
  simp only at this hb
  omega
theorem escR_state (l : List UInt8) : (escR l).2.2 = 0 ∨ (escR l).2.2 = 1 ∨ (escR l).2.2 = 2 := by
  by_cases h2 : (escR l).2.2 = 2
  · exact .inr (.inr h2)
  · by_cases h1 : (escR l).2.2 = 1
    · exact .inr (.inl h1)
    · exact .inl (escR_done h2 h1).2.2.2
theorem lit_p {s : ByteArray} {k : Nat} {acc : List Int} (hk : k < s.size) (h1 : ((s[k]).toNat : Int) ≠ 34) (h2 : ((s[k]).toNat : Int) ≠ 92) (h3 : 32 ≤ ((s[k]).toNat : Int)) (h4 : ((s[k]).toNat : Int) ≤ 126) : lit (s.data.toList.drop k) k acc = lit (s.data.toList.drop (k + 1)) (k + 1) (acc ++ [((s[k]).toNat : Int)]) := by
  rw [drop_at_k s hk, lit_plain k acc (fun e => h1 (by rw [e]; rfl)) (fun e => h2 (by rw [e]; rfl)) (by omega)]
theorem lit_b {s : ByteArray} {k : Nat} {acc : List Int} (hk : k < s.size) (h1 : ((s[k]).toNat : Int) ≠ 34) (h2 : ((s[k]).toNat : Int) ≠ 92) (h3 : ¬ (32 ≤ ((s[k]).toNat : Int) ∧ ((s[k]).toNat : Int) ≤ 126)) : lit (s.data.toList.drop k) k acc = ⟨[], 3, k⟩ := by
  rw [drop_at_k s hk, lit_bad k acc (fun e => h1 (by rw [e]; rfl)) (fun e => h2 (by rw [e]; rfl)) (by omega)]
theorem esc_x {s : ByteArray} {k : Nat} {c : Int} {n : Nat} {z : Int} (h : escR (s.data.toList.drop k) = (c, n, z)) (hs : s.size ≤ 60000) (w : World) :
    Calls Tryd.prog 35 #[.string (s.extract k s.size)] w (Gives (.tuple #[.int .i64 c, .int .i64 (n : Int), .int .i64 z]) w) := by
  have := escape_any (s.extract k s.size) (by simp; unfold maxLen; omega) w
  rw [drop_bytes, h] at this
  exact this
/-- The call returns what a reading gives. -/
def LitRes (o : Out) (w : World) (e : Ending) (w' : World) : Prop := ListFault o.t o.e o.at' w e w'

set_option maxRecDepth 100000 in
set_option maxHeartbeats 4000000 in
theorem lit_any (s : ByteArray) (hs : s.size ≤ 60000) (w : World) : Calls Tryd.prog 20 #[.string s] w (LitRes (litR s.data.toList) w) := by
  obtain ⟨W, hW⟩ : ∃ W, W = w.alloc (.cells #[.int .i64 0, .int .i64 0] 33) := ⟨_, rfl⟩
  have bW : Below w.heap.size w W := by rw [hW]; exact (Below.refl _ _).alloc (Nat.le_refl _) _
  have gW : W.heap[w.heap.size]? = some (.cells #[.int .i64 0, .int .i64 0] 33 (0, 0)) := by rw [hW]; exact heap_alloc_new w _
  have sW : w.heap.size < W.heap.size := by rw [hW]; simp
  have HW := Lib.hid hW
  have GW := Lib.hid gW
  clear hW gW
  by_cases hq : ∃ h : 0 < s.size, ((s[0]).toNat : Int) = 34
  · obtain ⟨h0, hq⟩ := hq
    have HE := Lib.hid (litR_head h0 hq)
    have e1 := str_some h0
    have e2 : s.toList ≠ [] := by
      intro e
      rw [e] at e1
      simp at e1
    have e3 : (((s[0]).toNat : Int) == 34) = true := by simp [hq]
    have e4 : (((s[0]).toNat : Int) != 34) = false := by simp [hq]
    clear hq
    go_enter Tryd.func20, Tryd.ntmps20
    go_wp2_with fail
    go_step3
    go_wp2_with fail
    go_step3
    go_wp2_with fail
    go_loopw [4, 5] (fun v i wr => ∃ (k m : Nat) (acc : List Int), k ≤ s.size ∧ 1 ≤ k ∧ m ≤ k ∧ i = .int .i64 k ∧ Own wr W.heap.size 3 1 v m (ints acc) ∧ Below W.heap.size W wr ∧ Hid (lit (s.data.toList.drop 1) 1 [] = lit (s.data.toList.drop k) k acc)) (fun _ i _ => s.size - (intOf i).toNat)
    case atStart => exact ⟨1, 0, [], by omega, by omega, by omega, rfl, Own.nil _ _ _ _, by rw [HW.out]; exact Below.refl _ _, Lib.hid rfl⟩
    case round =>
      obtain ⟨k, m, acc, hk, hk1, hm, rfl, ho, hb, HG⟩ := hrel
      have hbs := hb.size
      have gr := (hb.block w.heap.size sW).trans GW.out
      have bw := bW.trans (hb.mono (Nat.le_of_lt sW))
      by_cases hlt : k < s.size
      · have hlo := (s[k]).toNat_lt
        by_cases h34 : ((s[k]).toNat : Int) = 34
        · have t1 : (((s[k]).toNat : Int) == 34) = true := by simp [h34]
          obtain ⟨⟨y0, y1⟩, f0, f1⟩ := box2 gr
          rcases Nat.lt_or_ge (k + 1) s.size with hl | hl
          · have HS := Lib.hid (lit_q_more (acc := acc) hlt h34 hl)
            have t2 : ((k : Int) != (s.size : Int) - 1) = true := by simp; omega
            have t3 : min ((k : Int) + 1) (s.size : Int) = (k : Int) + 1 := by omega
            clear h34 y0 y1 f0 f1
            go_wp2_with (go_at_call 34; refine (syntax_any _ _).mono ?_; rintro e w1 ⟨rfl, hb1⟩; have g1 := (hb1.block _ (Nat.lt_of_lt_of_le sW hbs)).trans gr; obtain ⟨⟨y0, y1⟩, f0, f1⟩ := box2 g1)
            rw [Exit.noGoto_ret, HE.out, HG.out, HS.out]
            exact bodyPost_ret (v := .tuple #[.slice none 0 0, .agg #[.int .i64 3, .int .i64 (k + 1)]]) (by simp [results, Tryd.results20, go_sem, y0, y1]) rfl ⟨none, 0, 0, rfl, Sl.nil _ _, ((bw.trans (hb1.mono (by have := bW.size; omega))).setCell (by simp) _).setCell (by simp) _⟩
          · have HS := Lib.hid (lit_q_end (acc := acc) hlt h34 (by omega))
            have t2 : ((k : Int) != (s.size : Int) - 1) = false := by simp; omega
            obtain ⟨E, g, rfl, hlo, hf⟩ := ho.sl_from
            clear h34
            go_wp2
            rw [Exit.noGoto_ret, HE.out, HG.out, HS.out]
            refine bodyPost_ret (v := .tuple #[.slice E m g, .agg #[.int .i64 0, .int .i64 0]]) (by simp [results, Tryd.results20, go_sem, y0, y1]) rfl ⟨E, m, g, rfl, ?_, (bw.setCell (by simp) _).setCell (by simp) _⟩
            exact (hlo.setCell hf sW _).setCell hf sW _
        · have t1 : (((s[k]).toNat : Int) == 34) = false := by simp [h34]
          by_cases h92 : ((s[k]).toNat : Int) = 92
          · have t2 : (((s[k]).toNat : Int) == 92) = true := by simp [h92]
            obtain ⟨⟨c, n, z⟩, hr⟩ : ∃ q, escR (s.data.toList.drop k) = q := ⟨_, rfl⟩
            have hz := escR_state (s.data.toList.drop k)
            rw [hr] at hz
            have HR := Lib.hid hr
            rcases hz with hz | hz | hz <;> simp only at hz <;> subst hz
            · have HS := Lib.hid (lit_e_good (acc := acc) hlt h92 hr)
              obtain ⟨n1, n2, c1, c2⟩ := esc_bounds hk hr
              clear hr h34 h92
              go_wp2_with (first | (go_at_call 35; refine (esc_x HR.out hs _).mono ?_; rintro e w' ⟨rfl, rfl⟩) | (at_builtin; refine wpList_append_ints rfl (.tmp 56) (.tmp 58) rfl W.heap.size _ m acc rfl (ho.alloc _) _ 1 1 [c] rfl (Sl.built wr 3 1 1 _ rfl (by unfold maxLen; omega)) (m + 1) rfl (acc ++ [c]) rfl (by omega) (by simp; omega) ?_; intro v2 w2 o2 b2))
              go_roundw
              case rel => exact ⟨k + n, m + 1, acc ++ [c], by omega, by omega, by omega, by go_num, o2, (hb.alloc hbs _).trans b2, Lib.hid (by rw [HG.out, HS.out])⟩
              case measure => simp [intOf]; omega
            · have HS := Lib.hid (lit_e_open (acc := acc) hlt h92 hr)
              clear hr h34 h92
              go_wp2_with (first | (go_at_call 35; refine (esc_x HR.out hs _).mono ?_; rintro e w' ⟨rfl, rfl⟩) | (go_at_call 34; refine (syntax_any _ _).mono ?_; rintro e w1 ⟨rfl, hb1⟩; have g1 := (hb1.block _ (Nat.lt_of_lt_of_le sW hbs)).trans gr; obtain ⟨⟨y0, y1⟩, f0, f1⟩ := box2 g1))
              rw [Exit.noGoto_ret, HE.out, HG.out, HS.out]
              exact bodyPost_ret (v := .tuple #[.slice none 0 0, .agg #[.int .i64 3, .int .i64 s.size]]) (by simp [results, Tryd.results20, go_sem, y0, y1]) rfl ⟨none, 0, 0, rfl, Sl.nil _ _, ((bw.trans (hb1.mono (by have := bW.size; omega))).setCell (by simp) _).setCell (by simp) _⟩
            · have HS := Lib.hid (lit_e_bad (acc := acc) hlt h92 hr)
              clear hr h34 h92
              go_wp2_with (first | (go_at_call 35; refine (esc_x HR.out hs _).mono ?_; rintro e w' ⟨rfl, rfl⟩) | (go_at_call 34; refine (syntax_any _ _).mono ?_; rintro e w1 ⟨rfl, hb1⟩; have g1 := (hb1.block _ (Nat.lt_of_lt_of_le sW hbs)).trans gr; obtain ⟨⟨y0, y1⟩, f0, f1⟩ := box2 g1))
              rw [Exit.noGoto_ret, HE.out, HG.out, HS.out]
              exact bodyPost_ret (v := .tuple #[.slice none 0 0, .agg #[.int .i64 3, .int .i64 k]]) (by simp [results, Tryd.results20, go_sem, y0, y1]) rfl ⟨none, 0, 0, rfl, Sl.nil _ _, ((bw.trans (hb1.mono (by have := bW.size; omega))).setCell (by simp) _).setCell (by simp) _⟩
          · have t2 : (((s[k]).toNat : Int) == 92) = false := by simp [h92]
            by_cases hp : 32 ≤ ((s[k]).toNat : Int) ∧ ((s[k]).toNat : Int) ≤ 126
            · have HS := Lib.hid (lit_p (acc := acc) hlt h34 h92 hp.1 hp.2)
              have HPr := Lib.hid (isPrint_of hp.1 hp.2)
              clear hp h34 h92
              go_wp2_with (first | (go_at_call 36; refine (printable_x HPr.out _).mono ?_; rintro e w' ⟨rfl, rfl⟩) | (at_builtin; refine wpList_append_ints rfl (.tmp 66) (.tmp 68) rfl W.heap.size _ m acc rfl (ho.alloc _) _ 1 1 [((s[k]).toNat : Int)] rfl (Sl.built wr 3 1 1 _ rfl (by unfold maxLen; omega)) (m + 1) rfl (acc ++ [((s[k]).toNat : Int)]) rfl (by omega) (by simp; omega) ?_; intro v2 w2 o2 b2))
              go_roundw
              case rel => exact ⟨k + 1, m + 1, acc ++ [((s[k]).toNat : Int)], by omega, by omega, by omega, by go_num, o2, (hb.alloc hbs _).trans b2, Lib.hid (by rw [HG.out, HS.out])⟩
              case measure => simp [intOf]; omega
            · have HS := Lib.hid (lit_b (acc := acc) hlt h34 h92 hp)
              have HPr : Hid (isPrint ((s[k]).toNat : Int) = false) := Lib.hid (by simp [isPrint]; omega)
              clear hp h34 h92
              go_wp2_with (first | (go_at_call 36; refine (printable_x HPr.out _).mono ?_; rintro e w' ⟨rfl, rfl⟩) | (go_at_call 34; refine (syntax_any _ _).mono ?_; rintro e w1 ⟨rfl, hb1⟩; have g1 := (hb1.block _ (Nat.lt_of_lt_of_le sW hbs)).trans gr; obtain ⟨⟨y0, y1⟩, f0, f1⟩ := box2 g1))
              rw [Exit.noGoto_ret, HE.out, HG.out, HS.out]
              exact bodyPost_ret (v := .tuple #[.slice none 0 0, .agg #[.int .i64 3, .int .i64 k]]) (by simp [results, Tryd.results20, go_sem, y0, y1]) rfl ⟨none, 0, 0, rfl, Sl.nil _ _, ((bw.trans (hb1.mono (by have := bW.size; omega))).setCell (by simp) _).setCell (by simp) _⟩
      · obtain rfl : k = s.size := by omega
        have HS := Lib.hid (lit_stop (s := s) (acc := acc) (Nat.le_refl s.size))
        have t2 : ((s.size : Int) != (s.size : Int) - 1) = true := by simp; omega
        have t3 : min ((s.size : Int) + 1) (s.size : Int) = (s.size : Int) := by omega
        go_wp2_with (go_at_call 34; refine (syntax_any _ _).mono ?_; rintro e w1 ⟨rfl, hb1⟩; have g1 := (hb1.block _ (Nat.lt_of_lt_of_le sW hbs)).trans gr; obtain ⟨⟨y0, y1⟩, f0, f1⟩ := box2 g1)
        rw [Exit.noGoto_ret, HE.out, HG.out, HS.out]
        exact bodyPost_ret (v := .tuple #[.slice none 0 0, .agg #[.int .i64 3, .int .i64 s.size]]) (by simp [results, Tryd.results20, go_sem, y0, y1]) rfl ⟨none, 0, 0, rfl, Sl.nil _ _, ((bw.trans (hb1.mono (by have := bW.size; omega))).setCell (by simp) _).setCell (by simp) _⟩
  · have HE : Hid (litR s.data.toList = ⟨[], 3, 0⟩) := Lib.hid (litR_other (by
      rcases Nat.eq_zero_or_pos s.size with h | h
      · exact .inl h
      · exact .inr ⟨h, fun e => hq ⟨h, e⟩⟩))
    rcases Nat.eq_zero_or_pos s.size with h0 | h0
    · have e1 := str_none h0
      have e2 : s.toList = [] := by simpa using e1
      clear hq
      go_enter Tryd.func20, Tryd.ntmps20
      go_wp2_with fail
      go_step3
      go_wp2_with (go_at_call 34; refine (syntax_any _ _).mono ?_; rintro e w1 ⟨rfl, hb1⟩; have g1 := (hb1.block _ (by simp)).trans (heap_alloc_new w _); obtain ⟨⟨y0, y1⟩, f0, f1⟩ := box2 g1)
      rw [Exit.noGoto_ret, HE.out]
      exact bodyPost_ret (v := .tuple #[.slice none 0 0, .agg #[.int .i64 3, .int .i64 0]]) (by simp [results, Tryd.results20, go_sem, y0, y1]) rfl ⟨none, 0, 0, rfl, Sl.nil _ _, (((Below.refl w.heap.size w |>.alloc (Nat.le_refl _) _).trans (hb1.mono (by simp))).setCell (by simp) _).setCell (by simp) _⟩
    · have e1 := str_some h0
      have e2 : s.toList ≠ [] := by
        intro e
        rw [e] at e1
        simp at e1
      have e3 : (((s[0]).toNat : Int) == 34) = false := by simp; exact fun e => hq ⟨h0, e⟩
      have e4 : (((s[0]).toNat : Int) != 34) = true := by simp; exact fun e => hq ⟨h0, e⟩
      clear hq
      go_enter Tryd.func20, Tryd.ntmps20
      go_wp2_with fail
      go_step3
      go_wp2_with (go_at_call 34; refine (syntax_any _ _).mono ?_; rintro e w1 ⟨rfl, hb1⟩; have g1 := (hb1.block _ (by simp)).trans (heap_alloc_new w _); obtain ⟨⟨y0, y1⟩, f0, f1⟩ := box2 g1)
      rw [Exit.noGoto_ret, HE.out]
      exact bodyPost_ret (v := .tuple #[.slice none 0 0, .agg #[.int .i64 3, .int .i64 0]]) (by simp [results, Tryd.results20, go_sem, y0, y1]) rfl ⟨none, 0, 0, rfl, Sl.nil _ _, (((Below.refl w.heap.size w |>.alloc (Nat.le_refl _) _).trans (hb1.mono (by simp))).setCell (by simp) _).setCell (by simp) _⟩
end Go.Proofs.YtkfchcmbpgcncaaDoor.Es
