/-
  The contract of the reference's Decode of layer 4, for every slice of ints of bounded length.
-/
import Derived.Test.YtjfhhcaikapfiaaDoorUxRefA
import Derived.Test.YtjfhhcaikapfiaaDoorUxProgD
namespace Go.Proofs.YtjfhhcaikapfiaaDoor.Ux
open Go.RowKit
set_option linter.unusedVariables false

theorem getD_drop (l : List Int) (k j : Nat) : (l.drop k).getD j 0 = l.getD (k + j) 0 := by simp [List.getD]

set_option maxRecDepth 100000 in
set_option maxHeartbeats 1000000 in
theorem ref_decode_any (A : Option Addr) (n c : Nat) (zs : List Int) (p : Int) (w : World) (h : Sl w A n c 1 (ints zs)) (hn : n ≤ 5000) :
    Calls Tryd.prog 15 #[.slice A n c, .int .i64 p] w (ListFault (decR p zs).1 (decR p zs).2.1 (decR p zs).2.2 w) := by
  have hcap := h.cap
  have hmax := h.max
  have HC := Lib.hid h.count
  obtain ⟨W, hW⟩ : ∃ W, W = w.alloc (.cells #[.int .i64 0, .int .i64 0] 26) := ⟨_, rfl⟩
  have bW : Below w.heap.size w W := by rw [hW]; exact (Below.refl _ _).alloc (Nat.le_refl _) _
  have gW : W.heap[w.heap.size]? = some (.cells #[.int .i64 0, .int .i64 0] 26 (0, 0)) := by rw [hW]; exact heap_alloc_new w _
  have sW : w.heap.size < W.heap.size := by rw [hW]; simp
  have hxW := h.keep bW
  have HW := Lib.hid hW
  have GW := Lib.hid gW
  clear hW gW
  rcases hk : known p with _ | _
  · have HE : Hid (decR p zs = ([], 8, 0)) := Lib.hid (by rw [decR, hk]; rfl)
    have HK := Lib.hid hk
    clear hk
    go_enter Tryd.func15, Tryd.ntmps15
    go_wp2_with fail
    refine (ref_known_x HK.out _).mono ?_
    rintro e w' ⟨rfl, rfl⟩
    go_wp2_with fail
    rw [HE.out]
    exact bodyPost_ret (v := .tuple #[.slice none 0 0, .agg #[.int .i64 8, .int .i64 0]]) (by simp [results, Tryd.results15, go_sem]) rfl ⟨none, 0, 0, rfl, Sl.nil _ _, (Below.refl _ _).alloc (Nat.le_refl _) _⟩
  · have HK := Lib.hid hk
    have hkp : 1 ≤ p ∧ p ≤ 4 := by simpa [known] using hk
    clear hk
    go_enter Tryd.func15, Tryd.ntmps15
    go_wp2_with fail
    refine (ref_known_x HK.out _).mono ?_
    rintro e w' ⟨rfl, rfl⟩
    go_wp2_with fail
    go_loopw [6, 7] (fun v i wr => ∃ (k m : Nat) (done : List Int), k ≤ n ∧ m ≤ 10 * k ∧ i = .int .i64 k ∧ Own wr W.heap.size 3 1 v m (ints done) ∧ Below W.heap.size W wr ∧ Hid (decL p zs = done ++ decL p (zs.drop k)) ∧ Hid (p = 1 → badD zs = k + badD (zs.drop k))) (fun _ i _ => n - (intOf i).toNat)
    case atStart => exact ⟨0, 0, [], by omega, by omega, rfl, Own.nil _ _ _ _, by rw [HW.out]; exact Below.refl _ _, Lib.hid rfl, Lib.hid (fun _ => by simp)⟩
    case round =>
      obtain ⟨k, m, done, hkn, hm, rfl, ho, hb, HD, HA⟩ := hrel
      have hbs := hb.size
      have hxr := hxW.keep hb
      by_cases hlt : k < n
      · have hkz : k < zs.length := by rw [← HC.out]; exact hlt
        have htl := hxr.tail_in hlt
        by_cases hu : unit (zs.getD k 0) = true
        · have HT := Lib.hid (step_unit (p := p) hkz hu)
          have hbeg := beg_unit _ _ _ _ wr htl (by omega) (by rw [getD_drop, Nat.add_zero]; exact hu)
          rw [getD_drop, Nat.add_zero] at hbeg
          obtain ⟨x, hx⟩ : ∃ x, zs.getD k 0 = x := ⟨_, rfl⟩
          rw [hx] at hbeg
          have HX := Lib.hid hx
          have HBG := Lib.hid hbeg
          clear hu hbeg hx htl
          go_wp2_with fail
          refine HBG.out.mono ?_
          rintro e w' ⟨rfl, rfl⟩
          go_wp2_with (at_builtin; refine wpList_append_ints rfl (.tmp 28) (.tmp 30) rfl W.heap.size u6 m done rfl (ho.alloc _) _ 1 1 [x] rfl (Sl.built wr 3 1 1 _ rfl (by unfold maxLen; omega)) (m + 1) rfl (done ++ [x]) rfl (by omega) (by simp; omega) ?_; intro v2 w2 o2 b2)
          have hb2 := (hb.alloc hbs _).trans b2
          go_roundw
          case rel => exact ⟨k + 1, m + 1, done ++ [x], by omega, by omega, by go_num, o2, hb2, Lib.hid (by rw [HD.out, HT.out.1, HX.out, List.append_assoc]), Lib.hid (fun hp => by rw [HA.out hp, HT.out.2]; omega)⟩
          case measure => simp [intOf]; omega
        · by_cases hp2 : k + 1 < n ∧ high (zs.getD k 0) = true ∧ low (zs.getD (k + 1) 0) = true
          · obtain ⟨l1, hh, hl⟩ := hp2
            have HT := Lib.hid (step_pair (p := p) (l := zs) (i := k) (by rw [← HC.out]; exact l1) hh hl)
            have hbeg := beg_pair _ _ _ _ wr htl (by omega) (by rw [getD_drop, Nat.add_zero]; exact hh) (by rw [getD_drop]; exact hl)
            rw [getD_drop, getD_drop, Nat.add_zero] at hbeg
            obtain ⟨z, hz⟩ : ∃ z, pairv (zs.getD k 0) (zs.getD (k + 1) 0) = z := ⟨_, rfl⟩
            rw [hz] at hbeg
            have HZ := Lib.hid hz
            have HBG := Lib.hid hbeg
            clear hu hbeg hz htl hh hl
            go_wp2_with fail
            refine HBG.out.mono ?_
            rintro e w' ⟨rfl, rfl⟩
            go_wp2_with (at_builtin; refine wpList_append_ints rfl (.tmp 28) (.tmp 30) rfl W.heap.size u6 m done rfl (ho.alloc _) _ 1 1 [z] rfl (Sl.built wr 3 1 1 _ rfl (by unfold maxLen; omega)) (m + 1) rfl (done ++ [z]) rfl (by omega) (by simp; omega) ?_; intro v2 w2 o2 b2)
            have hb2 := (hb.alloc hbs _).trans b2
            go_roundw
            case rel => exact ⟨k + 2, m + 1, done ++ [z], by omega, by omega, by go_num, o2, hb2, Lib.hid (by rw [HD.out, HT.out.1, HZ.out, List.append_assoc]), Lib.hid (fun hp => by rw [HA.out hp, HT.out.2]; omega)⟩
            case measure => simp [intOf]; omega
          · have HT := Lib.hid (step_bad (p := p) hkz hu (by rw [← HC.out]; exact hp2))
            clear htl
            obtain ⟨b, off, rfl, _, hcell⟩ := hxr.int_at hlt
            have htl := hxr.tail_in hlt
            simp only [Option.map_some, addr_add] at htl
            have hbeg := beg_bad _ _ _ _ wr htl (by omega) (by rw [getD_drop, Nat.add_zero]; exact hu) (by rw [getD_drop, getD_drop, Nat.add_zero]; intro ⟨e1, e2, e3⟩; exact hp2 ⟨by omega, e2, e3⟩)
            have HBG := Lib.hid hbeg
            obtain ⟨x, hx⟩ : ∃ x, zs.getD k 0 = x := ⟨_, rfl⟩
            have HX := Lib.hid hx
            rw [hx] at hcell
            clear hx hu hp2 hbeg htl
            have hp4 : p = 1 ∨ p = 2 ∨ p = 3 ∨ p = 4 := by omega
            rcases hp4 with rfl | rfl | rfl | rfl
            · have HB : Hid (decR 1 zs = ([], 9, (k : Int))) := Lib.hid (by
                have hb := HA.out rfl
                rw [HT.out.2, Nat.add_zero] at hb
                rw [decR, if_pos HK.out, if_pos ⟨rfl, by rw [hb]; exact hkz⟩, hb])
              have g1 := (hb.block w.heap.size sW).trans GW.out
              obtain ⟨⟨y0, y1⟩, f0, f1⟩ := box2 g1
              have t1 := bW.trans (hb.mono (Nat.le_of_lt sW))
              go_wp2_with fail
              refine HBG.out.mono ?_
              rintro e w' ⟨rfl, rfl⟩
              go_wp2_with fail
              rw [HB.out]
              exact bodyPost_ret (v := .tuple #[.slice none 0 0, .agg #[.int .i64 9, .int .i64 k]]) (by simp [results, Tryd.results15, go_sem, y0, y1]) rfl ⟨none, 0, 0, rfl, Sl.nil _ _, (t1.setCell (by simp) _).setCell (by simp) _⟩
            · go_wp2_with fail
              refine HBG.out.mono ?_
              rintro e w' ⟨rfl, rfl⟩
              go_wp2_with (at_builtin; refine wpList_append_ints rfl (.tmp 42) (.tmp 43) rfl W.heap.size u6 m done rfl (ho.alloc _) _ 1 1 [65533] rfl (Sl.built wr 3 1 1 _ rfl (by unfold maxLen; omega)) (m + 1) rfl (done ++ [65533]) rfl (by omega) (by simp; omega) ?_; intro v2 w2 o2 b2)
              have hb2 := (hb.alloc hbs _).trans b2
              go_roundw
              case rel => exact ⟨k + 1, m + 1, done ++ [65533], by omega, by omega, by go_num, o2, hb2, Lib.hid (by rw [HD.out, HT.out.1, List.append_assoc]; rfl), Lib.hid (fun hp => absurd hp (by decide))⟩
              case measure => simp [intOf]; omega
            · go_wp2_with fail
              refine HBG.out.mono ?_
              rintro e w' ⟨rfl, rfl⟩
              go_wp2_with fail
              go_roundw
              case rel => exact ⟨k + 1, m, done, by omega, by omega, by go_num, ho, hb, Lib.hid (by rw [HD.out, HT.out.1]; rfl), Lib.hid (fun hp => absurd hp (by decide))⟩
              case measure => simp [intOf]; omega
            · have hel := esc_len x
              go_wp2_with fail
              refine HBG.out.mono ?_
              rintro e w' ⟨rfl, rfl⟩
              go_wp2_with fail
              refine (ref_escaped_any x _).mono ?_
              rintro e w1 ⟨E, q, f, rfl, l1, b1⟩
              have hq : q ≤ 10 := by rw [l1.count]; exact hel
              have ho1 := ho.below b1
              have b1s := b1.size
              clear hel
              go_wp2_with (at_builtin; refine wpList_append_ints rfl (.tmp 47) (.tmp 52) rfl W.heap.size u6 m done rfl ho1 E q f (esc x) rfl l1 (m + q) rfl (done ++ esc x) rfl (by omega) (by omega) ?_; intro v2 w2 o2 b2)
              have hb2 := (hb.trans (b1.mono hbs)).trans b2
              go_roundw
              case rel => exact ⟨k + 1, m + q, done ++ esc x, by omega, by omega, by go_num, o2, hb2, Lib.hid (by rw [HD.out, HT.out.1, HX.out, List.append_assoc]; rfl), Lib.hid (fun hp => absurd hp (by decide))⟩
              case measure => simp [intOf]; omega
      · obtain rfl : k = n := by omega
        have HE : Hid (decR p zs = (done, 0, 0)) := Lib.hid (by
          have e : zs.drop k = [] := List.drop_eq_nil_of_le (by rw [← HC.out]; exact Nat.le_refl _)
          have hd := HD.out
          have ha := HA.out
          rw [e] at hd ha
          rw [decR, if_pos HK.out, if_neg, hd]
          · simp [decL]
          · rintro ⟨hp, hlt⟩
            have := ha hp
            rw [HC.out] at this
            simp [badD] at this
            omega)
        have g1 := (hb.block w.heap.size sW).trans GW.out
        obtain ⟨⟨y0, y1⟩, f0, f1⟩ := box2 g1
        have t1 := bW.trans (hb.mono (Nat.le_of_lt sW))
        obtain ⟨E, g, rfl, hl, hf⟩ := ho.sl_from
        go_wp2_with fail
        rw [HE.out]
        refine bodyPost_ret (v := .tuple #[.slice E m g, .agg #[.int .i64 0, .int .i64 0]]) (by simp [results, Tryd.results15, go_sem, y0, y1]) rfl ⟨E, m, g, rfl, ?_, (t1.setCell (by simp) _).setCell (by simp) _⟩
        exact (hl.setCell hf sW _).setCell hf sW _
end Go.Proofs.YtjfhhcaikapfiaaDoor.Ux
