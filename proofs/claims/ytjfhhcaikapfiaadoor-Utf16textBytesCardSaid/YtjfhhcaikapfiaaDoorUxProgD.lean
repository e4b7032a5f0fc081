/-
  The contract of Decode of package utf16text, for every slice of ints of bounded length.
-/
import Derived.Test.YtjfhhcaikapfiaaDoorUxProgC
namespace Go.Proofs.YtjfhhcaikapfiaaDoor.Ux
open Go.RowKit
set_option linter.unusedVariables false

theorem vint {a b : Int} (h : a = b) : Value.int .i64 a = .int .i64 b := by rw [h]

set_option maxRecDepth 100000 in
set_option maxHeartbeats 4000000 in
theorem decode_any (A : Option Addr) (n c : Nat) (zs : List Int) (p : Int) (w : World) (ht : Tab w) (h : Sl w A n c 1 (ints zs)) (hn : n ≤ 5000) :
    Calls Tryd.prog 14 #[.slice A n c, .int .i64 p] w (ListFault (decR p zs).1 (decR p zs).2.1 (decR p zs).2.2 w) := by
  have hcap := h.cap
  have hmax := h.max
  have HC := Lib.hid h.count
  obtain ⟨W, hW⟩ : ∃ W, W = w.alloc (.cells #[.int .i64 0, .int .i64 0] 26) := ⟨_, rfl⟩
  have bW : Below w.heap.size w W := by rw [hW]; exact (Below.refl _ _).alloc (Nat.le_refl _) _
  have gW : W.heap[w.heap.size]? = some (.cells #[.int .i64 0, .int .i64 0] 26 (0, 0)) := by rw [hW]; exact heap_alloc_new w _
  have sW : w.heap.size < W.heap.size := by rw [hW]; simp
  have tW : Tab W := ht.below ht.lt bW
  have hxW := h.keep bW
  have HW := Lib.hid hW
  have GW := Lib.hid gW
  clear hW gW
  rcases hk : known p with _ | _
  · have HE : Hid (decR p zs = ([], 8, 0)) := Lib.hid (by rw [decR, hk]; rfl)
    have HK := Lib.hid hk
    clear hk
    go_enter Tryd.func14, Tryd.ntmps14
    go_wp2_with fail
    refine (known_x HK.out _).mono ?_
    rintro e w' ⟨rfl, rfl⟩
    go_wp2_with fail
    rw [HE.out]
    exact bodyPost_ret (v := .tuple #[.slice none 0 0, .agg #[.int .i64 8, .int .i64 0]]) (by simp [results, Tryd.results14, go_sem]) rfl ⟨none, 0, 0, rfl, Sl.nil _ _, (Below.refl _ _).alloc (Nat.le_refl _) _⟩
  · have HK := Lib.hid hk
    have hkp : 1 ≤ p ∧ p ≤ 4 := by simpa [known] using hk
    clear hk
    go_enter Tryd.func14, Tryd.ntmps14
    go_wp2_with fail
    refine (known_x HK.out _).mono ?_
    rintro e w' ⟨rfl, rfl⟩
    go_wp2_with fail
    go_loopw [6, 7] (fun v i wr => ∃ (k m : Nat) (done : List Int), k ≤ n ∧ m ≤ 10 * k ∧ i = .int .i64 k ∧ Own wr W.heap.size 3 1 v m (ints done) ∧ Below W.heap.size W wr ∧ Hid (decL p zs = done ++ decL p (zs.drop k)) ∧ Hid (p = 1 → badD zs = k + badD (zs.drop k))) (fun _ i _ => n - (intOf i).toNat)
    case atStart => exact ⟨0, 0, [], by omega, by omega, rfl, Own.nil _ _ _ _, by rw [HW.out]; exact Below.refl _ _, Lib.hid rfl, Lib.hid (fun _ => by simp)⟩
    case round =>
      obtain ⟨k, m, done, hkn, hm, rfl, ho, hb, HD, HA⟩ := hrel
      have hbs := hb.size
      have tr : Tab wr := tW.below tW.lt hb
      have hxr := hxW.keep hb
      by_cases hlt : k < n
      · have hkz : k < zs.length := by rw [← HC.out]; exact hlt
        obtain ⟨b, off, rfl, _, hcell⟩ := hxr.int_at hlt
        obtain ⟨x, hx⟩ : ∃ x, zs.getD k 0 = x := ⟨_, rfl⟩
        have HX := Lib.hid hx
        rw [hx] at hcell
        clear hx
        by_cases hu : unit x = true
        · have HT := Lib.hid (step_unit (p := p) hkz (by rw [HX.out]; exact hu))
          have hs := Lib.hid (unit_scalar hu).1
          have hx2 : x ≤ 65535 := (unit_iff.1 hu).2.1
          clear hu
          go_wp2_with (first
            | (go_at_call 23; refine (scalar_x hs.out _).mono ?_; rintro e w' ⟨rfl, rfl⟩)
            | (at_builtin; refine wpList_append_ints rfl (.tmp 33) (.tmp 35) rfl W.heap.size u6 m done rfl (ho.alloc _) _ 1 1 [x] rfl (Sl.built wr 3 1 1 _ rfl (by unfold maxLen; omega)) (m + 1) rfl (done ++ [x]) rfl (by omega) (by simp; omega) ?_; intro v2 w2 o2 b2))
          have hb2 := (hb.alloc hbs _).trans b2
          go_roundw
          case rel => exact ⟨k + 1, m + 1, done ++ [x], by omega, by omega, by go_num, o2, hb2, Lib.hid (by rw [HD.out, HT.out.1, HX.out, List.append_assoc]), Lib.hid (fun hp => by rw [HA.out hp, HT.out.2]; omega)⟩
          case measure => simp [intOf]; omega
        · by_cases hp2 : k + 1 < n ∧ high x = true ∧ low (zs.getD (k + 1) 0) = true
          · obtain ⟨l1, hh, hl⟩ := hp2
            have HT := Lib.hid (step_pair (p := p) (l := zs) (i := k) (by rw [← HC.out]; exact l1) (by rw [HX.out]; exact hh) hl)
            obtain ⟨_, _, eA, _, hcell2⟩ := hxr.int_at l1
            cases eA
            obtain ⟨y, hy⟩ : ∃ y, zs.getD (k + 1) 0 = y := ⟨_, rfl⟩
            have HY := Lib.hid hy
            rw [hy] at hcell2 hl
            obtain ⟨z, hz⟩ : ∃ z, pairv x y = z := ⟨_, rfl⟩
            have HZ := Lib.hid hz
            have hs : Hid (isScalar x = false) := Lib.hid (by rw [isScalar_not]; have := high_iff.1 hh; omega)
            have HJ : ∀ w, Calls Tryd.prog 30 #[.agg #[.int .i64 x, .int .i64 y]] w (Makes (.tuple #[.int .i64 z, .bool true]) w) := fun w => by rw [← hz]; exact join_yes hh hl w
            have HJ' := Lib.hid HJ
            have l1i : (k : Int) + 1 < (n : Int) := by omega
            clear HJ hy hz hh hl hu
            go_wp2_with (first
              | (go_at_call 23; refine (scalar_x hs.out _).mono ?_; rintro e w' ⟨rfl, rfl⟩)
              | (go_at_call 30; refine (HJ'.out _).mono ?_; rintro e w1 ⟨rfl, b1⟩; have ho1 := ho.below b1; have b1s := b1.size)
              | (at_builtin; refine wpList_append_ints rfl (.tmp 54) (.tmp 56) rfl W.heap.size u6 m done rfl (ho1.alloc _) _ 1 1 [z] rfl (Sl.built w1 3 1 1 _ rfl (by unfold maxLen; omega)) (m + 1) rfl (done ++ [z]) rfl (by omega) (by simp; omega) ?_; intro v2 w2 o2 b2))
            have hb2 := ((hb.trans (b1.mono hbs)).alloc (by omega) _).trans b2
            go_roundw
            case rel => exact ⟨k + 2, m + 1, done ++ [z], by omega, by omega, vint (by omega), o2, hb2, Lib.hid (by rw [HD.out, HT.out.1, HX.out, HY.out, HZ.out, List.append_assoc]), Lib.hid (fun hp => by rw [HA.out hp, HT.out.2]; omega)⟩
            case measure => simp [intOf]; omega
          · have HT := Lib.hid (step_bad (p := p) hkz (by rw [HX.out]; exact hu) (by rw [HX.out, ← HC.out]; exact hp2))
            have hu2 := hu
            rw [unit_iff] at hu2
            obtain ⟨us, hus⟩ : ∃ us, sub x p = us := ⟨_, rfl⟩
            have HU := Lib.hid hus
            have hul : us.length ≤ 10 := by rw [← hus]; exact sub_len x p
            clear hus hu
            have hsc : (isScalar x = false) ∨ (isScalar x = true ∧ 65535 < x) := by
              rcases h0 : isScalar x with _ | _
              · exact .inl rfl
              · have := isScalar_iff.1 h0
                exact .inr ⟨rfl, by omega⟩
            clear hu2
            by_cases hp1 : p = 1
            · have HP := Lib.hid hp1
              have HB : Hid (decR p zs = ([], 9, (k : Int))) := Lib.hid (by
                have hb := HA.out HP.out
                rw [HT.out.2, Nat.add_zero] at hb
                rw [decR, if_pos HK.out, if_pos ⟨HP.out, by rw [hb]; exact hkz⟩, hb])
              have hr : Hid (decide (p = 2 ∨ p = 3 ∨ p = 4) = false) := Lib.hid (by rw [decide_eq_false_iff_not]; omega)
              clear hp1
              rcases hsc with hs0 | ⟨hs0, hbig⟩
              · have hs := Lib.hid hs0
                clear hs0
                by_cases l1 : k + 1 < n
                · obtain ⟨_, _, eA, _, hcell2⟩ := hxr.int_at l1
                  cases eA
                  obtain ⟨y, hy⟩ : ∃ y, zs.getD (k + 1) 0 = y := ⟨_, rfl⟩
                  rw [hy] at hcell2 hp2
                  have HJ : Hid (¬ (high x = true ∧ low y = true)) := Lib.hid (fun e => hp2 ⟨l1, e⟩)
                  have l1i : (k : Int) + 1 < (n : Int) := by omega
                  clear hy hp2
                  go_wp2_with fail
                  refine (scalar_x hs.out _).mono ?_
                  rintro e w' ⟨rfl, rfl⟩
                  go_wp2_with fail
                  refine (join_no HJ.out _).mono ?_
                  rintro e w0 ⟨rfl, b0⟩
                  have b0s := b0.size
                  have tr0 : Tab w0 := tr.below tr.lt b0
                  have ho0 := ho.below b0
                  have hb0 := hb.trans (b0.mono hbs)
                  go_wp2_with fail
                  refine (substitute_x rfl hr.out _ tr0).mono ?_
                  rintro e w1 ⟨E, q, f, rfl, l1', b1⟩
                  have b01 := hb0.trans (b1.mono (by omega))
                  have g1 := (b01.block w.heap.size sW).trans GW.out
                  obtain ⟨⟨y0, y1⟩, f0, f1⟩ := box2 g1
                  have t1 := bW.trans (b01.mono (Nat.le_of_lt sW))
                  go_wp2_with fail
                  rw [HB.out]
                  exact bodyPost_ret (v := .tuple #[.slice none 0 0, .agg #[.int .i64 9, .int .i64 k]]) (by simp [results, Tryd.results14, go_sem, y0, y1]) rfl ⟨none, 0, 0, rfl, Sl.nil _ _, (t1.setCell (by simp) _).setCell (by simp) _⟩
                · have l1i : decide ((k : Int) + 1 < (n : Int)) = false := by simp; omega
                  have l1j : (n : Int) ≤ (k : Int) + 1 := by omega
                  clear hp2 l1
                  go_wp2_with fail
                  refine (scalar_x hs.out _).mono ?_
                  rintro e w' ⟨rfl, rfl⟩
                  go_wp2_with fail
                  have ho0 := ho
                  have hb0 := hb
                  have tr0 := tr
                  have b0s : W.heap.size ≤ wr.heap.size := hbs
                  refine (substitute_x rfl hr.out _ tr0).mono ?_
                  rintro e w1 ⟨E, q, f, rfl, l1', b1⟩
                  have b01 := hb0.trans (b1.mono (by omega))
                  have g1 := (b01.block w.heap.size sW).trans GW.out
                  obtain ⟨⟨y0, y1⟩, f0, f1⟩ := box2 g1
                  have t1 := bW.trans (b01.mono (Nat.le_of_lt sW))
                  go_wp2_with fail
                  rw [HB.out]
                  exact bodyPost_ret (v := .tuple #[.slice none 0 0, .agg #[.int .i64 9, .int .i64 k]]) (by simp [results, Tryd.results14, go_sem, y0, y1]) rfl ⟨none, 0, 0, rfl, Sl.nil _ _, (t1.setCell (by simp) _).setCell (by simp) _⟩
              · have hs := Lib.hid hs0
                clear hs0
                by_cases l1 : k + 1 < n
                · obtain ⟨_, _, eA, _, hcell2⟩ := hxr.int_at l1
                  cases eA
                  obtain ⟨y, hy⟩ : ∃ y, zs.getD (k + 1) 0 = y := ⟨_, rfl⟩
                  rw [hy] at hcell2 hp2
                  have HJ : Hid (¬ (high x = true ∧ low y = true)) := Lib.hid (fun e => hp2 ⟨l1, e⟩)
                  have l1i : (k : Int) + 1 < (n : Int) := by omega
                  clear hy hp2
                  go_wp2_with fail
                  refine (scalar_x hs.out _).mono ?_
                  rintro e w' ⟨rfl, rfl⟩
                  go_wp2_with fail
                  refine (join_no HJ.out _).mono ?_
                  rintro e w0 ⟨rfl, b0⟩
                  have b0s := b0.size
                  have tr0 : Tab w0 := tr.below tr.lt b0
                  have ho0 := ho.below b0
                  have hb0 := hb.trans (b0.mono hbs)
                  go_wp2_with fail
                  refine (substitute_x rfl hr.out _ tr0).mono ?_
                  rintro e w1 ⟨E, q, f, rfl, l1', b1⟩
                  have b01 := hb0.trans (b1.mono (by omega))
                  have g1 := (b01.block w.heap.size sW).trans GW.out
                  obtain ⟨⟨y0, y1⟩, f0, f1⟩ := box2 g1
                  have t1 := bW.trans (b01.mono (Nat.le_of_lt sW))
                  go_wp2_with fail
                  rw [HB.out]
                  exact bodyPost_ret (v := .tuple #[.slice none 0 0, .agg #[.int .i64 9, .int .i64 k]]) (by simp [results, Tryd.results14, go_sem, y0, y1]) rfl ⟨none, 0, 0, rfl, Sl.nil _ _, (t1.setCell (by simp) _).setCell (by simp) _⟩
                · have l1i : decide ((k : Int) + 1 < (n : Int)) = false := by simp; omega
                  have l1j : (n : Int) ≤ (k : Int) + 1 := by omega
                  clear hp2 l1
                  go_wp2_with fail
                  refine (scalar_x hs.out _).mono ?_
                  rintro e w' ⟨rfl, rfl⟩
                  go_wp2_with fail
                  have ho0 := ho
                  have hb0 := hb
                  have tr0 := tr
                  have b0s : W.heap.size ≤ wr.heap.size := hbs
                  refine (substitute_x rfl hr.out _ tr0).mono ?_
                  rintro e w1 ⟨E, q, f, rfl, l1', b1⟩
                  have b01 := hb0.trans (b1.mono (by omega))
                  have g1 := (b01.block w.heap.size sW).trans GW.out
                  obtain ⟨⟨y0, y1⟩, f0, f1⟩ := box2 g1
                  have t1 := bW.trans (b01.mono (Nat.le_of_lt sW))
                  go_wp2_with fail
                  rw [HB.out]
                  exact bodyPost_ret (v := .tuple #[.slice none 0 0, .agg #[.int .i64 9, .int .i64 k]]) (by simp [results, Tryd.results14, go_sem, y0, y1]) rfl ⟨none, 0, 0, rfl, Sl.nil _ _, (t1.setCell (by simp) _).setCell (by simp) _⟩
            · have hr : Hid (decide (p = 2 ∨ p = 3 ∨ p = 4) = true) := Lib.hid (by rw [decide_eq_true_iff]; omega)
              have HP := Lib.hid hp1
              clear hp1
              rcases hsc with hs0 | ⟨hs0, hbig⟩
              · have hs := Lib.hid hs0
                clear hs0
                by_cases l1 : k + 1 < n
                · obtain ⟨_, _, eA, _, hcell2⟩ := hxr.int_at l1
                  cases eA
                  obtain ⟨y, hy⟩ : ∃ y, zs.getD (k + 1) 0 = y := ⟨_, rfl⟩
                  rw [hy] at hcell2 hp2
                  have HJ : Hid (¬ (high x = true ∧ low y = true)) := Lib.hid (fun e => hp2 ⟨l1, e⟩)
                  have l1i : (k : Int) + 1 < (n : Int) := by omega
                  clear hy hp2
                  go_wp2_with fail
                  refine (scalar_x hs.out _).mono ?_
                  rintro e w' ⟨rfl, rfl⟩
                  go_wp2_with fail
                  refine (join_no HJ.out _).mono ?_
                  rintro e w0 ⟨rfl, b0⟩
                  have b0s := b0.size
                  have tr0 : Tab w0 := tr.below tr.lt b0
                  have ho0 := ho.below b0
                  have hb0 := hb.trans (b0.mono hbs)
                  go_wp2_with fail
                  refine (substitute_x HU.out hr.out _ tr0).mono ?_
                  rintro e w1 ⟨E, q, f, rfl, l1', b1⟩
                  have hq : q ≤ 10 := by rw [l1'.count]; exact hul
                  have ho1 := ho0.below b1
                  have b1s := b1.size
                  go_wp2_with (at_builtin; refine wpList_append_ints rfl (.tmp 70) (.tmp 71) rfl W.heap.size u6 m done rfl ho1 E q f us rfl l1' (m + q) rfl (done ++ us) rfl (by omega) (by omega) ?_; intro v2 w2 o2 b2)
                  have hb2 := (hb0.trans (b1.mono (by omega))).trans b2
                  go_roundw
                  case rel => exact ⟨k + 1, m + q, done ++ us, by omega, by omega, by go_num, o2, hb2, Lib.hid (by rw [HD.out, HT.out.1, HX.out, HU.out, List.append_assoc]), Lib.hid (fun hp => absurd hp HP.out)⟩
                  case measure => simp [intOf]; omega
                · have l1i : decide ((k : Int) + 1 < (n : Int)) = false := by simp; omega
                  have l1j : (n : Int) ≤ (k : Int) + 1 := by omega
                  clear hp2 l1
                  go_wp2_with fail
                  refine (scalar_x hs.out _).mono ?_
                  rintro e w' ⟨rfl, rfl⟩
                  go_wp2_with fail
                  have ho0 := ho
                  have hb0 := hb
                  have tr0 := tr
                  have b0s : W.heap.size ≤ wr.heap.size := hbs
                  refine (substitute_x HU.out hr.out _ tr0).mono ?_
                  rintro e w1 ⟨E, q, f, rfl, l1', b1⟩
                  have hq : q ≤ 10 := by rw [l1'.count]; exact hul
                  have ho1 := ho0.below b1
                  have b1s := b1.size
                  go_wp2_with (at_builtin; refine wpList_append_ints rfl (.tmp 70) (.tmp 71) rfl W.heap.size u6 m done rfl ho1 E q f us rfl l1' (m + q) rfl (done ++ us) rfl (by omega) (by omega) ?_; intro v2 w2 o2 b2)
                  have hb2 := (hb0.trans (b1.mono (by omega))).trans b2
                  go_roundw
                  case rel => exact ⟨k + 1, m + q, done ++ us, by omega, by omega, by go_num, o2, hb2, Lib.hid (by rw [HD.out, HT.out.1, HX.out, HU.out, List.append_assoc]), Lib.hid (fun hp => absurd hp HP.out)⟩
                  case measure => simp [intOf]; omega
              · have hs := Lib.hid hs0
                clear hs0
                by_cases l1 : k + 1 < n
                · obtain ⟨_, _, eA, _, hcell2⟩ := hxr.int_at l1
                  cases eA
                  obtain ⟨y, hy⟩ : ∃ y, zs.getD (k + 1) 0 = y := ⟨_, rfl⟩
                  rw [hy] at hcell2 hp2
                  have HJ : Hid (¬ (high x = true ∧ low y = true)) := Lib.hid (fun e => hp2 ⟨l1, e⟩)
                  have l1i : (k : Int) + 1 < (n : Int) := by omega
                  clear hy hp2
                  go_wp2_with fail
                  refine (scalar_x hs.out _).mono ?_
                  rintro e w' ⟨rfl, rfl⟩
                  go_wp2_with fail
                  refine (join_no HJ.out _).mono ?_
                  rintro e w0 ⟨rfl, b0⟩
                  have b0s := b0.size
                  have tr0 : Tab w0 := tr.below tr.lt b0
                  have ho0 := ho.below b0
                  have hb0 := hb.trans (b0.mono hbs)
                  go_wp2_with fail
                  refine (substitute_x HU.out hr.out _ tr0).mono ?_
                  rintro e w1 ⟨E, q, f, rfl, l1', b1⟩
                  have hq : q ≤ 10 := by rw [l1'.count]; exact hul
                  have ho1 := ho0.below b1
                  have b1s := b1.size
                  go_wp2_with (at_builtin; refine wpList_append_ints rfl (.tmp 70) (.tmp 71) rfl W.heap.size u6 m done rfl ho1 E q f us rfl l1' (m + q) rfl (done ++ us) rfl (by omega) (by omega) ?_; intro v2 w2 o2 b2)
                  have hb2 := (hb0.trans (b1.mono (by omega))).trans b2
                  go_roundw
                  case rel => exact ⟨k + 1, m + q, done ++ us, by omega, by omega, by go_num, o2, hb2, Lib.hid (by rw [HD.out, HT.out.1, HX.out, HU.out, List.append_assoc]), Lib.hid (fun hp => absurd hp HP.out)⟩
                  case measure => simp [intOf]; omega
                · have l1i : decide ((k : Int) + 1 < (n : Int)) = false := by simp; omega
                  have l1j : (n : Int) ≤ (k : Int) + 1 := by omega
                  clear hp2 l1
                  go_wp2_with fail
                  refine (scalar_x hs.out _).mono ?_
                  rintro e w' ⟨rfl, rfl⟩
                  go_wp2_with fail
                  have ho0 := ho
                  have hb0 := hb
                  have tr0 := tr
                  have b0s : W.heap.size ≤ wr.heap.size := hbs
                  refine (substitute_x HU.out hr.out _ tr0).mono ?_
                  rintro e w1 ⟨E, q, f, rfl, l1', b1⟩
                  have hq : q ≤ 10 := by rw [l1'.count]; exact hul
                  have ho1 := ho0.below b1
                  have b1s := b1.size
                  go_wp2_with (at_builtin; refine wpList_append_ints rfl (.tmp 70) (.tmp 71) rfl W.heap.size u6 m done rfl ho1 E q f us rfl l1' (m + q) rfl (done ++ us) rfl (by omega) (by omega) ?_; intro v2 w2 o2 b2)
                  have hb2 := (hb0.trans (b1.mono (by omega))).trans b2
                  go_roundw
                  case rel => exact ⟨k + 1, m + q, done ++ us, by omega, by omega, by go_num, o2, hb2, Lib.hid (by rw [HD.out, HT.out.1, HX.out, HU.out, List.append_assoc]), Lib.hid (fun hp => absurd hp HP.out)⟩
                  case measure => simp [intOf]; omega
      · obtain rfl : k = n := by omega
        have HE : Hid (decR p zs = (done, 0, 0)) := Lib.hid (by
          have e : zs.drop k = [] := List.drop_eq_nil_of_le (by rw [← HC.out]; exact Nat.le_refl _)
          have hd := HD.out
          have ha := HA.out
          rw [e] at hd ha
          rw [decR, if_pos HK.out, if_neg, hd]
          · simp [decL]
          · rintro ⟨hp, hlt⟩
            have := ha hp
            rw [HC.out] at this
            simp [badD] at this
            omega)
        have g1 := (hb.block w.heap.size sW).trans GW.out
        obtain ⟨⟨y0, y1⟩, f0, f1⟩ := box2 g1
        have t1 := bW.trans (hb.mono (Nat.le_of_lt sW))
        obtain ⟨E, g, rfl, hl, hf⟩ := ho.sl_from
        go_wp2_with fail
        rw [HE.out]
        refine bodyPost_ret (v := .tuple #[.slice E m g, .agg #[.int .i64 0, .int .i64 0]]) (by simp [results, Tryd.results14, go_sem, y0, y1]) rfl ⟨E, m, g, rfl, ?_, (t1.setCell (by simp) _).setCell (by simp) _⟩
        exact (hl.setCell hf sW _).setCell hf sW _
end Go.Proofs.YtjfhhcaikapfiaaDoor.Ux
