/-
  The contract of Encode of package utf16text, for every slice of ints of bounded length.
-/
import Derived.Test.YtjfhhcaikapfiaaDoorUxProgA
namespace Go.Proofs.YtjfhhcaikapfiaaDoor.Ux
open Go.RowKit
set_option linter.unusedVariables false

/-- The call returns a list of ints in memory and a fault, all old memory as it was. -/
def ListFault (zs : List Int) (r a : Int) (w : World) (e : Ending) (w' : World) : Prop :=
  ∃ A n c, e = .returned (.tuple #[.slice A n c, .agg #[.int .i64 r, .int .i64 a]]) ∧ Sl w' A n c 1 (ints zs) ∧ Below w.heap.size w w'
theorem sub_ok (p : Int) : decide (p = 2 ∨ p = 3 ∨ p = 4) = (known p && decide (p ≠ 1)) := by
  rw [Bool.eq_iff_iff]
  simp [known]
  omega
/-- A block of two cells that is known whole: what the walk asks of each. -/
theorem box2 {w : World} {g : Nat} {t : TypeId} {x y : Value} (h : w.heap[g]? = some (.cells #[x, y] t (0, 0))) :
    (w.cell? ⟨g, 0, none⟩ = some x ∧ w.cell? ⟨g, 1, none⟩ = some y) ∧ (w.frozen? ⟨g, 0, none⟩ = false ∧ w.frozen? ⟨g, 1, none⟩ = false) := by
  refine ⟨⟨cell_of_row w g 0 _ t _ h, cell_of_row w g 1 _ t _ h⟩, ?_, ?_⟩ <;> simp [World.frozen?, h]
theorem enc_take {p : Int} {zs : List Int} {k : Nat} (h : k < zs.length) : encL p (zs.take (k + 1)) = encL p (zs.take k) ++ one p (zs.getD k 0) := by
  rw [List.take_succ_eq_append_getElem h, encL_append, encL_cons, encL_nil, List.append_nil]
  simp [List.getD, List.getElem?_eq_getElem h]
theorem bad_take : ∀ {zs : List Int} {k : Nat}, k < zs.length → (∀ j, j < k → isScalar (zs.getD j 0) = true) → isScalar (zs.getD k 0) = false → bad zs = k
  | [], k, h, _, _ => by simp at h
  | c :: r, 0, _, _, h => by
    have : isScalar c = false := h
    rw [bad, this]
    rfl
  | c :: r, k + 1, hk, ha, h => by
    have h0 : isScalar c = true := ha 0 (by omega)
    rw [bad, if_pos h0, bad_take (zs := r) (k := k) (by simpa using hk) (fun j hj => ha (j + 1) (by omega)) h]
theorem bad_none {zs : List Int} (h : ∀ j, j < zs.length → isScalar (zs.getD j 0) = true) : bad zs = zs.length :=
  all_bad fun c hc => by
    obtain ⟨i, hi, rfl⟩ := List.getElem_of_mem hc
    have := h i hi
    simpa [List.getD, List.getElem?_eq_getElem hi] using this

set_option maxRecDepth 100000 in
set_option maxHeartbeats 2000000 in
theorem encode_any (A : Option Addr) (n c : Nat) (zs : List Int) (p : Int) (w : World) (ht : Tab w) (h : Sl w A n c 1 (ints zs)) (hn : n ≤ 5000) :
    Calls Tryd.prog 11 #[.slice A n c, .int .i64 p] w (ListFault (encR p zs).1 (encR p zs).2.1 (encR p zs).2.2 w) := by
  have hcap := h.cap
  have hmax := h.max
  have HC := Lib.hid h.count
  obtain ⟨W, hW⟩ : ∃ W, W = w.alloc (.cells #[.int .i64 0, .int .i64 0] 26) := ⟨_, rfl⟩
  have bW : Below w.heap.size w W := by rw [hW]; exact (Below.refl _ _).alloc (Nat.le_refl _) _
  have gW : W.heap[w.heap.size]? = some (.cells #[.int .i64 0, .int .i64 0] 26 (0, 0)) := by rw [hW]; exact heap_alloc_new w _
  have sW : w.heap.size < W.heap.size := by rw [hW]; simp
  have tW : Tab W := ht.below ht.lt bW
  have hxW := h.keep bW
  have HW := Lib.hid hW
  have GW := Lib.hid gW
  clear hW gW
  rcases hk : known p with _ | _
  · have HE : Hid (encR p zs = ([], 8, 0)) := Lib.hid (by rw [encR, hk]; rfl)
    have HK := Lib.hid hk
    clear hk
    go_enter Tryd.func11, Tryd.ntmps11
    go_wp2_with fail
    refine (known_x HK.out _).mono ?_
    rintro e w' ⟨rfl, rfl⟩
    go_wp2_with fail
    rw [HE.out]
    exact bodyPost_ret (v := .tuple #[.slice none 0 0, .agg #[.int .i64 8, .int .i64 0]]) (by simp [results, Tryd.results11, go_sem]) rfl ⟨none, 0, 0, rfl, Sl.nil _ _, (Below.refl _ _).alloc (Nat.le_refl _) _⟩
  · have HK := Lib.hid hk
    have hkp : 1 ≤ p ∧ p ≤ 4 := by simpa [known] using hk
    clear hk
    go_enter Tryd.func11, Tryd.ntmps11
    go_wp2_with fail
    refine (known_x HK.out _).mono ?_
    rintro e w' ⟨rfl, rfl⟩
    go_wp2_with fail
    go_loopw [6, 18] (fun v i wr => ∃ (k m : Nat) (done : List Int), k ≤ n ∧ m ≤ 10 * k ∧ i = .int .i64 k ∧ Own wr W.heap.size 3 1 v m (ints done) ∧ Below W.heap.size W wr ∧ Hid (done = encL p (zs.take k)) ∧ Hid (p = 1 → ∀ j, j < k → isScalar (zs.getD j 0) = true)) (fun _ i _ => n - (intOf i).toNat)
    case atStart => exact ⟨0, 0, [], by omega, by omega, rfl, Own.nil _ _ _ _, by rw [HW.out]; exact Below.refl _ _, Lib.hid (by simp [encL]), Lib.hid (fun _ j hj => by omega)⟩
    case round =>
      obtain ⟨k, m, done, hkn, hm, rfl, ho, hb, HD, HA⟩ := hrel
      have hbs := hb.size
      have tr : Tab wr := tW.below tW.lt hb
      have hxr := hxW.keep hb
      by_cases hlt : k < n
      · have hkz : k < zs.length := by rw [← HC.out]; exact hlt
        obtain ⟨b, off, rfl, _, hcell⟩ := hxr.int_at hlt
        obtain ⟨x, hx⟩ : ∃ x, zs.getD k 0 = x := ⟨_, rfl⟩
        have HT := Lib.hid (enc_take (p := p) hkz)
        have HX := Lib.hid hx
        rw [hx] at hcell
        clear hx
        rcases hs : isScalar x with _ | _
        · have HS := Lib.hid hs
          clear hs
          by_cases hp1 : p = 1
          · have HP := Lib.hid hp1
            have HB : Hid (encR p zs = ([], 9, (k : Int))) := Lib.hid (by
              have hb := bad_take hkz (HA.out HP.out) (by rw [HX.out]; exact HS.out)
              rw [encR, if_pos HK.out, if_pos ⟨HP.out, by rw [hb]; exact hkz⟩, hb])
            have hr : Hid (decide (p = 2 ∨ p = 3 ∨ p = 4) = false) := Lib.hid (by rw [decide_eq_false_iff_not]; omega)
            clear hp1
            go_wp2_with fail
            refine (scalar_x HS.out _).mono ?_
            rintro e w' ⟨rfl, rfl⟩
            go_wp2_with fail
            refine (substitute_x rfl hr.out _ tr).mono ?_
            rintro e w1 ⟨E, q, f, rfl, l1, b1⟩
            have b01 := hb.trans (b1.mono hbs)
            have g1 := (b01.block w.heap.size sW).trans GW.out
            obtain ⟨⟨y0, y1⟩, f0, f1⟩ := box2 g1
            have t1 := bW.trans (b01.mono (Nat.le_of_lt sW))
            go_wp2_with fail
            rw [HB.out]
            exact bodyPost_ret (v := .tuple #[.slice none 0 0, .agg #[.int .i64 9, .int .i64 k]]) (by simp [results, Tryd.results11, go_sem, y0, y1]) rfl ⟨none, 0, 0, rfl, Sl.nil _ _, (t1.setCell (by simp) _).setCell (by simp) _⟩
          · have hr : Hid (decide (p = 2 ∨ p = 3 ∨ p = 4) = true) := Lib.hid (by rw [decide_eq_true_iff]; omega)
            have HP := Lib.hid hp1
            obtain ⟨us, hu⟩ : ∃ us, sub x p = us := ⟨_, rfl⟩
            have HU := Lib.hid hu
            have hul : us.length ≤ 10 := by rw [← hu]; exact sub_len x p
            have HO : Hid (one p (zs.getD k 0) = us) := Lib.hid (by rw [HX.out, one, HS.out]; exact hu)
            clear hu hp1
            go_wp2_with fail
            refine (scalar_x HS.out _).mono ?_
            rintro e w' ⟨rfl, rfl⟩
            go_wp2_with fail
            refine (substitute_x HU.out hr.out _ tr).mono ?_
            rintro e w1 ⟨E, q, f, rfl, l1, b1⟩
            have hq : q ≤ 10 := by rw [l1.count]; exact hul
            have ho1 := ho.below b1
            have b1s := b1.size
            go_wp2_with (at_builtin; refine wpList_append_ints rfl (.tmp 46) (.tmp 47) rfl W.heap.size u6 m done rfl ho1 E q f us rfl l1 (m + q) rfl (done ++ us) rfl (by omega) (by omega) ?_; intro v2 w2 o2 b2)
            have hb2 := (hb.trans (b1.mono hbs)).trans b2
            go_roundw
            case rel => exact ⟨k + 1, m + q, done ++ us, by omega, by omega, by go_num, o2, hb2, Lib.hid (by rw [HD.out, HT.out, HO.out]), Lib.hid (fun hp => absurd hp HP.out)⟩
            case measure => simp [intOf]; omega
        · have HS := Lib.hid hs
          have HAN : Hid (p = 1 → ∀ j, j < k + 1 → isScalar (zs.getD j 0) = true) := Lib.hid (fun hp j hj => by
            rcases Nat.lt_or_ge j k with h | h
            · exact HA.out hp j h
            · obtain rfl : j = k := by omega
              rw [HX.out]; exact HS.out)
          have hsb := isScalar_iff.1 hs
          clear hs
          by_cases hx6 : x < 65536
          · have HO : Hid (one p (zs.getD k 0) = [x]) := Lib.hid (by rw [HX.out, one, HS.out, form]; simp [hx6])
            go_wp2_with (first
              | (go_at_call 23; refine (scalar_x HS.out _).mono ?_; rintro e w' ⟨rfl, rfl⟩)
              | (at_builtin; refine wpList_append_ints rfl (.tmp 52) (.tmp 54) rfl W.heap.size u6 m done rfl (ho.alloc _) _ 1 1 [x] rfl (Sl.built wr 3 1 1 _ rfl (by unfold maxLen; omega)) (m + 1) rfl (done ++ [x]) rfl (by omega) (by simp; omega) ?_; intro v2 w2 o2 b2))
            have hb2 := (hb.alloc hbs _).trans b2
            go_roundw
            case rel => exact ⟨k + 1, m + 1, done ++ [x], by omega, by omega, by go_num, o2, hb2, Lib.hid (by rw [HD.out, HT.out, HO.out]), HAN⟩
            case measure => simp [intOf]; omega
          · have h1 : 65536 ≤ x := by omega
            have h2 : x ≤ 1114111 := by omega
            obtain ⟨y, hy⟩ : ∃ y, 55296 + (x - 65536) / 1024 = y := ⟨_, rfl⟩
            obtain ⟨z, hz⟩ : ∃ z, 56320 + (x - 65536) % 1024 = z := ⟨_, rfl⟩
            have HO : Hid (one p (zs.getD k 0) = [y, z]) := Lib.hid (by rw [HX.out, one, HS.out, ← hy, ← hz, form]; simp [hx6])
            have HY := Lib.hid hy
            have HZ := Lib.hid hz
            clear hy hz hx6
            go_wp2_with (first
              | (go_at_call 23; refine (scalar_x HS.out _).mono ?_; rintro e w' ⟨rfl, rfl⟩)
              | (go_at_call 25; refine (pair_x h1 h2 HY.out HZ.out _).mono ?_; rintro e w1 ⟨rfl, b1⟩; have ho1 := ho.below b1; have b1s := b1.size)
              | (at_builtin; refine wpList_append_ints rfl (.tmp 25) (.tmp 30) rfl W.heap.size u6 m done rfl ((ho1.alloc _).alloc _) _ 2 2 [y, z] rfl (Sl.built_at _ 3 1 2 _ rfl (by unfold maxLen; omega) (by simp)) (m + 2) rfl (done ++ [y, z]) rfl (by omega) (by simp; omega) ?_; intro v2 w2 o2 b2))
            have hb2 := (((hb.trans (b1.mono hbs)).alloc (by omega) _).alloc (by simp; omega) _).trans b2
            go_roundw
            case rel => exact ⟨k + 1, m + 2, done ++ [y, z], by omega, by omega, by go_num, o2, hb2, Lib.hid (by rw [HD.out, HT.out, HO.out]), HAN⟩
            case measure => simp [intOf]; omega
      · obtain rfl : k = n := by omega
        have HE : Hid (encR p zs = (done, 0, 0)) := Lib.hid (by
          have e : zs.take k = zs := List.take_of_length_le (by rw [← HC.out]; exact Nat.le_refl _)
          rw [HD.out, e, encR, if_pos HK.out, if_neg]
          rintro ⟨hp, hlt⟩
          have := bad_none (fun j hj => HA.out hp j (by rw [HC.out]; exact hj))
          omega)
        have g1 := (hb.block w.heap.size sW).trans GW.out
        obtain ⟨⟨y0, y1⟩, f0, f1⟩ := box2 g1
        have t1 := bW.trans (hb.mono (Nat.le_of_lt sW))
        obtain ⟨E, g, rfl, hl, hf⟩ := ho.sl_from
        go_wp2_with fail
        rw [HE.out]
        refine bodyPost_ret (v := .tuple #[.slice E m g, .agg #[.int .i64 0, .int .i64 0]]) (by simp [results, Tryd.results11, go_sem, y0, y1]) rfl ⟨E, m, g, rfl, ?_, (t1.setCell (by simp) _).setCell (by simp) _⟩
        exact (hl.setCell hf sW _).setCell hf sW _
end Go.Proofs.YtjfhhcaikapfiaaDoor.Ux
