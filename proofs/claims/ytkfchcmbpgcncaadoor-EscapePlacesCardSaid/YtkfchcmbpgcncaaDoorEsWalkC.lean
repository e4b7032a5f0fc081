/-
  The walks of EscapePlaces and EscapeAscii.
-/
import Derived.Test.YtkfchcmbpgcncaaDoorEsWalkB
namespace Go.Proofs.YtkfchcmbpgcncaaDoor.Es
open Go.RowKit
set_option linter.unusedVariables false

theorem take_bytes (s : ByteArray) (k : Nat) : (s.extract 0 k).data.toList = s.data.toList.take k := by
  simp [ByteArray.data_extract, Array.toList_extract, List.extract]
set_option maxRecDepth 100000 in
set_option maxHeartbeats 4000000 in
theorem places_walk (s : ByteArray) (w : World) (he : Env w) (hs : s.size ≤ maxLen) : Calls Tryd.prog 11 #[.string s] w (Makes (.bool true) w) := by
  unfold maxLen at hs
  rcases Nat.lt_or_ge 400 s.size with h | h
  · go_enter Tryd.func11, Tryd.ntmps11
    go_wp2_with (go_at_call 12; refine (alive_any _ he).mono ?_; rintro e w1 ⟨rfl, b1⟩)
    go_ret
    exact ⟨rfl, b1⟩
  · obtain ⟨⟨a, e0, k⟩, hl⟩ : ∃ o, litR s.data.toList = o := ⟨_, rfl⟩
    have ho := (litR_out s.data.toList).2
    rw [hl, length_of] at ho
    simp only at ho
    have HL := Lib.hid hl
    clear hl
    rcases ho with ⟨rfl, rfl⟩ | ⟨rfl, rfl, hk⟩
    · go_enter Tryd.func11, Tryd.ntmps11
      go_wp2_with fail
      refine (lit_x HL.out _ (by omega)).mono ?_
      rintro e w1 ⟨A1, n1, c1, rfl, l1, b1⟩
      have he1 := (he.next b1).alloc (.cells #[.int .i64 0, .int .i64 0] 33)
      go_wp2_with (go_at_call 12; refine (alive_any _ he1).mono ?_; rintro e w2 ⟨rfl, b2⟩)
      go_ret
      exact ⟨rfl, Below.then b1 (Below.past b2)⟩
    · have hcut := litR_cut HL.out
      rw [← take_bytes] at hcut
      obtain ⟨⟨a', e', k'⟩, hl'⟩ : ∃ o, litR (s.extract 0 k).data.toList = o := ⟨_, rfl⟩
      rw [hl'] at hcut
      simp only at hcut
      have HL2 := Lib.hid hl'
      have hk5 : (s.extract 0 k).size ≤ 400 := by simp; omega
      clear hl'
      have f0 := fault_same 0 0
      have f1 := fault_same 3 (k : Int)
      have f2 : ∀ w, (Op.equalIn 10000 33 (.agg #[.int .i64 3, .int .i64 (k : Int)]) (.agg #[.int .i64 0, .int .i64 0])).run Tryd.prog w = .ok false w := fun w => by rw [eq_fault]; rfl
      rcases hcut with ⟨h1, h2⟩ | ⟨h1, h2⟩
      · subst h1 h2
        go_enter Tryd.func11, Tryd.ntmps11
        go_wp2_with fail
        refine (lit_x HL.out _ (by omega)).mono ?_
        rintro e w1 ⟨A1, n1, c1, rfl, l1, b1⟩
        have hn1 : n1 = 0 := l1.count
        subst hn1
        have k1 := Bk.fresh b1 #[.int .i64 3, .int .i64 (k : Int)] 33
        have he1 := (he.next b1).alloc (.cells #[.int .i64 3, .int .i64 (k : Int)] 33)
        clear l1 b1
        go_wp2_with fail
        refine (lit_x HL2.out _ (by omega)).mono ?_
        rintro e w2 ⟨A2, n2, c2, rfl, l2, b2⟩
        have k2 := (k1.step b2).alloc (.cells #[.int .i64 0, .int .i64 0] 33)
        have he2 := (he1.next b2).alloc (.cells #[.int .i64 0, .int .i64 0] 33)
        clear k1 b2 l2
        obtain ⟨x0, x1⟩ := k2.two
        go_wp2_with (go_at_call 12; refine (alive_any _ he2).mono ?_; rintro e w3 ⟨rfl, b3⟩)
        go_ret
        exact ⟨rfl, (k2.step b3).below⟩
      · have h2 := h2.symm
        subst h1 h2
        go_enter Tryd.func11, Tryd.ntmps11
        go_wp2_with fail
        refine (lit_x HL.out _ (by omega)).mono ?_
        rintro e w1 ⟨A1, n1, c1, rfl, l1, b1⟩
        have hn1 : n1 = 0 := l1.count
        subst hn1
        have k1 := Bk.fresh b1 #[.int .i64 3, .int .i64 (k : Int)] 33
        have he1 := (he.next b1).alloc (.cells #[.int .i64 3, .int .i64 (k : Int)] 33)
        clear l1 b1
        go_wp2_with fail
        refine (lit_x HL2.out _ (by omega)).mono ?_
        rintro e w2 ⟨A2, n2, c2, rfl, l2, b2⟩
        have k2 := (k1.step b2).alloc (.cells #[.int .i64 3, .int .i64 (k : Int)] 33)
        have he2 := (he1.next b2).alloc (.cells #[.int .i64 3, .int .i64 (k : Int)] 33)
        clear k1 b2 l2
        obtain ⟨x0, x1⟩ := k2.two
        go_wp2_with (go_at_call 12; refine (alive_any _ he2).mono ?_; rintro e w3 ⟨rfl, b3⟩)
        go_ret
        exact ⟨rfl, (k2.step b3).below⟩
end Go.Proofs.YtkfchcmbpgcncaaDoor.Es
