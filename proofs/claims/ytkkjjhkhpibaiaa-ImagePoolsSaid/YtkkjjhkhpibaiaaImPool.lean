/-
  The contracts of Pool of package image and of its reference, of small and SamePools.
-/
import Derived.Test.YtkkjjhkhpibaiaaImAwake
import Derived.Test.YtkkjjhkhpibaiaaImWalkD
import Derived.Test.YtkkjjhkhpibaiaaPlRef
import Derived.BigQuiet
import Derived.Deep.QuietTactic
import Derived.Deep.RegionHeld3
namespace Go.Proofs.Ytkkjjhkhpibaiaa.Im
open Go.RowKit Sp
set_option linter.unusedVariables false

theorem lls3 {w : World} {A B C : Option Addr} {n ca m cb k cc : Nat} {xs ys zs : List Int} (h1 : Sl w A n ca 1 (ints xs)) (h2 : Sl w B m cb 1 (ints ys)) (h3 : Sl w C k cc 1 (ints zs)) (T : TypeId) :
    Lls (w.alloc (.cells #[.slice A n ca, .slice B m cb, .slice C k cc] T)) (.slice none 0 0) (some ⟨w.heap.size, 0, none⟩) 3 3 [xs, ys, zs] := by
  have hb : Below w.heap.size w (w.alloc (.cells #[.slice A n ca, .slice B m cb, .slice C k cc] T)) := (Below.refl _ _).alloc (Nat.le_refl _) _
  have low : ∀ {D : Option Addr} {q c : Nat} {l : List Int}, Sl w D q c 1 (ints l) → 0 < q → ∀ a, D = some a → a.block < (w.alloc (.cells #[.slice A n ca, .slice B m cb, .slice C k cc] T)).heap.size ∧ (Value.slice none 0 0).ownBlock ≠ some a.block := by
    intro D q c l h h0 a e
    obtain ⟨b, off, e2, hlt, _⟩ := h.int_at h0
    rw [e2] at e
    cases e
    exact ⟨by simp; omega, by simp [Value.ownBlock]⟩
  refine ⟨rfl, Nat.le_refl _, by omega, fun j hj => ?_⟩
  have hcell : ∀ j, (w.alloc (.cells #[.slice A n ca, .slice B m cb, .slice C k cc] T)).cell? ⟨w.heap.size, 0 + j, none⟩ = #[Value.slice A n ca, .slice B m cb, .slice C k cc][j]? := fun j => by
    rw [cell_of_row _ _ _ _ _ _ (heap_alloc_new w _), Nat.zero_add]
  have hc : j = 0 ∨ j = 1 ∨ j = 2 := by omega
  rcases hc with rfl | rfl | rfl
  · exact ⟨w.heap.size, 0, A, n, ca, rfl, by simp, by simp [Value.ownBlock], hcell 0, h1.keep hb, fun h0 => low h1 h0⟩
  · exact ⟨w.heap.size, 0, B, m, cb, rfl, by simp, by simp [Value.ownBlock], hcell 1, h2.keep hb, fun h0 => low h2 h0⟩
  · exact ⟨w.heap.size, 0, C, k, cc, rfl, by simp, by simp [Value.ownBlock], hcell 2, h3.keep hb, fun h0 => low h3 h0⟩
theorem Bk_drew {w W : World} {g : Nat} {cs : Array Value} (h : Bk w W g cs) : Bk w W.drew g cs := h.drawn ⟨1, rfl⟩
/-- The bytes of a pool. -/
def poolB (xs ys zs : List Int) : List Int := intsB xs ++ (intsB ys ++ intsB zs)
theorem lb_three (xs ys zs : List Int) : lb [xs, ys, zs] = poolB xs ys zs := by simp [lb, intsB, nums, poolB]
/-- What Pool gives. -/
noncomputable def poolOut (n : Nat) (xs ys zs : List Int) : ByteArray × Int := if validL n ys zs = true then (sealS (strOfNums (poolB xs ys zs)), 0) else (⟨#[]⟩, 11)

set_option maxRecDepth 100000 in
set_option maxHeartbeats 2000000 in
theorem pool_any {A B C : Option Addr} {n ca m cb k cc : Nat} {xs ys zs : List Int} (w : World) (hp : PoolIs w A n ca B m cb C k cc xs ys zs) (hx : ∀ z ∈ xs, I64 z) (hy : ∀ z ∈ ys, I64 z) (hz : ∀ z ∈ zs, I64 z) {r : ByteArray × Int} (hr : poolOut n xs ys zs = r) :
    Calls Try.prog 31 #[.agg #[.slice A n ca, .slice B m cb, .slice C k cc]] w (OpenRes r w) := by
  have k0 := Bk.fresh (Below.refl w.heap.size w) #[.slice A n ca, .slice B m cb, .slice C k cc] 51
  have hn := hp.n_le
  have hm := hp.m_le
  have hk := hp.k_le
  have e1 := hp.codes.count
  have e2 := hp.starts.count
  have e3 := hp.lens.count
  rcases hv : validL n ys zs with _ | _
  · have HV := Lib.hid hv
    have HR : Hid (r = (⟨#[]⟩, 11)) := Lib.hid (by rw [← hr, poolOut, if_neg (by rw [hv]; decide)])
    clear hr hv hx hy hz e1 e2 e3
    go_enter Try.func31, Try.ntmps31
    go_wp2_with (first
      | (go_at_call 47; refine (valid_any _ (hp.keep k0.below) HV.out).mono ?_; rintro e w1 ⟨rfl, b1⟩))
    rw [HR.out]
    exact bodyPost_ret (v := .tuple #[.string ⟨#[]⟩, .int .i64 11]) (by simp [results, Try.results31, go_sem]) rfl ⟨rfl, (k0.step b1).below⟩
  · have HV := Lib.hid hv
    have HZ : Hid (∀ x ∈ [xs, ys, zs], ∀ z ∈ x, I64 z) := Lib.hid (by
      intro x hx2
      simp only [List.mem_cons, List.not_mem_nil, or_false] at hx2
      rcases hx2 with rfl | rfl | rfl
      · exact hx
      · exact hy
      · exact hz)
    have HS : Hid (0 + cost [xs, ys, zs] ≤ 900000) := Lib.hid (by simp [cost]; omega)
    obtain ⟨s, hs⟩ : ∃ s, strOfNums (poolB xs ys zs) = s := ⟨_, rfl⟩
    have HSS : Hid (s.size ≤ 1000000) := Lib.hid (by
      have h1 := intsB_len xs
      have h2 := intsB_len ys
      have h3 := intsB_len zs
      rw [← hs, strOf_size, poolB, List.length_append, List.length_append]
      omega)
    have HR : Hid (r = (sealS s, 0)) := Lib.hid (by rw [← hr, poolOut, if_pos hv, hs])
    have HP := Lib.hid hs
    obtain ⟨q, hq⟩ : ∃ q, sealS s = q := ⟨_, rfl⟩
    have HQ := Lib.hid hq
    rw [hq] at HR
    clear hr hv hx hy hz e1 e2 e3 hs hq
    go_enter Try.func31, Try.ntmps31
    go_wp2_with (first
      | (go_at_call 47; refine (valid_any _ (hp.keep k0.below) HV.out).mono ?_; rintro e w1 ⟨rfl, b1⟩; have k1 := k0.step b1; have hp1 := hp.keep k1.below; obtain ⟨x0, x1, x2⟩ := k1.three))
    refine (lists_any (w1.alloc (.cells #[.slice A n ca, .slice B m cb, .slice C k cc] 26)).heap.size 0 [] _ (Own.nil _ _ _ _) (Nat.le_refl _) (lls3 hp1.codes hp1.starts hp1.lens 26) HZ.out HS.out).mono ?_
    rintro e w2 ⟨V, k2, c1, rfl, o1, b2, _⟩
    have t2 : Below w.heap.size w w2 := (k1.alloc (.cells #[.slice A n ca, .slice B m cb, .slice C k cc] 26)).below.trans (b2.mono (by have := k1.below.size; simp; omega))
    obtain ⟨A2, c2, e2, hs1⟩ := o1.sl
    cases e2
    have hc := conv_bytes hs1
    rw [List.nil_append, lb_three, HP.out] at hc
    go_wp2_with (first
      | (go_at_call 20; refine (seal_any s _ HSS.out).mono ?_; rintro e w3 ⟨rfl, b3⟩; rw [HQ.out]))
    rw [HR.out]
    exact bodyPost_ret (v := .tuple #[.string q, .int .i64 0]) (by simp [results, Try.results31, go_sem]) rfl ⟨rfl, t2.trans (b3.mono t2.size)⟩

set_option maxRecDepth 100000 in
set_option maxHeartbeats 2000000 in
theorem rpool_any {A B C : Option Addr} {n ca m cb k cc : Nat} {xs ys zs : List Int} (w : World) (hp : PoolIs w A n ca B m cb C k cc xs ys zs) (hx : ∀ z ∈ xs, I64 z) (hy : ∀ z ∈ ys, I64 z) (hz : ∀ z ∈ zs, I64 z) {r : ByteArray × Int} (hr : poolOut n xs ys zs = r) :
    Calls Try.prog 32 #[.agg #[.slice A n ca, .slice B m cb, .slice C k cc]] w (OpenRes r w) := by
  have k0 := Bk.fresh (Below.refl w.heap.size w) #[.slice A n ca, .slice B m cb, .slice C k cc] 51
  have hn := hp.n_le
  have hm := hp.m_le
  have hk := hp.k_le
  have e1 := hp.codes.count
  have e2 := hp.starts.count
  have e3 := hp.lens.count
  rcases hv : validL n ys zs with _ | _
  · have HV := Lib.hid hv
    have HR : Hid (r = (⟨#[]⟩, 11)) := Lib.hid (by rw [← hr, poolOut, if_neg (by rw [hv]; decide)])
    clear hr hv hx hy hz e1 e2 e3
    go_enter Try.func32, Try.ntmps32
    go_wp2_with (first
      | (go_at_call 48; refine (rvalid_any _ (hp.keep k0.below) HV.out).mono ?_; rintro e w1 ⟨rfl, b1⟩))
    rw [HR.out]
    exact bodyPost_ret (v := .tuple #[.string ⟨#[]⟩, .int .i64 11]) (by simp [results, Try.results32, go_sem]) rfl ⟨rfl, (k0.step b1).below⟩
  · have HV := Lib.hid hv
    have HX := Lib.hid hx
    have HY := Lib.hid hy
    have HZ := Lib.hid hz
    obtain ⟨s1, hs1⟩ : ∃ s, strOfNums (intsB xs) = s := ⟨_, rfl⟩
    obtain ⟨s2, hs2⟩ : ∃ s, strOfNums (intsB ys) = s := ⟨_, rfl⟩
    obtain ⟨s3, hs3⟩ : ∃ s, strOfNums (intsB zs) = s := ⟨_, rfl⟩
    have q1 : s1.size ≤ 10010 := by rw [← hs1, strOf_size]; have := intsB_len xs; omega
    have q2 : s2.size ≤ 10010 := by rw [← hs2, strOf_size]; have := intsB_len ys; omega
    have q3 : s3.size ≤ 10010 := by rw [← hs3, strOf_size]; have := intsB_len zs; omega
    have HSS : Hid (((s1 ++ s2) ++ s3).size ≤ 1000000) := Lib.hid (by rw [ByteArray.size_append, ByteArray.size_append]; omega)
    have HR : Hid (r = (sealS ((s1 ++ s2) ++ s3), 0)) := Lib.hid (by rw [← hr, poolOut, if_pos hv, poolB, ← List.append_assoc, ← strOf_append, ← strOf_append, hs1, hs2, hs3])
    have H1 := Lib.hid hs1
    have H2 := Lib.hid hs2
    have H3 := Lib.hid hs3
    obtain ⟨q, hq⟩ : ∃ q, sealS ((s1 ++ s2) ++ s3) = q := ⟨_, rfl⟩
    have HQ := Lib.hid hq
    rw [hq] at HR
    have p1 : ¬ 9223372036854775807 < s1.size + s2.size := by omega
    have p2 : ¬ 9223372036854775807 < s1.size + s2.size + s3.size := by omega
    clear hr hv hx hy hz e1 e2 e3 hs1 hs2 hs3 hq
    go_enter Try.func32, Try.ntmps32
    go_wp2_with (first
      | (go_at_call 48; refine (rvalid_any _ (hp.keep k0.below) HV.out).mono ?_; rintro e w1 ⟨rfl, b1⟩; have K := k0.step b1; obtain ⟨x0, x1, x2⟩ := K.three))
    go_region_held3 (fun W => W.cell? ⟨w.heap.size, 0, none⟩ = some (.slice A n ca) ∧ W.cell? ⟨w.heap.size, 1, none⟩ = some (.slice B m cb) ∧ W.cell? ⟨w.heap.size, 2, none⟩ = some (.slice C k cc)) (first | exact ⟨x0, x1, x2⟩ | exact K.three | exact (Bk_drew K).three | go_keep)
      (first
        | (go_at_call 17; ((with_reducible refine (rints_any _ (hp.keep K.below).codes HX.out (by omega) H1.out).mono ?_); rintro e w2 ⟨rfl, b2⟩; have K := K.step b2))
        | (go_at_call 17; ((with_reducible refine (rints_any _ (hp.keep (Bk_drew K).below).codes HX.out (by omega) H1.out).mono ?_); rintro e w2 ⟨rfl, b2⟩; have K := (Bk_drew K).step b2))
        | (go_at_call 17; ((with_reducible refine (rints_any _ (hp.keep K.below).starts HY.out (by omega) H2.out).mono ?_); rintro e w2 ⟨rfl, b2⟩; have K := K.step b2))
        | (go_at_call 17; ((with_reducible refine (rints_any _ (hp.keep K.below).lens HZ.out (by omega) H3.out).mono ?_); rintro e w2 ⟨rfl, b2⟩; have K := K.step b2))
        | (go_at_call 23; ((with_reducible refine (rseal_any _ _ HSS.out).mono ?_); rintro e w2 ⟨rfl, b2⟩; rw [HQ.out]; have K := K.step b2)))
    go_wp2_with fail
    rw [HR.out]
    exact bodyPost_ret (v := .tuple #[.string q, .int .i64 0]) (by simp [results, Try.results32, go_sem]) rfl ⟨rfl, K.below⟩
end Go.Proofs.Ytkkjjhkhpibaiaa.Im
