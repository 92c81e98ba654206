/- The contract of tabulariumref10.Same. -/
import Derived.Test.YthogpaojdlfjcaaEditR
import Derived.Test.YthogpaojdlfjcaaRows
import Derived.Test.YthogpaojdlfjcaaRetryF1
import Derived.BigQuiet
namespace Go.Proofs.Ythogpaojdlfjcaa.Rty
open Go.RowKit Go.Proofs.Ythogpaojdlfjcaa Go.Proofs.Ythogpaojdlfjcaa.Edi Go.Proofs.Ythogpaojdlfjcaa.Wir
open Go.WideShapes (bytes_inj)

theorem same_txt (p q : ByteArray) : (p.toList == q.toList) = decide (p = q) := by
  rw [Lib.toList_data, Lib.toList_data]
  by_cases h : p = q
  · subst h; simp
  · rw [decide_eq_false h, beq_eq_false_iff_ne]
    intro e
    exact h (bytes_inj e)

set_option maxRecDepth 100000 in
set_option maxHeartbeats 4000000 in
theorem refSame_val {e f : Ed} {a a2 : Option Addr} {m q m2 q2 : Nat} {w : World} (h1 : Nm w a m e.ls) (h2 : Nm w a2 m2 f.ls) (v : Bool) (hv : v = true ↔ e = f) :
    Calls Try.prog 20 #[edV e a m q, edV f a2 m2 q2] w fun x w' => x = .returned (.bool v) ∧ Below w.heap.size w w' := by
  obtain ⟨k, p, t, c, l, n, ls⟩ := e
  obtain ⟨k2, p2, t2, c2, l2, n2, ls2⟩ := f
  simp only at h1 h2
  unfold edV
  simp only
  have H1 : Hid (Nm w a m ls) := h1
  have H2 : Hid (Nm w a2 m2 ls2) := h2
  have HV : Hid (v = true ↔ (⟨k, p, t, c, l, n, ls⟩ : Ed) = ⟨k2, p2, t2, c2, l2, n2, ls2⟩) := hv
  have hlid := h1.lid
  have hlid2 := h2.lid
  unfold maxLen at hlid hlid2
  clear h1 h2 hv
  by_cases hx : k = k2
  case neg =>
    have HF : Hid (v = false) := by
      show v = false
      rw [Bool.eq_false_iff]; intro z
      have := HV.out.1 z
      simp only [Ed.mk.injEq] at this
      exact hx (by simp [this])
    have hf : (k == k2) = false := by simpa using hx
    clear H1 H2 HV
    go_enter Try.func20, Try.ntmps20
    go_wp2
    go_ret
    exact ⟨congrArg (fun b => Ending.returned (.bool b)) HF.out.symm, bel_tr (bel_al _ _) (bel_al _ _)⟩
  subst hx
  by_cases hx : p = p2
  case neg =>
    have HF : Hid (v = false) := by
      show v = false
      rw [Bool.eq_false_iff]; intro z
      have := HV.out.1 z
      simp only [Ed.mk.injEq] at this
      exact hx (by simp [this])
    have hf : (p.toList == p2.toList) = false := by rw [same_txt]; exact decide_eq_false hx
    clear hx H1 H2 HV
    go_enter Try.func20, Try.ntmps20
    go_wp2
    go_ret
    exact ⟨congrArg (fun b => Ending.returned (.bool b)) HF.out.symm, bel_tr (bel_al _ _) (bel_al _ _)⟩
  subst hx
  by_cases hx : t = t2
  case neg =>
    have HF : Hid (v = false) := by
      show v = false
      rw [Bool.eq_false_iff]; intro z
      have := HV.out.1 z
      simp only [Ed.mk.injEq] at this
      exact hx (by simp [this])
    have hf : (t.toList == t2.toList) = false := by rw [same_txt]; exact decide_eq_false hx
    clear hx H1 H2 HV
    go_enter Try.func20, Try.ntmps20
    go_wp2
    go_ret
    exact ⟨congrArg (fun b => Ending.returned (.bool b)) HF.out.symm, bel_tr (bel_al _ _) (bel_al _ _)⟩
  subst hx
  by_cases hx : c = c2
  case neg =>
    have HF : Hid (v = false) := by
      show v = false
      rw [Bool.eq_false_iff]; intro z
      have := HV.out.1 z
      simp only [Ed.mk.injEq] at this
      exact hx (by simp [this])
    have hf : (c == c2) = false := by simpa using hx
    clear H1 H2 HV
    go_enter Try.func20, Try.ntmps20
    go_wp2
    go_ret
    exact ⟨congrArg (fun b => Ending.returned (.bool b)) HF.out.symm, bel_tr (bel_al _ _) (bel_al _ _)⟩
  subst hx
  by_cases hx : l = l2
  case neg =>
    have HF : Hid (v = false) := by
      show v = false
      rw [Bool.eq_false_iff]; intro z
      have := HV.out.1 z
      simp only [Ed.mk.injEq] at this
      exact hx (by simp [this])
    have hf : (l == l2) = false := by simpa using hx
    clear H1 H2 HV
    go_enter Try.func20, Try.ntmps20
    go_wp2
    go_ret
    exact ⟨congrArg (fun b => Ending.returned (.bool b)) HF.out.symm, bel_tr (bel_al _ _) (bel_al _ _)⟩
  subst hx
  by_cases hx : n = n2
  case neg =>
    have HF : Hid (v = false) := by
      show v = false
      rw [Bool.eq_false_iff]; intro z
      have := HV.out.1 z
      simp only [Ed.mk.injEq] at this
      exact hx (by simp [this])
    have hf : (n == n2) = false := by simpa using hx
    clear H1 H2 HV
    go_enter Try.func20, Try.ntmps20
    go_wp2
    go_ret
    exact ⟨congrArg (fun b => Ending.returned (.bool b)) HF.out.symm, bel_tr (bel_al _ _) (bel_al _ _)⟩
  subst hx
  by_cases hx : m = m2
  case neg =>
    have HF : Hid (v = false) := by
      show v = false
      rw [Bool.eq_false_iff]; intro z
      have := HV.out.1 z
      simp only [Ed.mk.injEq] at this
      have h3 := H1.out.len
      have h4 := H2.out.len
      rw [this.2.2.2.2.2.2] at h3
      exact hx (h3.symm.trans h4)
    have hf : ((m : Int) == (m2 : Int)) = false := by simp; omega
    clear hx H1 H2 HV
    go_enter Try.func20, Try.ntmps20
    go_wp2
    go_ret
    exact ⟨congrArg (fun b => Ending.returned (.bool b)) HF.out.symm, bel_tr (bel_al _ _) (bel_al _ _)⟩
  subst hx
  have HN : Hid (ls.length = m) := H1.out.len
  have HM : Hid (ls2.length = m) := H2.out.len
  have HVL : Hid (v = true ↔ ls = ls2) := by
    refine HV.out.trans ?_
    simp only [Ed.mk.injEq, true_and]
  clear HV
  obtain ⟨N, hN⟩ : ∃ N, w.heap.size = N := ⟨_, rfl⟩
  have K1 := (Cells.new w 32 [.int .i64 k, .string p, .string t, .int .i64 c, .int .i64 l, .int .i64 n, .slice a m q]).below (bel_al _ (.cells #[.int .i64 k, .string p, .string t, .int .i64 c, .int .i64 l, .int .i64 n, .slice a2 m q2] 32))
  have K2 := Cells.new (w.alloc (.cells #[.int .i64 k, .string p, .string t, .int .i64 c, .int .i64 l, .int .i64 n, .slice a m q] 32)) 32 [.int .i64 k, .string p, .string t, .int .i64 c, .int .i64 l, .int .i64 n, .slice a2 m q2]
  rw [show (w.alloc (.cells #[.int .i64 k, .string p, .string t, .int .i64 c, .int .i64 l, .int .i64 n, .slice a m q] 32)).heap.size = w.heap.size + 1 by simp] at K2
  have s1 := K1.val 6 _ rfl
  have s2 := K2.val 6 _ rfl
  have HB0 : Hid (Below w.heap.size w ((w.alloc (.cells #[.int .i64 k, .string p, .string t, .int .i64 c, .int .i64 l, .int .i64 n, .slice a m q] 32)).alloc (.cells #[.int .i64 k, .string p, .string t, .int .i64 c, .int .i64 l, .int .i64 n, .slice a2 m q2] 32))) := bel_tr (bel_al _ _) (bel_al _ _)
  have HS1 : Hid (∀ W, Below ((w.alloc (.cells #[.int .i64 k, .string p, .string t, .int .i64 c, .int .i64 l, .int .i64 n, .slice a m q] 32)).alloc (.cells #[.int .i64 k, .string p, .string t, .int .i64 c, .int .i64 l, .int .i64 n, .slice a2 m q2] 32)).heap.size ((w.alloc (.cells #[.int .i64 k, .string p, .string t, .int .i64 c, .int .i64 l, .int .i64 n, .slice a m q] 32)).alloc (.cells #[.int .i64 k, .string p, .string t, .int .i64 c, .int .i64 l, .int .i64 n, .slice a2 m q2] 32)) W → W.cell? ⟨w.heap.size, 6, none⟩ = some (.slice a m q) ∧ W.cell? ⟨w.heap.size + 1, 6, none⟩ = some (.slice a2 m q2) ∧ Below w.heap.size w W) := fun W hb => ⟨bel_cell hb s1, bel_cell hb s2, bel_tr HB0.out hb⟩
  clear K1 K2 s1 s2 hN HB0
  go_enter Try.func20, Try.ntmps20
  go_wp2
  generalize hW : ((w.alloc (.cells #[.int .i64 k, .string p, .string t, .int .i64 c, .int .i64 l, .int .i64 n, .slice a m q] 32)).alloc (.cells #[.int .i64 k, .string p, .string t, .int .i64 c, .int .i64 l, .int .i64 n, .slice a2 m q2] 32)) = W2 at HS1 ⊢
  clear hW
  go_loopw [5] (fun x wr => ∃ i : Nat, i ≤ m ∧ x = .int .i64 i ∧ Below W2.heap.size W2 wr ∧ ∀ j (hj : j < ls.length) (hk : j < ls2.length), j < i → ls[j] = ls2[j]) (fun x _ => m - (intOf x).toNat)
  case atStart => exact ⟨0, by omega, rfl, Below.refl _ _, fun j hj hk h0 => by omega⟩
  case round =>
    obtain ⟨i, hi, rfl, hb, hall⟩ := hrel
    obtain ⟨s1, s2, hb0⟩ := HS1.out wr hb
    have HB : Hid (Below W2.heap.size W2 wr) := hb
    have HB0 : Hid (Below w.heap.size w wr) := hb0
    have HA : Hid (∀ j (hj : j < ls.length) (hk : j < ls2.length), j < i → ls[j] = ls2[j]) := hall
    clear hall
    by_cases hlt : i < m
    · have e1 : i < ls.length := by rw [HN.out]; exact hlt
      have e2 : i < ls2.length := by rw [HM.out]; exact hlt
      obtain ⟨b, off, rfl, k1⟩ := (H1.out.below hb0).at (by omega)
      obtain ⟨b2, off2, rfl, k2⟩ := (H2.out.below hb0).at (by omega)
      have q1 := k1 i e1
      have q2 := k2 i e2
      clear hb hb0 k1 k2
      by_cases hz : ls[i] = ls2[i]
      · have HA2 : Hid (∀ j (hj : j < ls.length) (hk : j < ls2.length), j < i + 1 → ls[j] = ls2[j]) := fun j hj hk hji => by
          rcases Nat.lt_or_ge j i with h | h
          · exact HA.out j hj hk h
          · obtain rfl : j = i := by omega
            exact hz
        have hzb : (ls[i] != ls2[i]) = false := by simpa using hz
        clear hz
        generalize ls[i] = z at *
        generalize ls2[i] = y at *
        go_wp2
        go_quiet (fail)
        go_wp2
        go_roundw
        case rel => exact ⟨i + 1, by omega, by go_num, bel_tr HB.out (below_drewN (Below.refl _ _) _), HA2.out⟩
        case measure => simp [intOf]; omega
      · have HF : Hid (v = false) := by
          show (_ : Bool) = _
          rw [Bool.eq_false_iff]; intro x
          have := HVL.out.1 x
          subst this
          exact hz rfl
        have hzb : (ls[i] != ls2[i]) = true := by simpa using hz
        clear hz
        generalize ls[i] = z at *
        generalize ls2[i] = y at *
        go_wp2
        go_quiet (fail)
        go_wp2
        go_ret
        exact ⟨congrArg (fun b => Ending.returned (.bool b)) HF.out.symm, bel_tr HB0.out (below_drewN (Below.refl _ _) _)⟩
    · obtain rfl : i = m := by omega
      have hgd : decide ((i : Int) < (i : Int)) = false := decide_eq_false (by omega)
      have HT : Hid (v = true) := HVL.out.2 (List.ext_getElem (by rw [HN.out, HM.out]) (fun j h1 h2 => HA.out j h1 h2 (by rw [← HN.out]; exact h1)))
      clear hb hb0 hlt
      go_wp2
      go_ret
      exact ⟨congrArg (fun b => Ending.returned (.bool b)) HT.out.symm, HB0.out⟩

end Go.Proofs.Ythogpaojdlfjcaa.Rty
