/- The contracts of tabulariumlaw10.numbers, same. -/
import Derived.Test.YtlinlbfiheoniaaEditR
import Derived.Test.YtlinlbfiheoniaaRows
import Derived.BigQuiet
namespace Go.Proofs.Ytlinlbfiheoniaa.Edi
open Go.RowKit Go.Proofs.Ytlinlbfiheoniaa
open Go.WideShapes (bytes_inj)

theorem same_eq (p q : ByteArray) : (p.toList == q.toList) = decide (p = q) := by
  rw [Lib.toList_data, Lib.toList_data]
  by_cases h : p = q
  · subst h; simp
  · rw [decide_eq_false h, beq_eq_false_iff_ne]
    intro e
    exact h (bytes_inj e)

set_option maxRecDepth 100000 in
set_option maxHeartbeats 1000000 in
theorem same_nums {a a2 : Option Addr} {m m2 c c2 : Nat} {zs ys : List Int} {w : World} (h1 : Nm w a m zs) (h2 : Nm w a2 m2 ys) (v : Bool) (hv : v = true ↔ zs = ys) :
    Calls Try.prog 22 #[.slice a m c, .slice a2 m2 c2] w fun e w' => e = .returned (.bool v) ∧ Below w.heap.size w w' := by
  have HN : Hid (zs.length = m) := h1.len
  have HM : Hid (ys.length = m2) := h2.len
  have hlid := h1.lid
  have hlid2 := h2.lid
  unfold maxLen at hlid hlid2
  have H1 : Hid _ := h1
  have H2 : Hid _ := h2
  by_cases hl : m = m2
  · subst hl
    have hne : ((m : Int) != (m : Int)) = false := by simp
    have HV : Hid (v = true ↔ zs = ys) := hv
    clear h1 h2 hv
    go_enter Try.func22, Try.ntmps22
    go_wp2
    go_loopw [5] (fun x wr => ∃ i : Nat, i ≤ m ∧ x = .int .i64 i ∧ Below w.heap.size w wr ∧ ∀ j (hj : j < zs.length) (hk : j < ys.length), j < i → zs[j] = ys[j]) (fun x _ => m - (intOf x).toNat)
    case atStart => exact ⟨0, by omega, rfl, Below.refl _ _, fun j hj hk h0 => by omega⟩
    case round =>
      obtain ⟨i, hi, rfl, hb, hall⟩ := hrel
      have HB : Hid (Below w.heap.size w wr) := hb
      have HA : Hid (∀ j (hj : j < zs.length) (hk : j < ys.length), j < i → zs[j] = ys[j]) := hall
      clear hall
      by_cases hlt : i < m
      · have e1 : i < zs.length := by rw [HN.out]; exact hlt
        have e2 : i < ys.length := by rw [HM.out]; exact hlt
        obtain ⟨b, off, rfl, k1⟩ := (H1.out.below hb).at (by omega)
        obtain ⟨b2, off2, rfl, k2⟩ := (H2.out.below hb).at (by omega)
        have q1 := k1 i e1
        have q2 := k2 i e2
        clear hb k1 k2
        by_cases hz : zs[i] = ys[i]
        · have HA2 : Hid (∀ j (hj : j < zs.length) (hk : j < ys.length), j < i + 1 → zs[j] = ys[j]) := fun j hj hk hji => by
            rcases Nat.lt_or_ge j i with h | h
            · exact HA.out j hj hk h
            · obtain rfl : j = i := by omega
              exact hz
          have hzb : (zs[i] != ys[i]) = false := by simpa using hz
          clear hz
          generalize zs[i] = z at *
          generalize ys[i] = y at *
          go_wp2
          go_quiet (fail)
          go_wp2
          go_roundw
          case rel => exact ⟨i + 1, by omega, by go_num, bel_tr HB.out (below_drewN (Below.refl _ _) _), HA2.out⟩
          case measure => simp [intOf]; omega
        · have HF : Hid (v = false) := by
            show (_ : Bool) = _
            rw [Bool.eq_false_iff]; intro x
            have := HV.out.1 x
            subst this
            exact hz rfl
          have hzb : (zs[i] != ys[i]) = true := by simpa using hz
          clear hz
          generalize zs[i] = z at *
          generalize ys[i] = y at *
          go_wp2
          go_quiet (fail)
          go_wp2
          go_ret
          exact ⟨congrArg (fun b => Ending.returned (.bool b)) HF.out.symm, bel_tr HB.out (below_drewN (Below.refl _ _) _)⟩
      · obtain rfl : i = m := by omega
        have hgd : decide ((i : Int) < (i : Int)) = false := decide_eq_false (by omega)
        have HT : Hid (v = true) := HV.out.2 (List.ext_getElem (by rw [HN.out, HM.out]) (fun j h1 h2 => HA.out j h1 h2 (by rw [← HN.out]; exact h1)))
        clear hb hlt
        go_wp2
        go_ret
        exact ⟨congrArg (fun b => Ending.returned (.bool b)) HT.out.symm, HB.out⟩
  · have HF : Hid (v = false) := by
      show (_ : Bool) = _
      rw [Bool.eq_false_iff]; intro x
      have := hv.1 x
      subst this
      exact hl (HN.out.symm.trans HM.out)
    have hne : ((m : Int) != (m2 : Int)) = true := by simp; omega
    clear h1 h2 hv hl
    go_enter Try.func22, Try.ntmps22
    go_wp2
    go_ret
    exact ⟨congrArg (fun b => Ending.returned (.bool b)) HF.out.symm, Below.refl _ _⟩

set_option maxRecDepth 100000 in
set_option maxHeartbeats 4000000 in
theorem same_val {e f : Ed} {a a2 : Option Addr} {m q m2 q2 : Nat} {w : World} (h1 : Nm w a m e.ls) (h2 : Nm w a2 m2 f.ls) (v : Bool) (hv : v = true ↔ e = f) :
    Calls Try.prog 12 #[edV e a m q, edV f a2 m2 q2] w fun x w' => x = .returned (.bool v) ∧ Below w.heap.size w w' := by
  obtain ⟨k, p, t, c, l, n, ls⟩ := e
  obtain ⟨k2, p2, t2, c2, l2, n2, ls2⟩ := f
  simp only at h1 h2
  have CN : Hid (∀ W b, Below w.heap.size w W → (b = true ↔ ls = ls2) → Calls Try.prog 22 #[.slice a m q, .slice a2 m2 q2] W fun x w' => x = .returned (.bool b) ∧ Below W.heap.size W w') := fun W b hb => same_nums (h1.below hb) (h2.below hb) b
  have HE : Hid (EdAt ((w.alloc (.cells #[.int .i64 k, .string p, .string t, .int .i64 c, .int .i64 l, .int .i64 n, .slice a m q] 24)).alloc (.cells #[.int .i64 k2, .string p2, .string t2, .int .i64 c2, .int .i64 l2, .int .i64 n2, .slice a2 m2 q2] 24)) w.heap.size ⟨k, p, t, c, l, n, ls⟩ a m q) := (EdAt.new w 24 ⟨k, p, t, c, l, n, ls⟩ a m q).below (bel_al _ _)
  have HF : Hid (EdAt ((w.alloc (.cells #[.int .i64 k, .string p, .string t, .int .i64 c, .int .i64 l, .int .i64 n, .slice a m q] 24)).alloc (.cells #[.int .i64 k2, .string p2, .string t2, .int .i64 c2, .int .i64 l2, .int .i64 n2, .slice a2 m2 q2] 24)) (w.heap.size + 1) ⟨k2, p2, t2, c2, l2, n2, ls2⟩ a2 m2 q2) := by
    have := EdAt.new (w.alloc (.cells #[.int .i64 k, .string p, .string t, .int .i64 c, .int .i64 l, .int .i64 n, .slice a m q] 24)) 24 ⟨k2, p2, t2, c2, l2, n2, ls2⟩ a2 m2 q2
    rw [show (w.alloc (.cells #[.int .i64 k, .string p, .string t, .int .i64 c, .int .i64 l, .int .i64 n, .slice a m q] 24)).heap.size = w.heap.size + 1 by simp] at this
    exact this
  have HV : Hid (v = true ↔ (⟨k, p, t, c, l, n, ls⟩ : Ed) = ⟨k2, p2, t2, c2, l2, n2, ls2⟩) := hv
  unfold edV
  simp only
  clear h1 h2 hv
  by_cases h0 : ¬ ls = ls2
  · have HU : Hid (v = false) := by
      show (_ : Bool) = _
      rw [Bool.eq_false_iff]; intro z
      have := HV.out.1 z
      simp only [Ed.mk.injEq] at this
      exact h0 this.2.2.2.2.2.2
    have HL : Hid (false = true ↔ ls = ls2) := ⟨fun x => (by cases x), fun x => absurd x h0⟩
    clear h0
    go_enter Try.func12, Try.ntmps12
    go_wp2_with fail
    refine (CN.out _ false (bel_tr (bel_al _ _) (bel_al _ _)) HL.out).mono ?_
    rintro x w1 ⟨rfl, b⟩
    have hE := HE.out.below b
    have hF := HF.out.below b
    have q0 := hE.c0
    have q1 := hE.c1
    have q2 := hE.c2
    have q3 := hE.c3
    have q4 := hE.c4
    have q5 := hE.c5
    have r0 := hF.c0
    have r1 := hF.c1
    have r2 := hF.c2
    have r3 := hF.c3
    have r4 := hF.c4
    have r5 := hF.c5
    have B1 : Hid (Below w.heap.size w w1) := bel_tr (bel_tr (bel_al _ _) (bel_al _ _)) b
    clear hE hF b HE HF CN
    simp only at q0 q1 q2 q3 q4 q5 r0 r1 r2 r3 r4 r5
    go_wp2
    go_ret
    exact ⟨congrArg (fun b => Ending.returned (.bool b)) HU.out.symm, B1.out⟩
  replace h0 : ls = ls2 := Classical.not_not.1 h0
  by_cases h1 : ¬ k = k2
  · have HU : Hid (v = false) := by
      show (_ : Bool) = _
      rw [Bool.eq_false_iff]; intro z
      have := HV.out.1 z
      simp only [Ed.mk.injEq] at this
      exact h1 this.1
    have HL : Hid (ls = ls2) := h0
    have f1 : (k == k2) = false := by simpa using h1
    clear h0 h1
    go_enter Try.func12, Try.ntmps12
    go_wp2_with fail
    refine (CN.out _ true (bel_tr (bel_al _ _) (bel_al _ _)) ⟨fun _ => HL.out, fun _ => rfl⟩).mono ?_
    rintro x w1 ⟨rfl, b⟩
    have hE := HE.out.below b
    have hF := HF.out.below b
    have q0 := hE.c0
    have q1 := hE.c1
    have q2 := hE.c2
    have q3 := hE.c3
    have q4 := hE.c4
    have q5 := hE.c5
    have r0 := hF.c0
    have r1 := hF.c1
    have r2 := hF.c2
    have r3 := hF.c3
    have r4 := hF.c4
    have r5 := hF.c5
    have B1 : Hid (Below w.heap.size w w1) := bel_tr (bel_tr (bel_al _ _) (bel_al _ _)) b
    clear hE hF b HE HF CN
    simp only at q0 q1 q2 q3 q4 q5 r0 r1 r2 r3 r4 r5
    go_wp2
    go_ret
    exact ⟨congrArg (fun b => Ending.returned (.bool b)) HU.out.symm, B1.out⟩
  replace h1 : k = k2 := Classical.not_not.1 h1
  by_cases h2 : ¬ p = p2
  · have HU : Hid (v = false) := by
      show (_ : Bool) = _
      rw [Bool.eq_false_iff]; intro z
      have := HV.out.1 z
      simp only [Ed.mk.injEq] at this
      exact h2 this.2.1
    have HL : Hid (ls = ls2) := h0
    have f1 : (k == k2) = true := by simpa using h1
    have f2 : (p.toList == p2.toList) = false := by rw [same_eq]; exact decide_eq_false h2
    clear h0 h1 h2
    go_enter Try.func12, Try.ntmps12
    go_wp2_with fail
    refine (CN.out _ true (bel_tr (bel_al _ _) (bel_al _ _)) ⟨fun _ => HL.out, fun _ => rfl⟩).mono ?_
    rintro x w1 ⟨rfl, b⟩
    have hE := HE.out.below b
    have hF := HF.out.below b
    have q0 := hE.c0
    have q1 := hE.c1
    have q2 := hE.c2
    have q3 := hE.c3
    have q4 := hE.c4
    have q5 := hE.c5
    have r0 := hF.c0
    have r1 := hF.c1
    have r2 := hF.c2
    have r3 := hF.c3
    have r4 := hF.c4
    have r5 := hF.c5
    have B1 : Hid (Below w.heap.size w w1) := bel_tr (bel_tr (bel_al _ _) (bel_al _ _)) b
    clear hE hF b HE HF CN
    simp only at q0 q1 q2 q3 q4 q5 r0 r1 r2 r3 r4 r5
    go_wp2
    go_ret
    exact ⟨congrArg (fun b => Ending.returned (.bool b)) HU.out.symm, B1.out⟩
  replace h2 : p = p2 := Classical.not_not.1 h2
  by_cases h3 : ¬ t = t2
  · have HU : Hid (v = false) := by
      show (_ : Bool) = _
      rw [Bool.eq_false_iff]; intro z
      have := HV.out.1 z
      simp only [Ed.mk.injEq] at this
      exact h3 this.2.2.1
    have HL : Hid (ls = ls2) := h0
    have f1 : (k == k2) = true := by simpa using h1
    have f2 : (p.toList == p2.toList) = true := by rw [same_eq]; exact decide_eq_true h2
    have f3 : (t.toList == t2.toList) = false := by rw [same_eq]; exact decide_eq_false h3
    clear h0 h1 h2 h3
    go_enter Try.func12, Try.ntmps12
    go_wp2_with fail
    refine (CN.out _ true (bel_tr (bel_al _ _) (bel_al _ _)) ⟨fun _ => HL.out, fun _ => rfl⟩).mono ?_
    rintro x w1 ⟨rfl, b⟩
    have hE := HE.out.below b
    have hF := HF.out.below b
    have q0 := hE.c0
    have q1 := hE.c1
    have q2 := hE.c2
    have q3 := hE.c3
    have q4 := hE.c4
    have q5 := hE.c5
    have r0 := hF.c0
    have r1 := hF.c1
    have r2 := hF.c2
    have r3 := hF.c3
    have r4 := hF.c4
    have r5 := hF.c5
    have B1 : Hid (Below w.heap.size w w1) := bel_tr (bel_tr (bel_al _ _) (bel_al _ _)) b
    clear hE hF b HE HF CN
    simp only at q0 q1 q2 q3 q4 q5 r0 r1 r2 r3 r4 r5
    go_wp2
    go_ret
    exact ⟨congrArg (fun b => Ending.returned (.bool b)) HU.out.symm, B1.out⟩
  replace h3 : t = t2 := Classical.not_not.1 h3
  by_cases h4 : ¬ c = c2
  · have HU : Hid (v = false) := by
      show (_ : Bool) = _
      rw [Bool.eq_false_iff]; intro z
      have := HV.out.1 z
      simp only [Ed.mk.injEq] at this
      exact h4 this.2.2.2.1
    have HL : Hid (ls = ls2) := h0
    have f1 : (k == k2) = true := by simpa using h1
    have f2 : (p.toList == p2.toList) = true := by rw [same_eq]; exact decide_eq_true h2
    have f3 : (t.toList == t2.toList) = true := by rw [same_eq]; exact decide_eq_true h3
    have f4 : (c == c2) = false := by simpa using h4
    clear h0 h1 h2 h3 h4
    go_enter Try.func12, Try.ntmps12
    go_wp2_with fail
    refine (CN.out _ true (bel_tr (bel_al _ _) (bel_al _ _)) ⟨fun _ => HL.out, fun _ => rfl⟩).mono ?_
    rintro x w1 ⟨rfl, b⟩
    have hE := HE.out.below b
    have hF := HF.out.below b
    have q0 := hE.c0
    have q1 := hE.c1
    have q2 := hE.c2
    have q3 := hE.c3
    have q4 := hE.c4
    have q5 := hE.c5
    have r0 := hF.c0
    have r1 := hF.c1
    have r2 := hF.c2
    have r3 := hF.c3
    have r4 := hF.c4
    have r5 := hF.c5
    have B1 : Hid (Below w.heap.size w w1) := bel_tr (bel_tr (bel_al _ _) (bel_al _ _)) b
    clear hE hF b HE HF CN
    simp only at q0 q1 q2 q3 q4 q5 r0 r1 r2 r3 r4 r5
    go_wp2
    go_ret
    exact ⟨congrArg (fun b => Ending.returned (.bool b)) HU.out.symm, B1.out⟩
  replace h4 : c = c2 := Classical.not_not.1 h4
  by_cases h5 : ¬ l = l2
  · have HU : Hid (v = false) := by
      show (_ : Bool) = _
      rw [Bool.eq_false_iff]; intro z
      have := HV.out.1 z
      simp only [Ed.mk.injEq] at this
      exact h5 this.2.2.2.2.1
    have HL : Hid (ls = ls2) := h0
    have f1 : (k == k2) = true := by simpa using h1
    have f2 : (p.toList == p2.toList) = true := by rw [same_eq]; exact decide_eq_true h2
    have f3 : (t.toList == t2.toList) = true := by rw [same_eq]; exact decide_eq_true h3
    have f4 : (c == c2) = true := by simpa using h4
    have f5 : (l == l2) = false := by simpa using h5
    clear h0 h1 h2 h3 h4 h5
    go_enter Try.func12, Try.ntmps12
    go_wp2_with fail
    refine (CN.out _ true (bel_tr (bel_al _ _) (bel_al _ _)) ⟨fun _ => HL.out, fun _ => rfl⟩).mono ?_
    rintro x w1 ⟨rfl, b⟩
    have hE := HE.out.below b
    have hF := HF.out.below b
    have q0 := hE.c0
    have q1 := hE.c1
    have q2 := hE.c2
    have q3 := hE.c3
    have q4 := hE.c4
    have q5 := hE.c5
    have r0 := hF.c0
    have r1 := hF.c1
    have r2 := hF.c2
    have r3 := hF.c3
    have r4 := hF.c4
    have r5 := hF.c5
    have B1 : Hid (Below w.heap.size w w1) := bel_tr (bel_tr (bel_al _ _) (bel_al _ _)) b
    clear hE hF b HE HF CN
    simp only at q0 q1 q2 q3 q4 q5 r0 r1 r2 r3 r4 r5
    go_wp2
    go_ret
    exact ⟨congrArg (fun b => Ending.returned (.bool b)) HU.out.symm, B1.out⟩
  replace h5 : l = l2 := Classical.not_not.1 h5
  by_cases h6 : ¬ n = n2
  · have HU : Hid (v = false) := by
      show (_ : Bool) = _
      rw [Bool.eq_false_iff]; intro z
      have := HV.out.1 z
      simp only [Ed.mk.injEq] at this
      exact h6 this.2.2.2.2.2.1
    have HL : Hid (ls = ls2) := h0
    have f1 : (k == k2) = true := by simpa using h1
    have f2 : (p.toList == p2.toList) = true := by rw [same_eq]; exact decide_eq_true h2
    have f3 : (t.toList == t2.toList) = true := by rw [same_eq]; exact decide_eq_true h3
    have f4 : (c == c2) = true := by simpa using h4
    have f5 : (l == l2) = true := by simpa using h5
    have f6 : (n == n2) = false := by simpa using h6
    clear h0 h1 h2 h3 h4 h5 h6
    go_enter Try.func12, Try.ntmps12
    go_wp2_with fail
    refine (CN.out _ true (bel_tr (bel_al _ _) (bel_al _ _)) ⟨fun _ => HL.out, fun _ => rfl⟩).mono ?_
    rintro x w1 ⟨rfl, b⟩
    have hE := HE.out.below b
    have hF := HF.out.below b
    have q0 := hE.c0
    have q1 := hE.c1
    have q2 := hE.c2
    have q3 := hE.c3
    have q4 := hE.c4
    have q5 := hE.c5
    have r0 := hF.c0
    have r1 := hF.c1
    have r2 := hF.c2
    have r3 := hF.c3
    have r4 := hF.c4
    have r5 := hF.c5
    have B1 : Hid (Below w.heap.size w w1) := bel_tr (bel_tr (bel_al _ _) (bel_al _ _)) b
    clear hE hF b HE HF CN
    simp only at q0 q1 q2 q3 q4 q5 r0 r1 r2 r3 r4 r5
    go_wp2
    go_ret
    exact ⟨congrArg (fun b => Ending.returned (.bool b)) HU.out.symm, B1.out⟩
  replace h6 : n = n2 := Classical.not_not.1 h6
  have HU : Hid (v = true) := HV.out.2 (by rw [h0, h1, h2, h3, h4, h5, h6])
  have HL : Hid (ls = ls2) := h0
  have f1 : (k == k2) = true := by simpa using h1
  have f2 : (p.toList == p2.toList) = true := by rw [same_eq]; exact decide_eq_true h2
  have f3 : (t.toList == t2.toList) = true := by rw [same_eq]; exact decide_eq_true h3
  have f4 : (c == c2) = true := by simpa using h4
  have f5 : (l == l2) = true := by simpa using h5
  have f6 : (n == n2) = true := by simpa using h6
  clear h0 h1 h2 h3 h4 h5 h6
  go_enter Try.func12, Try.ntmps12
  go_wp2_with fail
  refine (CN.out _ true (bel_tr (bel_al _ _) (bel_al _ _)) ⟨fun _ => HL.out, fun _ => rfl⟩).mono ?_
  rintro x w1 ⟨rfl, b⟩
  have hE := HE.out.below b
  have hF := HF.out.below b
  have q0 := hE.c0
  have q1 := hE.c1
  have q2 := hE.c2
  have q3 := hE.c3
  have q4 := hE.c4
  have q5 := hE.c5
  have r0 := hF.c0
  have r1 := hF.c1
  have r2 := hF.c2
  have r3 := hF.c3
  have r4 := hF.c4
  have r5 := hF.c5
  have B1 : Hid (Below w.heap.size w w1) := bel_tr (bel_tr (bel_al _ _) (bel_al _ _)) b
  clear hE hF b HE HF CN
  simp only at q0 q1 q2 q3 q4 q5 r0 r1 r2 r3 r4 r5
  go_wp2
  go_ret
  exact ⟨congrArg (fun b => Ending.returned (.bool b)) HU.out.symm, B1.out⟩

end Go.Proofs.Ytlinlbfiheoniaa.Edi
