/- The contract of lease.Renew. -/
import Derived.Test.YtflccniidaogiaaLeaseF6
namespace Go.Proofs.Ytflccniidaogiaa.Lea
open Go.RowKit Go.Proofs.Ytflccniidaogiaa

theorem renX_yes {xs : LS} {k now : Int} (h : Rt xs) (h1 : 0 ≤ k ∧ k < 4) (h2 : 0 ≤ now) (h3 : now ≤ 9007199254740981) : renX xs k now = (putL xs ⟨k, max (findX xs k).1 (now + 10)⟩, true) := if_pos ⟨h, h1, h2, h3⟩
theorem renX_no {xs : LS} {k now : Int} (h : ¬ (Rt xs ∧ (0 ≤ k ∧ k < 4) ∧ 0 ≤ now ∧ now ≤ 9007199254740981)) : renX xs k now = ([], false) := if_neg h

set_option maxRecDepth 100000 in
set_option maxHeartbeats 2000000 in
theorem renew_val {a : Option Addr} {n c : Nat} {xs : LS} {w : World} (h : LL w a n c xs) (k now : Int) (ys : LS) (v : Bool) (m : Nat) (hv : renX xs k now = (ys, v)) (hm : ys.length = m) :
    Calls Try.prog 15 #[.slice a n c, .int .i64 k, .int .i64 now] w fun e w' => LsR w.heap.size ys m (errV v) e w' ∧ Below w.heap.size w w' := by
  have HC : Hid (LL w a n c xs) := h
  have HN : Hid (xs.length = n) := h.len
  by_cases hr : Rt xs
  · have HR : Hid (true = true ↔ Rt xs) := ⟨fun _ => hr, fun _ => rfl⟩
    by_cases hk : 0 ≤ k ∧ k < 4
    · have CI : Hid (∀ W, Calls Try.prog 20 #[.int .i64 k] W fun e w' => e = .returned (.bool true) ∧ w' = W) := fun W => isClient_val _ _ W (by simp [hk.1, hk.2])
      by_cases hn : 0 ≤ now ∧ now ≤ 9007199254740981
      · rw [renX_yes hr hk hn.1 hn.2] at hv
        simp only [Prod.mk.injEq] at hv
        obtain ⟨hy, rfl⟩ := hv
        obtain ⟨hn1, hn2⟩ := hn
        have hn4 : n ≤ 4 := by rw [← HN.out]; exact hr.few
        obtain ⟨u, b, hu⟩ : ∃ u b, findX xs k = (u, b) := ⟨_, _, rfl⟩
        rw [hu] at hy
        simp only at hy
        have HU : Hid (untilX xs k = (u, b)) := (untilX_yes hr).trans hu
        obtain ⟨M, hM⟩ : ∃ M, max u (now + 10) = M := ⟨_, rfl⟩
        rw [hM] at hy
        have CP : Hid (∀ W, Below w.heap.size w W → Calls Try.prog 22 #[.slice a n c, .agg #[.int .i64 k, .int .i64 M], .func (.func 21) #[] #[]] W fun e w' => LsR1 W.heap.size ys m e w' ∧ Below W.heap.size W w') := fun W hb => placed_val (h.below hb) hn4 hr.up ⟨k, M⟩ ys hy m hm
        have CU : Hid (∀ W, Below w.heap.size w W → Calls Try.prog 8 #[.slice a n c, .int .i64 k] W fun e w' => e = .returned (.tuple #[.int .i64 u, .bool b]) ∧ Below W.heap.size W w') := fun W hb => until_val (h.below hb) k u b HU.out
        clear h hr hk hy hu hm
        go_enter Try.func15, Try.ntmps15
        go_wp2_with (first
          | (go_at_call 13; refine (right_val HC.out true HR.out).mono ?_; rintro e w1 ⟨rfl, c1⟩; have B1 : Hid (Below w.heap.size w w1) := c1; clear c1)
          | (go_at_call 20; refine (CI.out _).mono ?_; rintro e w1 ⟨rfl, rfl⟩)
          | (go_at_call 8; refine (CU.out _ B1.out).mono ?_; rintro e w2 ⟨rfl, c2⟩; have B2 : Hid (Below w.heap.size w w2) := bel_tr B1.out c2; clear c2)
          | (go_at_call 22; refine (CP.out _ B2.out).mono ?_; rintro e w3 ⟨⟨a3, c3, g3, rfl, hO⟩, c3b⟩; have HO : Hid _ := hO; have B3 : Hid (Below w.heap.size w w3) := bel_tr B2.out c3b; clear hO c3b))
        go_ret2
        exact ⟨⟨a3, c3, g3, rfl, HO.out.mono B2.out.size⟩, B3.out⟩
      · rw [renX_no (fun e => hn e.2.2)] at hv
        simp only [Prod.mk.injEq] at hv
        obtain ⟨rfl, rfl⟩ := hv
        subst hm
        have hou : (decide (now < 0) || decide (9007199254740981 < now)) = true := by simp; omega
        clear h hr hk hn
        go_enter Try.func15, Try.ntmps15
        go_wp2_with (first
          | (go_at_call 13; refine (right_val HC.out true HR.out).mono ?_; rintro e w1 ⟨rfl, c1⟩; have B1 : Hid (Below w.heap.size w w1) := c1; clear c1)
          | (go_at_call 20; refine (CI.out _).mono ?_; rintro e w1 ⟨rfl, rfl⟩))
        all_goals
          go_ret2
          exact ⟨LsR.no _ rfl, B1.out⟩
    · have CI : Hid (∀ W, Calls Try.prog 20 #[.int .i64 k] W fun e w' => e = .returned (.bool false) ∧ w' = W) := fun W => isClient_val _ _ W (by
        rw [Bool.eq_false_iff]; intro e; simp at e; exact hk e)
      rw [renX_no (fun e => hk e.2.1)] at hv
      simp only [Prod.mk.injEq] at hv
      obtain ⟨rfl, rfl⟩ := hv
      subst hm
      clear h hr hk
      go_enter Try.func15, Try.ntmps15
      go_wp2_with (first
        | (go_at_call 13; refine (right_val HC.out true HR.out).mono ?_; rintro e w1 ⟨rfl, c1⟩; have B1 : Hid (Below w.heap.size w w1) := c1; clear c1)
        | (go_at_call 20; refine (CI.out _).mono ?_; rintro e w1 ⟨rfl, rfl⟩))
      all_goals
        go_ret2
        exact ⟨LsR.no _ rfl, B1.out⟩
  · have HR : Hid (false = true ↔ Rt xs) := ⟨fun e => (by cases e), fun e => absurd e hr⟩
    rw [renX_no (fun e => hr e.1)] at hv
    simp only [Prod.mk.injEq] at hv
    obtain ⟨rfl, rfl⟩ := hv
    subst hm
    clear h hr
    go_enter Try.func15, Try.ntmps15
    go_wp2_with (go_at_call 13; refine (right_val HC.out false HR.out).mono ?_; rintro e w1 ⟨rfl, c1⟩)
    go_ret2
    exact ⟨LsR.no _ rfl, c1⟩

end Go.Proofs.Ytflccniidaogiaa.Lea
