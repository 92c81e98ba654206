/- The contracts of tabulariumref09.Right, Until, Late, without, Drop. -/
import Derived.Test.YtflccniidaogiaaLeaseF3
namespace Go.Proofs.Ytflccniidaogiaa.Lea
open Go.RowKit Go.Proofs.Ytflccniidaogiaa

set_option maxRecDepth 100000 in
set_option maxHeartbeats 4000000 in
theorem refRight_val {a : Option Addr} {n c : Nat} {xs : LS} {w : World} (h : LL w a n c xs) (v : Bool) (hv : v = true ↔ Rt xs) :
    Calls Try.prog 14 #[.slice a n c] w fun e w' => e = .returned (.bool v) ∧ Below w.heap.size w w' := by
  have HC : Hid (LL w a n c xs) := h
  have HN : Hid (xs.length = n) := h.len
  have HV : Hid (v = true ↔ Rt xs) := hv
  have hlid := h.lid
  have hroom := h.room
  unfold maxLen at hlid
  have hn : n ≤ 9223372036854775807 := by omega
  clear h hv hlid hroom
  go_enter Try.func14, Try.ntmps14
  go_wp2
  go_loopw [3] (fun v3 wr => ∃ i : Nat, i ≤ n ∧ v3 = .int .i64 i ∧ Below w.heap.size w wr ∧ Rt (xs.take i)) (fun v3 _ => n - (intOf v3).toNat)
  case atStart => exact ⟨0, by omega, rfl, Below.refl _ _, Rt.nil⟩
  case round =>
    obtain ⟨i, hi, rfl, hb, hR⟩ := hrel
    have HB : Hid (Below w.heap.size w wr) := hb
    by_cases hlt : i < n
    · have hix : i < xs.length := by rw [HN.out]; exact hlt
      obtain ⟨b, off, rfl, hat⟩ := (HC.out.below hb).at (by omega)
      obtain ⟨e0, e1⟩ := hat i hix
      have r0 : ∀ m, (wr.drewN m).cell? ⟨b, off + i * 2, none⟩ = some (.int .i64 xs[i].c) := fun _ => e0
      have r1 : ∀ m, (wr.drewN m).cell? ⟨b, off + i * 2 + 1, none⟩ = some (.int .i64 xs[i].u) := fun _ => e1
      by_cases hbad : Rt (xs.take (i + 1))
      · have hok := hbad.ok xs[i] (by rw [List.take_succ_eq_append_getElem hix]; exact List.mem_append_right _ (List.mem_singleton.2 rfl))
        have k1 : decide (xs[i].c < 0) = false := decide_eq_false (by omega)
        have k2 : decide (4 ≤ xs[i].c) = false := decide_eq_false (by omega)
        have k3 : decide (xs[i].u < 0) = false := decide_eq_false (by omega)
        have k4 : decide (9007199254740991 < xs[i].u) = false := decide_eq_false (by omega)
        clear hok
        have HX : Hid (Rt (xs.take (i + 1))) := hbad
        by_cases h0 : i = 0
        · have h0i : decide (0 < i) = false := decide_eq_false (by omega)
          clear hat hb hR hbad h0 e0 e1
          generalize xs[i].c = cc at *
          generalize xs[i].u = uu at *
          go_wp2
          go_quiet (fail)
          go_wp2
          go_roundw
          case rel => exact ⟨i + 1, by omega, by go_num, bel_tr HB.out (below_drewN (Below.refl _ _) _), HX.out⟩
          case measure => simp [intOf]; omega
        · obtain ⟨k, hk⟩ : ∃ k, i = k + 1 := ⟨i - 1, by omega⟩
          have hkx : k < xs.length := by omega
          obtain ⟨f0, f1⟩ := hat k hkx
          have s0 : ∀ m, (wr.drewN m).cell? ⟨b, off + k * 2, none⟩ = some (.int .i64 xs[k].c) := fun _ => f0
          have hup : xs[k].c < xs[i].c := by
            have := up_at hbad.up (i := k) (j := i) (by rw [List.length_take]; omega) (by omega)
            rwa [List.getElem_take, List.getElem_take] at this
          have hup2 : decide (xs[i].c ≤ xs[k].c) = false := decide_eq_false (by omega)
          have h0i : decide (0 < i) = true := decide_eq_true (by omega)
          have hik : (i : Int) - 1 = (k : Int) := by omega
          have hkn : k < n := by omega
          clear hat hb hR hbad h0 e0 e1 f0 f1 hk hup
          generalize xs[i].c = cc at *
          generalize xs[i].u = uu at *
          generalize xs[k].c = ck at *
          go_wp2
          go_quiet (fail)
          go_wp2
          go_roundw
          case rel => exact ⟨i + 1, by omega, by go_num, bel_tr HB.out (below_drewN (Below.refl _ _) _), HX.out⟩
          case measure => simp [intOf]; omega
      · have hv0 : v = false := by
          rw [Bool.eq_false_iff]; intro e
          have hx := HV.out.1 e
          exact hbad ⟨fun x hx' => hx.ok x (List.mem_of_mem_take hx'), hx.up.sublist (List.take_sublist _ _)⟩
        subst hv0
        have hcase : ¬ (0 ≤ xs[i].c ∧ xs[i].c < 4 ∧ 0 ≤ xs[i].u ∧ xs[i].u ≤ 9007199254740991) ∨ ∃ k, ∃ hk : k < xs.length, i = k + 1 ∧ xs[i].c ≤ xs[k].c := by
          by_cases hok : 0 ≤ xs[i].c ∧ xs[i].c < 4 ∧ 0 ≤ xs[i].u ∧ xs[i].u ≤ 9007199254740991
          · refine .inr ?_
            by_cases h0 : i = 0
            · exact absurd (rt_next hix hR hok (fun j hj e => by omega)) hbad
            · refine ⟨i - 1, by omega, by omega, ?_⟩
              by_cases hl : (xs[i - 1]'(by omega)).c < xs[i].c
              · refine absurd (rt_next hix hR hok (fun j hj e => ?_)) hbad
                obtain rfl : j = i - 1 := by omega
                exact hl
              · omega
          · exact .inl hok
        clear hR hbad
        by_cases hc : 0 ≤ xs[i].c ∧ xs[i].c < 4
        · have hc1 : decide (xs[i].c < 0) = false := decide_eq_false (by omega)
          have hc2 : decide (4 ≤ xs[i].c) = false := decide_eq_false (by omega)
          by_cases h0 : i = 0
          · have hou : (decide (xs[i].u < 0) || decide (9007199254740991 < xs[i].u)) = true := by
              rcases hcase with hcase | ⟨k, hk, e, _⟩
              · simp; omega
              · omega
            have h0i : decide (0 < i) = false := decide_eq_false (by omega)
            clear hat hb h0 e0 e1 hcase hc
            generalize xs[i].c = cc at *
            generalize xs[i].u = uu at *
            cases hd : decide (uu < 0)
            all_goals
              rw [hd] at hou
              simp only [Bool.false_or, Bool.true_or] at hou
              go_wp2
              go_quiet (fail)
              go_wp2
              go_ret
              exact ⟨rfl, bel_tr HB.out (below_drewN (Below.refl _ _) _)⟩
          · obtain ⟨k, hk⟩ : ∃ k, i = k + 1 := ⟨i - 1, by omega⟩
            have hkx : k < xs.length := by omega
            obtain ⟨f0, f1⟩ := hat k hkx
            have s0 : ∀ m, (wr.drewN m).cell? ⟨b, off + k * 2, none⟩ = some (.int .i64 xs[k].c) := fun _ => f0
            have h0i : decide (0 < i) = true := decide_eq_true (by omega)
            have hik : (i : Int) - 1 = (k : Int) := by omega
            have hkn : k < n := by omega
            have hou : (decide (xs[i].c ≤ xs[k].c) || (decide (xs[i].u < 0) || decide (9007199254740991 < xs[i].u))) = true := by
              rcases hcase with hcase | ⟨k', hk', e, hle⟩
              · simp; omega
              · obtain rfl : k' = k := by omega
                simp [hle]
            clear hat hb h0 e0 e1 f0 f1 hk hcase hc
            generalize xs[i].c = cc at *
            generalize xs[i].u = uu at *
            generalize xs[k].c = ck at *
            cases hd1 : decide (cc ≤ ck) <;> cases hd2 : decide (uu < 0)
            all_goals
              rw [hd1, hd2] at hou
              simp only [Bool.false_or, Bool.true_or] at hou
              go_wp2
              go_quiet (fail)
              go_wp2
              go_ret
              exact ⟨rfl, bel_tr HB.out (below_drewN (Below.refl _ _) _)⟩
        · have hou : (decide (xs[i].c < 0) || decide (4 ≤ xs[i].c)) = true := by simp; omega
          clear hat hb e0 e1 hcase hc
          generalize xs[i].c = cc at *
          generalize xs[i].u = uu at *
          cases hd : decide (cc < 0)
          all_goals
            rw [hd] at hou
            simp only [Bool.false_or, Bool.true_or] at hou
            go_wp2
            go_quiet (fail)
            go_wp2
            go_ret
            exact ⟨rfl, bel_tr HB.out (below_drewN (Below.refl _ _) _)⟩
    · obtain rfl : i = n := by omega
      have hgd : decide ((i : Int) < (i : Int)) = false := decide_eq_false (by omega)
      have hv1 : v = true := HV.out.2 (by
        rwa [List.take_of_length_le (by rw [HN.out]; omega)] at hR)
      subst hv1
      clear hb hR hlt
      go_wp2
      go_ret
      exact ⟨rfl, HB.out⟩

end Go.Proofs.Ytflccniidaogiaa.Lea
