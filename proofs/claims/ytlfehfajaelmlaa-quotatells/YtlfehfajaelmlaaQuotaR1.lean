/- The contract of tabulariumref08.Count. -/
import Derived.Test.YtlfehfajaelmlaaQuotaF3
import Derived.Test.YtlfehfajaelmlaaTreeR2
namespace Go.Proofs.Ytlfehfajaelmlaa
open Go.RowKit

set_option maxRecDepth 100000 in
set_option maxHeartbeats 4000000 in
theorem refCount_val {a : Option Addr} {n c : Nat} {xs : NS} {w : World} (h : NL w a n xs) (u : Bool) (hu : u = true ↔ Right xs) (p : ByteArray) (hs : p.size ≤ maxLen) (F : Nat) (hF : countN u xs p = F) :
    Calls Try.prog 13 #[.slice a n c, .string p] w fun e w' => e = .returned (.int .i64 (F : Int)) ∧ Below w.heap.size w w' := by
  have CR : Hid (Calls Try.prog 23 #[.slice a n c] w fun e w' => e = .returned (.bool u) ∧ Below w.heap.size w w') := refRight_val h u hu
  have hlid := h.lid
  unfold maxLen at hlid
  cases u with
  | false =>
    have h0 : F = 0 := by rw [← hF]; rfl
    subst h0
    clear hu hF
    go_enter Try.func13, Try.ntmps13
    go_wp2_with (go_at_call 23; refine CR.out.mono ?_; rintro e w1 ⟨rfl, c1⟩; have cc : Hid _ := c1; clear c1)
    go_loopw [6, 7, 8] (fun v6 v7 _ wr => v6 = .int .i64 0 ∧ v7 = .int .i64 0 ∧ wr = w1) (fun _ _ _ _ => 0)
    case atStart => exact ⟨rfl, rfl, rfl⟩
    case round =>
      obtain ⟨rfl, rfl, rfl⟩ := hrel
      go_wp2
      all_goals
        go_ret
        exact ⟨rfl, cc.out⟩
  | true =>
    have hr := hu.1 rfl
    obtain ⟨b0, off, ps, k1, k2, k3⟩ := h.ex
    have HK : Hid (Nds w a b0 off ps) := k3
    have HP : Hid (ps.length = n) := by show ps.length = n; rw [← k2, ← k1, List.length_map]
    have HM : Hid (ps.map (·.1) = xs) := k1
    have HR : Hid (Right xs) := hr
    have hn60 : n ≤ 60 := by rw [← k2]; exact hr.few
    have HF : Hid (cntL xs p = F) := hF
    have HS : Hid (p.size ≤ maxLen) := hs
    clear h k1 k2 k3 hr hF hu hs
    go_enter Try.func13, Try.ntmps13
    go_wp2_with (go_at_call 23; refine CR.out.mono ?_; rintro e w1 ⟨rfl, c1⟩; have cc : Hid _ := c1; clear c1)
    clear CR
    go_loopw [6, 7, 8] (fun v6 v7 _ wr => ∃ i : Nat, i ≤ n ∧ v7 = .int .i64 i ∧ v6 = .int .i64 ((cntL (xs.take i) p : Nat) : Int) ∧ Below w.heap.size w wr) (fun _ v _ _ => n - (intOf v).toNat)
    case atStart => exact ⟨0, by omega, rfl, rfl, cc.out⟩
    case round =>
      obtain ⟨i, hi, rfl, rfl, hb⟩ := hrel
      have HB : Hid (Below w.heap.size w wr) := hb
      have hG : cntL (xs.take i) p ≤ 60 := by
        have h1 := cnt_le (xs.take i) p
        rw [List.length_take] at h1
        omega
      by_cases hlt : i < n
      · have hip : i < ps.length := by rw [HP.out]; exact hlt
        have hix : i < xs.length := by rw [← HM.out, List.length_map]; exact hip
        have hK := HK.out.below hb
        have e0 := (hK.at hip).1
        obtain rfl := hK.addr (by omega)
        have exi : ps[i].1 = xs[i] := by
          have := HM.out
          subst this
          simp
        have hsm := (hK.ok _ (List.getElem_mem hip)).small
        have hcs : cntL (xs.take (i + 1)) p = cntL (xs.take i) p + (if underB p ps[i].1.path then 1 else 0) := by
          rw [List.take_succ_eq_append_getElem hix, cnt_app, cnt_one, exi]
        have HCS : Hid _ := hcs
        have CU : Hid (∀ W v, underB p ps[i].1.path = v → Calls Try.prog 24 #[.string p, .string ps[i].1.path] W fun e w' => e = .returned (.bool v) ∧ Below W.heap.size W w') := fun W v hv => refUnder_val _ _ v W HS.out hsm hv
        clear hb hK exi hcs hsm hix
        generalize ps[i].1.path = q at *
        generalize cntL (xs.take i) p = G at *
        cases hun : underB p q with
        | false =>
          have HU : Hid _ := hun
          have HE : Hid (cntL (xs.take (i + 1)) p = G) := by show _ = _; rw [HCS.out, hun]; rfl
          clear hun
          go_wp2_with (go_at_call 24; refine (CU.out _ false HU.out).mono ?_; rintro e w2 ⟨rfl, c2⟩; have B2 : Hid _ := c2; clear c2)
          go_roundw
          case rel => exact ⟨i + 1, by omega, by go_num, by rw [HE.out], bel_tr HB.out B2.out⟩
          case measure => simp [intOf]; omega
        | true =>
          have HU : Hid _ := hun
          have HE : Hid (cntL (xs.take (i + 1)) p = G + 1) := by show _ = _; rw [HCS.out, hun]; rfl
          clear hun
          go_wp2_with (go_at_call 24; refine (CU.out _ true HU.out).mono ?_; rintro e w2 ⟨rfl, c2⟩; have B2 : Hid _ := c2; clear c2)
          go_roundw
          case rel => exact ⟨i + 1, by omega, by go_num, by rw [HE.out]; go_num, bel_tr HB.out B2.out⟩
          case measure => simp [intOf]; omega
      · obtain rfl : i = n := by omega
        have hgd : decide ((i : Int) < (i : Int)) = false := decide_eq_false (by omega)
        have hE : cntL (xs.take i) p = F := by rw [List.take_of_length_le (by rw [← HM.out, List.length_map, HP.out]; omega), HF.out]
        rw [hE] at hG ⊢
        clear hb hlt hE
        go_wp2
        go_ret
        exact ⟨rfl, HB.out⟩

end Go.Proofs.Ytlfehfajaelmlaa
