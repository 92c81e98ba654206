/- The contract of tree.Right. -/
import Derived.Test.YtlfehfajaelmlaaTreeF3
namespace Go.Proofs.Ytlfehfajaelmlaa
open Go.RowKit

/-- What is asked of the i-th node, i not 0. -/
structure OkAt (xs : NS) (i : Nat) : Prop where
  fit : ∀ h : i < xs.length, fitsB xs[i] = true
  asc : ∀ h : i < xs.length, ltB (xs[i - 1]'(by omega)).path xs[i].path = true
  par : ∀ h : i < xs.length, dirE xs (parD xs[i].path) = 0

theorem right_iff {xs : NS} : Right xs ↔ 0 < xs.length ∧ xs.length ≤ 60 ∧ (∀ h : 0 < xs.length, xs[0].path = rootP ∧ fitsB xs[0] = true) ∧ ∀ i, 1 ≤ i → i < xs.length → OkAt xs i := by
  constructor
  · intro h
    refine ⟨h.pos, h.few, fun hp => ⟨h.root hp, h.fit _ (List.getElem_mem hp)⟩, fun i hi hl => ⟨fun _ => h.fit _ (List.getElem_mem hl), fun _ => ?_, fun _ => h.par i hl hi⟩⟩
    have := h.asc (i - 1) (by omega)
    have e : i - 1 + 1 = i := by omega
    simp only [e] at this
    exact this
  · rintro ⟨h1, h2, h3, h4⟩
    refine ⟨h1, h2, fun hp => (h3 hp).1, fun x hx => ?_, fun i hl => ?_, fun i hl hi => (h4 i hi hl).par hl⟩
    · obtain ⟨j, hj, rfl⟩ := List.getElem_of_mem hx
      rcases Nat.eq_zero_or_pos j with rfl | hp
      · exact (h3 h1).2
      · exact (h4 j hp hj).fit hj
    · exact (h4 (i + 1) (by omega) hl).asc hl

set_option maxRecDepth 100000 in
set_option maxHeartbeats 2000000 in
theorem right_val {a : Option Addr} {n c : Nat} {xs : NS} {w : World} (h : NL w a n xs) (u : Bool) (hu : u = true ↔ Right xs) :
    Calls Try.prog 16 #[.slice a n c] w fun e w' => e = .returned (.bool u) ∧ Below w.heap.size w w' := by
  have HL : Hid (NL w a n xs) := h
  rw [right_iff] at hu
  obtain ⟨b, off, ps, k1, k2, k3⟩ := h.ex
  have hlid := h.lid
  unfold maxLen at hlid
  have HK : Hid (Nds w a b off ps) := k3
  have hpl : ps.length = n := by rw [← k2, ← k1, List.length_map]
  have HP : Hid (ps.length = n) := hpl
  have HM : Hid (ps.map (·.1) = xs) := k1
  have HXL : Hid (xs.length = n) := k2
  have HAT : Hid (∀ i (hi : i < ps.length) (hx : i < xs.length), ps[i].1 = xs[i]) := fun i hi hx => by subst k1; simp
  have HU : Hid (u = true ↔ 0 < n ∧ n ≤ 60 ∧ (∀ h : 0 < xs.length, xs[0].path = rootP ∧ fitsB xs[0] = true) ∧ ∀ i, 1 ≤ i → i < n → OkAt xs i) := by subst k2; exact hu
  clear h hu k1 k2 k3 hpl
  by_cases h0 : n = 0
  · have hu0 : u = false := by
      rw [Bool.eq_false_iff]; intro e
      have := (HU.out.1 e).1; omega
    subst hu0 h0
    go_enter Try.func16, Try.ntmps16
    go_wp2
    go_ret
    exact ⟨rfl, Below.refl _ _⟩
  by_cases h60 : 60 < n
  · have hu0 : u = false := by
      rw [Bool.eq_false_iff]; intro e
      have := (HU.out.1 e).2.1; omega
    subst hu0
    have e1 : decide ((n : Int) < 1) = false := decide_eq_false (by omega)
    have e2 : decide ((60 : Int) < (n : Int)) = true := decide_eq_true (by omega)
    go_enter Try.func16, Try.ntmps16
    go_wp2
    go_ret
    exact ⟨rfl, Below.refl _ _⟩
  have e1 : decide ((n : Int) < 1) = false := decide_eq_false (by omega)
  have e2 : decide ((60 : Int) < (n : Int)) = false := decide_eq_false (by omega)
  have hp0 : 0 < ps.length := by rw [HP.out]; omega
  have hx0 : 0 < xs.length := by rw [HXL.out]; omega
  obtain ⟨y0, y1, y2, y3, y4⟩ := HK.out.at hp0
  obtain rfl := HK.out.addr hp0
  have ex0 := HAT.out 0 hp0 hx0
  have hok0 := HK.out.ok _ (List.getElem_mem hp0)
  have CF0 : Hid (∀ v, fitsB ps[0].1 = v → Calls Try.prog 27 #[ndV ps[0]] w fun e w' => e = .returned (.bool v) ∧ Below w.heap.size w w') := fun v hv => fits_val ps[0] v w hok0 hv
  have HU0 : Hid (u = true → xs[0].path = rootP ∧ fitsB xs[0] = true) := fun e => (HU.out.1 e).2.2.1 hx0
  have HU1 : Hid (xs[0].path = rootP → fitsB xs[0] = true → (∀ i, 1 ≤ i → i < n → OkAt xs i) → u = true) := fun q1 q2 q3 => HU.out.2 ⟨by omega, by omega, fun _ => ⟨q1, q2⟩, q3⟩
  rw [← ex0] at HU0 HU1
  clear hok0 ex0
  generalize ps[0] = x0 at *
  obtain ⟨⟨q, d, qu, bs, wb⟩, ⟨sa, sn, sc⟩⟩ := x0
  unfold ndV at CF0
  simp only [Nat.zero_mul, Nat.add_zero] at y0 y1 y2 y3 y4 HU0 HU1 CF0
  cases hr : decide (q = rootP) with
  | false =>
    have hu0 : u = false := by
      rw [Bool.eq_false_iff]; intro e
      have := (HU0.out e).1
      rw [decide_eq_false_iff_not] at hr; exact hr this
    subst hu0
    have e3 : (q.toList == [47]) = false := by rw [root_eq]; exact hr
    have e4 : (q.toList != [47]) = true := by rw [bne, e3]; rfl
    clear hr HAT
    go_enter Try.func16, Try.ntmps16
    go_wp2
    go_ret
    exact ⟨rfl, Below.refl _ _⟩
  | true =>
    have e3 : (q.toList == [47]) = true := by rw [root_eq]; exact hr
    have e4 : (q.toList != [47]) = false := by rw [bne, e3]; rfl
    have hq : q = rootP := by simpa using hr
    have HQ : Hid (q = rootP) := hq
    clear hr hq
    cases hf : fitsB ⟨q, d, qu, bs, wb⟩ with
    | false =>
      have hu0 : u = false := by
        rw [Bool.eq_false_iff]; intro e
        have := (HU0.out e).2
        rw [hf] at this; cases this
      subst hu0
      have HF : Hid _ := hf
      clear hf HAT
      go_enter Try.func16, Try.ntmps16
      go_wp2_with (refine (CF0.out false HF.out).mono ?_; rintro e w1 ⟨rfl, c1⟩)
      go_ret
      exact ⟨rfl, c1⟩
    | true =>
      have HF : Hid _ := hf
      clear hf
      go_enter Try.func16, Try.ntmps16
      go_wp2_with (refine (CF0.out true HF.out).mono ?_; rintro e w1 ⟨rfl, c1⟩)
      have HC1 : Hid (Below w.heap.size w w1) := c1
      clear c1 y0 y1 y2 y3 y4
      go_loopw [3] (fun v3 wr => ∃ i : Nat, 1 ≤ i ∧ i ≤ n ∧ v3 = .int .i64 i ∧ Below w.heap.size w wr ∧ ∀ j, 1 ≤ j → j < i → OkAt xs j) (fun v3 _ => n - (intOf v3).toNat)
      case atStart => exact ⟨1, by omega, by omega, rfl, HC1.out, fun j h1 h2 => by omega⟩
      case round =>
        obtain ⟨i, hi1, hi, rfl, hb, hall⟩ := hrel
        have HB : Hid (Below w.heap.size w wr) := hb
        have HA : Hid (∀ j, 1 ≤ j → j < i → OkAt xs j) := hall
        by_cases hlt : i < n
        · have hip : i < ps.length := by rw [HP.out]; exact hlt
          have hix : i < xs.length := by rw [HXL.out]; exact hlt
          obtain ⟨k, hk⟩ : ∃ k, i = k + 1 := ⟨i - 1, by omega⟩
          have hkp : k < ps.length := by omega
          have hkx : k < xs.length := by omega
          have hK := HK.out.below hb
          obtain ⟨z0, z1, z2, z3, z4⟩ := hK.at hip
          have zk := (hK.at hkp).1
          have hok := hK.ok _ (List.getElem_mem hip)
          have exi := HAT.out i hip hix
          have exk := HAT.out k hkp hkx
          have hOk : Hid (OkAt xs i ↔ fitsB xs[i] = true ∧ ltB xs[k].path xs[i].path = true ∧ dirE xs (parD xs[i].path) = 0) := by
            subst hk
            constructor
            · intro o; exact ⟨o.fit hix, o.asc hix, o.par hix⟩
            · rintro ⟨o1, o2, o3⟩; exact ⟨fun _ => o1, fun _ => o2, fun _ => o3⟩
          rw [← exi, ← exk] at hOk
          have HNU : Hid (¬ OkAt xs i → u = false) := fun hn => by
            rw [Bool.eq_false_iff]; intro e
            exact hn ((HU.out.1 e).2.2.2 i hi1 hlt)
          have HNX : Hid (OkAt xs i → ∀ j, 1 ≤ j → j < i + 1 → OkAt xs j) := fun ho j h1 h2 => by
            rcases Nat.lt_or_ge j i with h | h
            · exact hall j h1 h
            · obtain rfl : j = i := by omega
              exact ho
          have CF : Hid (∀ dd os v, fitsB ps[i].1 = v → Calls Try.prog 27 #[ndV ps[i]] (Sort.grow (redrawn wr dd) os) fun e w' => e = .returned (.bool v) ∧ Below (Sort.grow (redrawn wr dd) os).heap.size (Sort.grow (redrawn wr dd) os) w') := fun dd os v hv => fits_val ps[i] v _ (hok.below (below_regrown wr dd os)) hv
          have CP : Hid (∀ dd os E, dirE xs (parD ps[i].1.path) = E → Calls Try.prog 28 #[.slice (some ⟨b, off, none⟩) n c, .string ps[i].1.path] (Sort.grow (redrawn wr dd) os) fun e w' => e = .returned (.int .i64 E) ∧ Below (Sort.grow (redrawn wr dd) os).heap.size (Sort.grow (redrawn wr dd) os) w') := fun dd os E hE => refuseParent_val ((HL.out.below hb).below (below_regrown wr dd os)) _ hok.small E hE
          clear hb hall hok hK exi exk
          generalize ps[i] = x at *
          generalize ps[k] = y at *
          obtain ⟨⟨q', d', qu', bs', wb'⟩, ⟨sa', sn', sc'⟩⟩ := x
          obtain ⟨⟨q2, d2, qu2, bs2, wb2⟩, ⟨sa2, sn2, sc2⟩⟩ := y
          unfold ndV at CF
          simp only at z0 z1 z2 z3 z4 zk hOk CF CP
          have r0 : ∀ dd os, (Sort.grow (redrawn wr dd) os).cell? ⟨b, off + i * 5, none⟩ = some (.string q') := fun dd os => cell_regrown z0 dd os
          have r1 : ∀ dd os, (Sort.grow (redrawn wr dd) os).cell? ⟨b, off + i * 5 + 1, none⟩ = some (.bool d') := fun dd os => cell_regrown z1 dd os
          have r2 : ∀ dd os, (Sort.grow (redrawn wr dd) os).cell? ⟨b, off + i * 5 + 2, none⟩ = some (.int .i64 qu') := fun dd os => cell_regrown z2 dd os
          have r3 : ∀ dd os, (Sort.grow (redrawn wr dd) os).cell? ⟨b, off + i * 5 + 3, none⟩ = some (.slice sa' sn' sc') := fun dd os => cell_regrown z3 dd os
          have r4 : ∀ dd os, (Sort.grow (redrawn wr dd) os).cell? ⟨b, off + i * 5 + 4, none⟩ = some (.int .i64 wb') := fun dd os => cell_regrown z4 dd os
          have rk : ∀ dd os, (Sort.grow (redrawn wr dd) os).cell? ⟨b, off + k * 5, none⟩ = some (.string q2) := fun dd os => cell_regrown zk dd os
          have hik : (i : Int) - 1 = (k : Int) := by omega
          have hkn : k < n := by omega
          clear z0 z1 z2 z3 z4 zk
          have HIK : Hid (i = k + 1) := hk
          clear hk hip hix hkp hkx
          cases hf : fitsB ⟨q', d', qu', bs', wb'⟩ with
          | false =>
            have hu0 : u = false := HNU.out (fun o => by have := (hOk.out.1 o).1; rw [hf] at this; cases this)
            subst hu0
            have HF2 : Hid _ := hf
            clear hf
            go_wp2
            refine wp_region_quiet_below (by kernel_rfl) (by kernel_rfl) ?_
            repeat (first | go_big_quiet_step (first | exact Calls.regrown_of (CF.out _ _ false HF2.out) | fail) | quiet_step (first | exact Calls.regrown_of (CF.out _ _ false HF2.out) | fail))
            refine wpQuiet_nil ?_
            intro _ hw'
            obtain ⟨⟨dq, osq⟩, hw''⟩ := hw'
            subst hw''
            go_wp2
            go_ret
            exact ⟨rfl, bel_tr HB.out (below_regrown wr dq osq)⟩
          | true =>
            have HF2 : Hid _ := hf
            cases hl : Op.bytesLess q2.toList q'.toList with
            | false =>
              have hu0 : u = false := HNU.out (fun o => by have := (hOk.out.1 o).2.1; unfold ltB at this; rw [hl] at this; cases this)
              subst hu0
              clear hf
              go_wp2
              refine wp_region_quiet_below (by kernel_rfl) (by kernel_rfl) ?_
              repeat (first | go_big_quiet_step (first | exact Calls.regrown_of (CF.out _ _ true HF2.out) | fail) | quiet_step (first | exact Calls.regrown_of (CF.out _ _ true HF2.out) | fail))
              refine wpQuiet_nil ?_
              intro _ hw'
              obtain ⟨⟨dq, osq⟩, hw''⟩ := hw'
              subst hw''
              go_wp2
              go_ret
              exact ⟨rfl, bel_tr HB.out (below_regrown wr dq osq)⟩
            | true =>
              obtain ⟨E, hE⟩ : ∃ E, dirE xs (parD q') = E := ⟨_, rfl⟩
              have HE : Hid _ := hE
              by_cases h0E : E = 0
              · subst h0E
                have HO : Hid (OkAt xs i) := hOk.out.2 ⟨hf, hl, hE⟩
                clear hf hE
                go_wp2
                refine wp_region_quiet_below (by kernel_rfl) (by kernel_rfl) ?_
                repeat (first | go_big_quiet_step (first | exact Calls.regrown_of (CF.out _ _ true HF2.out) | exact Calls.regrown_of (CP.out _ _ _ HE.out) | fail) | quiet_step (first | exact Calls.regrown_of (CF.out _ _ true HF2.out) | exact Calls.regrown_of (CP.out _ _ _ HE.out) | fail))
                refine wpQuiet_nil ?_
                intro _ hw'
                obtain ⟨⟨dq, osq⟩, hw''⟩ := hw'
                subst hw''
                go_wp2
                go_roundw
                case rel => exact ⟨i + 1, by omega, by omega, by go_num, bel_tr HB.out (below_regrown wr dq osq), HNX.out HO.out⟩
                case measure => simp [intOf]; omega
              · have hEb : (E != 0) = true := by simpa using h0E
                have hu0 : u = false := HNU.out (fun o => by have := (hOk.out.1 o).2.2; rw [hE] at this; exact h0E this)
                subst hu0
                clear hf hE h0E
                go_wp2
                refine wp_region_quiet_below (by kernel_rfl) (by kernel_rfl) ?_
                repeat (first | go_big_quiet_step (first | exact Calls.regrown_of (CF.out _ _ true HF2.out) | exact Calls.regrown_of (CP.out _ _ _ HE.out) | fail) | quiet_step (first | exact Calls.regrown_of (CF.out _ _ true HF2.out) | exact Calls.regrown_of (CP.out _ _ _ HE.out) | fail))
                refine wpQuiet_nil ?_
                intro _ hw'
                obtain ⟨⟨dq, osq⟩, hw''⟩ := hw'
                subst hw''
                go_wp2
                go_ret
                exact ⟨rfl, bel_tr HB.out (below_regrown wr dq osq)⟩
        · obtain rfl : i = n := by omega
          have hgd : decide ((i : Int) < (i : Int)) = false := decide_eq_false (by omega)
          have hu1 : u = true := HU1.out HQ.out HF.out hall
          subst hu1
          clear hb hall hlt
          go_wp2
          go_ret
          exact ⟨rfl, HB.out⟩

end Go.Proofs.Ytlfehfajaelmlaa
