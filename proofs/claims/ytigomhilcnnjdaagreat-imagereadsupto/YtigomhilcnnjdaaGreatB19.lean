/- Part 19 of the proof: QuotaF1, TreeR2. -/
import Derived.Test.YtigomhilcnnjdaaGreatB15
import Derived.Test.YtigomhilcnnjdaaGreatB18

/- The contracts of quota.line, quota.limited. -/
namespace Go.Proofs.YtigomhilcnnjdaaGreat
open Go.RowKit

/-- A list of texts is told, of the call's own. -/
structure TextsR (base : Nat) (ss : List ByteArray) (m : Nat) (e : Ending) (w' : World) : Prop where
  ex : ∃ a c g, e = .returned (.slice a m c) ∧ Cel (fun k => base ≤ k) w' 1 (.slice a m c) m (rowC strC ss) g

theorem up_parent {N : List ByteArray} (g : Good N) {k m : Nat} (hk : k + 1 + m = N.length) : ∃ nm, parentX (pathT (N.take (N.length - k))) = (pathT (N.take (N.length - (k + 1))), nm, 0) := by
  have g2 := good_take g (N.length - k)
  have hN := splitN_good g2
  have hl : (splitN (pathT (N.take (N.length - k)))).length = m + 1 := by rw [hN, List.length_take]; omega
  refine par_last (splitE_good g2) hl ?_
  rw [hN, List.take_take, show min m (N.length - k) = N.length - (k + 1) by omega]
theorem up_root {N : List ByteArray} {k : Nat} (hk : k = N.length) : parentX (pathT (N.take (N.length - k))) = (⟨#[]⟩, ⟨#[]⟩, 1) := by
  subst hk
  rw [Nat.sub_self, List.take_zero]
  exact parentX_root (splitE_good good_nil) (splitN_good good_nil)

theorem cel_new1 (w : World) (s : ByteArray) (t : TypeId) : Cel (fun k => w.heap.size ≤ k) (w.alloc (.cells #[.string s] t)) 1 (.slice (some ⟨w.heap.size, 0, none⟩) 1 1) 1 (rowC strC [s]) (some w.heap.size) := by
  refine .row _ 1 rfl rfl (Nat.le_refl _) (by simp) (Nat.le_refl _) (by unfold maxLen; omega) (fun j hj => ?_) (fun j hj => ?_)
  · have hj1 : j < 1 := hj
    obtain rfl : j = 0 := by omega
    exact World.cell?_alloc_new w _ _ 0
  · obtain rfl : j = 0 := by omega
    exact ⟨by rw [World.cell?_alloc_new]; rfl, World.frozen?_alloc_new w _ _ 0⟩

set_option maxRecDepth 100000 in
theorem limited_val (x : NR) (w : World) (v : Bool) (hv : decide (0 ≤ x.1.quota) = v) : Calls Tryz.prog 52 #[ndV x] w fun e w' => e = .returned (.bool v) ∧ Below w.heap.size w w' := by
  obtain ⟨⟨p, d, q, bs, wb⟩, ⟨a, n, c⟩⟩ := x
  unfold ndV
  simp only at hv ⊢
  subst hv
  go_enter Tryz.func52, Tryz.ntmps52
  go_wp2
  go_ret
  exact ⟨rfl, bel_al _ _⟩

set_option maxRecDepth 100000 in
set_option maxHeartbeats 2000000 in
theorem line_val (p : ByteArray) (w : World) (hp : splitE p = 0) (m : Nat) (hm : (lineL p).length = m) :
    Calls Tryz.prog 79 #[.string p] w fun e w' => TextsR w.heap.size (lineL p) m e w' ∧ Below w.heap.size w w' := by
  obtain ⟨ti, hi1, hi2, hi3, hi4⟩ := strRow
  have g := (split_ok hp).1
  have hpp := splitX_ok hp
  unfold lineL at *
  generalize splitN p = N at *
  subst hpp
  clear hp
  have HG : Hid (Good N) := g
  have hfew := g.few
  rw [upL_len] at hm
  obtain ⟨n, hn⟩ : ∃ n, N.length = n := ⟨_, rfl⟩
  have HN : Hid (N.length = n) := hn
  rw [hn] at hm hfew ⊢
  have HM : Hid (n + 1 = m) := hm
  clear g hn hm
  go_enter Tryz.func79, Tryz.ntmps79
  go_wp2
  go_loopg [0, 3] n (fun g s v wr => ∃ (k : Nat) (fa : Option Addr) (fc : Nat) (gg : Option Nat), k + g = n ∧ s = .string (pathT (N.take (N.length - k))) ∧ v = .slice fa (k + 1) fc ∧ Cel (fun k => w.heap.size ≤ k) wr 1 (.slice fa (k + 1) fc) (k + 1) (rowC strC (upL N (k + 1))) gg ∧ Below w.heap.size w wr)
  case atStart =>
    refine ⟨0, _, _, some w.heap.size, by omega, ?_, rfl, ?_, bel_al _ _⟩
    · rw [Nat.sub_zero, List.take_length]
    · have e : upL N (0 + 1) = [pathT N] := by rw [upL_succ, Nat.sub_zero, List.take_length]; rfl
      rw [e]
      exact cel_new1 w _ _
  case round =>
    obtain ⟨k, fa, fc, gg, hk, rfl, rfl, hC, hb⟩ := hrel
    have HB : Hid (Below w.heap.size w wr) := hb
    have HC : Hid (Cel (fun k => w.heap.size ≤ k) wr 1 (.slice fa (k + 1) fc) (k + 1) (rowC strC (upL N (k + 1))) gg) := hC
    have hsm : (pathT (N.take (N.length - k))).size ≤ maxLen := by
      have := pathT_small (good_take HG.out (N.length - k))
      unfold maxLen; omega
    have HSM : Hid ((pathT (N.take (N.length - k))).size ≤ maxLen) := hsm
    clear hsm hb hC
    by_cases hlt : k < n
    · obtain ⟨nm, hnm⟩ := up_parent HG.out (k := k) (m := n - k - 1) (by have := HN.out; omega)
      have HP : Hid (parentX (pathT (N.take (N.length - k))) = (pathT (N.take (N.length - (k + 1))), nm, 0)) := hnm
      have HU : Hid (upL N (k + 1 + 1) = upL N (k + 1) ++ [pathT (N.take (N.length - (k + 1)))]) := upL_succ N (k + 1)
      clear hnm
      generalize pathT (N.take (N.length - k)) = P at *
      obtain ⟨D, hD⟩ : ∃ D, pathT (N.take (N.length - (k + 1))) = D := ⟨_, rfl⟩
      have HD : Hid (pathT (N.take (N.length - (k + 1))) = D) := hD
      rw [hD] at HP HU
      clear hD
      have HAP : Hid (∀ w6 o a2 c2 w7 g7, Below wr.heap.size wr w6 → Cel (Grow (fun k => w.heap.size ≤ k) (w6.alloc o) w7) w7 1 (.slice a2 (k + 1 + 1) c2) (k + 1 + 1) (rowC strC (upL N (k + 1)) ++ rowC strC [D]) g7 → Stay (fun k => gg = some k) (w6.alloc o) w7 → Cel (fun k => w.heap.size ≤ k) w7 1 (.slice a2 (k + 1 + 1) c2) (k + 1 + 1) (rowC strC (upL N (k + 1 + 1))) g7 ∧ Below w.heap.size w w7) := fun w6 o a2 c2 w7 g7 B hC hS => by
        have B3 : Below wr.heap.size wr (w6.alloc o) := bel_tr B (bel_al _ _)
        have z0 := HB.out.size
        have z1 := B3.size
        rw [HU.out, rowC_app]
        refine ⟨grow_base (by omega) (fun k hk => hk) hC, (HB.out.trans (B3.mono (by omega))).trans (hS.below (by omega) (fun k hk => ?_))⟩
        have := HC.out; rw [hk] at this; exact this.lt.2
      go_wp2_with (first
        | (go_at_call 77; refine (parent_val P D nm 0 _ HSM.out HP.out).mono ?_; rintro e w6 ⟨rfl, c6⟩; have B6 : Hid (Below wr.heap.size wr w6) := c6; clear c6)
        | (at_builtin; refine wpList_append_cel _ rfl _ _ 37 37 rfl 9 ti _ 1 16 Tryz.underlying37 hi1 hi2 hi3 hi4 rfl (O := fun k => w.heap.size ≤ k) _ (k + 1) _ gg rfl (HC.out.below (bel_tr B6.out (bel_al _ _))) _ 1 (rowC strC [D]) rfl (src_new1 w6 D) (by unfold maxLen; omega) (by omega) ?_; intro a7 c7 w7 g7 hC7 hS7 hf7; have HX : Hid _ := HAP.out w6 _ a7 c7 w7 g7 B6.out hC7 hS7; clear hC7 hS7 hf7))
      go_roundg (n - (k + 1))
      case measure => omega
      case rel => exact ⟨k + 1, a7, c7, g7, by omega, by rw [HD.out], rfl, HX.out.1, HX.out.2⟩
    · obtain rfl : k = n := by omega
      have HP : Hid (parentX (pathT (N.take (N.length - k))) = (⟨#[]⟩, ⟨#[]⟩, 1)) := up_root HN.out.symm
      generalize pathT (N.take (N.length - k)) = P at *
      go_wp2_with (go_at_call 77; refine (parent_val P ⟨#[]⟩ ⟨#[]⟩ 1 _ HSM.out HP.out).mono ?_; rintro e w6 ⟨rfl, c6⟩; have B6 : Hid (Below wr.heap.size wr w6) := c6; clear c6)
      all_goals (first | rw [Exit.noGoto_ret] | skip)
      have hm := HM.out
      subst hm
      go_ret
      exact ⟨⟨⟨fa, fc, gg, rfl, HC.out.below B6.out⟩⟩, HB.out.trans (B6.out.mono HB.out.size)⟩

end Go.Proofs.YtigomhilcnnjdaaGreat

/- The contracts of tabulariumref07.Right, parent. -/
namespace Go.Proofs.YtigomhilcnnjdaaGreat
open Go.RowKit

theorem le_of_not {a b : ByteArray} (h : ltB b a = false) : Op.bytesLess a.toList b.toList = true ∨ (Op.bytesLess a.toList b.toList = false ∧ (a.toList == b.toList) = true) := by
  cases e : Op.bytesLess a.toList b.toList with
  | true => exact .inl rfl
  | false =>
    have : b = a := ltB_tri h e
    subst this
    exact .inr ⟨rfl, by simp⟩

theorem file_root {x : Nd} (hp : x.path = rootP) (hd : x.dir = false) : fitsB x = false := by
  unfold fitsB fileB headB
  rw [hd, hp]
  simp

set_option maxRecDepth 100000 in
set_option maxHeartbeats 4000000 in
theorem refRight_val {a : Option Addr} {n c : Nat} {xs : NS} {w : World} (h : NL w a n xs) (u : Bool) (hu : u = true ↔ Right xs) :
    Calls Tryz.prog 60 #[.slice a n c] w fun e w' => e = .returned (.bool u) ∧ Below w.heap.size w w' := by
  have HL : Hid (NL w a n xs) := h
  rw [right_iff] at hu
  obtain ⟨b, off, ps, k1, k2, k3⟩ := h.ex
  have hlid := h.lid
  unfold maxLen at hlid
  have HK : Hid (Nds w a b off ps) := k3
  have hpl : ps.length = n := by rw [← k2, ← k1, List.length_map]
  have HP : Hid (ps.length = n) := hpl
  have HXL : Hid (xs.length = n) := k2
  have HAT : Hid (∀ i (hi : i < ps.length) (hx : i < xs.length), ps[i].1 = xs[i]) := fun i hi hx => by subst k1; simp
  have HU : Hid (u = true ↔ 0 < n ∧ n ≤ 60 ∧ (∀ h : 0 < xs.length, xs[0].path = rootP ∧ fitsB xs[0] = true) ∧ ∀ i, 1 ≤ i → i < n → OkAt xs i) := by subst k2; exact hu
  clear h hu k1 k2 k3 hpl
  by_cases h0 : n = 0
  · have hu0 : u = false := by
      rw [Bool.eq_false_iff]; intro e
      have := (HU.out.1 e).1; omega
    subst hu0 h0
    go_enter Tryz.func60, Tryz.ntmps60
    go_wp2
    go_ret
    exact ⟨rfl, Below.refl _ _⟩
  have e1 : ((n : Int) == 0) = false := by simp; omega
  by_cases h60 : 60 < n
  · have hu0 : u = false := by
      rw [Bool.eq_false_iff]; intro e
      have := (HU.out.1 e).2.1; omega
    subst hu0
    have e2 : decide ((60 : Int) < (n : Int)) = true := decide_eq_true (by omega)
    go_enter Tryz.func60, Tryz.ntmps60
    go_wp2
    go_ret
    exact ⟨rfl, Below.refl _ _⟩
  have e2 : decide ((60 : Int) < (n : Int)) = false := decide_eq_false (by omega)
  have hp0 : 0 < ps.length := by rw [HP.out]; omega
  have hx0 : 0 < xs.length := by rw [HXL.out]; omega
  obtain ⟨y0, y1, y2, y3, y4⟩ := HK.out.at hp0
  obtain rfl := HK.out.addr hp0
  have ex0 := HAT.out 0 hp0 hx0
  have HU0 : Hid (u = true → xs[0].path = rootP ∧ fitsB xs[0] = true) := fun e => (HU.out.1 e).2.2.1 hx0
  have HU1 : Hid (xs[0].path = rootP → fitsB xs[0] = true → (∀ i, 1 ≤ i → i < n → OkAt xs i) → u = true) := fun q1 q2 q3 => HU.out.2 ⟨by omega, by omega, fun _ => ⟨q1, q2⟩, q3⟩
  rw [ex0] at y0 y1
  simp only [Nat.zero_mul, Nat.add_zero] at y0 y1
  obtain ⟨x0, hx0e⟩ : ∃ x0, xs[0] = x0 := ⟨_, rfl⟩
  have HX0 : Hid (∀ h : 0 < xs.length, xs[0] = x0) := fun _ => hx0e
  rw [hx0e] at y0 y1 HU0 HU1
  clear ex0 y2 y3 y4 hx0e
  obtain ⟨q, d, qu, bs, wb⟩ := x0
  simp only at y0 y1 HU0 HU1
  cases hr : decide (q = rootP) with
  | false =>
    have hu0 : u = false := by
      rw [Bool.eq_false_iff]; intro e
      have := (HU0.out e).1
      rw [decide_eq_false_iff_not] at hr; exact hr this
    subst hu0
    have e3 : (q.toList == [47]) = false := by rw [root_eq]; exact hr
    have e4 : (q.toList != [47]) = true := by rw [bne, e3]; rfl
    clear hr HAT
    go_enter Tryz.func60, Tryz.ntmps60
    go_wp2
    go_ret
    exact ⟨rfl, Below.refl _ _⟩
  | true =>
    have e3 : (q.toList == [47]) = true := by rw [root_eq]; exact hr
    have e4 : (q.toList != [47]) = false := by rw [bne, e3]; rfl
    have hq : q = rootP := by simpa using hr
    have HQ : Hid (q = rootP) := hq
    clear hr
    cases d with
    | false =>
      have hu0 : u = false := by
        rw [Bool.eq_false_iff]; intro e
        have := (HU0.out e).2
        rw [file_root hq rfl] at this; cases this
      subst hu0
      clear HAT hq
      go_enter Tryz.func60, Tryz.ntmps60
      go_wp2
      go_ret
      exact ⟨rfl, Below.refl _ _⟩
    | true =>
      clear hq
      go_enter Tryz.func60, Tryz.ntmps60
      go_wp2
      clear y0 y1
      go_loopw [3, 4, 5, 6, 7, 8] (fun v3 _ _ _ _ _ wr => ∃ i : Nat, i ≤ n ∧ v3 = .int .i64 i ∧ Below w.heap.size w wr ∧ (0 < i → ∀ h : 0 < xs.length, fitsB xs[0] = true) ∧ ∀ j, 1 ≤ j → j < i → OkAt xs j) (fun v3 _ _ _ _ _ _ => n - (intOf v3).toNat)
      case atStart => exact ⟨0, by omega, rfl, Below.refl _ _, fun h => by omega, fun j h1 h2 => by omega⟩
      case round =>
        obtain ⟨i, hi, rfl, hb, hf0, hall⟩ := hrel
        have HB : Hid (Below w.heap.size w wr) := hb
        have HF0 : Hid (0 < i → ∀ h : 0 < xs.length, fitsB xs[0] = true) := hf0
        have HA : Hid (∀ j, 1 ≤ j → j < i → OkAt xs j) := hall
        by_cases hlt : i < n
        · have hip : i < ps.length := by rw [HP.out]; exact hlt
          have hix : i < xs.length := by rw [HXL.out]; exact hlt
          have hK := HK.out.below hb
          obtain ⟨z0, z1, z2, z3, z4⟩ := hK.at hip
          have hok := hK.ok _ (List.getElem_mem hip)
          have exi := HAT.out i hip hix
          have HOK : Hid (1 ≤ i → (OkAt xs i ↔ fitsB xs[i] = true ∧ ltB (xs[i - 1]'(by omega)).path xs[i].path = true ∧ dirE xs (parD xs[i].path) = 0)) := fun _ => by
            constructor
            · intro o; exact ⟨o.fit hix, o.asc hix, o.par hix⟩
            · rintro ⟨o1, o2, o3⟩; exact ⟨fun _ => o1, fun _ => o2, fun _ => o3⟩
          have HNU : Hid (1 ≤ i → ¬ OkAt xs i → u = false) := fun h1 hn => by
            rw [Bool.eq_false_iff]; intro e
            exact hn ((HU.out.1 e).2.2.2 i h1 hlt)
          have HNF : Hid (fitsB xs[i] = false → u = false) := fun hf => by
            rw [Bool.eq_false_iff]; intro e
            rcases Nat.eq_zero_or_pos i with h1 | h1
            · subst h1
              have := ((HU.out.1 e).2.2.1 hx0).2
              rw [hf] at this; cases this
            · have := ((HU.out.1 e).2.2.2 i h1 hlt).fit hix
              rw [hf] at this; cases this
          have HNX : Hid (1 ≤ i → OkAt xs i → ∀ j, 1 ≤ j → j < i + 1 → OkAt xs j) := fun _ ho j h1 h2 => by
            rcases Nat.lt_or_ge j i with h | h
            · exact hall j h1 h
            · obtain rfl : j = i := by omega
              exact ho
          have CT : Hid (∀ v, fitsB ps[i].1 = v → Calls Tryz.prog 83 #[ndV ps[i]] wr fun e w' => e = .returned (.bool v) ∧ Below wr.heap.size wr w') := fun v hv => refFits_val ps[i] v _ hok hv
          have HSM : Hid (ps[i].1.path.size ≤ maxLen) := hok.small
          rw [exi] at z0 z1 z2 z4 CT HSM
          have HZ0 : Hid _ := z0
          have hrs : ps[i] = (xs[i], ps[i].2) := by rw [← exi]
          have CT2 : Hid (∀ v, fitsB xs[i] = v → Calls Tryz.prog 83 #[ndV (xs[i], ps[i].2)] wr fun e w' => e = .returned (.bool v) ∧ Below wr.heap.size wr w') := fun v hv => by have := CT.out v hv; rw [hrs] at this; exact this
          have HPREV : Hid (1 ≤ i → ∃ m : ByteArray, (xs[i - 1]'(by omega)).path = m ∧ wr.cell? ⟨b, off + (i - 1) * 5, none⟩ = some (.string m)) := fun h1 => by
            have hkp : i - 1 < ps.length := by omega
            have hkx : i - 1 < xs.length := by omega
            have zk := (hK.at hkp).1
            rw [HAT.out (i - 1) hkp hkx] at zk
            exact ⟨_, rfl, zk⟩
          clear hb hf0 hall hok hK exi CT hrs
          generalize ps[i].2 = rs at *
          obtain ⟨xi, hxi⟩ : ∃ xi, xs[i] = xi := ⟨_, rfl⟩
          have HXI : Hid (∀ h : i < xs.length, xs[i] = xi) := fun _ => hxi
          simp only [hxi] at z0 z1 z2 z3 z4 HOK HNF CT2 HZ0 HSM
          have HF00 : Hid (i = 0 → fitsB xi = true → ∀ h : 0 < xs.length, fitsB xs[0] = true) := fun e hf h => by
            subst e
            rw [hxi]; exact hf
          clear hxi
          obtain ⟨q', d', qu', bs', wb'⟩ := xi
          obtain ⟨sa', sn', sc'⟩ := rs
          unfold ndV at CT2
          simp only at z0 z1 z2 z3 z4 HOK CT2 HZ0 HSM
          cases hf : fitsB ⟨q', d', qu', bs', wb'⟩ with
          | false =>
            have hu0 : u = false := HNF.out hf
            subst hu0
            have HF2 : Hid _ := hf
            clear hf
            go_wp2_with (refine (CT2.out false HF2.out).mono ?_; rintro e w2 ⟨rfl, c2⟩; have C2 : Hid (Below wr.heap.size wr w2) := c2; clear c2)
            refine wp_region_quiet_below (by kernel_rfl) (by kernel_rfl) ?_
            repeat (first | go_big_quiet_step (fail) | quiet_step (fail))
            refine wpQuiet_nil ?_
            intro _ hw'
            obtain ⟨⟨dq, osq⟩, hw''⟩ := hw'
            subst hw''
            have B4 : Hid (Below w2.heap.size w2 (Sort.grow (redrawn w2 dq) osq)) := below_regrown w2 dq osq
            generalize Sort.grow (redrawn w2 dq) osq = w3 at *
            go_wp2
            go_ret
            exact ⟨rfl, bel_tr HB.out (bel_tr C2.out B4.out)⟩
          | true =>
            have HF2 : Hid _ := hf
            by_cases hi0 : i = 0
            · have HF3 : Hid _ := HF00.out hi0 hf
              have d0 : decide ((0 : Int) < (i : Int)) = false := decide_eq_false (by omega)
              have d1 : decide (0 < i) = false := decide_eq_false (by omega)
              have d2 : ((i : Int) == 0) = true := by simp; omega
              have HI0 : Hid (i = 0) := hi0
              clear hf hi0 HF00 HPREV HOK HNU HNX HNF
              go_wp2_with (refine (CT2.out true HF2.out).mono ?_; rintro e w2 ⟨rfl, c2⟩; have C2 : Hid (Below wr.heap.size wr w2) := c2; clear c2)
              refine wp_region_quiet_below (by kernel_rfl) (by kernel_rfl) ?_
              repeat (first | go_big_quiet_step (fail) | quiet_step (fail))
              refine wpQuiet_nil ?_
              intro _ hw'
              obtain ⟨⟨dq, osq⟩, hw''⟩ := hw'
              subst hw''
              have B4 : Hid (Below w2.heap.size w2 (Sort.grow (redrawn w2 dq) osq)) := below_regrown w2 dq osq
              generalize Sort.grow (redrawn w2 dq) osq = w3 at *
              go_wp2
              go_roundw
              case rel => exact ⟨i + 1, by omega, by go_num, bel_tr HB.out (bel_tr C2.out B4.out), fun _ => HF3.out, fun j h1 h2 => by have := HI0.out; omega⟩
              case measure => simp [intOf]; omega
            · have hi1 : 1 ≤ i := by omega
              obtain ⟨m, hm, zk⟩ := HPREV.out hi1
              have hOk := HOK.out hi1
              simp only [hm] at hOk
              have HOK2 : Hid _ := hOk
              have HNU2 : Hid _ := HNU.out hi1
              have HNX2 : Hid _ := HNX.out hi1
              have HF3 : Hid _ := HF0.out (by omega)
              have d0 : decide ((0 : Int) < (i : Int)) = true := decide_eq_true (by omega)
              have d1 : decide (0 < i) = true := decide_eq_true (by omega)
              have d2 : ((i : Int) == 0) = false := by simp; omega
              obtain ⟨k, hk⟩ : ∃ k, i - 1 = k := ⟨_, rfl⟩
              have hik : (i : Int) - 1 = (k : Int) := by omega
              have hkn : k < n := by omega
              rw [hk] at zk
              have ZK : Hid _ := zk
              obtain ⟨⟨D, N, F⟩, hPX⟩ : ∃ y, parentX q' = y := ⟨_, rfl⟩
              have HPX : Hid (parentX q' = (D, N, F)) := hPX
              have hpD : parD q' = D := by unfold parD; rw [hPX]
              rw [hpD] at HOK2
              clear hf hi0 hi1 HF00 HPREV HOK HNU HNX HNF hm hk hOk hPX hpD zk
              cases hl : ltB m q' with
              | false =>
                have hu0 : u = false := HNU2.out (fun o => by have := (HOK2.out.1 o).2.1; rw [hl] at this; cases this)
                subst hu0
                rcases le_of_not hl with g1 | ⟨g1, g2⟩
                all_goals
                  clear hl
                  go_wp2_with (refine (CT2.out true HF2.out).mono ?_; rintro e w2 ⟨rfl, c2⟩; have C2 : Hid (Below wr.heap.size wr w2) := c2; have t0 := fun dd os => cell_regrown (bel_cell c2 HZ0.out) dd os; have t1 := fun dd os => cell_regrown (bel_cell c2 ZK.out) dd os; clear c2)
                  refine wp_region_quiet_below (by kernel_rfl) (by kernel_rfl) ?_
                  repeat (first | go_big_quiet_step (fail) | quiet_step (fail))
                  refine wpQuiet_nil ?_
                  intro _ hw'
                  obtain ⟨⟨dq, osq⟩, hw''⟩ := hw'
                  subst hw''
                  have B4 : Hid (Below w2.heap.size w2 (Sort.grow (redrawn w2 dq) osq)) := below_regrown w2 dq osq
                  clear t0 t1
                  generalize Sort.grow (redrawn w2 dq) osq = w3 at *
                  go_wp2
                  go_ret
                  exact ⟨rfl, bel_tr HB.out (bel_tr C2.out B4.out)⟩
              | true =>
                have g1 : Op.bytesLess q'.toList m.toList = false := ltB_asymm hl
                have g2 : (q'.toList == m.toList) = false := by rw [same_eq, decide_eq_false]; exact (ltB_ne hl).symm
                have HLT : Hid _ := hl
                clear hl
                rcases findI_cases xs D with ⟨_, f2, f3⟩ | ⟨ki, f1, f2, hki, f3⟩
                · have hu0 : u = false := HNU2.out (fun o => by have := (HOK2.out.1 o).2.2; rw [f3] at this; cases this)
                  subst hu0
                  have HFI : Hid _ := f2
                  clear f2 f3
                  go_wp2_with (refine (CT2.out true HF2.out).mono ?_; rintro e w2 ⟨rfl, c2⟩; have C2 : Hid (Below wr.heap.size wr w2) := c2; have t0 := fun dd os => cell_regrown (bel_cell c2 HZ0.out) dd os; have t1 := fun dd os => cell_regrown (bel_cell c2 ZK.out) dd os; clear c2)
                  refine wp_region_quiet_below (by kernel_rfl) (by kernel_rfl) ?_
                  repeat (first | go_big_quiet_step (fail) | quiet_step (fail))
                  refine wpQuiet_nil ?_
                  intro _ hw'
                  obtain ⟨⟨dq, osq⟩, hw''⟩ := hw'
                  subst hw''
                  have B4 : Hid (Below w2.heap.size w2 (Sort.grow (redrawn w2 dq) osq)) := below_regrown w2 dq osq
                  clear t0 t1
                  generalize Sort.grow (redrawn w2 dq) osq = w3 at *
                  have t0 := bel_cell B4.out (bel_cell C2.out HZ0.out)
                  go_wp2_with (first
                    | (go_at_call 84; refine (refParent_val q' D N F _ HSM.out HPX.out).mono ?_; rintro e w4 ⟨rfl, c4⟩; have C4 : Hid (Below w3.heap.size w3 w4) := c4; clear c4)
                    | (go_at_call 85; refine (refFind_val (HL.out.below (bel_tr HB.out (bel_tr C2.out (bel_tr B4.out C4.out)))) D (-1) HFI.out).mono ?_; rintro e w5 ⟨rfl, c5⟩; have C5 : Hid (Below w4.heap.size w4 w5) := c5; clear c5))
                  go_ret
                  exact ⟨rfl, bel_tr HB.out (bel_tr C2.out (bel_tr B4.out (bel_tr C4.out C5.out)))⟩
                · have HFI : Hid _ := f2
                  have hkn2 : ki < n := by rw [← HXL.out]; exact hki
                  have HDC : Hid (w.cell? ⟨b, off + ki * 5 + 1, none⟩ = some (.bool xs[ki].dir)) := HL.out.dir rfl hki
                  clear f1 f2
                  cases hd : xs[ki].dir with
                  | false =>
                    have hu0 : u = false := HNU2.out (fun o => by have := (HOK2.out.1 o).2.2; rw [f3, hd] at this; cases this)
                    subst hu0
                    rw [hd] at HDC
                    clear f3 hd
                    go_wp2_with (refine (CT2.out true HF2.out).mono ?_; rintro e w2 ⟨rfl, c2⟩; have C2 : Hid (Below wr.heap.size wr w2) := c2; have t0 := fun dd os => cell_regrown (bel_cell c2 HZ0.out) dd os; have t1 := fun dd os => cell_regrown (bel_cell c2 ZK.out) dd os; clear c2)
                    refine wp_region_quiet_below (by kernel_rfl) (by kernel_rfl) ?_
                    repeat (first | go_big_quiet_step (fail) | quiet_step (fail))
                    refine wpQuiet_nil ?_
                    intro _ hw'
                    obtain ⟨⟨dq, osq⟩, hw''⟩ := hw'
                    subst hw''
                    have B4 : Hid (Below w2.heap.size w2 (Sort.grow (redrawn w2 dq) osq)) := below_regrown w2 dq osq
                    clear t0 t1
                    generalize Sort.grow (redrawn w2 dq) osq = w3 at *
                    have t0 := bel_cell B4.out (bel_cell C2.out HZ0.out)
                    go_wp2_with (first
                      | (go_at_call 84; refine (refParent_val q' D N F _ HSM.out HPX.out).mono ?_; rintro e w4 ⟨rfl, c4⟩; have C4 : Hid (Below w3.heap.size w3 w4) := c4; clear c4)
                      | (go_at_call 85; refine (refFind_val (HL.out.below (bel_tr HB.out (bel_tr C2.out (bel_tr B4.out C4.out)))) D _ HFI.out).mono ?_; rintro e w5 ⟨rfl, c5⟩; have C5 : Hid (Below w4.heap.size w4 w5) := c5; have dc := bel_cell (bel_tr HB.out (bel_tr C2.out (bel_tr B4.out (bel_tr C4.out c5)))) HDC.out; clear c5))
                    go_ret
                    exact ⟨rfl, bel_tr HB.out (bel_tr C2.out (bel_tr B4.out (bel_tr C4.out C5.out)))⟩
                  | true =>
                    have HO : Hid (OkAt xs i) := HOK2.out.2 ⟨HF2.out, HLT.out, by rw [f3, hd]; rfl⟩
                    rw [hd] at HDC
                    clear f3 hd
                    go_wp2_with (refine (CT2.out true HF2.out).mono ?_; rintro e w2 ⟨rfl, c2⟩; have C2 : Hid (Below wr.heap.size wr w2) := c2; have t0 := fun dd os => cell_regrown (bel_cell c2 HZ0.out) dd os; have t1 := fun dd os => cell_regrown (bel_cell c2 ZK.out) dd os; clear c2)
                    refine wp_region_quiet_below (by kernel_rfl) (by kernel_rfl) ?_
                    repeat (first | go_big_quiet_step (fail) | quiet_step (fail))
                    refine wpQuiet_nil ?_
                    intro _ hw'
                    obtain ⟨⟨dq, osq⟩, hw''⟩ := hw'
                    subst hw''
                    have B4 : Hid (Below w2.heap.size w2 (Sort.grow (redrawn w2 dq) osq)) := below_regrown w2 dq osq
                    clear t0 t1
                    generalize Sort.grow (redrawn w2 dq) osq = w3 at *
                    have t0 := bel_cell B4.out (bel_cell C2.out HZ0.out)
                    go_wp2_with (first
                      | (go_at_call 84; refine (refParent_val q' D N F _ HSM.out HPX.out).mono ?_; rintro e w4 ⟨rfl, c4⟩; have C4 : Hid (Below w3.heap.size w3 w4) := c4; clear c4)
                      | (go_at_call 85; refine (refFind_val (HL.out.below (bel_tr HB.out (bel_tr C2.out (bel_tr B4.out C4.out)))) D _ HFI.out).mono ?_; rintro e w5 ⟨rfl, c5⟩; have C5 : Hid (Below w4.heap.size w4 w5) := c5; have dc := bel_cell (bel_tr HB.out (bel_tr C2.out (bel_tr B4.out (bel_tr C4.out c5)))) HDC.out; clear c5))
                    go_roundw
                    case rel => exact ⟨i + 1, by omega, by go_num, bel_tr HB.out (bel_tr C2.out (bel_tr B4.out (bel_tr C4.out C5.out))), fun _ => HF3.out, HNX2.out HO.out⟩
                    case measure => simp [intOf]; omega
        · obtain rfl : i = n := by omega
          have hgd : decide ((i : Int) < (i : Int)) = false := decide_eq_false (by omega)
          have hu1 : u = true := HU1.out HQ.out (by have := hf0 (by omega) hx0; rw [HX0.out hx0] at this; exact this) hall
          subst hu1
          clear hb hall hlt
          go_wp2
          go_ret
          exact ⟨rfl, HB.out⟩

end Go.Proofs.YtigomhilcnnjdaaGreat
