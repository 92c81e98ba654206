/- The contract of tabulariumref04.Rename. -/
import Derived.Test.YtlgfhmedenlbcaaPlayF4
namespace Go.Proofs.Ytlgfhmedenlbcaa
open Go.RowKit

theorem Fit.del {room fuse : Int} {down : Bool} {S : FS} (h : Fit ⟨room, fuse, down, S⟩) (n : List UInt8) : Fit ⟨room, fuse, down, fdel S n⟩ :=
  ⟨rise_fdel h.rise n, fun p hp => h.name p (mem_fdel.1 hp).1, fun p hp => h.data p (mem_fdel.1 hp).1, Nat.le_trans (List.length_filter_le _ _) h.most, h.r0, h.fu⟩

theorem fdel_twice (S : FS) (n : List UInt8) : fdel (fdel S n) n = fdel S n := fdel_of_none (fget_fdel_same S n)

theorem fren_same {S : FS} (hS : Rise S) {i : Nat} (hi : i < S.length) {n : List UInt8} (hn : S[i].1 = n) : fren n n S = S := by
  unfold fren
  rw [fget_at hS hi hn]
  show fput (fdel S n) n S[i].2 = S
  have e : fput (fdel S n) n S[i].2 = fput S n S[i].2 := by unfold fput; rw [fdel_twice]
  rw [e, fput_at hS hi hn]
  have : (n, S[i].2) = S[i] := by rw [← hn]
  rw [this]
  exact List.set_getElem_self hi

section
variable {O : Nat → Prop} {w : World} {p : Nat} {a : Option Addr} {c : Nat} {g : Option Nat} {ds : DS}

theorem ren_end {w2 w5 W : World} {pf : Nat} (hlt : ∀ k, O k → k < w2.heap.size) (hpf : w2.heap.size ≤ pf) (S4 : Stay O w2 w5) (hW : Stay (fun x => x = pf) w5 W) (hWs : W.heap.size = w5.heap.size)
    (h7 : RAt (Grow (fun x => Grow O w2 w5 x ∧ x ≠ pf) W w) w p a c g ds) (S7 : Stay (fun x => Grow O w2 w5 x ∧ x ≠ pf) W w) : RAt (Grow O w2 w) w p a c g ds ∧ Stay O w2 w := by
  have hs := S7.size
  have hs4 := S4.size
  refine ⟨h7.wide (fun x hx => ?_) (fun x hx => ?_), (S4.trans hW (fun i hi e => ?_)).trans S7 (fun i hi e => ?_)⟩
  · rcases hx with ⟨hx | hx, _⟩ | hx
    · exact .inl hx
    · exact .inr ⟨hx.1, by omega⟩
    · exact .inr ⟨by omega, hx.2⟩
  · rcases hx with hx | hx
    · have := hlt x hx; omega
    · exact hx.2
  · omega
  · rcases e.1 with e | e
    · exact e
    · omega

theorem ren_step {w2 w5 w6 : World} {pf : Nat} (hlt : ∀ k, O k → k < w2.heap.size) (hpf : w2.heap.size ≤ pf) (hp5 : pf < w5.heap.size) (S4 : Stay O w2 w5)
    (h6 : RAt (Grow (fun x => Grow O w2 w5 x ∧ x ≠ pf) w5 w6) w6 p a c g ds) (S6 : Stay (fun x => Grow O w2 w5 x ∧ x ≠ pf) w5 w6) : RAt (fun x => Grow O w2 w6 x ∧ x ≠ pf) w6 p a c g ds ∧ Stay O w2 w6 := by
  have hs := S6.size
  have hs4 := S4.size
  refine ⟨h6.wide (fun x hx => ?_) (fun x hx => ?_), S4.trans S6 (fun i hi e => ?_)⟩
  · rcases hx with ⟨hx | hx, hn⟩ | hx
    · exact ⟨.inl hx, hn⟩
    · exact ⟨.inr ⟨hx.1, by omega⟩, hn⟩
    · exact ⟨.inr ⟨by omega, hx.2⟩, by omega⟩
  · rcases hx.1 with hx | hx
    · have := hlt x hx; omega
    · exact hx.2
  · rcases e.1 with e | e
    · exact e
    · omega

set_option maxRecDepth 100000 in
set_option maxHeartbeats 2000000 in
theorem refRename_val (h : RAt O w p a c g ds) (hf : Fit ds) (n m : List UInt8) (hmm : m.length ≤ maxLen) (q : Int) (hq : begE ds (refR ds.S n m) = q) {ds' : DS} (hds : doD ds (refR ds.S n m) (fren n m) = ds') :
    Calls Try.prog 29 #[.pointer (some ⟨p, 0, none⟩), .string (ba n), .string (ba m)] w fun e w' => e = .returned (.int .i64 q) ∧ (∃ a' c' g', RAt (Grow O w w') w' p a' c' g' ds') ∧ Stay O w w' := by
  have CA : Hid _ := fun (_ : Unit) => refAt_val h hf n
  obtain ⟨ok, hok⟩ : ∃ ok, nameOk m = ok := ⟨_, rfl⟩
  have CN : Hid _ := fun w => refName_val m ok w hmm hok
  obtain ⟨room, fuse, down, S⟩ := ds
  have c3 : w.cell? ⟨p, 3, none⟩ = some (.bool down) := h.c3
  cases down with
  | true =>
    have e1 : (12 : Int) = q := by rw [← hq]; unfold begE; simp
    have e2 : (⟨room, fuse, true, S⟩ : DS) = ds' := by rw [← hds]; unfold doD begE begD; simp
    subst e1 e2
    have HF : Hid _ := h.grow w
    clear h hq hds
    go_enter Try.func29, Try.ntmps29
    go_wp2_with fail
    refine (CA.out ()).mono ?_
    rintro e w1 ⟨Z, rfl, hw1, -⟩
    subst hw1
    go_wp2_with fail
    refine (CN.out _).mono ?_
    rintro e w2 ⟨rfl, hw2⟩
    subst hw2
    clear CA CN
    go_wp2
    go_ret
    exact ⟨rfl, ⟨_, _, _, HF.out⟩, Stay.refl _ _⟩
  | false =>
    have CB : Hid _ := fun v hv => refBlows_val h hf v hv
    have HR : Hid _ := h
    have HF : Hid _ := hf
    have HO : Hid _ := hok
    have hrr : refR S n m = if ok then refM S n else 1 := by unfold refR; rw [hok]
    have HQ : Hid (begE ⟨room, fuse, false, S⟩ (refR S n m) = q) := hq
    have HDS : Hid (doD ⟨room, fuse, false, S⟩ (refR S n m) (fren n m) = ds') := hds
    have hm : S.length ≤ 20 := hf.most
    clear h hok hq hds hf
    go_enter Try.func29, Try.ntmps29
    go_wp2_with fail
    refine (CA.out ()).mono ?_
    rintro e w1 ⟨Z, rfl, hw1, hZ⟩
    subst hw1
    go_wp2_with fail
    refine (CN.out _).mono ?_
    rintro e w2 ⟨rfl, hw2⟩
    subst hw2
    clear CA CN
    cases ok with
    | false =>
      have eA : refR S n m = 1 := hrr
      have e1 : (1 : Int) = q := by rw [← HQ.out, eA, (no_beg _ _ _ (by decide) id).1]
      have e2 : (⟨room, fuse, false, S⟩ : DS) = ds' := by rw [← HDS.out, eA, (no_beg _ _ _ (by decide) _).2]
      subst e1 e2
      clear HQ HDS eA hrr hZ CB
      go_wp2
      go_ret
      exact ⟨rfl, ⟨_, _, _, HR.out.grow _⟩, Stay.refl _ _⟩
    | true =>
      rcases hZ with ⟨rfl, hno⟩ | ⟨i, hi, rfl, hn⟩
      · have eA : refR S n m = 5 := by rw [hrr]; show refM S n = 5; unfold refM; rw [show fget S n = none from hno]; rfl
        have e1 : (5 : Int) = q := by rw [← HQ.out, eA, (no_beg _ _ _ (by decide) id).1]
        have e2 : (⟨room, fuse, false, S⟩ : DS) = ds' := by rw [← HDS.out, eA, (no_beg _ _ _ (by decide) _).2]
        subst e1 e2
        clear HQ HDS eA hrr hno CB
        go_wp2
        go_ret
        exact ⟨rfl, ⟨_, _, _, HR.out.grow _⟩, Stay.refl _ _⟩
      · have hfg : fget S n = some S[i].2 := fget_at HF.out.rise hi hn
        have eA : refR S n m = 0 := by rw [hrr]; show refM S n = 0; unfold refM; rw [hfg]; rfl
        have hiS : i < S.length := hi
        have HG : Hid _ := hfg
        clear hfg hrr
        by_cases hb : begE ⟨room, fuse, false, S⟩ 0 = 12
        · have e1 : (12 : Int) = q := by rw [← HQ.out, eA, hb]
          have e2 : begD ⟨room, fuse, false, S⟩ 0 = ds' := by rw [← HDS.out, eA]; unfold doD; rw [if_neg (by rw [hb]; decide)]
          subst e1
          have HB : Hid _ := hb
          have HE2 : Hid _ := e2
          clear HQ HDS hb e2 eA
          go_wp2_with fail
          refine (CB.out true (decide_eq_true HB.out)).mono ?_
          rintro e w3 ⟨rfl, h3, hs3⟩
          have H3 : Hid _ := h3
          have S3 : Hid _ := hs3
          clear h3 hs3 CB
          go_wp2
          go_ret
          exact ⟨rfl, ⟨_, _, _, by rw [← HE2.out]; exact H3.out.grow _⟩, S3.out⟩
        · obtain ⟨b0, F, hbD, hfit⟩ := beg_no hb HF.out
          have e1 : (0 : Int) = q := by rw [← HQ.out, eA, b0]
          have e2 : (⟨room, F, false, fren n m S⟩ : DS) = ds' := by
            rw [← HDS.out, eA]; unfold doD; rw [if_pos b0, hbD]
          subst e1
          have HB : Hid _ := hb
          have HE2 : Hid _ := e2
          have HFIT : Hid _ := hfit
          have HBD : Hid _ := hbD
          clear HQ HDS hb e2 eA b0 hfit hbD
          go_wp2_with fail
          refine (CB.out false (decide_eq_false HB.out)).mono ?_
          rintro e w3 ⟨rfl, h3, hs3⟩
          rw [HBD.out] at h3
          have S3 : Hid _ := hs3
          have H3 : Hid _ := h3
          clear h3 hs3 CB
          by_cases hnm : n = m
          · have hbq : ((ba n).toList == (ba m).toList) = true := by rw [ba_beq]; exact decide_eq_true hnm
            have hE3 : (⟨room, F, false, S⟩ : DS) = ds' := by rw [← HE2.out, ← hnm, fren_same HF.out.rise hi hn]
            have HE3 : Hid _ := hE3
            clear hnm hE3
            generalize ba n = s1 at *
            generalize ba m = s2 at *
            go_wp2
            go_ret
            exact ⟨rfl, ⟨_, _, _, by rw [← HE3.out]; exact H3.out.grow _⟩, S3.out⟩
          · have hbq : ((ba n).toList == (ba m).toList) = false := by rw [ba_beq]; exact decide_eq_false hnm
            obtain ⟨k, ha, hg2, r0, r1, r2⟩ := H3.out.file hi
            cases ha
            have r0' : w3.cell? ⟨k, i * 3, none⟩ = some (.string (ba S[i].1)) := r0
            have r1' : w3.cell? ⟨k, i * 3 + 1, none⟩ = some (.string (ba S[i].2.1)) := r1
            have r2' : w3.cell? ⟨k, i * 3 + 2, none⟩ = some (.int .i64 (S[i].2.2 : Int)) := r2
            have d1 : w3.cell? ⟨p, 1, none⟩ = some (.slice (some ⟨k, 0, none⟩) S.length c) := H3.out.c1
            clear r0 r1 r2 hg2
            generalize hs1 : ba n = s1 at *
            generalize hs2 : ba m = s2 at *
            go_wp2_with fail
            obtain ⟨wa, hwa⟩ : ∃ wa, w3.alloc (.cells #[.string s1, .string (ba S[i].2.1), .int .i64 (S[i].2.2 : Int)] 62) = wa := ⟨_, rfl⟩
            have m0 : wa.cell? ⟨w3.heap.size, 0, none⟩ = some (.string s1) := hwa ▸ World.cell?_alloc_new w3 _ _ 0
            have m1 : wa.cell? ⟨w3.heap.size, 1, none⟩ = some (.string (ba S[i].2.1)) := hwa ▸ World.cell?_alloc_new w3 _ _ 1
            have m2 : wa.cell? ⟨w3.heap.size, 2, none⟩ = some (.int .i64 (S[i].2.2 : Int)) := hwa ▸ World.cell?_alloc_new w3 _ _ 2
            have l0 : wa.frozen? ⟨w3.heap.size, 0, none⟩ = false := hwa ▸ World.frozen?_alloc_new w3 _ _ 0
            have hba : Below w3.heap.size w3 wa := hwa ▸ (Below.refl _ w3).alloc (Nat.le_refl _) _
            have hza : w3.heap.size < wa.heap.size := by rw [← hwa]; simp
            rw [hwa]
            have hRa := H3.out.below hba
            have hno3 : ¬ O w3.heap.size := fun e => by have := H3.out.lt _ e; omega
            generalize hpf : w3.heap.size = pf at *
            have HBA : Hid (Stay O w2 wa) := S3.out.then_below (by rw [hpf]; exact hba)
            clear hwa hba r0' r1' r2' d1
            refine (refOut_val hRa HFIT.out i hi).mono ?_
            rintro e w4 ⟨rfl, ⟨a4, c4, g4, h4⟩, hs4⟩
            have eS1 : S.take i ++ S.drop (i + 1) = fdel S n := (fdel_at HF.out.rise hi hn).symm
            have h4' : RAt (Grow O wa w4) w4 p a4 c4 g4 ⟨room, F, false, fdel S n⟩ := by rw [← eS1]; exact h4
            have hb4 := hs4.block pf hza hno3
            have m04 := (World.cell?_of_block (a := ⟨pf, 0, none⟩) hb4).trans m0
            have m14 := (World.cell?_of_block (a := ⟨pf, 1, none⟩) hb4).trans m1
            have m24 := (World.cell?_of_block (a := ⟨pf, 2, none⟩) hb4).trans m2
            have l04 := (World.frozen?_of_block (a := ⟨pf, 0, none⟩) hb4).trans l0
            have hz4 := Nat.lt_of_lt_of_le hza hs4.size
            have hno4 : ¬ Grow O wa w4 pf := fun e => e.elim hno3 (fun e => by omega)
            have HPF : Hid (w2.heap.size ≤ pf) := by rw [← hpf]; exact S3.out.size
            have S4 : Hid (Stay O w2 w4) := HBA.out.then_same hs4
            have hgr : ∀ x, Grow O wa w4 x → Grow O w2 w4 x := fun x hx => hx.elim .inl (fun e => .inr ⟨Nat.le_trans HBA.out.size e.1, e.2⟩)
            have h4w := h4'.wide (O2 := fun x => Grow O w2 w4 x ∧ x ≠ pf) (fun x hx => ⟨hgr x hx, fun e => hno4 (e ▸ hx)⟩) (fun x hx => hx.1.elim (fun e => h4'.lt x (.inl e)) (fun e => e.2))
            have H4 : Hid _ := h4w
            clear h4 h4' h4w hs4 m0 m1 m2 l0 hRa hb4 hno4 hgr eS1
            subst hs2
            have CA4 : Hid _ := fun (_ : Unit) => refAt_val H4.out (HFIT.out.del n) m
            go_wp2_with fail
            refine (CA4.out ()).mono ?_
            rintro e w5 ⟨Z5, rfl, hw5, hZ5⟩
            subst hw5
            clear CA4
            rcases hZ5 with ⟨rfl, hno5⟩ | ⟨i5, hi5, rfl, hn5⟩
            · have hno5' : fget (fdel S n) m = none := hno5
              have eF : fren n m S = fins (m, S[i].2.1, S[i].2.2) (fdel S n) := by unfold fren; rw [HG.out]; show fins (m, S[i].2) (fdel (fdel S n) m) = _; rw [fdel_of_none hno5']
              have HEF : Hid _ := eF
              have HN5 : Hid _ := hno5'
              clear hno5 eF
              have hno' : fget (fdel S n) (m, S[i].2.1, S[i].2.2).1 = none := HN5.out
              have hstW : Stay (fun x => x = pf) w5 (w5.setCell ⟨pf, 0, none⟩ (.string (ba m))) := Stay.setCell w5 ⟨pf, 0, none⟩ _ rfl
              have hRW := (H4.out).stay hstW (fun x hx e => hx.2 e)
              have CP : Hid _ := fun (_ : Unit) => refPut_val hRW (HFIT.out.del n) (m, S[i].2.1, S[i].2.2) hno'
              have n0 : (w5.setCell ⟨pf, 0, none⟩ (.string (ba m))).cell? ⟨pf, 0, none⟩ = some (.string (ba m)) := World.cell?_setCell_same _ _ _ m04
              have n1 : (w5.setCell ⟨pf, 0, none⟩ (.string (ba m))).cell? ⟨pf, 1, none⟩ = some (.string (ba S[i].2.1)) := cell_setP (by decide) m14
              have n2 : (w5.setCell ⟨pf, 0, none⟩ (.string (ba m))).cell? ⟨pf, 2, none⟩ = some (.int .i64 (S[i].2.2 : Int)) := cell_setP (by decide) m24
              have hst := run_store_str
              have HW : Hid _ := hstW
              clear hRW hno' hstW
              go_wp2_with fail
              refine (CP.out ()).mono ?_
              rintro e w7 ⟨rfl, ⟨a7, c7, g7, h7⟩, hs7⟩
              have HE : Hid _ := ren_end HR.out.lt HPF.out (S4.out) HW.out (by simp [World.setCell]) h7 hs7
              clear h7 hs7 CP n0 n1 n2
              go_wp2
              go_ret
              exact ⟨rfl, ⟨_, _, _, by rw [← HE2.out, HEF.out]; exact HE.out.1⟩, HE.out.2⟩
            · have eF : fren n m S = fins (m, S[i].2.1, S[i].2.2) (fdel (fdel S n) m) := by unfold fren; rw [HG.out]; rfl
              have HEF : Hid _ := eF
              clear eF
              have CO5 : Hid _ := fun (_ : Unit) => refOut_val H4.out (HFIT.out.del n) i5 hi5
              go_wp2_with fail
              refine (CO5.out ()).mono ?_
              rintro e w6 ⟨rfl, ⟨a6, c6, g6, h6⟩, hs6⟩
              have eS2 : (fdel S n).take i5 ++ (fdel S n).drop (i5 + 1) = fdel (fdel S n) m := (fdel_at (rise_fdel HF.out.rise n) hi5 hn5).symm
              have h6' : RAt (Grow (fun x => Grow O w2 w5 x ∧ x ≠ pf) w5 w6) w6 p a6 c6 g6 ⟨room, F, false, fdel (fdel S n) m⟩ := by rw [← eS2]; exact h6
              have hst6 := ren_step HR.out.lt HPF.out hz4 S4.out h6' hs6
              have hb6 := hs6.block pf hz4 (fun e => e.2 rfl)
              have m06 := (World.cell?_of_block (a := ⟨pf, 0, none⟩) hb6).trans m04
              have m16 := (World.cell?_of_block (a := ⟨pf, 1, none⟩) hb6).trans m14
              have m26 := (World.cell?_of_block (a := ⟨pf, 2, none⟩) hb6).trans m24
              have l06 := (World.frozen?_of_block (a := ⟨pf, 0, none⟩) hb6).trans l04
              have HS6 : Hid _ := hst6
              clear h6 h6' hs6 hst6 hb6 CO5 eS2 m04 m14 m24 l04
              have hno' : fget (fdel (fdel S n) m) (m, S[i].2.1, S[i].2.2).1 = none := fget_fdel_same _ _
              have hstW : Stay (fun x => x = pf) w6 (w6.setCell ⟨pf, 0, none⟩ (.string (ba m))) := Stay.setCell w6 ⟨pf, 0, none⟩ _ rfl
              have hRW := (HS6.out.1).stay hstW (fun x hx e => hx.2 e)
              have CP : Hid _ := fun (_ : Unit) => refPut_val hRW ((HFIT.out.del n).del m) (m, S[i].2.1, S[i].2.2) hno'
              have n0 : (w6.setCell ⟨pf, 0, none⟩ (.string (ba m))).cell? ⟨pf, 0, none⟩ = some (.string (ba m)) := World.cell?_setCell_same _ _ _ m06
              have n1 : (w6.setCell ⟨pf, 0, none⟩ (.string (ba m))).cell? ⟨pf, 1, none⟩ = some (.string (ba S[i].2.1)) := cell_setP (by decide) m16
              have n2 : (w6.setCell ⟨pf, 0, none⟩ (.string (ba m))).cell? ⟨pf, 2, none⟩ = some (.int .i64 (S[i].2.2 : Int)) := cell_setP (by decide) m26
              have hst := run_store_str
              have HW : Hid _ := hstW
              clear hRW hno' hstW
              go_wp2_with fail
              refine (CP.out ()).mono ?_
              rintro e w7 ⟨rfl, ⟨a7, c7, g7, h7⟩, hs7⟩
              have HE : Hid _ := ren_end HR.out.lt HPF.out (HS6.out.2) HW.out (by simp [World.setCell]) h7 hs7
              clear h7 hs7 CP n0 n1 n2
              go_wp2
              go_ret
              exact ⟨rfl, ⟨_, _, _, by rw [← HE2.out, HEF.out]; exact HE.out.1⟩, HE.out.2⟩

end

end Go.Proofs.Ytlgfhmedenlbcaa
