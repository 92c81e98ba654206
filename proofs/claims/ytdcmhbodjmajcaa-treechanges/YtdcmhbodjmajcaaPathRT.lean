/- The contracts of tabulariumref06.Parent, Under and Move. -/
import Derived.Test.YtdcmhbodjmajcaaPathF8
import Derived.Test.YtdcmhbodjmajcaaPathRS
import Derived.Test.YtdcmhbodjmajcaaPathRJ
namespace Go.Proofs.Ytdcmhbodjmajcaa
open Go.RowKit

theorem refSplit_val (p : ByteArray) (N : List ByteArray) (E : Int) (n : Nat) (w : World) (hs : p.size ≤ maxLen) (hX : splitX p = (N, E)) (hn : N.length = n) :
    Calls Try.prog 41 #[.string p] w fun e w' => ∃ a b cap, e = .returned (.tuple #[.slice a n cap, .int .i64 E]) ∧ Sl w' a b 0 cap N ∧ Below w.heap.size w w' := by
  refine (refSplit_any p _ w hs hX).mono ?_
  rintro e w1 ⟨h1, h2⟩
  obtain ⟨a, b, cap, h3, h4⟩ := h1.use hn
  exact ⟨a, b, cap, h3, h4, h2⟩

theorem refJoin_val (a : Option Addr) (b off cap : Nat) (ss : List ByteArray) (n : Nat) (T : ByteArray) (E : Int) (w : World) (hS : Strs w a b off ss) (hn : ss.length = n) (hX : joinX ss = (T, E)) :
    Calls Try.prog 66 #[.slice a n cap] w fun e w' => e = .returned (.tuple #[.string T, .int .i64 E]) ∧ Below w.heap.size w w' := by
  subst hn; exact refJoin_any a b off cap ss (T, E) w hS hX

set_option maxRecDepth 100000 in
set_option maxHeartbeats 1000000 in
theorem refParent_val (p d n : ByteArray) (E : Int) (w : World) (hs : p.size ≤ maxLen) (hX : parentX p = (d, n, E)) :
    Calls Try.prog 38 #[.string p] w fun e w' => e = .returned (.tuple #[.string d, .string n, .int .i64 E]) ∧ Below w.heap.size w w' := by
  by_cases h : splitE p = 0
  · have hX0 : splitX p = (splitN p, 0) := by rw [splitX_pair, h]
    have hf : (splitN p).length ≤ 6 := split_few
    cases hl : (splitN p).length with
    | zero =>
      rw [parentX_root h (List.length_eq_zero_iff.1 hl)] at hX
      cases hX
      have HX : Hid (splitX p = (splitN p, 0)) := hX0
      have HL : Hid ((splitN p).length = 0) := hl
      clear hl hX0 h
      generalize splitN p = N at *
      go_enter Try.func38, Try.ntmps38
      go_wp2_with fail
      refine (refSplit_val p N 0 0 _ hs HX.out HL.out).mono ?_
      rintro e w1 ⟨a, b, cap, rfl, hS, b1⟩
      go_wp2
      go_ret3
      exact ⟨rfl, b1⟩
    | succ m =>
      rw [parentX_last h hl] at hX
      have hG := good_take (split_ok h).1 m
      have hJ := joinX_good hG
      have HX : Hid (splitX p = (splitN p, 0)) := hX0
      have HL : Hid ((splitN p).length = m + 1) := hl
      have hm : m ≤ 6 := by omega
      simp only [Prod.mk.injEq] at hX
      obtain ⟨hd, hn, rfl⟩ := hX
      rw [hd] at hJ
      have HJ : Hid (joinX ((splitN p).take m) = (d, 0)) := hJ
      have HN : Hid (∀ h : m < (splitN p).length, (splitN p)[m] = n) := fun _ => hn
      clear hl hX0 h hG hJ hd hn hf
      generalize splitN p = N at *
      go_enter Try.func38, Try.ntmps38
      go_wp2_with fail
      refine (refSplit_val p N 0 (m + 1) _ hs HX.out HL.out).mono ?_
      rintro e w1 ⟨a, b, cap, rfl, hS, b1⟩
      obtain rfl := hS.strs.addr (by have := HL.out; omega)
      have hroom := hS.room
      rw [HL.out] at hroom
      have hlid := hS.lid
      unfold maxLen at hlid
      have HS : Hid (Sl w1 (some ⟨b, 0, none⟩) b 0 cap N) := hS
      clear hS
      go_wp2_with (go_at_call 66; refine (refJoin_val (some ⟨b, 0, none⟩) b 0 cap (N.take m) m d 0 _ (HS.out.take m).strs (by rw [List.length_take, HL.out]; omega) HJ.out).mono ?_; rintro e w2 ⟨rfl, b2⟩)
      have hc : w2.cell? ⟨b, m, none⟩ = some (.string n) := by
        have hlt : m < N.length := by rw [HL.out]; omega
        have h1 := (HS.out.strs.below b2).cell m hlt
        rw [Nat.zero_add, HN.out hlt] at h1
        exact h1
      have hbb := bel_trans b1 b2
      clear b1 b2 HS
      have hcd : ∀ q, (w2.drewN q).cell? ⟨b, m, none⟩ = some (.string n) := fun _ => hc
      go_quiet (fail)
      go_wp2
      go_ret3
      exact ⟨rfl, bel_trans hbb (bel_drewN _ _)⟩
  · have hX0 : splitX p = (splitN p, splitE p) := splitX_pair p
    rw [parentX_bad h] at hX
    cases hX
    obtain ⟨hN, -⟩ := split_bad h
    rw [hN] at hX0
    generalize splitE p = E at *
    have HX : Hid (splitX p = ([], E)) := hX0
    clear hX0 hN
    go_enter Try.func38, Try.ntmps38
    go_wp2_with fail
    refine (refSplit_val p [] E 0 _ hs HX.out rfl).mono ?_
    rintro e w1 ⟨a, b, cap, rfl, hS, b1⟩
    go_wp2
    go_ret3
    exact ⟨rfl, b1⟩

set_option maxRecDepth 100000 in
set_option maxHeartbeats 1000000 in
theorem refUnder_val (a b : ByteArray) (u : Bool) (w : World) (hs : a.size ≤ maxLen) (hs2 : b.size ≤ maxLen) (hu : underB a b = u) :
    Calls Try.prog 56 #[.string a, .string b] w fun e w' => e = .returned (.bool u) ∧ Below w.heap.size w w' := by
  have HSa : Hid (a.size ≤ maxLen) := hs
  have HSb : Hid (b.size ≤ maxLen) := hs2
  have hXa : Hid (splitX a = (splitN a, splitE a)) := splitX_pair a
  have hXb : Hid (splitX b = (splitN b, splitE b)) := splitX_pair b
  have HU : Hid (u = (decide (splitE a = 0) && decide (splitE b = 0) && decide ((splitN b).take (splitN a).length = splitN a))) := hu.symm
  have hfa : (splitN a).length ≤ 6 := split_few
  have hfb : (splitN b).length ≤ 6 := split_few
  clear hs hs2 hu
  generalize splitN a = A at *
  generalize splitN b = B at *
  generalize splitE a = Ea at *
  generalize splitE b = Eb at *
  obtain ⟨la, hla⟩ : ∃ la, A.length = la := ⟨_, rfl⟩
  have HLA : Hid (A.length = la) := hla
  obtain ⟨lb, hlb⟩ : ∃ lb, B.length = lb := ⟨_, rfl⟩
  have HLB : Hid (B.length = lb) := hlb
  rw [hla] at hfa
  rw [hlb] at hfb
  clear hla hlb
  go_enter Try.func56, Try.ntmps56
  go_wp2_with fail
  refine (refSplit_val a A Ea la _ HSa.out hXa.out HLA.out).mono ?_
  rintro e w1 ⟨a1, b1, cap1, rfl, hS1, c1⟩
  go_wp2_with fail
  refine (refSplit_val b B Eb lb _ HSb.out hXb.out HLB.out).mono ?_
  rintro e w2 ⟨a2, b2, cap2, rfl, hS2, c2⟩
  have cc := bel_trans c1 c2
  have hS3 := hS1.below c2
  have HS2 : Hid (Sl w2 a2 b2 0 cap2 B) := hS2
  have HS1 : Hid (Sl w2 a1 b1 0 cap1 A) := hS3
  clear hS1 hS2 hS3 c1 c2
  by_cases hg : Ea = 0 ∧ Eb = 0 ∧ la ≤ lb
  · obtain ⟨rfl, rfl, hle⟩ := hg
    have HU2 : Hid (u = decide (B.take la = A)) := by have h := HU.out; rw [HLA.out] at h; exact h
    clear HU
    go_wp2
    go_loopw [9] (fun c wr => ∃ k q : Nat, k ≤ la ∧ c = .int .i64 k ∧ A.take k = B.take k ∧ wr = w2.drewN q) (fun c _ => la - (intOf c).toNat)
    case atStart => exact ⟨0, 0, by omega, rfl, by simp, rfl⟩
    case round =>
      obtain ⟨k, q, hk, rfl, hE, rfl⟩ := hrel
      have E : Hid (A.take k = B.take k) := hE
      clear hE
      by_cases hlt : k < la
      · have hks : k < A.length := by rw [HLA.out]; exact hlt
        have hkt : k < B.length := by rw [HLB.out]; omega
        have ha := HS1.out.strs.addr (by omega)
        have ha' := HS2.out.strs.addr (by omega)
        subst ha
        subst ha'
        have hc1 : ∀ m, (w2.drewN m).cell? ⟨b1, k, none⟩ = some (.string A[k]) := fun _ => by have h := HS1.out.strs.cell k hks; rw [Nat.zero_add] at h; exact h
        have hc2 : ∀ m, (w2.drewN m).cell? ⟨b2, k, none⟩ = some (.string B[k]) := fun _ => by have h := HS2.out.strs.cell k hkt; rw [Nat.zero_add] at h; exact h
        have hlt' : (k : Int) < (la : Int) := by omega
        have hlt2 : (k : Int) < (lb : Int) := by omega
        by_cases he : A[k] = B[k]
        · have E2 : Hid (A.take (k + 1) = B.take (k + 1)) := take_eq_step hks hkt E.out he
          clear E
          go_wp2
          refine wp_region_quiet_lit (by kernel_rfl) (by kernel_rfl) ?_
          repeat (first | go_big_quiet_step (fail) | quiet_step (fail))
          refine wpQuiet_nil ?_
          rintro _ ⟨nq, rfl⟩
          go_wp2
          go_roundw
          case rel => exact ⟨k + 1, q + nq, by omega, by go_num, E2.out, by simp [World.drewN]⟩
          case measure => simp [intOf]; omega
        · have HF : Hid (u = false) := by
            show _ = _
            rw [HU2.out, decide_eq_false_iff_not]
            intro e
            have h1 : A[k]? = B[k]? := by
              conv => lhs; rw [← e]
              rw [List.getElem?_take, if_pos hlt]
            rw [List.getElem?_eq_getElem hks, List.getElem?_eq_getElem hkt] at h1
            exact he (Option.some.inj h1)
          have hne : (A[k].toList == B[k].toList) = false := by
            rw [beq_eq_false_iff_ne, Lib.toList_data, Lib.toList_data]
            exact fun e => he (ba_inj e)
          clear E
          go_wp2
          refine wp_region_quiet_lit (by kernel_rfl) (by kernel_rfl) ?_
          repeat (first | go_big_quiet_step (fail) | quiet_step (fail))
          refine wpQuiet_nil ?_
          rintro _ ⟨nq, rfl⟩
          go_wp2
          go_ret
          refine ⟨by rw [HF.out]; rfl, ?_⟩
          have := bel_trans cc (bel_trans (bel_drewN w2 q) (bel_drewN (w2.drewN q) nq))
          simpa using this
      · have HT2 : Hid (u = true) := by
          show _ = _
          rw [HU2.out, decide_eq_true_eq]
          have h := E.out
          have hkl : k = la := by omega
          rw [hkl, List.take_of_length_le (by have := HLA.out; omega)] at h
          exact h.symm
        go_wp2
        go_ret
        exact ⟨by rw [HT2.out]; rfl, bel_trans cc (bel_drewN _ _)⟩
  · have HF : Hid (u = false) := by
      show _ = _
      rw [HU.out, Bool.eq_false_iff]
      intro e
      simp only [Bool.and_eq_true, decide_eq_true_eq] at e
      refine hg ⟨e.1.1, e.1.2, ?_⟩
      have h := congrArg List.length e.2
      rw [List.length_take, HLA.out, HLB.out] at h
      omega
    have HG : Hid _ := hg
    clear hg HU
    go_wp2
    all_goals (first
      | (go_ret; exact ⟨by rw [HF.out]; rfl, cc⟩)
      | exact (HG.out ⟨by assumption, by assumption, by omega⟩).elim)

set_option maxRecDepth 100000 in
set_option maxHeartbeats 1000000 in
theorem refMove_val (p f t T : ByteArray) (E : Int) (w : World) (hs : p.size ≤ maxLen) (hs2 : f.size ≤ maxLen) (hs3 : t.size ≤ maxLen) (hX : moveX p f t = (T, E)) :
    Calls Try.prog 61 #[.string p, .string f, .string t] w fun e w' => e = .returned (.tuple #[.string T, .int .i64 E]) ∧ Below w.heap.size w w' := by
  obtain ⟨i0, hi, hz0, hz1, hz2⟩ := info_parts Try.infoStr
  have HS1 : Hid (p.size ≤ maxLen) := hs
  have HS2 : Hid (f.size ≤ maxLen) := hs2
  have HS3 : Hid (t.size ≤ maxLen) := hs3
  have HXf : Hid (splitX f = (splitN f, splitE f)) := splitX_pair f
  have HXp : Hid (splitX p = (splitN p, splitE p)) := splitX_pair p
  have HXt : Hid (splitX t = (splitN t, splitE t)) := splitX_pair t
  have hff : (splitN f).length ≤ 6 := split_few
  have hfp : (splitN p).length ≤ 6 := split_few
  have hft : (splitN t).length ≤ 6 := split_few
  have HMV : Hid (moveX p f t = (T, E)) := hX
  clear hs hs2 hs3 hX
  by_cases hg : underB f p = true ∧ splitE t = 0
  · obtain ⟨hu, ht⟩ := hg
    have hJ := HMV.out
    rw [moveX_yes hu ht, below_yes hu] at hJ
    have HJ : Hid (joinX (splitN t ++ (splitN p).drop (splitN f).length) = (T, E)) := hJ
    have HPre : Hid ((splitN f).length ≤ (splitN p).length) := by
      obtain ⟨_, _, h⟩ := underB_iff.1 hu
      exact h.length_le
    have HU : Hid (underB f p = true) := hu
    rw [ht] at HXt
    clear hJ HMV hu ht
    generalize splitE f = Ef at *
    generalize splitE p = Ep at *
    generalize splitN f = F at *
    generalize splitN p = P at *
    generalize splitN t = N at *
    obtain ⟨lf, hlf⟩ : ∃ lf, F.length = lf := ⟨_, rfl⟩
    have HLF : Hid (F.length = lf) := hlf
    have hpre := HPre.out
    obtain ⟨d, hd⟩ : ∃ d, P.length = lf + d := ⟨P.length - lf, by omega⟩
    have HLP : Hid (P.length = lf + d) := hd
    obtain ⟨m, hm⟩ : ∃ m, N.length = m := ⟨_, rfl⟩
    have HLN : Hid (N.length = m) := hm
    have HJ2 : Hid (joinX (N ++ P.drop lf) = (T, E)) := by have h := HJ.out; rw [HLF.out] at h; exact h
    rw [hlf] at hff
    rw [hd] at hfp
    rw [hm] at hft
    have hLd : (P.drop lf).length = d := by rw [List.length_drop, HLP.out]; omega
    have HLd : Hid ((P.drop lf).length = d) := hLd
    clear hpre HPre HJ hlf hd hm hLd
    go_enter Try.func61, Try.ntmps61
    go_wp2_with fail
    refine (refUnder_val f p true _ HS2.out HS1.out HU.out).mono ?_
    rintro e w0 ⟨rfl, c0⟩
    go_wp2_with fail
    refine (refSplit_val f F Ef lf _ HS2.out HXf.out HLF.out).mono ?_
    rintro e w1 ⟨a1, b1, cap1, rfl, hS1, c1⟩
    go_wp2_with fail
    refine (refSplit_val p P Ep (lf + d) _ HS1.out HXp.out HLP.out).mono ?_
    rintro e w2 ⟨a2, b2, cap2, rfl, hS2, c2⟩
    go_wp2_with fail
    refine (refSplit_val t N 0 m _ HS3.out HXt.out HLN.out).mono ?_
    rintro e w3 ⟨a3, b3, cap3, rfl, hS3, c3⟩
    have cc := bel_trans (bel_trans c0 c1) (bel_trans c2 c3)
    have hS4 := hS2.below c3
    have hroom := hS4.room
    have hlid := hS4.lid
    rw [HLP.out] at hroom
    unfold maxLen at hlid
    have HP : Hid (Sl w3 a2 b2 0 cap2 P) := hS4
    have HN : Hid (Sl w3 a3 b3 0 cap3 N) := hS3
    clear hS1 hS2 hS3 hS4 c0 c1 c2 c3
    rcases HP.out.at2 with h | h
    · subst h
      have h0 := HP.out.nil rfl
      subst h0
      have hla0 : lf = 0 := by omega
      have hd0 : d = 0 := by omega
      subst hla0 hd0
      have HSd : Hid (Sl w3 none 0 0 0 (P.drop 0)) := by show Sl _ _ _ _ _ _; rw [show P.drop 0 = [] from List.drop_of_length_le (by rw [HLP.out]; omega)]; exact sl_nil _
      go_wp2_with (first
        | (at_builtin; refine wpList_append_strs _ rfl (.tmp 40) (.tmp 41) 27 rfl w3.heap.size 9 i0 Try.underlying27 hi hz0 hz1 hz2 _ 0 [] rfl (World.ownsRow_nil _ _ _ _) a3 b3 0 cap3 N m HLN.out rfl HN.out.strs HN.out.nil (by omega) (Nat.le_refl _) ?_; intro v4 w4 o4 g4)
        | (at_builtin; refine wpList_append_strs _ rfl (.tmp 43) (.tmp 47) 27 rfl w3.heap.size 9 i0 Try.underlying27 hi hz0 hz1 hz2 _ _ _ rfl o4 (none) 0 0 (0) (P.drop 0) 0 HLd.out rfl (HSd.out.below (app_bel g4)).strs (HSd.out.below (app_bel g4)).nil (by omega) g4.size ?_; intro v5 w5 o5 g5))
      obtain ⟨a5, b5, cap5, rfl, hS5⟩ := cat_use o5 HLN.out HLd.out (by omega) (by omega) HN.out.strs.small HSd.out.strs.small
      have cc5 := bel_trans cc (app_bel2 g4 o4 g5)
      clear o4 g4 o5 g5
      go_wp2_with (go_at_call 66; refine (refJoin_val a5 b5 0 cap5 (N ++ P.drop 0) (m + 0) T E _ hS5.strs (by rw [List.length_append, HLN.out, HLd.out]) HJ2.out).mono ?_; rintro e w6 ⟨rfl, c6⟩)
      go_ret2
      exact ⟨rfl, bel_trans cc5 c6⟩
    · subst h
      by_cases hcl : cap2 = lf
      · subst hcl
        have hd0 : d = 0 := by omega
        subst hd0
        have HSd : Hid (Sl w3 (some ⟨b2, 0, none⟩) b2 0 0 (P.drop cap2)) := HP.out.drop0 cap2 rfl
        go_wp2_with (first
          | (at_builtin; refine wpList_append_strs _ rfl (.tmp 40) (.tmp 41) 27 rfl w3.heap.size 9 i0 Try.underlying27 hi hz0 hz1 hz2 _ 0 [] rfl (World.ownsRow_nil _ _ _ _) a3 b3 0 cap3 N m HLN.out rfl HN.out.strs HN.out.nil (by omega) (Nat.le_refl _) ?_; intro v4 w4 o4 g4)
          | (at_builtin; refine wpList_append_strs _ rfl (.tmp 43) (.tmp 47) 27 rfl w3.heap.size 9 i0 Try.underlying27 hi hz0 hz1 hz2 _ _ _ rfl o4 ((some ⟨b2, 0, none⟩)) b2 0 (0) (P.drop cap2) 0 HLd.out rfl (HSd.out.below (app_bel g4)).strs (HSd.out.below (app_bel g4)).nil (by omega) g4.size ?_; intro v5 w5 o5 g5))
        obtain ⟨a5, b5, cap5, rfl, hS5⟩ := cat_use o5 HLN.out HLd.out (by omega) (by omega) HN.out.strs.small HSd.out.strs.small
        have cc5 := bel_trans cc (app_bel2 g4 o4 g5)
        clear o4 g4 o5 g5
        go_wp2_with (go_at_call 66; refine (refJoin_val a5 b5 0 cap5 (N ++ P.drop cap2) (m + 0) T E _ hS5.strs (by rw [List.length_append, HLN.out, HLd.out]) HJ2.out).mono ?_; rintro e w6 ⟨rfl, c6⟩)
        go_ret2
        exact ⟨rfl, bel_trans cc5 c6⟩
      · have HSd : Hid (Sl w3 (some ⟨b2, lf, none⟩) b2 lf (cap2 - lf) (P.drop lf)) := by have h := HP.out.drop1 lf (by rw [HLP.out]; omega); rw [Nat.zero_add] at h; exact h
        go_wp2_with (first
          | (at_builtin; refine wpList_append_strs _ rfl (.tmp 40) (.tmp 41) 27 rfl w3.heap.size 9 i0 Try.underlying27 hi hz0 hz1 hz2 _ 0 [] rfl (World.ownsRow_nil _ _ _ _) a3 b3 0 cap3 N m HLN.out rfl HN.out.strs HN.out.nil (by omega) (Nat.le_refl _) ?_; intro v4 w4 o4 g4)
          | (at_builtin; refine wpList_append_strs _ rfl (.tmp 43) (.tmp 47) 27 rfl w3.heap.size 9 i0 Try.underlying27 hi hz0 hz1 hz2 _ _ _ rfl o4 ((some ⟨b2, lf, none⟩)) b2 lf ((cap2 - lf)) (P.drop lf) d HLd.out rfl (HSd.out.below (app_bel g4)).strs (HSd.out.below (app_bel g4)).nil (by omega) g4.size ?_; intro v5 w5 o5 g5))
        obtain ⟨a5, b5, cap5, rfl, hS5⟩ := cat_use o5 HLN.out HLd.out (by omega) (by omega) HN.out.strs.small HSd.out.strs.small
        have cc5 := bel_trans cc (app_bel2 g4 o4 g5)
        clear o4 g4 o5 g5
        go_wp2_with (go_at_call 66; refine (refJoin_val a5 b5 0 cap5 (N ++ P.drop lf) (m + d) T E _ hS5.strs (by rw [List.length_append, HLN.out, HLd.out]) HJ2.out).mono ?_; rintro e w6 ⟨rfl, c6⟩)
        go_ret2
        exact ⟨rfl, bel_trans cc5 c6⟩
  · have he := HMV.out
    rw [moveX_no hg] at he
    cases he
    have HG : Hid (¬ (underB f p = true ∧ splitE t = 0)) := hg
    clear HMV hg
    obtain ⟨u, hu⟩ : ∃ u, underB f p = u := ⟨_, rfl⟩
    have HU : Hid (underB f p = u) := hu
    rw [hu] at HG
    generalize splitE f = Ef at *
    generalize splitE p = Ep at *
    generalize splitE t = Et at *
    generalize splitN f = F at *
    generalize splitN p = P at *
    generalize splitN t = N at *
    obtain ⟨lf, hlf⟩ : ∃ lf, F.length = lf := ⟨_, rfl⟩
    have HLF : Hid (F.length = lf) := hlf
    obtain ⟨lp, hd⟩ : ∃ lp, P.length = lp := ⟨_, rfl⟩
    have HLP : Hid (P.length = lp) := hd
    obtain ⟨m, hm⟩ : ∃ m, N.length = m := ⟨_, rfl⟩
    have HLN : Hid (N.length = m) := hm
    clear hlf hd hm hff hfp hft hu
    go_enter Try.func61, Try.ntmps61
    go_wp2_with fail
    refine (refUnder_val f p u _ HS2.out HS1.out HU.out).mono ?_
    rintro e w0 ⟨rfl, c0⟩
    go_wp2_with fail
    refine (refSplit_val f F Ef lf _ HS2.out HXf.out HLF.out).mono ?_
    rintro e w1 ⟨a1, b1, cap1, rfl, hS1, c1⟩
    go_wp2_with fail
    refine (refSplit_val p P Ep lp _ HS1.out HXp.out HLP.out).mono ?_
    rintro e w2 ⟨a2, b2, cap2, rfl, hS2, c2⟩
    go_wp2_with fail
    refine (refSplit_val t N Et m _ HS3.out HXt.out HLN.out).mono ?_
    rintro e w3 ⟨a3, b3, cap3, rfl, hS3, c3⟩
    have cc := bel_trans (bel_trans c0 c1) (bel_trans c2 c3)
    clear hS1 hS2 hS3 c0 c1 c2 c3
    cases u with
    | false =>
      go_wp2
      go_ret2
      exact ⟨rfl, cc⟩
    | true =>
      have hE : Et ≠ 0 := fun h => HG.out ⟨rfl, h⟩
      go_wp2
      go_ret2
      exact ⟨rfl, cc⟩

end Go.Proofs.Ytdcmhbodjmajcaa
