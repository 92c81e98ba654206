/- The contract of ref12.Decode. -/
import Derived.Test.YtigomhilcnnjdaaGreatCImageRz
import Derived.Test.YtigomhilcnnjdaaGreatB40
import Derived.Test.YtigomhilcnnjdaaGreatB35
namespace Go.Proofs.YtigomhilcnnjdaaGreat.Img
open Go.RowKit Go.Proofs.YtigomhilcnnjdaaGreat Go.Proofs.YtigomhilcnnjdaaGreat.Smm
open Go.Proofs.YtigomhilcnnjdaaGreat.Spa (Sp RtS zeroS newS spV SpIn SpC put6 put6_at put6_def noS bel_put6)
open Go.Proofs.YtigomhilcnnjdaaGreat.Lea (LS Ls LL LO)
open Go.Proofs.YtigomhilcnnjdaaGreat.Edi (bel_tr bel_al bel_cell bel_drew)
open Go.Proofs.YtigomhilcnnjdaaGreat.Wir (app_size app_list size_list)
open Go.WideShapes (bytes_inj)

theorem refRead_any {a : Option Addr} {b n c : Nat} {ps : List ByteArray} {w : World} (h : Strs w a b 0 ps) (hn : ps.length = n) (hc : n ≤ c) (hcm : c ≤ maxLen) (hk : n ≤ 900000000) (hS : Small ps) :
    Calls Tryz.prog 14 #[.slice a n c] w fun e w' => RRead w.heap.size ps e w' ∧ Below w.heap.size w w' := by
  cases ps with
  | nil =>
    obtain rfl : n = 0 := by rw [← hn]; rfl
    exact refRead_none
  | cons p qs =>
    obtain ⟨m, rfl⟩ : ∃ m, n = 1 + m := ⟨n - 1, by rw [List.length_cons] at hn; omega⟩
    obtain ⟨d, rfl⟩ : ∃ d, c = 1 + d := ⟨c - 1, by omega⟩
    obtain rfl := h.addr (by simp)
    exact refRead_some h (by rw [List.length_cons] at hn; omega) (by omega) hcm (by omega) hS

set_option maxRecDepth 100000 in
set_option maxHeartbeats 4000000 in
theorem refDecode_bad {b : ByteArray} {w : World} {ps : List ByteArray} {r : ByteArray} {E : Nat} (hb : b.size ≤ 4000000000) (hS : Small ps) (hbd : BadAt r E) (hj : b = joinP ps ++ r) :
    Calls Tryz.prog 6 #[.string b] w fun e w' => DecR w.heap.size zeroS (E : Int) e w' ∧ Below w.heap.size w w' := by
  have hne := hbd.ne
  have hcnt := parts_many ps
  have hl : (joinL ps).length ≤ b.size := by rw [hj, app_size]; unfold joinP; rw [mk_sz2]; omega
  have CO : Hid (∀ W, Calls Tryz.prog 13 #[.string b] W fun e w' => OpenedR [] E e w' ∧ Below W.heap.size W w') := fun W => by
    have h := refParts_val (r := r) hS b hj W (by unfold maxLen; omega) (by omega) E (.inr hbd)
    rw [if_neg hne] at h
    exact h
  have HI : Hid (∀ W, DecR w.heap.size zeroS (E : Int) (.returned (.tuple #[spV zeroS noS noS, .int .i64 (E : Int)])) W) := fun W => ⟨noS, noS, rfl, spOwn_no _ W 0 0 0 0⟩
  have hneB : (E == 0) = false := by simpa using hne
  have hneI : ((E : Int) != 0) = true := by simp; omega
  clear hj hcnt hl hb hS hbd
  have hst2 : ∀ (w : World) (a : Addr) (x : Option Addr) (n c : Nat) (m : Mode), (store a (.slice x n c) m).run Tryz.prog w = stored Tryz.prog w a (.slice x n c) m := fun w a x n c m => run_store_any w a _ m rfl
  go_enter Tryz.func6, Tryz.ntmps6
  go_wp2_with fail
  refine (CO.out _).mono ?_
  rintro e w1 ⟨⟨a1, b1, n1, c1, rfl, _, _, _, _⟩, bb⟩
  have RB := (SpC.new w 26 zeroS noS noS).below bb
  have B1 : Hid (Below w.heap.size w w1) := bel_tr (bel_al _ _) bb
  have HP : Hid (SpC (Spa.put6 w1 w.heap.size zeroS noS noS) w.heap.size zeroS noS noS ∧ Below w.heap.size w (Spa.put6 w1 w.heap.size zeroS noS noS)) := ⟨(put6_at RB _ _ _).1, bel_put6 B1.out RB (Nat.le_refl _) _ _ _⟩
  rw [put6_def] at HP
  unfold noS zeroS at HP
  simp only at HP
  obtain ⟨r0, r1, r2, r3, r4, r5, rf⟩ := RB
  simp only [zeroS, noS] at r0 r1 r2 r3 r4 r5
  clear bb CO
  go_wp2
  obtain ⟨q0, q1, q2, q3, q4, q5, _⟩ := HP.out.1
  refine bodyPost_ret (v := .tuple #[spV zeroS noS noS, .int .i64 (E : Int)]) ?_ rfl ⟨HI.out _, HP.out.2⟩
  unfold spV noS zeroS
  simp only [results, Tryz.results6]
  simp [go_sem, q0, q1, q2, q3, q4, q5]

set_option maxRecDepth 100000 in
set_option maxHeartbeats 4000000 in
theorem refDecode_ok {b : ByteArray} {w : World} {ps : List ByteArray} (hb : b.size ≤ 4000000000) (hS : Small ps) (hj : b = joinP ps) (s : Sp) (E : Int) (hD : (E = 0 ∧ RtS s ∧ ps = partsS s) ∨ (E = 2 ∧ s = zeroS ∧ ∀ t, RtS t → ps ≠ partsS t)) :
    Calls Tryz.prog 6 #[.string b] w fun e w' => DecR w.heap.size s E e w' ∧ Below w.heap.size w w' := by
  have hcnt := parts_many ps
  have hl : (joinL ps).length ≤ b.size := by rw [hj]; unfold joinP; rw [mk_sz2]; omega
  have CO : Hid (∀ W, Calls Tryz.prog 13 #[.string b] W fun e w' => OpenedR ps 0 e w' ∧ Below W.heap.size W w') := fun W => by
    have h := refParts_val (r := ⟨#[]⟩) hS b (by rw [hj]; unfold restP; exact bytes_inj (by rw [app_list]; simp)) W (by unfold maxLen; omega) (by omega) 0 (.inl ⟨rfl, rfl⟩)
    rw [if_pos rfl] at h
    exact h
  have hk : ps.length ≤ 900000000 := by omega
  have HD : Hid ((E = 0 ∧ RtS s ∧ ps = partsS s) ∨ (E = 2 ∧ s = zeroS ∧ ∀ t, RtS t → ps ≠ partsS t)) := hD
  have HI : Hid (∀ W, DecR w.heap.size zeroS 2 (.returned (.tuple #[spV zeroS noS noS, .int .i64 2])) W) := fun W => ⟨noS, noS, rfl, spOwn_no _ W 0 0 0 0⟩
  have HJ : Hid (b = joinP ps) := hj
  have HSS : Hid (Small ps) := hS
  clear hj hcnt hl hb hS hD
  have hst2 : ∀ (w : World) (a : Addr) (x : Option Addr) (n c : Nat) (m : Mode), (store a (.slice x n c) m).run Tryz.prog w = stored Tryz.prog w a (.slice x n c) m := fun w a x n c m => run_store_any w a _ m rfl
  go_enter Tryz.func6, Tryz.ntmps6
  go_wp2_with fail
  refine (CO.out _).mono ?_
  rintro e w1 ⟨⟨a1, b1, n1, c1, rfl, hn1, hnc, hcm, hst⟩, bb⟩
  have R1 : Hid (SpC w1 w.heap.size zeroS noS noS) := (SpC.new w 26 zeroS noS noS).below bb
  have B1 : Hid (Below w.heap.size w w1) := bel_tr (bel_al _ _) bb
  have hw1 : w.heap.size < w1.heap.size := by have := bb.size; simp at this; omega
  have CRd : Hid (Calls Tryz.prog 14 #[.slice a1 n1 c1] w1 fun e w' => RRead w1.heap.size ps e w' ∧ Below w1.heap.size w1 w') := refRead_any hst hn1 hnc hcm (by omega) HSS.out
  clear bb CO hst hnc hcm
  go_wp2_with fail
  refine CRd.out.mono ?_
  rintro e w2 ⟨⟨t, N, L, v, rfl, hin, hy⟩, b2⟩
  have IN2 : Hid (SpOwn w1.heap.size w2 t N L) := hin
  have R2 : Hid (SpC w2 w.heap.size zeroS noS noS) := R1.out.below b2
  have B2 : Hid (Below w.heap.size w w2) := bel_tr B1.out b2
  have hw2 : w.heap.size < w2.heap.size := by have := b2.size; omega
  have HY : Hid (∀ u, FitS u → ps = partsS u → v = true ∧ t = u) := hy
  clear hin b2 hy CRd R1 B1
  have HEY : Hid (∀ W, Below w2.heap.size w2 W → RtS t → Calls Tryz.prog 15 #[spV t N L] W fun e w' => e = .returned (.tuple #[.string (encI t), .bool true]) ∧ Below W.heap.size W w') := fun W hb hR => refEncode_yes (IN2.out.spIn.below hb) hR _ rfl
  have HEN : Hid (∀ W, Below w2.heap.size w2 W → ¬ RtS t → Calls Tryz.prog 15 #[spV t N L] W fun e w' => e = .returned (.tuple #[.string ⟨#[]⟩, .bool false]) ∧ Below W.heap.size W w') := fun W hb hR => refEncode_no (IN2.out.spIn.below hb) hR
  have QBX : Hid (∀ ty : TypeId, SpC (w2.alloc (.cells #[.int .i64 t.tx, .int .i64 t.nb, .int .i64 t.ng, .int .i64 t.now, .slice N.a N.n N.c, .slice L.a L.n L.c] ty)) w2.heap.size t N L) := fun ty => SpC.new w2 ty t N L
  obtain ⟨tx, nb, ng, now, tns, tls⟩ := t
  obtain ⟨Na, Nn, Nc⟩ := N
  obtain ⟨La, Ln, Lc⟩ := L
  unfold spV at HEY HEN ⊢
  simp only at HEY HEN QBX ⊢
  have R3 : Hid (∀ o, SpC (w2.alloc o) w.heap.size zeroS noS noS) := fun o => R2.out.below (bel_al _ _)
  have HFO : Hid (∀ W, SpC W w.heap.size zeroS noS noS → Below w.heap.size w W → SpC (Spa.put6 W w.heap.size zeroS noS noS) w.heap.size zeroS noS noS ∧ Below w.heap.size w (Spa.put6 W w.heap.size zeroS noS noS)) := fun W h1 h2 => ⟨(put6_at h1 _ _ _).1, bel_put6 h2 h1 (Nat.le_refl _) _ _ _⟩
  cases v with
  | false =>
    have HE : Hid (E = 2 ∧ s = zeroS) := by
      rcases HD.out with ⟨_, h2, h3⟩ | ⟨h1, h2, _⟩
      · have h9 := (HY.out s (rts_fit h2) h3).1
        cases h9
      · exact ⟨h1, h2⟩
    obtain ⟨rfl, rfl⟩ := HE.out
    clear HE HY HD HEY HEN HJ
    obtain ⟨r0, r1, r2, r3, r4, r5, rf⟩ := R3.out (.cells #[.int .i64 tx, .int .i64 nb, .int .i64 ng, .int .i64 now, .slice Na Nn Nc, .slice La Ln Lc] 26)
    have HP : Hid _ := HFO.out _ (R3.out (.cells #[.int .i64 tx, .int .i64 nb, .int .i64 ng, .int .i64 now, .slice Na Nn Nc, .slice La Ln Lc] 26)) (bel_tr B2.out (bel_al _ _))
    rw [put6_def] at HP
    unfold noS zeroS at HP
    simp only at HP
    simp only [zeroS, noS] at r0 r1 r2 r3 r4 r5
    go_upto_region 5 with fail
    generalize w2.alloc (.cells #[.int .i64 tx, .int .i64 nb, .int .i64 ng, .int .i64 now, .slice Na Nn Nc, .slice La Ln Lc] 26) = W3 at *
    go_wp2
    obtain ⟨q0, q1, q2, q3, q4, q5, _⟩ := HP.out.1
    refine bodyPost_ret (v := .tuple #[.agg #[.int .i64 0, .int .i64 0, .int .i64 0, .int .i64 0, .slice none 0 0, .slice none 0 0], .int .i64 2]) ?_ rfl ⟨HI.out _, HP.out.2⟩
    simp only [results, Tryz.results6]
    simp [go_sem, q0, q1, q2, q3, q4, q5]
  | true =>
    have Q3 : Hid (SpC (w2.alloc (.cells #[.int .i64 tx, .int .i64 nb, .int .i64 ng, .int .i64 now, .slice Na Nn Nc, .slice La Ln Lc] 26)) w2.heap.size ⟨tx, nb, ng, now, tns, tls⟩ ⟨Na, Nn, Nc⟩ ⟨La, Ln, Lc⟩) := QBX.out _
    have R3b : Hid (SpC (w2.alloc (.cells #[.int .i64 tx, .int .i64 nb, .int .i64 ng, .int .i64 now, .slice Na Nn Nc, .slice La Ln Lc] 26)) w.heap.size zeroS noS noS) := R3.out _
    have B3 : Hid (Below w2.heap.size w2 (w2.alloc (.cells #[.int .i64 tx, .int .i64 nb, .int .i64 ng, .int .i64 now, .slice Na Nn Nc, .slice La Ln Lc] 26))) := bel_al _ _
    go_upto_region 5 with fail
    generalize w2.alloc (.cells #[.int .i64 tx, .int .i64 nb, .int .i64 ng, .int .i64 now, .slice Na Nn Nc, .slice La Ln Lc] 26) = W3 at *
    generalize hQQ : w2.heap.size = Q at *
    have B4 : Hid (Below w.heap.size w W3) := by
      have h := B3.out
      rw [← hQQ] at h
      exact bel_tr B2.out h
    have B3' : Hid (Below w2.heap.size w2 W3) := by rw [hQQ]; exact B3.out
    obtain ⟨y0, y1, y2, y3, y4, y5, yf⟩ := Q3.out
    simp only at y0 y1 y2 y3 y4 y5
    by_cases hR : RtS ⟨tx, nb, ng, now, tns, tls⟩
    · by_cases hJE : encI ⟨tx, nb, ng, now, tns, tls⟩ = b
      · have hps : ps = partsS ⟨tx, nb, ng, now, tns, tls⟩ := joinP_inj HSS.out (parts_small hR) (by rw [← HJ.out, ← hJE]; rfl)
        have HE : Hid (E = 0 ∧ s = ⟨tx, nb, ng, now, tns, tls⟩) := by
          rcases HD.out with ⟨h1, h2, h3⟩ | ⟨_, _, h3⟩
          · exact ⟨h1, (HY.out s (rts_fit h2) h3).2.symm⟩
          · exact (h3 _ hR hps).elim
        obtain ⟨rfl, rfl⟩ := HE.out
        have CR : Hid (Calls Tryz.prog 15 #[.agg #[.int .i64 tx, .int .i64 nb, .int .i64 ng, .int .i64 now, .slice Na Nn Nc, .slice La Ln Lc]] W3 fun e w' => e = .returned (.tuple #[.string b, .bool true]) ∧ Below W3.heap.size W3 w') := by rw [← hJE]; exact HEY.out W3 B3.out hR
        have hbb : (b.toList != b.toList) = false := by simp
        clear hps hJE hR
        clear HE HY HD HEY HEN HJ
        go_wp2_with fail
        refine CR.out.mono ?_
        rintro e w4 ⟨rfl, b4⟩
        have INN : Hid (SpOwn w1.heap.size w4 ⟨tx, nb, ng, now, tns, tls⟩ ⟨Na, Nn, Nc⟩ ⟨La, Ln, Lc⟩) := (IN2.out.below B3'.out).below b4
        have R4 : Hid (SpC w4 w.heap.size zeroS noS noS) := R3b.out.below b4
        obtain ⟨x0, x1, x2, x3, x4, x5, _⟩ := Q3.out.below b4
        simp only at x0 x1 x2 x3 x4 x5
        have B5 : Hid (Below w.heap.size w w4) := bel_tr B4.out b4
        have pR := put6_at R4.out ⟨tx, nb, ng, now, tns, tls⟩ ⟨Na, Nn, Nc⟩ ⟨La, Ln, Lc⟩
        have HP : Hid (SpC (Spa.put6 w4 w.heap.size ⟨tx, nb, ng, now, tns, tls⟩ ⟨Na, Nn, Nc⟩ ⟨La, Ln, Lc⟩) w.heap.size ⟨tx, nb, ng, now, tns, tls⟩ ⟨Na, Nn, Nc⟩ ⟨La, Ln, Lc⟩ ∧ Below w.heap.size w (Spa.put6 w4 w.heap.size ⟨tx, nb, ng, now, tns, tls⟩ ⟨Na, Nn, Nc⟩ ⟨La, Ln, Lc⟩) ∧ SpOwn w.heap.size (Spa.put6 w4 w.heap.size ⟨tx, nb, ng, now, tns, tls⟩ ⟨Na, Nn, Nc⟩ ⟨La, Ln, Lc⟩) ⟨tx, nb, ng, now, tns, tls⟩ ⟨Na, Nn, Nc⟩ ⟨La, Ln, Lc⟩) := ⟨pR.1, bel_put6 B5.out R4.out (Nat.le_refl _) _ _ _, (INN.out.keep pR.2 (fun k hk => by rw [hk]; exact hw1)).mono (Nat.le_of_lt hw1)⟩
        rw [put6_def] at HP
        simp only at HP
        obtain ⟨r0, r1, r2, r3, r4, r5, rf⟩ := R4.out
        simp only [zeroS, noS] at r0 r1 r2 r3 r4 r5
        clear pR b4 y0 y1 y2 y3 y4 y5 yf CR
        go_wp2
        obtain ⟨q0, q1, q2, q3, q4, q5, _⟩ := HP.out.1
        refine bodyPost_ret (v := .tuple #[spV ⟨tx, nb, ng, now, tns, tls⟩ ⟨Na, Nn, Nc⟩ ⟨La, Ln, Lc⟩, .int .i64 0]) ?_ rfl ⟨⟨⟨Na, Nn, Nc⟩, ⟨La, Ln, Lc⟩, rfl, HP.out.2.2⟩, HP.out.2.1⟩
        unfold spV
        simp only [results, Tryz.results6]
        simp [go_sem, q0, q1, q2, q3, q4, q5]
      · have HE : Hid (E = 2 ∧ s = zeroS) := by
          rcases HD.out with ⟨_, h2, h3⟩ | ⟨h1, h2, _⟩
          · have h9 := (HY.out s (rts_fit h2) h3).2
            exact absurd (by rw [h9, HJ.out, h3]; rfl) hJE
          · exact ⟨h1, h2⟩
        obtain ⟨rfl, rfl⟩ := HE.out
        obtain ⟨J, hJ⟩ : ∃ J, encI ⟨tx, nb, ng, now, tns, tls⟩ = J := ⟨_, rfl⟩
        rw [hJ] at hJE
        have CR : Hid (Calls Tryz.prog 15 #[.agg #[.int .i64 tx, .int .i64 nb, .int .i64 ng, .int .i64 now, .slice Na Nn Nc, .slice La Ln Lc]] W3 fun e w' => e = .returned (.tuple #[.string J, .bool true]) ∧ Below W3.heap.size W3 w') := by rw [← hJ]; exact HEY.out W3 B3.out hR
        have hbb : (J.toList != b.toList) = true := by
          rw [bne_iff_ne]
          intro e
          exact hJE (bytes_inj (by rw [ByteArray.toList_eq, ByteArray.toList_eq] at e; exact e))
        have hbc : (J.toList == b.toList) = false := by
          rw [beq_eq_false_iff_ne]
          intro e
          exact hJE (bytes_inj (by rw [ByteArray.toList_eq, ByteArray.toList_eq] at e; exact e))
        clear hJ hJE hR
        clear HE HY HD HEY HEN HJ
        go_wp2_with fail
        refine CR.out.mono ?_
        rintro e w4 ⟨rfl, b4⟩
        have R4 : Hid (SpC w4 w.heap.size zeroS noS noS) := R3b.out.below b4
        have HP : Hid _ := HFO.out _ R4.out (bel_tr B4.out b4)
        rw [put6_def] at HP
        unfold noS zeroS at HP
        simp only at HP
        obtain ⟨r0, r1, r2, r3, r4, r5, rf⟩ := R4.out
        simp only [zeroS, noS] at r0 r1 r2 r3 r4 r5
        clear b4 CR y0 y1 y2 y3 y4 y5 yf
        go_wp2
        obtain ⟨q0, q1, q2, q3, q4, q5, _⟩ := HP.out.1
        refine bodyPost_ret (v := .tuple #[.agg #[.int .i64 0, .int .i64 0, .int .i64 0, .int .i64 0, .slice none 0 0, .slice none 0 0], .int .i64 2]) ?_ rfl ⟨HI.out _, HP.out.2⟩
        simp only [results, Tryz.results6]
        simp [go_sem, q0, q1, q2, q3, q4, q5]
    · have HE : Hid (E = 2 ∧ s = zeroS) := by
        rcases HD.out with ⟨_, h2, h3⟩ | ⟨h1, h2, _⟩
        · exact absurd ((HY.out s (rts_fit h2) h3).2 ▸ h2) hR
        · exact ⟨h1, h2⟩
      obtain ⟨rfl, rfl⟩ := HE.out
      have CR : Hid (Calls Tryz.prog 15 #[.agg #[.int .i64 tx, .int .i64 nb, .int .i64 ng, .int .i64 now, .slice Na Nn Nc, .slice La Ln Lc]] W3 fun e w' => e = .returned (.tuple #[.string ⟨#[]⟩, .bool false]) ∧ Below W3.heap.size W3 w') := HEN.out W3 B3.out hR
      clear hR
      clear HE HY HD HEY HEN HJ
      go_wp2_with fail
      refine CR.out.mono ?_
      rintro e w4 ⟨rfl, b4⟩
      have R4 : Hid (SpC w4 w.heap.size zeroS noS noS) := R3b.out.below b4
      have HP : Hid _ := HFO.out _ R4.out (bel_tr B4.out b4)
      rw [put6_def] at HP
      unfold noS zeroS at HP
      simp only at HP
      obtain ⟨r0, r1, r2, r3, r4, r5, rf⟩ := R4.out
      simp only [zeroS, noS] at r0 r1 r2 r3 r4 r5
      clear b4 CR y0 y1 y2 y3 y4 y5 yf
      go_wp2
      obtain ⟨q0, q1, q2, q3, q4, q5, _⟩ := HP.out.1
      refine bodyPost_ret (v := .tuple #[.agg #[.int .i64 0, .int .i64 0, .int .i64 0, .int .i64 0, .slice none 0 0, .slice none 0 0], .int .i64 2]) ?_ rfl ⟨HI.out _, HP.out.2⟩
      simp only [results, Tryz.results6]
      simp [go_sem, q0, q1, q2, q3, q4, q5]

/-- By what the bytes are. -/
theorem refDecode_val {b : ByteArray} {w : World} (hb : b.size ≤ 4000000000) (s : Sp) (E : Int) (h : DecI b s E) :
    Calls Tryz.prog 6 #[.string b] w fun e w' => DecR w.heap.size s E e w' ∧ Below w.heap.size w w' := by
  cases h with
  | ok _ h1 h2 h3 => exact refDecode_ok hb h2 h3 s 0 (.inl ⟨rfl, h1, rfl⟩)
  | form ps h1 h2 h3 => exact refDecode_ok hb h1 h2 zeroS 2 (.inr ⟨rfl, rfl, h3⟩)
  | bad ps r e h1 h2 h3 => exact refDecode_bad hb h1 h2 h3

end Go.Proofs.YtigomhilcnnjdaaGreat.Img
