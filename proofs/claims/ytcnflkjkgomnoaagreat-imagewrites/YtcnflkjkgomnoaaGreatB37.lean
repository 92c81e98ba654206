/- Part 37 of the proof: ImageF3. -/
import Derived.Test.YtcnflkjkgomnoaaGreatB27
import Derived.Test.YtcnflkjkgomnoaaGreatB35
import Derived.Test.YtcnflkjkgomnoaaGreatB36
set_option maxRecDepth 100000
set_option maxHeartbeats 8000000
namespace Go.Proofs.YtcnflkjkgomnoaaGreat.Img
open Go.RowKit Go.Proofs.YtcnflkjkgomnoaaGreat Go.Proofs.YtcnflkjkgomnoaaGreat.Smm
open Go.Proofs.YtcnflkjkgomnoaaGreat.Spa (Sp RtS zeroS newS rootN spV SpIn rightS_val)
open Go.Proofs.YtcnflkjkgomnoaaGreat.Lea (LS Ls LL)
open Go.Proofs.YtcnflkjkgomnoaaGreat.Edi (numsB numsB_len numsB_take Nm BO bel_tr bel_al bel_cell)
open Go.Proofs.YtcnflkjkgomnoaaGreat.Wir (textB textB_data app_list app_size app_assoc size_list mk_size numB_len numB_prefix num_val text_yes)
open Go.WideShapes (bytes_inj)
theorem text_row {P : Program} (w : World) (src dst e : TypeId) (s : ByteArray) (hs : P.underlying src = some .string) (hd : P.underlying dst = some (.slice e)) (he : P.underlying e = some (.int .u8)) (hm : s.size ≤ maxLen) (base : Nat) (hb : base ≤ w.heap.size) :
    ∃ v w', (convert src dst (.string s)).run P w = .ok v w' ∧ ByteRow base w' v s.data.toList ∧ Below base w w' :=
  ⟨_, _, run_bytes_of_string w src dst e s hs hd he, ByteRow.made w e s hm base hb, ((Below.refl base w).drew).alloc hb _⟩
def upN (s : Sp) (i : Nat) : List UInt8 := joinL (headL (headZ s) :: (s.ns.take i).map nodeP)
def upL (s : Sp) (j : Nat) : List UInt8 := joinL (headL (headZ s) :: (s.ns.map nodeP ++ (s.ls.take j).map leaseP))
theorem upN_zero (s : Sp) : upN s 0 = (sealB (headL (headZ s))).data.toList := by simp [upN, joinL]
theorem upN_next (s : Sp) (i : Nat) (hi : i < s.ns.length) : upN s (i + 1) = upN s i ++ (sealB (nodeP s.ns[i])).data.toList := by
  unfold upN; rw [List.take_succ_eq_append_getElem hi, List.map_append, ← List.cons_append, joinL_app]
  simp [joinL]
theorem upN_all (s : Sp) : upN s s.ns.length = upL s 0 := by unfold upN upL; simp
theorem upL_next (s : Sp) (i : Nat) (hi : i < s.ls.length) : upL s (i + 1) = upL s i ++ (sealB (leaseP s.ls[i])).data.toList := by
  unfold upL; rw [List.take_succ_eq_append_getElem hi, List.map_append, ← List.append_assoc, ← List.cons_append, joinL_app]
  simp [joinL]
theorem upL_all (s : Sp) : mk (upL s s.ls.length) = encI s := by unfold upL encI joinP partsS; simp
theorem upN_len {s : Sp} (h : RtS s) (i : Nat) : (upN s i).length ≤ 260910 := by
  have hS := parts_small h
  have h1 := joinL_small (ps := headL (headZ s) :: (s.ns.take i).map nodeP) (k := 65) (fun p hp => hS p (by
    unfold partsS; rcases List.mem_cons.1 hp with rfl | hp
    · exact List.mem_cons_self ..
    · obtain ⟨x, hx, rfl⟩ := List.mem_map.1 hp
      exact List.mem_cons_of_mem _ (List.mem_append_left _ (List.mem_map.2 ⟨x, List.mem_of_mem_take hx, rfl⟩)))) (by
    have := h.tree.few
    simp only [List.length_cons, List.length_map, List.length_take]; omega)
  unfold upN; omega
theorem upL_len {s : Sp} (h : RtS s) (i : Nat) : (upL s i).length ≤ 260910 := by
  have hS := parts_small h
  have h1 := joinL_small (ps := headL (headZ s) :: (s.ns.map nodeP ++ (s.ls.take i).map leaseP)) (k := 65) (fun p hp => hS p (by
    unfold partsS; rcases List.mem_cons.1 hp with rfl | hp
    · exact List.mem_cons_self ..
    · rcases List.mem_append.1 hp with hp | hp
      · exact List.mem_cons_of_mem _ (List.mem_append_left _ hp)
      · obtain ⟨x, hx, rfl⟩ := List.mem_map.1 hp
        exact List.mem_cons_of_mem _ (List.mem_append_right _ (List.mem_map.2 ⟨x, List.mem_of_mem_take hx, rfl⟩)))) (by
    have := h.tree.few
    have := lease_few h
    simp only [List.length_cons, List.length_append, List.length_map, List.length_take]; omega)
  unfold upL; omega
theorem encode_no {s : Sp} {N L : RS} {w : World} (h : SpIn w s N L) (hR : ¬ RtS s) :
    Calls Tryz.prog 12 #[spV s N L] w fun e w' => e = .returned (.tuple #[.string ⟨#[]⟩, .int .i64 1]) ∧ Below w.heap.size w w' := by
  have CR : Hid (∀ W, Below w.heap.size w W → Calls Tryz.prog 22 #[spV s N L] W fun e w' => e = .returned (.bool false) ∧ Below W.heap.size W w') := fun W hb => rightS_val (h.below hb) false ⟨fun e => Bool.noConfusion e, fun e => absurd e hR⟩
  unfold spV at CR ⊢
  clear h hR; go_enter Tryz.func12, Tryz.ntmps12; go_wp2_with fail
  refine (CR.out _ (bel_al _ _)).mono ?_
  rintro e w1 ⟨rfl, b1⟩; go_wp2; go_ret2; exact ⟨rfl, bel_tr (bel_al _ _) b1⟩
theorem encode_yes {s : Sp} {N L : RS} {w : World} (h : SpIn w s N L) (hR : RtS s) (J : ByteArray) (hJ : encI s = J) :
    Calls Tryz.prog 12 #[spV s N L] w fun e w' => e = .returned (.tuple #[.string J, .int .i64 0]) ∧ Below w.heap.size w w' := by
  obtain ⟨i0, hi0, hz0, hz1, hz2⟩ := info_parts Wir.Tryz.infoByte
  have hfit := rts_fit hR
  have HFN : Hid (∀ x ∈ s.ns, FitX x ∧ (nodeP x).size ≤ 4000) := fun x hx => ⟨hfit.ns x hx, parts_small hR _ (by unfold partsS; exact List.mem_cons_of_mem _ (List.mem_append_left _ (List.mem_map.2 ⟨x, hx, rfl⟩)))⟩
  have HFL : Hid (∀ x ∈ s.ls, FitL x ∧ (leaseP x).size ≤ 4000) := fun x hx => ⟨hfit.ls x hx, parts_small hR _ (by unfold partsS; exact List.mem_cons_of_mem _ (List.mem_append_right _ (List.mem_map.2 ⟨x, hx, rfl⟩)))⟩
  have HUN : Hid (∀ i, (upN s i).length ≤ 260910) := upN_len hR
  have HUL : Hid (∀ i, (upL s i).length ≤ 260910) := upL_len hR
  have HXN : Hid (∀ i (hi : i < s.ns.length), upN s (i + 1) = upN s i ++ (sealB (nodeP s.ns[i])).data.toList) := upN_next s
  have HXL : Hid (∀ i (hi : i < s.ls.length), upL s (i + 1) = upL s i ++ (sealB (leaseP s.ls[i])).data.toList) := upL_next s
  have HEN : Hid (upN s s.ns.length = upL s 0) := upN_all s
  have HEL : Hid (mk (upL s s.ls.length) = J) := by rw [← hJ]; exact upL_all s
  obtain ⟨nb, noff, ps, hm, hl, hN⟩ := h.nl.ex
  have HM : Hid (ps.map (·.1) = s.ns) := hm
  have HN : Hid (Nds w N.a nb noff ps) := hN
  have HNL : Hid (ps.length = N.n) := by rw [← hl, ← hm, List.length_map]; exact rfl
  have HLL : Hid (LL w L.a L.n L.c s.ls) := h.ll
  have HLN : Hid (s.ls.length = L.n) := h.ll.len
  have HNN : Hid (s.ns.length = N.n) := hl
  have h60 : N.n ≤ 60 := by rw [← hl]; exact hR.tree.few
  have h4 : L.n ≤ 4 := by rw [← h.ll.len]; exact lease_few hR
  obtain ⟨H, hH⟩ : ∃ X, headL (headZ s) = X := ⟨_, rfl⟩
  obtain ⟨SH, hSH⟩ : ∃ X, sealB H = X := ⟨_, rfl⟩
  have hHs : H.size ≤ 4000 := by rw [← hH]; exact parts_small hR _ (List.mem_cons_self ..)
  have hSs : SH.size ≤ 5000 := by rw [← hSH]; have := sealB_le hHs; omega
  have HU0 : Hid (SH.data.toList = upN s 0) := by rw [upN_zero, hH, hSH]; exact rfl
  have CR : Hid (∀ W, Below w.heap.size w W → Calls Tryz.prog 22 #[spV s N L] W fun e w' => e = .returned (.bool true) ∧ Below W.heap.size W w') := fun W hb => rightS_val (h.below hb) true ⟨fun _ => hR, fun _ => rfl⟩
  have CH : Hid (∀ W, Calls Tryz.prog 27 #[spV s N L] W fun e w' => e = .returned (.string H) ∧ Below W.heap.size W w') := fun W => headPart_val H W hl h.ll.len hfit.hz hH
  have CS : Hid (∀ W, Calls Tryz.prog 26 #[.string H] W fun e w' => e = .returned (.string SH) ∧ Below W.heap.size W w') := fun W => sealed_val H SH W hHs hSH
  unfold spV at CR CH ⊢
  clear h hR hfit hm hl hN hH hSH hHs hJ; have hst := run_store_str
  have hst2 := sto2
  go_enter Tryz.func12, Tryz.ntmps12; go_wp2_with fail
  refine (CR.out _ (bel_al _ _)).mono ?_
  rintro e w1 ⟨rfl, b1⟩; have x0 := bel_cell b1 (World.cell?_alloc_new w _ _ 0)
  have x1 := bel_cell b1 (World.cell?_alloc_new w _ _ 1)
  have x2 := bel_cell b1 (World.cell?_alloc_new w _ _ 2)
  have x3 := bel_cell b1 (World.cell?_alloc_new w _ _ 3)
  have x4 := bel_cell b1 (World.cell?_alloc_new w _ _ 4)
  have x5 := bel_cell b1 (World.cell?_alloc_new w _ _ 5)
  have B1 : Hid (Below w.heap.size w w1) := bel_tr (bel_al _ _) b1
  have X4 : Hid _ := x4
  have X5 : Hid _ := x5
  clear b1 CR; go_wp2_with fail
  refine (CH.out _).mono ?_
  rintro e w2 ⟨rfl, b2⟩; clear x0 x1 x2 x3 x4 x5 CH; go_wp2_with fail
  refine (CS.out _).mono ?_
  rintro e w3 ⟨rfl, b3⟩; have b13 := bel_tr b2 b3
  clear CS b2 b3; obtain ⟨v0, w4, hcv, hrow0, hbel0⟩ := text_row (P := Tryz.prog) w3 9 64 5 SH Tryz.underlying9 Tryz.underlying64 Tryz.underlying5 (by unfold maxLen; omega) w1.heap.size b13.size
  have B4 : Hid (Below w1.heap.size w1 w4) := b13.trans hbel0
  have R4 : Hid (ByteRow w1.heap.size w4 v0 (upN s 0)) := by rw [← HU0.out]; exact hrow0
  have x4 := bel_cell B4.out X4.out
  clear b13 hrow0 hbel0 HU0 hSs; go_wp2_with fail
  clear hcv x4; go_loopw [4, 19] (fun v c wr => ∃ k : Nat, k ≤ N.n ∧ c = .int .i64 k ∧ ByteRow w1.heap.size wr v (upN s k) ∧ Below w1.heap.size w1 wr) (fun _ c _ => N.n - (intOf c).toNat)
  case atStart => exact ⟨0, by omega, rfl, R4.out, B4.out⟩
  case round =>
    obtain ⟨k, hk, rfl, hrow, hbel⟩ := hrel
    have HB : Hid (Below w1.heap.size w1 wr) := hbel
    have HRW : Hid (ByteRow w1.heap.size wr u4 (upN s k)) := hrow
    clear R4 B4 hrow; by_cases hlt : k < N.n
    · have hkp : k < ps.length := by rw [HNL.out]; exact hlt
      have hks : k < s.ns.length := by rw [HNN.out]; exact hlt
      have hxk : s.ns[k] = ps[k].1 := by
        have h1 : s.ns[k]? = some ps[k].1 := by rw [← HM.out, List.getElem?_map, List.getElem?_eq_getElem hkp]; rfl
        rw [List.getElem?_eq_getElem hks] at h1
        exact Option.some.inj h1
      have hN1 := (HN.out.below B1.out).below hbel
      have hadr := hN1.addr (by omega)
      have hc := hN1.cell k hkp
      have HOK : Hid (NdOk wr ps[k]) := hN1.ok _ (List.getElem_mem hkp)
      have hff := HFN.out s.ns[k] (List.getElem_mem hks)
      have hnx := HXN.out k hks
      have hul := HUN.out k
      rw [hxk] at hff hnx
      generalize ps[k] = u at *
      obtain ⟨⟨xp, xd, xq, xbs, xw⟩, ⟨xa, xn, xc⟩⟩ := u
      simp only at hff hnx
      obtain ⟨NP, hNP⟩ : ∃ X, nodeP ⟨xp, xd, xq, xbs, xw⟩ = X := ⟨_, rfl⟩
      obtain ⟨SN, hSN⟩ : ∃ X, sealB NP = X := ⟨_, rfl⟩
      rw [hNP, hSN] at hnx
      rw [hNP] at hff
      have hsn : SN.size ≤ 5000 := by rw [← hSN]; have := sealB_le hff.2; omega
      have hbnd : (upN s k).length + SN.size ≤ 140737488355328 := by omega
      have HNX : Hid (upN s (k + 1) = upN s k ++ SN.data.toList) := hnx
      have CN : Hid (∀ W, Below wr.heap.size wr W → Calls Tryz.prog 28 #[ndV (⟨xp, xd, xq, xbs, xw⟩, ⟨xa, xn, xc⟩)] W fun e w' => e = .returned (.string NP) ∧ Below W.heap.size W w') := fun W hb => nodePart_val _ NP W (HOK.out.below hb) hff.1 hNP
      have CS : Hid (∀ W, Calls Tryz.prog 26 #[.string NP] W fun e w' => e = .returned (.string SN) ∧ Below W.heap.size W w') := fun W => sealed_val NP SN W hff.2 hSN
      have c0 : wr.cell? ⟨nb, noff + k * 5, none⟩ = some (.string xp) := hc 0 _ rfl
      have c1 : wr.cell? ⟨nb, noff + k * 5 + 1, none⟩ = some (.bool xd) := hc 1 _ rfl
      have c2 : wr.cell? ⟨nb, noff + k * 5 + 2, none⟩ = some (.int .i64 xq) := hc 2 _ rfl
      have c3 : wr.cell? ⟨nb, noff + k * 5 + 3, none⟩ = some (.slice xa xn xc) := hc 3 _ rfl
      have c4 : wr.cell? ⟨nb, noff + k * 5 + 4, none⟩ = some (.int .i64 xw) := hc 4 _ rfl
      have c0a := cell_al c0
      have c1a := cell_al c1
      have c2a := cell_al c2
      have c3a := cell_al c3
      have c4a := cell_al c4
      unfold ndV at CN; simp only at CN
      obtain ⟨Na, Nn, Nc⟩ := N
      simp only at hadr
      subst hadr; clear hbel hc hff hnx hul hsn hNP hSN hxk hN1 hkp hks; go_wp2_with fail
      refine (CN.out _ (bel_al _ _)).mono ?_
      rintro e w5 ⟨rfl, b5⟩; have B5 : Hid (Below wr.heap.size wr w5) := bel_tr (bel_al _ _) b5
      clear b5 c0 c1 c2 c3 c4 c0a c1a c2a c3a c4a; go_wp2_with fail
      refine (CS.out _).mono ?_
      rintro e w6 ⟨rfl, b6⟩; have hrow3 := HRW.out.below (bel_tr B5.out b6)
      have hbel3 := bel_tr HB.out (bel_tr B5.out b6)
      have hsz3 := hbel3.size
      clear b6; go_wp2_with (at_builtin; refine wpList_append_bytes _ rfl _ _ 64 9 rfl 5 i0 Tryz.underlying64 Tryz.underlying9 hi0 hz0 hz1 hz2 w1.heap.size _ _ rfl hrow3 SN rfl hbnd hsz3 ?_)
      intro v' w7 hrow7 hbel7
      have hrow8 : ByteRow w1.heap.size w7 v' (upN s (k + 1)) := by rw [HNX.out]; exact hrow7
      have hbel8 := hbel3.trans hbel7
      clear hrow7 hbel7 hrow3 hbel3 hbnd; go_wp2; go_roundw
      case rel => exact ⟨k + 1, (by omega : k + 1 ≤ _), by go_num, hrow8, hbel8⟩
      case measure => simp [intOf]; omega
    · have hkl : k = N.n := by omega
      have hgd : decide (k < N.n) = false := decide_eq_false (by omega)
      have R5 : Hid (ByteRow w1.heap.size wr u4 (upL s 0)) := by
        have h1 := HRW.out
        rw [hkl, ← HNN.out, HEN.out] at h1
        exact h1
      have x5 := bel_cell hbel X5.out
      clear hbel hlt hkl; go_wp2; clear x5; go_loopw [4, 32] (fun v c wi => ∃ j : Nat, j ≤ L.n ∧ c = .int .i64 j ∧ ByteRow w1.heap.size wi v (upL s j) ∧ Below w1.heap.size w1 wi) (fun _ c _ => L.n - (intOf c).toNat)
      case atStart => exact ⟨0, by omega, rfl, R5.out, HB.out⟩
      case round =>
        rename World => wo; obtain ⟨j, hj, rfl, hrow, hbel⟩ := hrel
        have HB2 : Hid (Below w1.heap.size w1 wo) := hbel
        have HRW2 : Hid (ByteRow w1.heap.size wo u4 (upL s j)) := hrow
        clear R5 hrow; by_cases hlt : j < L.n
        · have hjs : j < s.ls.length := by rw [HLN.out]; exact hlt
          obtain ⟨lb, lo, hadr, hcs⟩ := ((HLL.out.below B1.out).below hbel).at (by omega)
          obtain ⟨c0, c1⟩ := hcs j hjs
          have hff := HFL.out s.ls[j] (List.getElem_mem hjs)
          have hnx := HXL.out j hjs
          have hul := HUL.out j
          generalize s.ls[j] = u at *
          obtain ⟨lc, lu⟩ := u
          simp only at c0 c1
          obtain ⟨NP, hNP⟩ : ∃ X, leaseP ⟨lc, lu⟩ = X := ⟨_, rfl⟩
          obtain ⟨SN, hSN⟩ : ∃ X, sealB NP = X := ⟨_, rfl⟩
          rw [hNP, hSN] at hnx
          rw [hNP] at hff
          have hsn : SN.size ≤ 5000 := by rw [← hSN]; have := sealB_le hff.2; omega
          have hbnd : (upL s j).length + SN.size ≤ 140737488355328 := by omega
          have HNX : Hid (upL s (j + 1) = upL s j ++ SN.data.toList) := hnx
          have CN : Hid (∀ W, Calls Tryz.prog 29 #[.agg #[.int .i64 lc, .int .i64 lu]] W fun e w' => e = .returned (.string NP) ∧ Below W.heap.size W w') := fun W => leasePart_val ⟨lc, lu⟩ NP W hff.1 hNP
          have CS : Hid (∀ W, Calls Tryz.prog 26 #[.string NP] W fun e w' => e = .returned (.string SN) ∧ Below W.heap.size W w') := fun W => sealed_val NP SN W hff.2 hSN
          have c0a := cell_al c0
          have c1a := cell_al c1
          obtain ⟨La, Ln, Lc⟩ := L
          simp only at hadr
          subst hadr; clear hbel hcs hff hnx hul hsn hNP hSN hjs; go_wp2_with fail
          refine (CN.out _).mono ?_
          rintro e w5 ⟨rfl, b5⟩; have B5 : Hid (Below wo.heap.size wo w5) := bel_tr (bel_al _ _) b5
          clear b5 c0 c1 c0a c1a; go_wp2_with fail
          refine (CS.out _).mono ?_
          rintro e w6 ⟨rfl, b6⟩; have hrow3 := HRW2.out.below (bel_tr B5.out b6)
          have hbel3 := bel_tr HB2.out (bel_tr B5.out b6)
          have hsz3 := hbel3.size
          clear b6; go_wp2_with (at_builtin; refine wpList_append_bytes _ rfl _ _ 64 9 rfl 5 i0 Tryz.underlying64 Tryz.underlying9 hi0 hz0 hz1 hz2 w1.heap.size _ _ rfl hrow3 SN rfl hbnd hsz3 ?_)
          intro v' w7 hrow7 hbel7
          have hrow8 : ByteRow w1.heap.size w7 v' (upL s (j + 1)) := by rw [HNX.out]; exact hrow7
          have hbel8 := hbel3.trans hbel7
          clear hrow7 hbel7 hrow3 hbel3 hbnd; go_wp2; go_roundw
          case rel => exact ⟨j + 1, (by omega : j + 1 ≤ _), by go_num, hrow8, hbel8⟩
          case measure => simp [intOf]; omega
        · have hjl : j = L.n := by omega
          have hgd2 : decide (j < L.n) = false := decide_eq_false (by omega)
          have hrow2 : ByteRow w1.heap.size wo u4 (upL s s.ls.length) := by
            have h1 := HRW2.out
            rw [hjl, ← HLN.out] at h1
            exact h1
          obtain ⟨g, cp, rfl, _, _, _, _, h6, _⟩ := hrow2.ex
          have hcv := run_convert_bytes_back (P := Tryz.prog) wo 64 9 5 ⟨g, 0, none⟩ cp (upL s s.ls.length) Tryz.underlying64 Tryz.underlying5 Tryz.underlying9 (fun j hj => by rw [Addr.add_lit, Nat.zero_add]; exact h6 j hj)
          have hcv2 : (convert 64 9 (.slice (some ⟨g, 0, none⟩) (upL s s.ls.length).length cp)).run Tryz.prog wo = .ok (.string J) wo := hcv.trans (by rw [← HEL.out]; rfl)
          clear hrow2 h6 hcv hlt hjl hbel; go_wp2; go_ret2; exact ⟨rfl, bel_tr B1.out HB2.out⟩
end Go.Proofs.YtcnflkjkgomnoaaGreat.Img
