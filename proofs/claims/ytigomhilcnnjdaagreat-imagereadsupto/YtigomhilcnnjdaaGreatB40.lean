/- Part 40 of the proof: ImageF3, ImageR2, ImageR3. -/
import Derived.Test.YtigomhilcnnjdaaGreatB28
import Derived.Test.YtigomhilcnnjdaaGreatB29
import Derived.Test.YtigomhilcnnjdaaGreatB38
import Derived.Test.YtigomhilcnnjdaaGreatB39
import Derived.Deep.RegionHeld3

/- The contract of image.Encode. -/
namespace Go.Proofs.YtigomhilcnnjdaaGreat.Img
open Go.RowKit Go.Proofs.YtigomhilcnnjdaaGreat Go.Proofs.YtigomhilcnnjdaaGreat.Smm
open Go.Proofs.YtigomhilcnnjdaaGreat.Spa (Sp RtS zeroS newS rootN spV SpIn rightS_val)
open Go.Proofs.YtigomhilcnnjdaaGreat.Lea (LS Ls LL)
open Go.Proofs.YtigomhilcnnjdaaGreat.Edi (numsB numsB_len numsB_take Nm BO bel_tr bel_al bel_cell)
open Go.Proofs.YtigomhilcnnjdaaGreat.Wir (textB textB_data app_list app_size app_assoc size_list mk_size numB_len numB_prefix num_val text_yes)
open Go.WideShapes (bytes_inj)

theorem text_row {P : Program} (w : World) (src dst e : TypeId) (s : ByteArray) (hs : P.underlying src = some .string) (hd : P.underlying dst = some (.slice e)) (he : P.underlying e = some (.int .u8)) (hm : s.size ≤ maxLen) (base : Nat) (hb : base ≤ w.heap.size) :
    ∃ v w', (convert src dst (.string s)).run P w = .ok v w' ∧ ByteRow base w' v s.data.toList ∧ Below base w w' :=
  ⟨_, _, run_bytes_of_string w src dst e s hs hd he, ByteRow.made w e s hm base hb, ((Below.refl base w).drew).alloc hb _⟩
def upN (s : Sp) (i : Nat) : List UInt8 := joinL (headL (headZ s) :: (s.ns.take i).map nodeP)
def upL (s : Sp) (j : Nat) : List UInt8 := joinL (headL (headZ s) :: (s.ns.map nodeP ++ (s.ls.take j).map leaseP))
theorem upN_zero (s : Sp) : upN s 0 = (sealB (headL (headZ s))).data.toList := by simp [upN, joinL]
theorem upN_next (s : Sp) (i : Nat) (hi : i < s.ns.length) : upN s (i + 1) = upN s i ++ (sealB (nodeP s.ns[i])).data.toList := by
  unfold upN
  rw [List.take_succ_eq_append_getElem hi, List.map_append, ← List.cons_append, joinL_app]
  simp [joinL]
theorem upN_all (s : Sp) : upN s s.ns.length = upL s 0 := by unfold upN upL; simp
theorem upL_next (s : Sp) (i : Nat) (hi : i < s.ls.length) : upL s (i + 1) = upL s i ++ (sealB (leaseP s.ls[i])).data.toList := by
  unfold upL
  rw [List.take_succ_eq_append_getElem hi, List.map_append, ← List.append_assoc, ← List.cons_append, joinL_app]
  simp [joinL]
theorem upL_all (s : Sp) : mk (upL s s.ls.length) = encI s := by unfold upL encI joinP partsS; simp
theorem upN_len {s : Sp} (h : RtS s) (i : Nat) : (upN s i).length ≤ 260910 := by
  have hS := parts_small h
  have h1 := joinL_small (ps := headL (headZ s) :: (s.ns.take i).map nodeP) (k := 65) (fun p hp => hS p (by
    unfold partsS
    rcases List.mem_cons.1 hp with rfl | hp
    · exact List.mem_cons_self ..
    · obtain ⟨x, hx, rfl⟩ := List.mem_map.1 hp
      exact List.mem_cons_of_mem _ (List.mem_append_left _ (List.mem_map.2 ⟨x, List.mem_of_mem_take hx, rfl⟩)))) (by
    have := h.tree.few
    simp only [List.length_cons, List.length_map, List.length_take]; omega)
  unfold upN; omega
theorem upL_len {s : Sp} (h : RtS s) (i : Nat) : (upL s i).length ≤ 260910 := by
  have hS := parts_small h
  have h1 := joinL_small (ps := headL (headZ s) :: (s.ns.map nodeP ++ (s.ls.take i).map leaseP)) (k := 65) (fun p hp => hS p (by
    unfold partsS
    rcases List.mem_cons.1 hp with rfl | hp
    · exact List.mem_cons_self ..
    · rcases List.mem_append.1 hp with hp | hp
      · exact List.mem_cons_of_mem _ (List.mem_append_left _ hp)
      · obtain ⟨x, hx, rfl⟩ := List.mem_map.1 hp
        exact List.mem_cons_of_mem _ (List.mem_append_right _ (List.mem_map.2 ⟨x, List.mem_of_mem_take hx, rfl⟩)))) (by
    have := h.tree.few
    have := lease_few h
    simp only [List.length_cons, List.length_append, List.length_map, List.length_take]; omega)
  unfold upL; omega

set_option maxRecDepth 100000 in
set_option maxHeartbeats 1000000 in
theorem encode_no {s : Sp} {N L : RS} {w : World} (h : SpIn w s N L) (hR : ¬ RtS s) :
    Calls Tryz.prog 8 #[spV s N L] w fun e w' => e = .returned (.tuple #[.string ⟨#[]⟩, .int .i64 1]) ∧ Below w.heap.size w w' := by
  have CR : Hid (∀ W, Below w.heap.size w W → Calls Tryz.prog 12 #[spV s N L] W fun e w' => e = .returned (.bool false) ∧ Below W.heap.size W w') := fun W hb => rightS_val (h.below hb) false ⟨fun e => Bool.noConfusion e, fun e => absurd e hR⟩
  unfold spV at CR ⊢
  clear h hR
  go_enter Tryz.func8, Tryz.ntmps8
  go_wp2_with fail
  refine (CR.out _ (bel_al _ _)).mono ?_
  rintro e w1 ⟨rfl, b1⟩
  go_wp2
  go_ret2
  exact ⟨rfl, bel_tr (bel_al _ _) b1⟩

set_option maxRecDepth 100000 in
set_option maxHeartbeats 4000000 in
theorem encode_yes {s : Sp} {N L : RS} {w : World} (h : SpIn w s N L) (hR : RtS s) (J : ByteArray) (hJ : encI s = J) :
    Calls Tryz.prog 8 #[spV s N L] w fun e w' => e = .returned (.tuple #[.string J, .int .i64 0]) ∧ Below w.heap.size w w' := by
  obtain ⟨i0, hi0, hz0, hz1, hz2⟩ := info_parts Wir.Tryz.infoByte
  have hfit := rts_fit hR
  have HFN : Hid (∀ x ∈ s.ns, FitX x ∧ (nodeP x).size ≤ 4000) := fun x hx => ⟨hfit.ns x hx, parts_small hR _ (by unfold partsS; exact List.mem_cons_of_mem _ (List.mem_append_left _ (List.mem_map.2 ⟨x, hx, rfl⟩)))⟩
  have HFL : Hid (∀ x ∈ s.ls, FitL x ∧ (leaseP x).size ≤ 4000) := fun x hx => ⟨hfit.ls x hx, parts_small hR _ (by unfold partsS; exact List.mem_cons_of_mem _ (List.mem_append_right _ (List.mem_map.2 ⟨x, hx, rfl⟩)))⟩
  have HUN : Hid (∀ i, (upN s i).length ≤ 260910) := upN_len hR
  have HUL : Hid (∀ i, (upL s i).length ≤ 260910) := upL_len hR
  have HXN : Hid (∀ i (hi : i < s.ns.length), upN s (i + 1) = upN s i ++ (sealB (nodeP s.ns[i])).data.toList) := upN_next s
  have HXL : Hid (∀ i (hi : i < s.ls.length), upL s (i + 1) = upL s i ++ (sealB (leaseP s.ls[i])).data.toList) := upL_next s
  have HEN : Hid (upN s s.ns.length = upL s 0) := upN_all s
  have HEL : Hid (mk (upL s s.ls.length) = J) := by rw [← hJ]; exact upL_all s
  obtain ⟨nb, noff, ps, hm, hl, hN⟩ := h.nl.ex
  have HM : Hid (ps.map (·.1) = s.ns) := hm
  have HN : Hid (Nds w N.a nb noff ps) := hN
  have HNL : Hid (ps.length = N.n) := by rw [← hl, ← hm, List.length_map]; exact rfl
  have HLL : Hid (LL w L.a L.n L.c s.ls) := h.ll
  have HLN : Hid (s.ls.length = L.n) := h.ll.len
  have HNN : Hid (s.ns.length = N.n) := hl
  have h60 : N.n ≤ 60 := by rw [← hl]; exact hR.tree.few
  have h4 : L.n ≤ 4 := by rw [← h.ll.len]; exact lease_few hR
  obtain ⟨H, hH⟩ : ∃ X, headL (headZ s) = X := ⟨_, rfl⟩
  obtain ⟨SH, hSH⟩ : ∃ X, sealB H = X := ⟨_, rfl⟩
  have hHs : H.size ≤ 4000 := by rw [← hH]; exact parts_small hR _ (List.mem_cons_self ..)
  have hSs : SH.size ≤ 5000 := by rw [← hSH]; have := sealB_le hHs; omega
  have HU0 : Hid (SH.data.toList = upN s 0) := by rw [upN_zero, hH, hSH]; exact rfl
  have CR : Hid (∀ W, Below w.heap.size w W → Calls Tryz.prog 12 #[spV s N L] W fun e w' => e = .returned (.bool true) ∧ Below W.heap.size W w') := fun W hb => rightS_val (h.below hb) true ⟨fun _ => hR, fun _ => rfl⟩
  have CH : Hid (∀ W, Calls Tryz.prog 18 #[spV s N L] W fun e w' => e = .returned (.string H) ∧ Below W.heap.size W w') := fun W => headPart_val H W hl h.ll.len hfit.hz hH
  have CS : Hid (∀ W, Calls Tryz.prog 17 #[.string H] W fun e w' => e = .returned (.string SH) ∧ Below W.heap.size W w') := fun W => sealed_val H SH W hHs hSH
  unfold spV at CR CH ⊢
  clear h hR hfit hm hl hN hH hSH hHs hJ
  have hst := run_store_str
  have hst2 : ∀ (w : World) (a : Addr) (x : Option Addr) (n c : Nat) (m : Mode), (store a (.slice x n c) m).run Tryz.prog w = stored Tryz.prog w a (.slice x n c) m := fun w a x n c m => run_store_any w a _ m rfl
  go_enter Tryz.func8, Tryz.ntmps8
  go_wp2_with fail
  refine (CR.out _ (bel_al _ _)).mono ?_
  rintro e w1 ⟨rfl, b1⟩
  have x0 := bel_cell b1 (World.cell?_alloc_new w _ _ 0)
  have x1 := bel_cell b1 (World.cell?_alloc_new w _ _ 1)
  have x2 := bel_cell b1 (World.cell?_alloc_new w _ _ 2)
  have x3 := bel_cell b1 (World.cell?_alloc_new w _ _ 3)
  have x4 := bel_cell b1 (World.cell?_alloc_new w _ _ 4)
  have x5 := bel_cell b1 (World.cell?_alloc_new w _ _ 5)
  have B1 : Hid (Below w.heap.size w w1) := bel_tr (bel_al _ _) b1
  have X4 : Hid _ := x4
  have X5 : Hid _ := x5
  clear b1 CR
  go_wp2_with fail
  refine (CH.out _).mono ?_
  rintro e w2 ⟨rfl, b2⟩
  clear x0 x1 x2 x3 x4 x5 CH
  go_wp2_with fail
  refine (CS.out _).mono ?_
  rintro e w3 ⟨rfl, b3⟩
  have b13 := bel_tr b2 b3
  clear CS b2 b3
  obtain ⟨v0, w4, hcv, hrow0, hbel0⟩ := text_row (P := Tryz.prog) w3 9 50 5 SH Tryz.underlying9 Tryz.underlying50 Tryz.underlying5 (by unfold maxLen; omega) w1.heap.size b13.size
  have B4 : Hid (Below w1.heap.size w1 w4) := b13.trans hbel0
  have R4 : Hid (ByteRow w1.heap.size w4 v0 (upN s 0)) := by rw [← HU0.out]; exact hrow0
  have x4 := bel_cell B4.out X4.out
  clear b13 hrow0 hbel0 HU0 hSs
  go_wp2_with fail
  clear hcv x4
  go_loopw [4, 19] (fun v c wr => ∃ k : Nat, k ≤ N.n ∧ c = .int .i64 k ∧ ByteRow w1.heap.size wr v (upN s k) ∧ Below w1.heap.size w1 wr) (fun _ c _ => N.n - (intOf c).toNat)
  case atStart => exact ⟨0, by omega, rfl, R4.out, B4.out⟩
  case round =>
    obtain ⟨k, hk, rfl, hrow, hbel⟩ := hrel
    have HB : Hid (Below w1.heap.size w1 wr) := hbel
    have HRW : Hid (ByteRow w1.heap.size wr u4 (upN s k)) := hrow
    clear R4 B4 hrow
    by_cases hlt : k < N.n
    · have hkp : k < ps.length := by rw [HNL.out]; exact hlt
      have hks : k < s.ns.length := by rw [HNN.out]; exact hlt
      have hxk : s.ns[k] = ps[k].1 := by
        have h1 : s.ns[k]? = some ps[k].1 := by rw [← HM.out, List.getElem?_map, List.getElem?_eq_getElem hkp]; rfl
        rw [List.getElem?_eq_getElem hks] at h1
        exact Option.some.inj h1
      have hN1 := (HN.out.below B1.out).below hbel
      have hadr := hN1.addr (by omega)
      have hc := hN1.cell k hkp
      have HOK : Hid (NdOk wr ps[k]) := hN1.ok _ (List.getElem_mem hkp)
      have hff := HFN.out s.ns[k] (List.getElem_mem hks)
      have hnx := HXN.out k hks
      have hul := HUN.out k
      rw [hxk] at hff hnx
      generalize ps[k] = u at *
      obtain ⟨⟨xp, xd, xq, xbs, xw⟩, ⟨xa, xn, xc⟩⟩ := u
      simp only at hff hnx
      obtain ⟨NP, hNP⟩ : ∃ X, nodeP ⟨xp, xd, xq, xbs, xw⟩ = X := ⟨_, rfl⟩
      obtain ⟨SN, hSN⟩ : ∃ X, sealB NP = X := ⟨_, rfl⟩
      rw [hNP, hSN] at hnx
      rw [hNP] at hff
      have hsn : SN.size ≤ 5000 := by rw [← hSN]; have := sealB_le hff.2; omega
      have hbnd : (upN s k).length + SN.size ≤ 140737488355328 := by omega
      have HNX : Hid (upN s (k + 1) = upN s k ++ SN.data.toList) := hnx
      have CN : Hid (∀ W, Below wr.heap.size wr W → Calls Tryz.prog 19 #[ndV (⟨xp, xd, xq, xbs, xw⟩, ⟨xa, xn, xc⟩)] W fun e w' => e = .returned (.string NP) ∧ Below W.heap.size W w') := fun W hb => nodePart_val _ NP W (HOK.out.below hb) hff.1 hNP
      have CS : Hid (∀ W, Calls Tryz.prog 17 #[.string NP] W fun e w' => e = .returned (.string SN) ∧ Below W.heap.size W w') := fun W => sealed_val NP SN W hff.2 hSN
      have c0 : wr.cell? ⟨nb, noff + k * 5, none⟩ = some (.string xp) := hc 0 _ rfl
      have c1 : wr.cell? ⟨nb, noff + k * 5 + 1, none⟩ = some (.bool xd) := hc 1 _ rfl
      have c2 : wr.cell? ⟨nb, noff + k * 5 + 2, none⟩ = some (.int .i64 xq) := hc 2 _ rfl
      have c3 : wr.cell? ⟨nb, noff + k * 5 + 3, none⟩ = some (.slice xa xn xc) := hc 3 _ rfl
      have c4 : wr.cell? ⟨nb, noff + k * 5 + 4, none⟩ = some (.int .i64 xw) := hc 4 _ rfl
      have c0a := cell_al c0
      have c1a := cell_al c1
      have c2a := cell_al c2
      have c3a := cell_al c3
      have c4a := cell_al c4
      unfold ndV at CN
      simp only at CN
      obtain ⟨Na, Nn, Nc⟩ := N
      simp only at hadr
      subst hadr
      clear hbel hc hff hnx hul hsn hNP hSN hxk hN1 hkp hks
      go_wp2_with fail
      refine (CN.out _ (bel_al _ _)).mono ?_
      rintro e w5 ⟨rfl, b5⟩
      have B5 : Hid (Below wr.heap.size wr w5) := bel_tr (bel_al _ _) b5
      clear b5 c0 c1 c2 c3 c4 c0a c1a c2a c3a c4a
      go_wp2_with fail
      refine (CS.out _).mono ?_
      rintro e w6 ⟨rfl, b6⟩
      have hrow3 := HRW.out.below (bel_tr B5.out b6)
      have hbel3 := bel_tr HB.out (bel_tr B5.out b6)
      have hsz3 := hbel3.size
      clear b6
      go_wp2_with (at_builtin; refine wpList_append_bytes _ rfl _ _ 50 9 rfl 5 i0 Tryz.underlying50 Tryz.underlying9 hi0 hz0 hz1 hz2 w1.heap.size _ _ rfl hrow3 SN rfl hbnd hsz3 ?_)
      intro v' w7 hrow7 hbel7
      have hrow8 : ByteRow w1.heap.size w7 v' (upN s (k + 1)) := by rw [HNX.out]; exact hrow7
      have hbel8 := hbel3.trans hbel7
      clear hrow7 hbel7 hrow3 hbel3 hbnd
      go_wp2
      go_roundw
      case rel => exact ⟨k + 1, (by omega : k + 1 ≤ _), by go_num, hrow8, hbel8⟩
      case measure => simp [intOf]; omega
    · have hkl : k = N.n := by omega
      have hgd : decide (k < N.n) = false := decide_eq_false (by omega)
      have R5 : Hid (ByteRow w1.heap.size wr u4 (upL s 0)) := by
        have h1 := HRW.out
        rw [hkl, ← HNN.out, HEN.out] at h1
        exact h1
      have x5 := bel_cell hbel X5.out
      clear hbel hlt hkl
      go_wp2
      clear x5
      go_loopw [4, 32] (fun v c wi => ∃ j : Nat, j ≤ L.n ∧ c = .int .i64 j ∧ ByteRow w1.heap.size wi v (upL s j) ∧ Below w1.heap.size w1 wi) (fun _ c _ => L.n - (intOf c).toNat)
      case atStart => exact ⟨0, by omega, rfl, R5.out, HB.out⟩
      case round =>
        rename World => wo
        obtain ⟨j, hj, rfl, hrow, hbel⟩ := hrel
        have HB2 : Hid (Below w1.heap.size w1 wo) := hbel
        have HRW2 : Hid (ByteRow w1.heap.size wo u4 (upL s j)) := hrow
        clear R5 hrow
        by_cases hlt : j < L.n
        · have hjs : j < s.ls.length := by rw [HLN.out]; exact hlt
          obtain ⟨lb, lo, hadr, hcs⟩ := ((HLL.out.below B1.out).below hbel).at (by omega)
          obtain ⟨c0, c1⟩ := hcs j hjs
          have hff := HFL.out s.ls[j] (List.getElem_mem hjs)
          have hnx := HXL.out j hjs
          have hul := HUL.out j
          generalize s.ls[j] = u at *
          obtain ⟨lc, lu⟩ := u
          simp only at c0 c1
          obtain ⟨NP, hNP⟩ : ∃ X, leaseP ⟨lc, lu⟩ = X := ⟨_, rfl⟩
          obtain ⟨SN, hSN⟩ : ∃ X, sealB NP = X := ⟨_, rfl⟩
          rw [hNP, hSN] at hnx
          rw [hNP] at hff
          have hsn : SN.size ≤ 5000 := by rw [← hSN]; have := sealB_le hff.2; omega
          have hbnd : (upL s j).length + SN.size ≤ 140737488355328 := by omega
          have HNX : Hid (upL s (j + 1) = upL s j ++ SN.data.toList) := hnx
          have CN : Hid (∀ W, Calls Tryz.prog 20 #[.agg #[.int .i64 lc, .int .i64 lu]] W fun e w' => e = .returned (.string NP) ∧ Below W.heap.size W w') := fun W => leasePart_val ⟨lc, lu⟩ NP W hff.1 hNP
          have CS : Hid (∀ W, Calls Tryz.prog 17 #[.string NP] W fun e w' => e = .returned (.string SN) ∧ Below W.heap.size W w') := fun W => sealed_val NP SN W hff.2 hSN
          have c0a := cell_al c0
          have c1a := cell_al c1
          obtain ⟨La, Ln, Lc⟩ := L
          simp only at hadr
          subst hadr
          clear hbel hcs hff hnx hul hsn hNP hSN hjs
          go_wp2_with fail
          refine (CN.out _).mono ?_
          rintro e w5 ⟨rfl, b5⟩
          have B5 : Hid (Below wo.heap.size wo w5) := bel_tr (bel_al _ _) b5
          clear b5 c0 c1 c0a c1a
          go_wp2_with fail
          refine (CS.out _).mono ?_
          rintro e w6 ⟨rfl, b6⟩
          have hrow3 := HRW2.out.below (bel_tr B5.out b6)
          have hbel3 := bel_tr HB2.out (bel_tr B5.out b6)
          have hsz3 := hbel3.size
          clear b6
          go_wp2_with (at_builtin; refine wpList_append_bytes _ rfl _ _ 50 9 rfl 5 i0 Tryz.underlying50 Tryz.underlying9 hi0 hz0 hz1 hz2 w1.heap.size _ _ rfl hrow3 SN rfl hbnd hsz3 ?_)
          intro v' w7 hrow7 hbel7
          have hrow8 : ByteRow w1.heap.size w7 v' (upL s (j + 1)) := by rw [HNX.out]; exact hrow7
          have hbel8 := hbel3.trans hbel7
          clear hrow7 hbel7 hrow3 hbel3 hbnd
          go_wp2
          go_roundw
          case rel => exact ⟨j + 1, (by omega : j + 1 ≤ _), by go_num, hrow8, hbel8⟩
          case measure => simp [intOf]; omega
        · have hjl : j = L.n := by omega
          have hgd2 : decide (j < L.n) = false := decide_eq_false (by omega)
          have hrow2 : ByteRow w1.heap.size wo u4 (upL s s.ls.length) := by
            have h1 := HRW2.out
            rw [hjl, ← HLN.out] at h1
            exact h1
          obtain ⟨g, cp, rfl, _, _, _, _, h6, _⟩ := hrow2.ex
          have hcv := run_convert_bytes_back (P := Tryz.prog) wo 50 9 5 ⟨g, 0, none⟩ cp (upL s s.ls.length) Tryz.underlying50 Tryz.underlying5 Tryz.underlying9 (fun j hj => by rw [Addr.add_lit, Nat.zero_add]; exact h6 j hj)
          have hcv2 : (convert 50 9 (.slice (some ⟨g, 0, none⟩) (upL s s.ls.length).length cp)).run Tryz.prog wo = .ok (.string J) wo := hcv.trans (by rw [← HEL.out]; rfl)
          clear hrow2 h6 hcv hlt hjl hbel
          go_wp2
          go_ret2
          exact ⟨rfl, bel_tr B1.out HB2.out⟩

end Go.Proofs.YtigomhilcnnjdaaGreat.Img

/- The contract of tabulariumref12.Encode. -/
namespace Go.Proofs.YtigomhilcnnjdaaGreat.Img
open Go.RowKit Go.Proofs.YtigomhilcnnjdaaGreat Go.Proofs.YtigomhilcnnjdaaGreat.Smm
open Go.Proofs.YtigomhilcnnjdaaGreat.Spa (Sp RtS zeroS spV SpIn SpC refRightS_val)
open Go.Proofs.YtigomhilcnnjdaaGreat.Lea (LS Ls LL)
open Go.Proofs.YtigomhilcnnjdaaGreat.Edi (numsB numsB_len Nm NO intC bel_tr bel_al bel_cell bel_drew)
open Go.Proofs.YtigomhilcnnjdaaGreat.Wir (textB app_list app_size app_assoc size_list mk_size refText_yes)
open Go.WideShapes (bytes_inj)

set_option maxRecDepth 100000 in
set_option maxHeartbeats 1000000 in
theorem refEncode_no {s : Sp} {N L : RS} {w : World} (h : SpIn w s N L) (hR : ¬ RtS s) :
    Calls Tryz.prog 15 #[spV s N L] w fun e w' => e = .returned (.tuple #[.string ⟨#[]⟩, .bool false]) ∧ Below w.heap.size w w' := by
  have CR : Hid (∀ W, Below w.heap.size w W → Calls Tryz.prog 38 #[spV s N L] W fun e w' => e = .returned (.bool false) ∧ Below W.heap.size W w') := fun W hb => refRightS_val (h.below hb) false ⟨fun e => Bool.noConfusion e, fun e => absurd e hR⟩
  unfold spV at CR ⊢
  clear h hR
  go_enter Tryz.func15, Tryz.ntmps15
  go_wp2_with fail
  refine (CR.out _ (bel_al _ _)).mono ?_
  rintro e w1 ⟨rfl, b1⟩
  go_wp2
  go_ret2
  exact ⟨rfl, bel_tr (bel_al _ _) b1⟩

theorem no_new (base : Nat) (w : World) (zs : List Int) (t : TypeId) (hb : base ≤ w.heap.size) (hm : zs.length ≤ 100) (n : Nat) (hn : zs.length = n) (cs : Array Value) (hcs : cs = (zs.map (Value.int .i64)).toArray) : NO base (w.alloc (.cells cs t)) (some ⟨w.heap.size, 0, none⟩) n n zs (some w.heap.size) := by
  subst hcs hn
  have hat : ∀ j (hj : j < zs.length), (w.alloc (.cells (zs.map (Value.int .i64)).toArray t)).cell? ⟨w.heap.size, j, none⟩ = some (.int .i64 zs[j]) := fun j hj => by
    rw [World.cell?_alloc_new, List.getElem?_toArray, List.getElem?_map, List.getElem?_eq_getElem hj]; rfl
  refine ⟨.row w.heap.size zs.length rfl ?_ hb (by simp) (Nat.le_refl _) (by unfold maxLen; omega) (fun j hj => ?_) (fun j hj => ⟨?_, World.frozen?_alloc_new w _ _ j⟩), rfl⟩
  · rw [rowC_len Edi.wideI]
  · have hjl : j < zs.length := by rw [rowC_len Edi.wideI] at hj; omega
    rw [hat j hjl]
    simp [Edi.intC_row]
  · rw [hat j (by omega)]; rfl
theorem nodeZ_next (x : Nd) (k : Nat) (hk : k < x.bs.length) : [kindZ x.dir, x.quota, x.wr, (x.bs.length : Int)] ++ blkZ (x.bs.take (k + 1)) = ([kindZ x.dir, x.quota, x.wr, (x.bs.length : Int)] ++ blkZ (x.bs.take k)) ++ [x.bs[k].id, x.bs[k].gen, x.bs[k].len] := by
  rw [List.take_succ_eq_append_getElem hk, blkZ_snoc, List.append_assoc]


end Go.Proofs.YtigomhilcnnjdaaGreat.Img

/- The contract of tabulariumref12.Encode. -/
namespace Go.Proofs.YtigomhilcnnjdaaGreat.Img
open Go.RowKit Go.Proofs.YtigomhilcnnjdaaGreat Go.Proofs.YtigomhilcnnjdaaGreat.Smm
open Go.Proofs.YtigomhilcnnjdaaGreat.Spa (Sp RtS zeroS spV SpIn SpC refRightS_val)
open Go.Proofs.YtigomhilcnnjdaaGreat.Lea (LS Ls LL)
open Go.Proofs.YtigomhilcnnjdaaGreat.Edi (numsB numsB_len Nm NO intC bel_tr bel_al bel_cell bel_drew)
open Go.Proofs.YtigomhilcnnjdaaGreat.Wir (textB app_list app_size app_assoc size_list mk_size refText_yes)
open Go.WideShapes (bytes_inj)

set_option maxRecDepth 100000 in
set_option maxHeartbeats 8000000 in
theorem refEncode_yes {s : Sp} {N L : RS} {w : World} (h : SpIn w s N L) (hR : RtS s) (J : ByteArray) (hJ : encI s = J) :
    Calls Tryz.prog 15 #[spV s N L] w fun e w' => e = .returned (.tuple #[.string J, .bool true]) ∧ Below w.heap.size w w' := by
  obtain ⟨ti, hi1, hi2, hi3, hi4⟩ := Lea.intRow
  have hfit := rts_fit hR
  have HFN : Hid (∀ x ∈ s.ns, FitX x ∧ (nodeP x).size ≤ 4000) := fun x hx => ⟨hfit.ns x hx, parts_small hR _ (by unfold partsS; exact List.mem_cons_of_mem _ (List.mem_append_left _ (List.mem_map.2 ⟨x, hx, rfl⟩)))⟩
  have HFL : Hid (∀ x ∈ s.ls, FitL x ∧ (leaseP x).size ≤ 4000) := fun x hx => ⟨hfit.ls x hx, parts_small hR _ (by unfold partsS; exact List.mem_cons_of_mem _ (List.mem_append_right _ (List.mem_map.2 ⟨x, hx, rfl⟩)))⟩
  have HUN : Hid (∀ i, (upN s i).length ≤ 260910) := upN_len hR
  have HUL : Hid (∀ i, (upL s i).length ≤ 260910) := upL_len hR
  have HXN : Hid (∀ i (hi : i < s.ns.length), upN s (i + 1) = upN s i ++ (sealB (nodeP s.ns[i])).data.toList) := upN_next s
  have HXL : Hid (∀ i (hi : i < s.ls.length), upL s (i + 1) = upL s i ++ (sealB (leaseP s.ls[i])).data.toList) := upL_next s
  have HEN : Hid (upN s s.ns.length = upL s 0) := upN_all s
  have HEL : Hid (mk (upL s s.ls.length) = J) := by rw [← hJ]; exact upL_all s
  obtain ⟨nb, noff, ps, hm, hl, hN⟩ := h.nl.ex
  have HM : Hid (ps.map (·.1) = s.ns) := hm
  have HN : Hid (Nds w N.a nb noff ps) := hN
  have HNL : Hid (ps.length = N.n) := by rw [← hl, ← hm, List.length_map]; exact rfl
  have HLL : Hid (LL w L.a L.n L.c s.ls) := h.ll
  have HLN : Hid (s.ls.length = L.n) := h.ll.len
  have HNN : Hid (s.ns.length = N.n) := hl
  have h60 : N.n ≤ 60 := by rw [← hl]; exact hR.tree.few
  have h4 : L.n ≤ 4 := by rw [← h.ll.len]; exact lease_few hR
  obtain ⟨X, hX⟩ : ∃ X, mk (numsB (headZ s)) = X := ⟨_, rfl⟩
  obtain ⟨H, hH⟩ : ∃ X, headL (headZ s) = X := ⟨_, rfl⟩
  obtain ⟨SH, hSH⟩ : ∃ X, sealB H = X := ⟨_, rfl⟩
  have hHs : H.size ≤ 4000 := by rw [← hH]; exact parts_small hR _ (List.mem_cons_self ..)
  have hXs : X.size ≤ 60 := by rw [← hX, mk_sz2]; exact numsB_len (headZ s) hfit.hz
  have ha0 : ∀ w : World, (Op.stringOp .add ⟨#[84]⟩ X).run Tryz.prog w = .ok (.string H) w := fun w => by
    have h := run_string_add_sum (P := Tryz.prog) w ⟨#[84]⟩ X (by have : (⟨#[84]⟩ : ByteArray).size = 1 := rfl; omega)
    have e : (⟨#[84]⟩ : ByteArray) ++ X = H := by
      rw [← hH, ← hX]
      refine bytes_inj ?_
      unfold headL
      rw [app_list, mk_li, mk_li]
      rfl
    rw [e] at h
    exact h
  have HU0 : Hid (mk (upN s 0) = SH) := by
    rw [upN_zero, hH, hSH]
    exact bytes_inj (mk_li _)
  have CR : Hid (∀ W, Below w.heap.size w W → Calls Tryz.prog 38 #[spV s N L] W fun e w' => e = .returned (.bool true) ∧ Below W.heap.size W w') := fun W hb => refRightS_val (h.below hb) true ⟨fun _ => hR, fun _ => rfl⟩
  have CH : Hid (∀ (t : TypeId) (W : World), Calls Tryz.prog 40 #[.slice (some ⟨W.heap.size, 0, none⟩) 6 6] (W.alloc (.cells #[.int .i64 s.tx, .int .i64 s.nb, .int .i64 s.ng, .int .i64 s.now, .int .i64 (N.n : Int), .int .i64 (L.n : Int)] t)) fun e w' => e = .returned (.string X) ∧ Below W.heap.size W w') := fun t W => by
    have hno := no_new W.heap.size W (headZ s) t (Nat.le_refl _) (by show 6 ≤ 100; omega) 6 rfl #[.int .i64 s.tx, .int .i64 s.nb, .int .i64 s.ng, .int .i64 s.now, .int .i64 (N.n : Int), .int .i64 (L.n : Int)] (by unfold headZ; rw [hl, h.ll.len]; rfl)
    exact (refNums_val hno.nm (by omega) hfit.hz X hX).mono fun _ _ h => ⟨h.1, bel_tr (bel_al _ _) h.2⟩
  have CS : Hid (∀ W, Calls Tryz.prog 39 #[.string H] W fun e w' => e = .returned (.string SH) ∧ Below W.heap.size W w') := fun W => refSeal12_val H SH W hHs hSH
  unfold spV at CR ⊢
  clear h hR hfit hm hl hN hH hSH hHs hJ hX hXs
  have hst := run_store_str
  have hst2 : ∀ (w : World) (a : Addr) (x : Option Addr) (n c : Nat) (m : Mode), (store a (.slice x n c) m).run Tryz.prog w = stored Tryz.prog w a (.slice x n c) m := fun w a x n c m => run_store_any w a _ m rfl
  go_enter Tryz.func15, Tryz.ntmps15
  go_wp2_with fail
  refine (CR.out _ (bel_al _ _)).mono ?_
  rintro e w1 ⟨rfl, b1⟩
  have x0 := bel_cell b1 (World.cell?_alloc_new w _ _ 0)
  have x1 := bel_cell b1 (World.cell?_alloc_new w _ _ 1)
  have x2 := bel_cell b1 (World.cell?_alloc_new w _ _ 2)
  have x3 := bel_cell b1 (World.cell?_alloc_new w _ _ 3)
  have x4 := bel_cell b1 (World.cell?_alloc_new w _ _ 4)
  have x5 := bel_cell b1 (World.cell?_alloc_new w _ _ 5)
  have B1 : Hid (Below w.heap.size w w1) := bel_tr (bel_al _ _) b1
  have X4 : Hid _ := x4
  have X5 : Hid _ := x5
  clear b1 CR
  go_wp2_with fail
  refine (CH.out _ _).mono ?_
  rintro e w2 ⟨rfl, b2⟩
  clear x0 x1 x2 x3 x4 x5 CH
  go_wp2_with fail
  refine (CS.out _).mono ?_
  rintro e w3 ⟨rfl, b3⟩
  have B3 : Hid (Below w1.heap.size w1 w3) := bel_tr b2 b3
  clear CS b2 b3
  go_wp2
  go_loopw [5, 6] (fun v c wr => ∃ (k : Nat) (O : ByteArray), k ≤ N.n ∧ c = .int .i64 k ∧ v = .string O ∧ mk (upN s k) = O ∧ Below w1.heap.size w1 wr) (fun _ c _ => N.n - (intOf c).toNat)
  case atStart => exact ⟨0, SH, by omega, rfl, rfl, HU0.out, B3.out⟩
  case round =>
    obtain ⟨k, O, hk, rfl, rfl, hO, hbel⟩ := hrel
    have HB : Hid (Below w1.heap.size w1 wr) := hbel
    have HO : Hid (mk (upN s k) = O) := hO
    have x4 := bel_cell hbel X4.out
    have x5 := bel_cell hbel X5.out
    clear hO
    by_cases hlt : k < N.n
    · have hkp : k < ps.length := by rw [HNL.out]; exact hlt
      have hks : k < s.ns.length := by rw [HNN.out]; exact hlt
      have hxk : s.ns[k] = ps[k].1 := by
        have h1 : s.ns[k]? = some ps[k].1 := by rw [← HM.out, List.getElem?_map, List.getElem?_eq_getElem hkp]; rfl
        rw [List.getElem?_eq_getElem hks] at h1
        exact Option.some.inj h1
      have hN1 := (HN.out.below B1.out).below hbel
      have hadr := hN1.addr (by omega)
      have hc := hN1.cell k hkp
      have HOK : Hid (NdOk wr ps[k]) := hN1.ok _ (List.getElem_mem hkp)
      have hff := HFN.out s.ns[k] (List.getElem_mem hks)
      have hnx := HXN.out k hks
      have hul := HUN.out k
      rw [hxk] at hff hnx
      generalize ps[k] = u at *
      obtain ⟨⟨xp, xd, xq, xbs, xw⟩, ⟨xa, xn, xc⟩⟩ := u
      simp only at hff hnx
      obtain ⟨NP, hNP⟩ : ∃ X, nodeP ⟨xp, xd, xq, xbs, xw⟩ = X := ⟨_, rfl⟩
      obtain ⟨SN, hSN⟩ : ∃ X, sealB NP = X := ⟨_, rfl⟩
      obtain ⟨PT, hPT⟩ : ∃ X : ByteArray, textB xp = X := ⟨_, rfl⟩
      rw [hNP, hSN] at hnx
      rw [hNP] at hff
      have hsn : SN.size ≤ 5000 := by rw [← hSN]; have := sealB_le hff.2; omega
      have HNX : Hid (upN s (k + 1) = upN s k ++ SN.data.toList) := hnx
      have CT : Hid (∀ W, Calls Tryz.prog 41 #[.string xp] W fun e w' => e = .returned (.tuple #[.string PT, .bool true]) ∧ Below W.heap.size W w') := fun W => by rw [← hPT]; exact refText_yes xp W hff.1.path
      have CS : Hid (∀ W, Calls Tryz.prog 39 #[.string NP] W fun e w' => e = .returned (.string SN) ∧ Below W.heap.size W w') := fun W => refSeal12_val NP SN W hff.2 hSN
      have HFX : Hid (FitX ⟨xp, xd, xq, xbs, xw⟩) := hff.1
      have HXL2 : Hid (xbs.length = xn) := HOK.out.bs.len
      have c0 : wr.cell? ⟨nb, noff + k * 5, none⟩ = some (.string xp) := hc 0 _ rfl
      have c1 : wr.cell? ⟨nb, noff + k * 5 + 1, none⟩ = some (.bool xd) := hc 1 _ rfl
      have c2 : wr.cell? ⟨nb, noff + k * 5 + 2, none⟩ = some (.int .i64 xq) := hc 2 _ rfl
      have c3 : wr.cell? ⟨nb, noff + k * 5 + 3, none⟩ = some (.slice xa xn xc) := hc 3 _ rfl
      have c4 : wr.cell? ⟨nb, noff + k * 5 + 4, none⟩ = some (.int .i64 xw) := hc 4 _ rfl
      have c0a := cell_al c0
      have c1a := cell_al c1
      have c2a := cell_al c2
      have c3a := cell_al c3
      have c4a := cell_al c4
      obtain ⟨Na, Nn, Nc⟩ := N
      simp only at hadr
      subst hadr
      clear hbel hc hff hnx hul hsn hxk hN1 hkp hks hSN
      go_wp2_with fail
      refine (CT.out _).mono ?_
      rintro e w4 ⟨rfl, b4⟩
      have y1 := bel_cell b4 (World.cell?_alloc_new wr _ _ 1)
      have y2 := bel_cell b4 (World.cell?_alloc_new wr _ _ 2)
      have y3 := bel_cell b4 (World.cell?_alloc_new wr _ _ 3)
      have y4 := bel_cell b4 (World.cell?_alloc_new wr _ _ 4)
      have B4 : Hid (Below wr.heap.size wr w4) := bel_tr (bel_al _ _) b4
      have Y3 : Hid _ := y3
      clear b4 c0 c1 c2 c3 c4 c0a c1a c2a c3a c4a CT x4 x5
      cases xd with
      | true =>
        go_wp2
        go_loopw [11, 12] (fun v c wo => ∃ (j m q : Nat) (a : Option Addr) (g : Option Nat), j ≤ xn ∧ c = .int .i64 j ∧ v = .slice a m q ∧ NO w4.heap.size wo a m q ([kindZ true, xq, xw, (xbs.length : Int)] ++ blkZ (xbs.take j)) g ∧ Below w4.heap.size w4 wo) (fun _ c _ => xn - (intOf c).toNat)
        case atStart =>
          refine ⟨0, 4, 4, _, _, Nat.zero_le _, rfl, rfl, no_new w4.heap.size w4 ([kindZ true, xq, xw, (xbs.length : Int)] ++ blkZ (xbs.take 0)) _ (Nat.le_refl _) (by show 4 ≤ 100; omega) 4 rfl _ (by rw [HXL2.out]; rfl), bel_al _ _⟩
        case round =>
          rename World => wo
          obtain ⟨j, m, q, a, g, hj, rfl, rfl, hno, hb⟩ := hrel
          have y3' := bel_cell hb Y3.out
          clear y1 y2 y3 y4
          by_cases hlt2 : j < xn
          · have hjx : j < xbs.length := by rw [HXL2.out]; exact hlt2
            have hBk := HOK.out.bs.below B4.out
            obtain ⟨bb, bo, hba, hbc⟩ := hBk.cells (by show 0 < xn; omega)
            simp only at hba
            subst hba
            have u0 : w4.cell? ⟨bb, bo + j * 3, none⟩ = some (.int .i64 xbs[j].id) := hbc j hjx 0 _ rfl
            have u1 : w4.cell? ⟨bb, bo + j * 3 + 1, none⟩ = some (.int .i64 xbs[j].gen) := hbc j hjx 1 _ rfl
            have u2 : w4.cell? ⟨bb, bo + j * 3 + 2, none⟩ = some (.int .i64 xbs[j].len) := hbc j hjx 2 _ rfl
            have hnx2 := nodeZ_next ⟨xp, true, xq, xbs, xw⟩ j hjx
            simp only at hnx2
            have hm28 : m ≤ 40 := by
              rw [← hno.len, List.length_append, blkZ_len, List.length_take]
              have := HFX.out.few
              simp only at this
              show 4 + _ ≤ 40
              omega
            have HNO : Hid (NO w4.heap.size wo a m q ([kindZ true, xq, xw, (xbs.length : Int)] ++ blkZ (xbs.take j)) g) := hno
            have HNX2 : Hid ([kindZ true, xq, xw, (xbs.length : Int)] ++ blkZ (xbs.take (j + 1)) = ([kindZ true, xq, xw, (xbs.length : Int)] ++ blkZ (xbs.take j)) ++ [xbs[j].id, xbs[j].gen, xbs[j].len]) := hnx2
            generalize xbs[j] = z at *
            obtain ⟨z0, z1, z2⟩ := z
            simp only at u0 u1 u2 HNX2
            have HBo : Hid (Below w4.heap.size w4 wo) := hb
            have HS0 : Hid (∀ W, Below w4.heap.size w4 W → W.cell? ⟨wr.heap.size, 3, none⟩ = some (.slice (some ⟨bb, bo, none⟩) xn xc) ∧ W.cell? ⟨bb, bo + j * 3, none⟩ = some (.int .i64 z0) ∧ W.cell? ⟨bb, bo + j * 3 + 1, none⟩ = some (.int .i64 z1) ∧ W.cell? ⟨bb, bo + j * 3 + 2, none⟩ = some (.int .i64 z2)) := fun W hW => ⟨bel_cell hW Y3.out, bel_cell hW u0, bel_cell hW u1, bel_cell hW u2⟩
            have HSRC : Hid (∀ t, Src Tryz.prog 1 75 (.slice (some ⟨wo.heap.size, 0, none⟩) 3 3) 3 (rowC intC [z0, z1, z2]) (wo.alloc (.cells #[.int .i64 z0, .int .i64 z1, .int .i64 z2] t)).drew) := fun t => by
              rw [Edi.intC_row]
              exact ((no_new wo.heap.size wo [z0, z1, z2] t (Nat.le_refl _) (by show 3 ≤ 100; omega) 3 rfl #[.int .i64 z0, .int .i64 z1, .int .i64 z2] rfl).below (bel_drew _)).nm.src Tryz.underlying75
            have HBA : Hid (∀ t, Below w4.heap.size w4 (wo.alloc (.cells #[.int .i64 z0, .int .i64 z1, .int .i64 z2] t)).drew) := fun t => bel_tr (bel_tr HBo.out (bel_al _ _)) (bel_drew _)
            have HNA : Hid (∀ t, NO w4.heap.size (wo.alloc (.cells #[.int .i64 z0, .int .i64 z1, .int .i64 z2] t)).drew a m q ([kindZ true, xq, xw, (xbs.length : Int)] ++ blkZ (xbs.take j)) g) := fun t => HNO.out.below (bel_tr (bel_al _ _) (bel_drew _))
            have HLT : Hid (j + 1 ≤ xn) := hlt2
            have hxn8 : xn ≤ 30 := by
              rw [← HXL2.out]
              have := HFX.out.few
              simp only at this
              omega
            clear hno hb hnx2 hbc hBk u0 u1 u2 hjx y3'
            have y3' := (HS0.out _ HBo.out).1
            go_wp2
            go_region_held3 (fun W => W.cell? ⟨wr.heap.size, 3, none⟩ = some (.slice (some ⟨bb, bo, none⟩) xn xc) ∧ W.cell? ⟨bb, bo + j * 3, none⟩ = some (.int .i64 z0) ∧ W.cell? ⟨bb, bo + j * 3 + 1, none⟩ = some (.int .i64 z1) ∧ W.cell? ⟨bb, bo + j * 3 + 2, none⟩ = some (.int .i64 z2))
              (first | exact HS0.out _ (bel_tr HBo.out (bel_drew _)) | exact HS0.out _ (HBA.out _) | exact HS0.out _ B5.out)
              (first
                | (refine step_append_cel rfl (.tmp 72) (.tmp 91) 75 75 rfl 3 ti _ 1 8 Tryz.underlying75 hi1 hi2 hi3 hi4 rfl (O := fun k => w4.heap.size ≤ k) _ m _ g (by simp [Act.eval]) (HNA.out _).cel _ 3 (rowC intC [z0, z1, z2]) (by simp [Act.eval]) (HSRC.out _) (by unfold maxLen; omega) (by omega) ?_; intro a5 c5 w5 g5 hC5 hS5 hg5; have A5 : Hid _ := (HNA.out _).app (ys := [z0, z1, z2]) rfl hC5 (HBA.out _).size; have B5 : Hid (Below w4.heap.size w4 w5) := (HBA.out _).trans ((HNA.out _).appBelow hS5 (HBA.out _).size); clear hC5 hS5 hg5))
            all_goals
              go_wp2
              go_roundw
              case rel => exact ⟨j + 1, m + 3, c5, a5, g5, HLT.out, by go_num, rfl, by rw [HNX2.out]; exact A5.out, B5.out⟩
              case measure => have := HLT.out; simp [intOf]; omega
          · obtain rfl : j = xn := by omega
            have hgd : decide ((j : Int) < (j : Int)) = false := decide_eq_false (by omega)
            rw [← HXL2.out, List.take_length] at hno
            obtain ⟨XN, hXN⟩ : ∃ X, mk (numsB (nodeZ ⟨xp, true, xq, xbs, xw⟩)) = X := ⟨_, rfl⟩
            have hmn : m ≤ 30 := by
              rw [← hno.len, List.length_append, blkZ_len]
              have := HFX.out.few
              simp only at this
              show 4 + _ ≤ 30
              omega
            have hPX : PT ++ XN = NP := by rw [← hNP, ← hPT, ← hXN]; rfl
            have hNS : NP.size ≤ 4290 := by rw [← hNP, ← partK_all]; exact partK_size HFX.out _
            have hpx : PT.size + XN.size ≤ 4290 := by rw [← app_size, hPX]; exact hNS
            have ha1 : ∀ w : World, (Op.stringOp .add PT XN).run Tryz.prog w = .ok (.string NP) w := fun w => by
              have h := run_string_add_sum (P := Tryz.prog) w PT XN (by omega)
              rw [hPX] at h
              exact h
            obtain ⟨O2, hO2⟩ : ∃ X, mk (upN s (k + 1)) = X := ⟨_, rfl⟩
            have ha2 : ∀ w : World, (Op.stringOp .add O SN).run Tryz.prog w = .ok (.string O2) w := fun w => by
              have hs2 : (upN s k).length + SN.size ≤ 260910 := by
                have h1 := HUN.out (k + 1)
                rw [HNX.out, List.length_append, size_list] at h1
                exact h1
              have h := run_string_add_sum (P := Tryz.prog) w O SN (by rw [← HO.out, mk_sz2]; omega)
              have e : O ++ SN = O2 := by
                rw [← HO.out, ← hO2, HNX.out]
                exact bytes_inj (by rw [app_list, mk_li, mk_li])
              rw [e] at h
              exact h
            have CN : Hid (Calls Tryz.prog 40 #[.slice a m q] wo fun e w' => e = .returned (.string XN) ∧ Below wo.heap.size wo w') := refNums_val hno.nm hmn HFX.out.zs XN hXN
            have BO : Hid (Below wr.heap.size wr wo) := bel_tr B4.out hb
            have HO2 : Hid (mk (upN s (k + 1)) = O2) := hO2
            clear hno hmn hlt2 hPX hNS hpx hb hO2 hXN
            go_wp2_with fail
            refine CN.out.mono ?_
            rintro e w5 ⟨rfl, b5⟩
            have B5 : Hid (Below wo.heap.size wo w5) := b5
            clear b5 y3'
            go_wp2_with fail
            refine (CS.out _).mono ?_
            rintro e w6 ⟨rfl, b6⟩
            have B6 : Hid (Below w1.heap.size w1 w6) := bel_tr HB.out (bel_tr BO.out (bel_tr B5.out b6))
            clear b6
            go_wp2
            go_roundw
            case rel => exact ⟨k + 1, O2, by omega, by go_num, rfl, HO2.out, B6.out⟩
            case measure => simp [intOf]; omega
      | false =>
        go_wp2
        go_loopw [11, 12] (fun v c wo => ∃ (j m q : Nat) (a : Option Addr) (g : Option Nat), j ≤ xn ∧ c = .int .i64 j ∧ v = .slice a m q ∧ NO w4.heap.size wo a m q ([kindZ false, xq, xw, (xbs.length : Int)] ++ blkZ (xbs.take j)) g ∧ Below w4.heap.size w4 wo) (fun _ c _ => xn - (intOf c).toNat)
        case atStart =>
          refine ⟨0, 4, 4, _, _, Nat.zero_le _, rfl, rfl, no_new w4.heap.size w4 ([kindZ false, xq, xw, (xbs.length : Int)] ++ blkZ (xbs.take 0)) _ (Nat.le_refl _) (by show 4 ≤ 100; omega) 4 rfl _ (by rw [HXL2.out]; rfl), bel_al _ _⟩
        case round =>
          rename World => wo
          obtain ⟨j, m, q, a, g, hj, rfl, rfl, hno, hb⟩ := hrel
          have y3' := bel_cell hb Y3.out
          clear y1 y2 y3 y4
          by_cases hlt2 : j < xn
          · have hjx : j < xbs.length := by rw [HXL2.out]; exact hlt2
            have hBk := HOK.out.bs.below B4.out
            obtain ⟨bb, bo, hba, hbc⟩ := hBk.cells (by show 0 < xn; omega)
            simp only at hba
            subst hba
            have u0 : w4.cell? ⟨bb, bo + j * 3, none⟩ = some (.int .i64 xbs[j].id) := hbc j hjx 0 _ rfl
            have u1 : w4.cell? ⟨bb, bo + j * 3 + 1, none⟩ = some (.int .i64 xbs[j].gen) := hbc j hjx 1 _ rfl
            have u2 : w4.cell? ⟨bb, bo + j * 3 + 2, none⟩ = some (.int .i64 xbs[j].len) := hbc j hjx 2 _ rfl
            have hnx2 := nodeZ_next ⟨xp, false, xq, xbs, xw⟩ j hjx
            simp only at hnx2
            have hm28 : m ≤ 40 := by
              rw [← hno.len, List.length_append, blkZ_len, List.length_take]
              have := HFX.out.few
              simp only at this
              show 4 + _ ≤ 40
              omega
            have HNO : Hid (NO w4.heap.size wo a m q ([kindZ false, xq, xw, (xbs.length : Int)] ++ blkZ (xbs.take j)) g) := hno
            have HNX2 : Hid ([kindZ false, xq, xw, (xbs.length : Int)] ++ blkZ (xbs.take (j + 1)) = ([kindZ false, xq, xw, (xbs.length : Int)] ++ blkZ (xbs.take j)) ++ [xbs[j].id, xbs[j].gen, xbs[j].len]) := hnx2
            generalize xbs[j] = z at *
            obtain ⟨z0, z1, z2⟩ := z
            simp only at u0 u1 u2 HNX2
            have HBo : Hid (Below w4.heap.size w4 wo) := hb
            have HS0 : Hid (∀ W, Below w4.heap.size w4 W → W.cell? ⟨wr.heap.size, 3, none⟩ = some (.slice (some ⟨bb, bo, none⟩) xn xc) ∧ W.cell? ⟨bb, bo + j * 3, none⟩ = some (.int .i64 z0) ∧ W.cell? ⟨bb, bo + j * 3 + 1, none⟩ = some (.int .i64 z1) ∧ W.cell? ⟨bb, bo + j * 3 + 2, none⟩ = some (.int .i64 z2)) := fun W hW => ⟨bel_cell hW Y3.out, bel_cell hW u0, bel_cell hW u1, bel_cell hW u2⟩
            have HSRC : Hid (∀ t, Src Tryz.prog 1 75 (.slice (some ⟨wo.heap.size, 0, none⟩) 3 3) 3 (rowC intC [z0, z1, z2]) (wo.alloc (.cells #[.int .i64 z0, .int .i64 z1, .int .i64 z2] t)).drew) := fun t => by
              rw [Edi.intC_row]
              exact ((no_new wo.heap.size wo [z0, z1, z2] t (Nat.le_refl _) (by show 3 ≤ 100; omega) 3 rfl #[.int .i64 z0, .int .i64 z1, .int .i64 z2] rfl).below (bel_drew _)).nm.src Tryz.underlying75
            have HBA : Hid (∀ t, Below w4.heap.size w4 (wo.alloc (.cells #[.int .i64 z0, .int .i64 z1, .int .i64 z2] t)).drew) := fun t => bel_tr (bel_tr HBo.out (bel_al _ _)) (bel_drew _)
            have HNA : Hid (∀ t, NO w4.heap.size (wo.alloc (.cells #[.int .i64 z0, .int .i64 z1, .int .i64 z2] t)).drew a m q ([kindZ false, xq, xw, (xbs.length : Int)] ++ blkZ (xbs.take j)) g) := fun t => HNO.out.below (bel_tr (bel_al _ _) (bel_drew _))
            have HLT : Hid (j + 1 ≤ xn) := hlt2
            have hxn8 : xn ≤ 30 := by
              rw [← HXL2.out]
              have := HFX.out.few
              simp only at this
              omega
            clear hno hb hnx2 hbc hBk u0 u1 u2 hjx y3'
            have y3' := (HS0.out _ HBo.out).1
            go_wp2
            go_region_held3 (fun W => W.cell? ⟨wr.heap.size, 3, none⟩ = some (.slice (some ⟨bb, bo, none⟩) xn xc) ∧ W.cell? ⟨bb, bo + j * 3, none⟩ = some (.int .i64 z0) ∧ W.cell? ⟨bb, bo + j * 3 + 1, none⟩ = some (.int .i64 z1) ∧ W.cell? ⟨bb, bo + j * 3 + 2, none⟩ = some (.int .i64 z2))
              (first | exact HS0.out _ (bel_tr HBo.out (bel_drew _)) | exact HS0.out _ (HBA.out _) | exact HS0.out _ B5.out)
              (first
                | (refine step_append_cel rfl (.tmp 72) (.tmp 91) 75 75 rfl 3 ti _ 1 8 Tryz.underlying75 hi1 hi2 hi3 hi4 rfl (O := fun k => w4.heap.size ≤ k) _ m _ g (by simp [Act.eval]) (HNA.out _).cel _ 3 (rowC intC [z0, z1, z2]) (by simp [Act.eval]) (HSRC.out _) (by unfold maxLen; omega) (by omega) ?_; intro a5 c5 w5 g5 hC5 hS5 hg5; have A5 : Hid _ := (HNA.out _).app (ys := [z0, z1, z2]) rfl hC5 (HBA.out _).size; have B5 : Hid (Below w4.heap.size w4 w5) := (HBA.out _).trans ((HNA.out _).appBelow hS5 (HBA.out _).size); clear hC5 hS5 hg5))
            all_goals
              go_wp2
              go_roundw
              case rel => exact ⟨j + 1, m + 3, c5, a5, g5, HLT.out, by go_num, rfl, by rw [HNX2.out]; exact A5.out, B5.out⟩
              case measure => have := HLT.out; simp [intOf]; omega
          · obtain rfl : j = xn := by omega
            have hgd : decide ((j : Int) < (j : Int)) = false := decide_eq_false (by omega)
            rw [← HXL2.out, List.take_length] at hno
            obtain ⟨XN, hXN⟩ : ∃ X, mk (numsB (nodeZ ⟨xp, false, xq, xbs, xw⟩)) = X := ⟨_, rfl⟩
            have hmn : m ≤ 30 := by
              rw [← hno.len, List.length_append, blkZ_len]
              have := HFX.out.few
              simp only at this
              show 4 + _ ≤ 30
              omega
            have hPX : PT ++ XN = NP := by rw [← hNP, ← hPT, ← hXN]; rfl
            have hNS : NP.size ≤ 4290 := by rw [← hNP, ← partK_all]; exact partK_size HFX.out _
            have hpx : PT.size + XN.size ≤ 4290 := by rw [← app_size, hPX]; exact hNS
            have ha1 : ∀ w : World, (Op.stringOp .add PT XN).run Tryz.prog w = .ok (.string NP) w := fun w => by
              have h := run_string_add_sum (P := Tryz.prog) w PT XN (by omega)
              rw [hPX] at h
              exact h
            obtain ⟨O2, hO2⟩ : ∃ X, mk (upN s (k + 1)) = X := ⟨_, rfl⟩
            have ha2 : ∀ w : World, (Op.stringOp .add O SN).run Tryz.prog w = .ok (.string O2) w := fun w => by
              have hs2 : (upN s k).length + SN.size ≤ 260910 := by
                have h1 := HUN.out (k + 1)
                rw [HNX.out, List.length_append, size_list] at h1
                exact h1
              have h := run_string_add_sum (P := Tryz.prog) w O SN (by rw [← HO.out, mk_sz2]; omega)
              have e : O ++ SN = O2 := by
                rw [← HO.out, ← hO2, HNX.out]
                exact bytes_inj (by rw [app_list, mk_li, mk_li])
              rw [e] at h
              exact h
            have CN : Hid (Calls Tryz.prog 40 #[.slice a m q] wo fun e w' => e = .returned (.string XN) ∧ Below wo.heap.size wo w') := refNums_val hno.nm hmn HFX.out.zs XN hXN
            have BO : Hid (Below wr.heap.size wr wo) := bel_tr B4.out hb
            have HO2 : Hid (mk (upN s (k + 1)) = O2) := hO2
            clear hno hmn hlt2 hPX hNS hpx hb hO2 hXN
            go_wp2_with fail
            refine CN.out.mono ?_
            rintro e w5 ⟨rfl, b5⟩
            have B5 : Hid (Below wo.heap.size wo w5) := b5
            clear b5 y3'
            go_wp2_with fail
            refine (CS.out _).mono ?_
            rintro e w6 ⟨rfl, b6⟩
            have B6 : Hid (Below w1.heap.size w1 w6) := bel_tr HB.out (bel_tr BO.out (bel_tr B5.out b6))
            clear b6
            go_wp2
            go_roundw
            case rel => exact ⟨k + 1, O2, by omega, by go_num, rfl, HO2.out, B6.out⟩
            case measure => simp [intOf]; omega
    · obtain rfl : k = N.n := by omega
      have hgd : decide ((N.n : Int) < (N.n : Int)) = false := decide_eq_false (by omega)
      have HO3 : Hid (mk (upL s 0) = O) := by rw [← HEN.out, HNN.out]; exact HO.out
      go_wp2
      go_loopw [5, 13] (fun v c wo => ∃ (j : Nat) (Y : ByteArray), j ≤ L.n ∧ c = .int .i64 j ∧ v = .string Y ∧ mk (upL s j) = Y ∧ Below w1.heap.size w1 wo) (fun _ c _ => L.n - (intOf c).toNat)
      case atStart => exact ⟨0, O, Nat.zero_le _, rfl, rfl, HO3.out, HB.out⟩
      case round =>
        rename World => wo
        obtain ⟨j, Y, hj, rfl, rfl, hY, hb2⟩ := hrel
        have HB2 : Hid (Below w1.heap.size w1 wo) := hb2
        have HY : Hid (mk (upL s j) = Y) := hY
        have z5 := bel_cell hb2 X5.out
        clear hY x4 x5 hgd
        by_cases hlt2 : j < L.n
        · have hjs : j < s.ls.length := by rw [HLN.out]; exact hlt2
          obtain ⟨lb, lo, hadr, hcs⟩ := ((HLL.out.below B1.out).below hb2).at (by omega)
          obtain ⟨c0, c1⟩ := hcs j hjs
          have hff := HFL.out s.ls[j] (List.getElem_mem hjs)
          have hnx := HXL.out j hjs
          have hul := HUL.out (j + 1)
          generalize s.ls[j] = u at *
          obtain ⟨lc, lu⟩ := u
          simp only at c0 c1
          obtain ⟨NP, hNP⟩ : ∃ X, leaseP ⟨lc, lu⟩ = X := ⟨_, rfl⟩
          obtain ⟨SN, hSN⟩ : ∃ X, sealB NP = X := ⟨_, rfl⟩
          rw [hNP, hSN] at hnx
          rw [hNP] at hff
          obtain ⟨O2, hO2⟩ : ∃ X, mk (upL s (j + 1)) = X := ⟨_, rfl⟩
          have ha2 : ∀ w : World, (Op.stringOp .add Y SN).run Tryz.prog w = .ok (.string O2) w := fun w => by
            have hs2 : (upL s j).length + SN.size ≤ 260910 := by
              rw [hnx, List.length_append, size_list] at hul
              exact hul
            have h := run_string_add_sum (P := Tryz.prog) w Y SN (by rw [← HY.out, mk_sz2]; omega)
            have e : Y ++ SN = O2 := by
              rw [← HY.out, ← hO2, hnx]
              exact bytes_inj (by rw [app_list, mk_li, mk_li])
            rw [e] at h
            exact h
          have HO2 : Hid (mk (upL s (j + 1)) = O2) := hO2
          have CN : Hid (∀ (t : TypeId) (W : World), Calls Tryz.prog 40 #[.slice (some ⟨W.heap.size, 0, none⟩) 2 2] (W.alloc (.cells #[.int .i64 lc, .int .i64 lu] t)).drew fun e w' => e = .returned (.string NP) ∧ Below W.heap.size W w') := fun t W => by
            have hno := no_new W.heap.size W [lc, lu] t (Nat.le_refl _) (by show 2 ≤ 100; omega) 2 rfl #[.int .i64 lc, .int .i64 lu] rfl
            exact (refNums_val (hno.below (bel_drew _)).nm (by omega) hff.1.zs NP hNP).mono fun _ _ h => ⟨h.1, bel_tr (bel_al _ _) (bel_tr (bel_drew _) h.2)⟩
          have CS2 : Hid (∀ W, Calls Tryz.prog 39 #[.string NP] W fun e w' => e = .returned (.string SN) ∧ Below W.heap.size W w') := fun W => refSeal12_val NP SN W hff.2 hSN
          obtain ⟨La, Ln, Lc⟩ := L
          simp only at hadr
          subst hadr
          clear hcs hff hnx hul hNP hSN hO2 hb2 hjs
          go_wp2_with fail
          have KB : Hid (∀ t, Below wo.heap.size wo (wo.alloc (.cells #[.int .i64 lc, .int .i64 lu] t)).drew) := fun _ => bel_tr (bel_al _ _) (bel_drew _)
          go_region_held3 (fun W => W.cell? ⟨w.heap.size, 5, none⟩ = some (.slice (some ⟨lb, lo, none⟩) Ln Lc) ∧ W.cell? ⟨lb, lo + j * 2, none⟩ = some (.int .i64 lc) ∧ W.cell? ⟨lb, lo + j * 2 + 1, none⟩ = some (.int .i64 lu))
            (first | (refine ⟨bel_cell KB.out z5, bel_cell KB.out c0, bel_cell KB.out c1⟩; done) | (refine ⟨bel_cell (KB.out _) z5, bel_cell (KB.out _) c0, bel_cell (KB.out _) c1⟩; done) | go_keep)
            (first
              | (go_at_call 40; refine (CN.out _ _).mono ?_; rintro e w5 ⟨rfl, b5⟩; replace KB : Hid (Below wo.heap.size wo w5) := b5; clear b5)
              | (go_at_call 39; refine (CS2.out _).mono ?_; rintro e w6 ⟨rfl, b6⟩; replace KB : Hid (Below wo.heap.size wo w6) := bel_tr KB.out b6; clear b6))
          have B6 : Hid (Below w1.heap.size w1 w6) := bel_tr HB2.out KB.out
          clear KB z5 c0 c1
          go_wp2
          go_roundw
          case rel => exact ⟨j + 1, O2, by omega, by go_num, rfl, HO2.out, B6.out⟩
          case measure => simp [intOf]; omega
        · obtain rfl : j = L.n := by omega
          have hgd : decide ((L.n : Int) < (L.n : Int)) = false := decide_eq_false (by omega)
          have hJ : Y = J := by rw [← HY.out, ← HEL.out, HLN.out]
          subst hJ
          clear hb2 hlt2
          go_wp2
          go_ret2
          exact ⟨rfl, bel_tr B1.out HB2.out⟩

end Go.Proofs.YtigomhilcnnjdaaGreat.Img
