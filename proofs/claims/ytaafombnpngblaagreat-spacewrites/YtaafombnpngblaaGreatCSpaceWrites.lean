/- SpaceWrites: for every list of edits: the statement's function returns true; nothing that was there is changed. No condition. -/
import Derived.Test.YtaafombnpngblaaGreatB30
import Derived.Test.YtaafombnpngblaaGreatB34
import Derived.Test.YtaafombnpngblaaGreatCSpaceL4
import Derived.Test.YtaafombnpngblaaGreatB31
import Derived.Deep.DeepCutAuto
import Derived.Deep.LoopGhost
import Derived.Deep.CutBlock
import Derived.Deep.RegionHeld
import Derived.BigQuiet
namespace Go.Proofs.YtaafombnpngblaaGreat.spaceWrites
open Go.ChangeShapes Go.WideShapes Go.ChangeAt Go.RowKit Go.Proofs.YtaafombnpngblaaGreat Go.Proofs.YtaafombnpngblaaGreat.Spa
open Go.ChangeMaps (open_string shut_string)
open Go.Proofs.YtaafombnpngblaaGreat.Edi (Ed Nm EdAt edV bel_drew)
set_option linter.unusedVariables false

theorem own : ownKnob Tryz.prog.godebug = none := by kernel_rfl

set_option maxRecDepth 100000 in
set_option maxHeartbeats 8000000 in
theorem walk_b (a0 : Option Addr) (b0 off0 cap0 n0 : Nat) (us : List ER) (w : World) (hn0 : us.length = n0) (hU : Eds w a0 b0 off0 us) :
    Calls Tryz.prog 5 #[.slice a0 n0 cap0] w fun e w' => e = .returned (.bool true) ∧ Below w.heap.size w w' := by
  have hx0 : n0 ≤ 9223372036854775807 := by have := hU.len; unfold maxLen at this; omega
  have HN : Hid _ := hn0
  have HU : Hid (Eds w a0 b0 off0 us) := hU
  clear hn0 hU
  have hst := run_store_str
  have hst2 : ∀ (w : World) (a : Addr) (x : Option Addr) (n c : Nat) (m : Mode), (store a (.slice x n c) m).run Tryz.prog w = stored Tryz.prog w a (.slice x n c) m := fun w a x n c m => run_store_any w a _ m rfl
  go_enter Tryz.func5, Tryz.ntmps5
  go_wp2_with fail
  refine (examples_val _).mono ?_
  rintro e w1 ⟨rfl, b1⟩
  have B1 : Hid (Below w.heap.size w w1) := b1
  clear b1
  go_wp2_with fail
  refine (new_val _).mono ?_
  rintro e w2 ⟨⟨N0, L0, p0, g0, gl0, bb0, M0, _, rfl, hO0⟩, c2⟩
  have H2 : Hid _ := Now.start (bel_tr B1.out c2) hO0 27
  clear c2 hO0
  unfold spV
  go_upto_block 0 with fail
  generalize hW : w2.alloc (.cells #[.int .i64 newS.tx, .int .i64 newS.nb, .int .i64 newS.ng, .int .i64 newS.now, .slice N0.a N0.n N0.c, .slice L0.a L0.n L0.c] 27) = w3 at *
  clear hW
  generalize w2.heap.size = q at *
  go_cut [] (fun wx => ∃ (s : Sp) (N L : RS), RtS s ∧ s.tx ≤ 60 ∧ Now w q wx s N L)
  case first =>
   go_wp2_with fail
   go_loopg [5] 60 (fun g v wr => ∃ (k : Nat) (s : Sp) (N L : RS), k ≤ n0 ∧ k + g = 60 ∧ v = .int .i64 k ∧ RtS s ∧ s.tx ≤ k ∧ Now w q wr s N L)
   case atStart => exact ⟨0, newS, N0, L0, by omega, by omega, rfl, new_right, by decide, H2.out⟩
   case round =>
     obtain ⟨k, s, N, L, hk1', hk2', rfl, hR, htx, hNow⟩ := hrel
     have HR : Hid (RtS s) := hR
     have HTX : Hid (s.tx ≤ k) := htx
     have HW : Hid (Now w q wr s N L) := hNow
     clear hR hNow H2 htx
     by_cases hlt : k < n0 ∧ k < 60
     · obtain ⟨hlt0, hlt1⟩ := hlt
       have hk0 : k < us.length := by rw [HN.out]; exact hlt0
       obtain rfl := HU.out.addr (by omega)
       have hEd := (HU.out.below HW.out.bel).at hk0
       have HOK : Hid (EdOk wr us[k]) := (HU.out.below HW.out.bel).ok _ (List.getElem_mem hk0)
       generalize us[k] = u at *
       obtain ⟨⟨ek, ep, et, ec, el, en, els⟩, ⟨ea, em, eq⟩⟩ := u
       obtain ⟨E, hE⟩ := appE_any s ⟨ek, ep, et, ec, el, en, els⟩
       obtain ⟨E1, x1, hS1⟩ := statE_any s ep
       have CA : Hid (∀ W, Below wr.heap.size wr W → Calls Tryz.prog 11 #[spV s N L, edV ⟨ek, ep, et, ec, el, en, els⟩ ea em eq] W fun r w' => ApR W.heap.size (appS s ⟨ek, ep, et, ec, el, en, els⟩ E) E (appB s ⟨ek, ep, et, ec, el, en, els⟩ E) (appN s ⟨ek, ep, et, ec, el, en, els⟩ E) r w' ∧ Below W.heap.size W w') := fun W hb => apply_any (HW.out.spIn.below hb) _ ea em eq (HOK.out.nm.below hb) E hE
       have CS1 : Hid (∀ W, Below wr.heap.size wr W → Calls Tryz.prog 18 #[spV s N L, .string ep] W fun e w' => StatR E1 x1 e w' ∧ Below W.heap.size W w') := fun W hb => stat_val (HW.out.spIn.below hb) ep HOK.out.p HR.out E1 x1 hS1
       have CB : Hid (∀ W, Below wr.heap.size wr W → Calls Tryz.prog 19 #[spV s N L] W fun e w' => (∃ ys, sortB s.ns ys ∧ BlkR ys e w') ∧ Below W.heap.size W w') := fun W hb => blocks_val (HW.out.spIn.below hb) HR.out
       have HE : Hid (AppE s ⟨ek, ep, et, ec, el, en, els⟩ E) := hE
       have HS1 : Hid (StatE s ep E1 x1) := hS1
       have HEP : Hid (ep.size ≤ maxLen) := HOK.out.p
       obtain ⟨g0, g1, g2, g3, g4, g5, g6⟩ := hEd
       unfold spV edV at CA
       unfold spV at CS1 CB
       simp only at CA CS1 CB g0 g1 g2 g3 g4 g5 g6
       have hql : q < wr.heap.size := HW.out.lt
       have NA : Hid (∀ o, Now w q (wr.alloc o) s N L) := fun o => HW.out.below (bel_al _ _)
       have p0 := fun o => (NA.out o).box.c0
       have p1 := fun o => (NA.out o).box.c1
       have p2 := fun o => (NA.out o).box.c2
       have p3 := fun o => (NA.out o).box.c3
       have p4 := fun o => (NA.out o).box.c4
       have p5 := fun o => (NA.out o).box.c5
       clear hE hS1 hk0
       generalize hXN : appN s ⟨ek, ep, et, ec, el, en, els⟩ E = x at *
       generalize hBK : appB s ⟨ek, ep, et, ec, el, en, els⟩ E = bk at *
       generalize hTS : appS s ⟨ek, ep, et, ec, el, en, els⟩ E = t at *
       go_wp2_with fail
       refine (CS1.out _ (bel_al _ _)).mono ?_
       rintro e w2 ⟨⟨sx1, rfl, hok1⟩, c2⟩
       have B2 : Hid (Below wr.heap.size wr w2) := bel_tr (bel_al _ _) c2
       have ED2 : Hid (EdAt w2 wr.heap.size ⟨ek, ep, et, ec, el, en, els⟩ ea em eq) := (EdAt.new wr 42 ⟨ek, ep, et, ec, el, en, els⟩ ea em eq).below c2
       have NB : Hid (∀ o, Now w q (w2.alloc o) s N L) := fun o => (HW.out.below B2.out).below (bel_al _ _)
       clear p0 p1 p2 p3 p4 p5 c2 hok1 g0 g1 g2 g3 g4 g5 g6 NA
       have p0 := fun o => (NB.out o).box.c0
       have p1 := fun o => (NB.out o).box.c1
       have p2 := fun o => (NB.out o).box.c2
       have p3 := fun o => (NB.out o).box.c3
       have p4 := fun o => (NB.out o).box.c4
       have p5 := fun o => (NB.out o).box.c5
       unfold anV zeroB noS
       simp only
       go_wp2_with fail
       refine (CB.out _ (bel_tr B2.out (bel_al _ _))).mono ?_
       rintro e w3 ⟨⟨ys, hys, ⟨r, rfl, hbl⟩⟩, c3⟩
       have B3 : Hid (Below wr.heap.size wr w3) := bel_tr B2.out (bel_tr (bel_al _ _) c3)
       have AW3 : Hid (AnC w3 w2.heap.size E1 zeroB noS (x1, sx1) 0) := (an_new w2 37 E1 zeroB (x1, sx1)).below c3
       have ED3 : Hid (EdAt w3 wr.heap.size ⟨ek, ep, et, ec, el, en, els⟩ ea em eq) := ED2.out.below (bel_tr (bel_al _ _) c3)
       have HYS : Hid (sortB s.ns ys) := hys
       have HB3 : Hid (Blks w3 r ys) := hbl
       have N3 : Hid (Now w q w3 s N L) := HW.out.below B3.out
       clear p0 p1 p2 p3 p4 p5 c3 hys hbl NB ED2
       obtain ⟨p0, p1, p2, p3, p4, p5, _⟩ := N3.out.box
       obtain ⟨e0, e1, e2, e3, e4, e5, e6, _⟩ := ED3.out
       simp only at e0 e1 e2 e3 e4 e5 e6
       go_wp2_with fail
       refine (CA.out _ B3.out).mono ?_
       rintro e w4 ⟨⟨N1, L1, ps1, gg1, gl1, base1, M1, sx, rfl, hO1, hF1, hb1, hb2⟩, c4⟩
       have B4 : Hid (Below wr.heap.size wr w4) := bel_tr B3.out c4
       have hsz := B3.out.size
       have HL : Hid _ := land_new (E := E) (b := bk) B4.out hO1 hF1 (by omega) hb2 27 37
       have HI4 : Hid (SpIn w4 t N1 L1) := hO1.spIn
       have ED4 : Hid (EdAt w4 wr.heap.size ⟨ek, ep, et, ec, el, en, els⟩ ea em eq) := ED3.out.below c4
       have AW4 : Hid (AnC w4 w2.heap.size E1 zeroB noS (x1, sx1) 0) := AW3.out.below c4
       have HB4 : Hid (Blks w4 r ys) := HB3.out.below c4
       clear p0 p1 p2 p3 p4 p5 e0 e1 e2 e3 e4 e5 e6 c4 hO1 hF1 hb1 hb2 CA CS1 CB hsz
       have f1 := cell_al2 ED4.out.c1
       unfold spV anV noS
       simp only at f1 ⊢
       by_cases h0 : E = 0
       · subst h0
         have hts : doS s ⟨ek, ep, et, ec, el, en, els⟩ = t := hTS
         have HT : Hid (doS s ⟨ek, ep, et, ec, el, en, els⟩ = t) := hts
         have HRt : Hid (RtS t) := hts ▸ (app_keeps HE.out).2
         have HTt : Hid (t.tx ≤ ((k + 1 : Nat) : Int)) := by
           have h1 := HTX.out
           rw [← hts]
           show s.tx + 1 ≤ _
           omega
         obtain ⟨E2, x2, hS2⟩ := statE_any t ep
         have HS2 : Hid (StatE t ep E2 x2) := hS2
         have CS2 : Hid (∀ W, Below w4.heap.size w4 W → Calls Tryz.prog 18 #[spV t N1 L1, .string ep] W fun e w' => StatR E2 x2 e w' ∧ Below W.heap.size W w') := fun W hb => stat_val (HI4.out.below hb) ep HEP.out HRt.out E2 x2 hS2
         unfold spV at CS2
         have hBK' : blkOf s ⟨ek, ep, et, ec, el, en, els⟩ = bk := hBK
         clear hTS hts hXN hS2 hBK
         have hBK := hBK'
         clear hBK'
         go_wp2_with fail
         refine (CS2.out _ (bel_tr (bel_al _ _) (bel_al _ _))).mono ?_
         rintro e w5 ⟨⟨sx2, rfl, _⟩, c5⟩
         have L5a : Hid _ := HL.out.below c5
         have c5w : Hid (Below w4.heap.size w4 w5) := bel_tr (bel_tr (bel_al _ _) (bel_al _ _)) c5
         clear c5
         unfold anV zeroB noS
         simp only
         go_upto_region 12 with fail
         have NWA : Hid (AnC (w5.alloc (.cells #[.int .i64 E2, .int .i64 0, .int .i64 0, .int .i64 0, .slice none 0 0, .string x2.path, .bool x2.dir, .int .i64 x2.quota, .slice sx2.a sx2.n sx2.c, .int .i64 x2.wr, .int .i64 0] 37)) w5.heap.size E2 zeroB noS (x2, sx2) 0) := an_new w5 37 E2 zeroB (x2, sx2)
         have BW5 : Hid (Below w5.heap.size w5 (w5.alloc (.cells #[.int .i64 E2, .int .i64 0, .int .i64 0, .int .i64 0, .slice none 0 0, .string x2.path, .bool x2.dir, .int .i64 x2.quota, .slice sx2.a sx2.n sx2.c, .int .i64 x2.wr, .int .i64 0] 37))) := bel_al _ _
         generalize w5.alloc (.cells #[.int .i64 E2, .int .i64 0, .int .i64 0, .int .i64 0, .slice none 0 0, .string x2.path, .bool x2.dir, .int .i64 x2.quota, .slice sx2.a sx2.n sx2.c, .int .i64 x2.wr, .int .i64 0] 37) = W5 at *
         have B45 : Hid (Below w4.heap.size w4 W5) := bel_tr c5w.out BW5.out
         have L5 : Hid (Land wr W5 w4.heap.size (w4.heap.size + 1) t N1 L1 0 bk x sx) := L5a.out.below BW5.out
         have N5 : Hid (Now w q W5 s N L) := HW.out.below (bel_tr B4.out B45.out)
         have HI5 : Hid (SpIn W5 t N1 L1) := HI4.out.below B45.out
         have HBL : Hid (Blks W5 r ys) := HB4.out.below B45.out
         obtain ⟨f0, _, _, f3, _, _, _, _⟩ := ED4.out.below B45.out
         simp only at f0 f3
         have aw := (AW4.out.below B45.out).c9
         have nw := NWA.out.c9
         have c1 := L5.out.an.c1
         have c2 := L5.out.an.c2
         have p1 := N5.out.box.c1
         have p2 := N5.out.box.c2
         simp only at aw nw
         clear f1 CS2 L5a c5w BW5 HL AW4 ED4 HB4 NWA
         have hk := trivial
         clear hk
         by_cases hk5 : ek = 5
         · have hk := hk5
           clear hk5
           obtain ⟨i1, y1, hi1, hw1, hgen, hid⟩ := wr_block (e := ⟨ek, ep, et, ec, el, en, els⟩) HE.out (by show ek = 5 ∨ ek = 9; omega)
           obtain ⟨_, hxy⟩ := HS1.out.is hi1
           have hwb : (x1.wr != ec) = false := by rw [hxy]; simpa using hw1
           have hgb : (bk.gen != s.ng) = false := by rw [← hBK]; simpa using hgen
           have hib : (bk.id != s.nb) = false := by rw [← hBK]; simpa using hid hk
           have HGN : Hid (∀ j (hj : j < ys.length), (ys[j].gen == bk.gen) = false ∧ (ek = 5 → (ys[j].id == bk.id) = false)) := fun j hj => by
             have hm : ys[j] ∈ blksL s.ns := HYS.out.1.subset (List.getElem_mem hj)
             have hlo := HR.out.lo _ hm
             have e1 : bk.gen = s.ng := by rw [← hBK]; exact hgen
             refine ⟨by rw [e1, beq_eq_false_iff_ne]; omega, fun h5 => ?_⟩
             have e2 : bk.id = s.nb := by rw [← hBK]; exact hid h5
             rw [e2, beq_eq_false_iff_ne]; omega
           have k5b : (ek == 5) = true := by rw [hk]; decide
           have k9b : (ek == 9) = false := by rw [hk]; decide
           have k6b : (ek == 6) = false := by rw [hk]; decide
           have k1b : (ek == 1) = false := by rw [hk]; decide
           have k7b : (ek == 7) = false := by rw [hk]; decide
           have k8b : (ek == 8) = false := by rw [hk]; decide

           have hlen := HBL.out.len
           have hlid := HBL.out.lid
           unfold maxLen at hlid
           have HLN : Hid (ys.length = r.n) := hlen
           obtain ⟨ra, rn, rc⟩ := r
           simp only at HLN hlid hlen
           clear hlen hi1 hw1 hgen hid hxy
           have HKK : Hid (ek = 5) := hk
           go_wp2
           go_loopg [12] rn (fun g v wi => ∃ j : Nat, j + g = rn ∧ v = .int .i64 j ∧ Below W5.heap.size W5 wi)
           case atStart => exact ⟨0, by omega, rfl, Below.refl _ _⟩
           case round =>
             obtain ⟨j, hjg, rfl, hbi⟩ := hrel
             have HBI : Hid (Below W5.heap.size W5 wr) := hbi
             have r0 := bel_cell hbi f0
             have r1 := bel_cell hbi c1
             have r2 := bel_cell hbi c2
             by_cases hj : j < rn
             · have hjy : j < ys.length := by rw [HLN.out]; exact hj
               obtain ⟨bb, bo, hba, hbc⟩ := (HBL.out.below hbi).cells (by show 0 < rn; omega)
               simp only at hba
               subst hba
               have y0 : wr.cell? ⟨bb, bo + j * 3, none⟩ = some (.int .i64 ys[j].id) := hbc j hjy 0 _ rfl
               have y1' := hbc j hjy 1 _ rfl
               obtain ⟨hg1, hg2⟩ := HGN.out j hjy
               have hg3 := hg2 HKK.out
               clear hbc hbi
               generalize ys[j].id = b0' at *
               generalize ys[j].gen = b1' at *
               generalize ys[j].len = b2' at *
               clear hjy
               go_wp2
               go_quiet (fail)
               go_wp2
               go_roundg (rn - (j + 1))
               case measure => omega
               case rel => exact ⟨j + 1, by omega, by go_num, bel_tr HBI.out (bel_drewN _ _)⟩
             · obtain rfl : j = rn := by omega
               have hgd : decide ((j : Int) < (j : Int)) = false := decide_eq_false (by omega)
               have L9 : Hid _ := L5.out.below hbi
               have N9 : Hid _ := N5.out.below hbi
               clear hbi
               obtain ⟨z0, z1, z2, z3, z4, z5, _⟩ := L9.out.box
               obtain ⟨x0, x1', x2', x3, x4, x5, xf⟩ := N9.out.box
               have hput := L9.out.put N9.out hql
               rw [put6_def] at hput
               have HPUT : Hid _ := hput
               clear hput
               go_wp2
               go_roundg (60 - (k + 1))
               case measure => omega
               case rel => exact ⟨k + 1, t, _, _, by omega, by omega, by go_num, HRt.out, HTt.out, HPUT.out⟩
         · by_cases hk9 : ek = 9
           · have hk := hk9
             clear hk9 hk5
             obtain ⟨i1, y1, hi1, hw1, hgen, hid⟩ := wr_block (e := ⟨ek, ep, et, ec, el, en, els⟩) HE.out (by show ek = 5 ∨ ek = 9; omega)
             obtain ⟨_, hxy⟩ := HS1.out.is hi1
             have hwb : (x1.wr != ec) = false := by rw [hxy]; simpa using hw1
             have hgb : (bk.gen != s.ng) = false := by rw [← hBK]; simpa using hgen

             have HGN : Hid (∀ j (hj : j < ys.length), (ys[j].gen == bk.gen) = false ∧ (ek = 5 → (ys[j].id == bk.id) = false)) := fun j hj => by
               have hm : ys[j] ∈ blksL s.ns := HYS.out.1.subset (List.getElem_mem hj)
               have hlo := HR.out.lo _ hm
               have e1 : bk.gen = s.ng := by rw [← hBK]; exact hgen
               refine ⟨by rw [e1, beq_eq_false_iff_ne]; omega, fun h5 => ?_⟩
               have e2 : bk.id = s.nb := by rw [← hBK]; exact hid h5
               rw [e2, beq_eq_false_iff_ne]; omega
             have k5b : (ek == 5) = false := by rw [hk]; decide
             have k9b : (ek == 9) = true := by rw [hk]; decide
             have k6b : (ek == 6) = false := by rw [hk]; decide
             have k1b : (ek == 1) = false := by rw [hk]; decide
             have k7b : (ek == 7) = false := by rw [hk]; decide
             have k8b : (ek == 8) = false := by rw [hk]; decide

             have hlen := HBL.out.len
             have hlid := HBL.out.lid
             unfold maxLen at hlid
             have HLN : Hid (ys.length = r.n) := hlen
             obtain ⟨ra, rn, rc⟩ := r
             simp only at HLN hlid hlen
             clear hlen hi1 hw1 hgen hid hxy
             have HKK : Hid (ek = 9) := hk
             go_wp2
             go_loopg [12] rn (fun g v wi => ∃ j : Nat, j + g = rn ∧ v = .int .i64 j ∧ Below W5.heap.size W5 wi)
             case atStart => exact ⟨0, by omega, rfl, Below.refl _ _⟩
             case round =>
               obtain ⟨j, hjg, rfl, hbi⟩ := hrel
               have HBI : Hid (Below W5.heap.size W5 wr) := hbi
               have r0 := bel_cell hbi f0
               have r1 := bel_cell hbi c1
               have r2 := bel_cell hbi c2
               by_cases hj : j < rn
               · have hjy : j < ys.length := by rw [HLN.out]; exact hj
                 obtain ⟨bb, bo, hba, hbc⟩ := (HBL.out.below hbi).cells (by show 0 < rn; omega)
                 simp only at hba
                 subst hba
                 have y0 : wr.cell? ⟨bb, bo + j * 3, none⟩ = some (.int .i64 ys[j].id) := hbc j hjy 0 _ rfl
                 have y1' := hbc j hjy 1 _ rfl
                 obtain ⟨hg1, hg2⟩ := HGN.out j hjy
                 clear hg2
                 clear hbc hbi
                 generalize ys[j].id = b0' at *
                 generalize ys[j].gen = b1' at *
                 generalize ys[j].len = b2' at *
                 clear hjy
                 go_wp2
                 go_quiet (fail)
                 go_wp2
                 go_roundg (rn - (j + 1))
                 case measure => omega
                 case rel => exact ⟨j + 1, by omega, by go_num, bel_tr HBI.out (bel_drewN _ _)⟩
               · obtain rfl : j = rn := by omega
                 have hgd : decide ((j : Int) < (j : Int)) = false := decide_eq_false (by omega)
                 have L9 : Hid _ := L5.out.below hbi
                 have N9 : Hid _ := N5.out.below hbi
                 clear hbi
                 obtain ⟨z0, z1, z2, z3, z4, z5, _⟩ := L9.out.box
                 obtain ⟨x0, x1', x2', x3, x4, x5, xf⟩ := N9.out.box
                 have hput := L9.out.put N9.out hql
                 rw [put6_def] at hput
                 have HPUT : Hid _ := hput
                 clear hput
                 go_wp2
                 go_roundg (60 - (k + 1))
                 case measure => omega
                 case rel => exact ⟨k + 1, t, _, _, by omega, by omega, by go_num, HRt.out, HTt.out, HPUT.out⟩
           · by_cases hk6 : ek = 6
             · have hk := hk6
               clear hk9 hk5 hk6
               obtain ⟨i1, y1, hi1, hw1, y2, hi2, hw2⟩ := wr_comp (e := ⟨ek, ep, et, ec, el, en, els⟩) HE.out hk
               obtain ⟨_, hxy⟩ := HS1.out.is hi1
               have hwb : (x1.wr != ec) = false := by rw [hxy]; simpa using hw1
               have hi2' : Is t.ns ep i1 y2 := HT.out ▸ hi2
               obtain ⟨_, hxz⟩ := HS2.out.is hi2'
               have hnb : (x2.wr != -1) = false := by rw [hxz, hw2]; rfl
               have k5b : (ek == 5) = false := by rw [hk]; decide
               have k9b : (ek == 9) = false := by rw [hk]; decide
               have k6b : (ek == 6) = true := by rw [hk]; decide
               have k1b : (ek == 1) = false := by rw [hk]; decide
               have k7b : (ek == 7) = false := by rw [hk]; decide
               have k8b : (ek == 8) = false := by rw [hk]; decide

               clear hi1 hw1 hi2 hi2' hw2 hxy hxz
               obtain ⟨z0, z1, z2, z3, z4, z5, _⟩ := L5.out.box
               obtain ⟨x0, x1', x2', x3, x4, x5, xf⟩ := N5.out.box
               have hput := L5.out.put N5.out hql
               rw [put6_def] at hput
               have HPUT : Hid _ := hput
               clear hput
               go_wp2
               go_roundg (60 - (k + 1))
               case measure => omega
               case rel => exact ⟨k + 1, t, _, _, by omega, by omega, by go_num, HRt.out, HTt.out, HPUT.out⟩
             · by_cases hk1 : ek = 1
               · have hk := hk1
                 clear hk9 hk5 hk6 hk1
                 have hpm := wr_same (e := ⟨ek, ep, et, ec, el, en, els⟩) HE.out (by show ek = 1 ∨ ek = 7 ∨ ek = 8; omega)
                 rw [HT.out] at hpm
                 have HPM : Hid ((blksL t.ns).Perm (blksL s.ns)) := hpm
                 clear hpm
                 have k5b : (ek == 5) = false := by rw [hk]; decide
                 have k9b : (ek == 9) = false := by rw [hk]; decide
                 have k6b : (ek == 6) = false := by rw [hk]; decide
                 have k1b : (ek == 1) = true := by rw [hk]; decide
                 have k7b : (ek == 7) = false := by rw [hk]; decide
                 have k8b : (ek == 8) = false := by rw [hk]; decide

                 obtain ⟨z0, z1, z2, z3, z4, z5, _⟩ := L5.out.box
                 have CB2 : Hid (Calls Tryz.prog 19 #[spV t N1 L1] W5 fun e w' => (∃ ys, sortB t.ns ys ∧ BlkR ys e w') ∧ Below W5.heap.size W5 w') := blocks_val HI5.out HRt.out
                 unfold spV at CB2
                 go_wp2_with fail
                 refine CB2.out.mono ?_
                 rintro e w6 ⟨⟨ys2, hys2, ⟨r2, rfl, hbl2⟩⟩, c6⟩
                 obtain rfl : ys2 = ys := sortB_one hys2 HYS.out HPM.out
                 have C6 : Hid (Below W5.heap.size W5 w6) := c6
                 have CBS : Hid (Calls Tryz.prog 20 #[.slice r2.a r2.n r2.c, .slice r.a r.n r.c] w6 fun e w' => e = .returned (.bool true) ∧ Below w6.heap.size w6 w') := blocks_same hbl2 (HBL.out.below c6)
                 clear c6 hys2 hbl2 z0 z1 z2 z3 z4 z5
                 go_wp2_with fail
                 refine CBS.out.mono ?_
                 rintro e w7 ⟨rfl, c7⟩
                 have L9 : Hid _ := L5.out.below (bel_tr C6.out c7)
                 have N9 : Hid _ := N5.out.below (bel_tr C6.out c7)
                 clear c7
                 obtain ⟨z0, z1, z2, z3, z4, z5, _⟩ := L9.out.box
                 obtain ⟨x0, x1', x2', x3, x4, x5, xf⟩ := N9.out.box
                 have hput := L9.out.put N9.out hql
                 rw [put6_def] at hput
                 have HPUT : Hid _ := hput
                 clear hput
                 go_wp2
                 go_roundg (60 - (k + 1))
                 case measure => omega
                 case rel => exact ⟨k + 1, t, _, _, by omega, by omega, by go_num, HRt.out, HTt.out, HPUT.out⟩
               · by_cases hk7 : ek = 7
                 · have hk := hk7
                   clear hk9 hk5 hk6 hk1 hk7
                   have hpm := wr_same (e := ⟨ek, ep, et, ec, el, en, els⟩) HE.out (by show ek = 1 ∨ ek = 7 ∨ ek = 8; omega)
                   rw [HT.out] at hpm
                   have HPM : Hid ((blksL t.ns).Perm (blksL s.ns)) := hpm
                   clear hpm
                   have k5b : (ek == 5) = false := by rw [hk]; decide
                   have k9b : (ek == 9) = false := by rw [hk]; decide
                   have k6b : (ek == 6) = false := by rw [hk]; decide
                   have k1b : (ek == 1) = false := by rw [hk]; decide
                   have k7b : (ek == 7) = true := by rw [hk]; decide
                   have k8b : (ek == 8) = false := by rw [hk]; decide

                   obtain ⟨z0, z1, z2, z3, z4, z5, _⟩ := L5.out.box
                   have CB2 : Hid (Calls Tryz.prog 19 #[spV t N1 L1] W5 fun e w' => (∃ ys, sortB t.ns ys ∧ BlkR ys e w') ∧ Below W5.heap.size W5 w') := blocks_val HI5.out HRt.out
                   unfold spV at CB2
                   go_wp2_with fail
                   refine CB2.out.mono ?_
                   rintro e w6 ⟨⟨ys2, hys2, ⟨r2, rfl, hbl2⟩⟩, c6⟩
                   obtain rfl : ys2 = ys := sortB_one hys2 HYS.out HPM.out
                   have C6 : Hid (Below W5.heap.size W5 w6) := c6
                   have CBS : Hid (Calls Tryz.prog 20 #[.slice r2.a r2.n r2.c, .slice r.a r.n r.c] w6 fun e w' => e = .returned (.bool true) ∧ Below w6.heap.size w6 w') := blocks_same hbl2 (HBL.out.below c6)
                   clear c6 hys2 hbl2 z0 z1 z2 z3 z4 z5
                   go_wp2_with fail
                   refine CBS.out.mono ?_
                   rintro e w7 ⟨rfl, c7⟩
                   have L9 : Hid _ := L5.out.below (bel_tr C6.out c7)
                   have N9 : Hid _ := N5.out.below (bel_tr C6.out c7)
                   clear c7
                   obtain ⟨z0, z1, z2, z3, z4, z5, _⟩ := L9.out.box
                   obtain ⟨x0, x1', x2', x3, x4, x5, xf⟩ := N9.out.box
                   have hput := L9.out.put N9.out hql
                   rw [put6_def] at hput
                   have HPUT : Hid _ := hput
                   clear hput
                   go_wp2
                   go_roundg (60 - (k + 1))
                   case measure => omega
                   case rel => exact ⟨k + 1, t, _, _, by omega, by omega, by go_num, HRt.out, HTt.out, HPUT.out⟩
                 · by_cases hk8 : ek = 8
                   · have hk := hk8
                     clear hk9 hk5 hk6 hk1 hk7 hk8
                     have hpm := wr_same (e := ⟨ek, ep, et, ec, el, en, els⟩) HE.out (by show ek = 1 ∨ ek = 7 ∨ ek = 8; omega)
                     rw [HT.out] at hpm
                     have HPM : Hid ((blksL t.ns).Perm (blksL s.ns)) := hpm
                     clear hpm
                     have k5b : (ek == 5) = false := by rw [hk]; decide
                     have k9b : (ek == 9) = false := by rw [hk]; decide
                     have k6b : (ek == 6) = false := by rw [hk]; decide
                     have k1b : (ek == 1) = false := by rw [hk]; decide
                     have k7b : (ek == 7) = false := by rw [hk]; decide
                     have k8b : (ek == 8) = true := by rw [hk]; decide

                     obtain ⟨z0, z1, z2, z3, z4, z5, _⟩ := L5.out.box
                     have CB2 : Hid (Calls Tryz.prog 19 #[spV t N1 L1] W5 fun e w' => (∃ ys, sortB t.ns ys ∧ BlkR ys e w') ∧ Below W5.heap.size W5 w') := blocks_val HI5.out HRt.out
                     unfold spV at CB2
                     go_wp2_with fail
                     refine CB2.out.mono ?_
                     rintro e w6 ⟨⟨ys2, hys2, ⟨r2, rfl, hbl2⟩⟩, c6⟩
                     obtain rfl : ys2 = ys := sortB_one hys2 HYS.out HPM.out
                     have C6 : Hid (Below W5.heap.size W5 w6) := c6
                     have CBS : Hid (Calls Tryz.prog 20 #[.slice r2.a r2.n r2.c, .slice r.a r.n r.c] w6 fun e w' => e = .returned (.bool true) ∧ Below w6.heap.size w6 w') := blocks_same hbl2 (HBL.out.below c6)
                     clear c6 hys2 hbl2 z0 z1 z2 z3 z4 z5
                     go_wp2_with fail
                     refine CBS.out.mono ?_
                     rintro e w7 ⟨rfl, c7⟩
                     have L9 : Hid _ := L5.out.below (bel_tr C6.out c7)
                     have N9 : Hid _ := N5.out.below (bel_tr C6.out c7)
                     clear c7
                     obtain ⟨z0, z1, z2, z3, z4, z5, _⟩ := L9.out.box
                     obtain ⟨x0, x1', x2', x3, x4, x5, xf⟩ := N9.out.box
                     have hput := L9.out.put N9.out hql
                     rw [put6_def] at hput
                     have HPUT : Hid _ := hput
                     clear hput
                     go_wp2
                     go_roundg (60 - (k + 1))
                     case measure => omega
                     case rel => exact ⟨k + 1, t, _, _, by omega, by omega, by go_num, HRt.out, HTt.out, HPUT.out⟩
                   ·
                     have k5b : (ek == 5) = false := by simpa using hk5
                     have k9b : (ek == 9) = false := by simpa using hk9
                     have k6b : (ek == 6) = false := by simpa using hk6
                     have k1b : (ek == 1) = false := by simpa using hk1
                     have k7b : (ek == 7) = false := by simpa using hk7
                     have k8b : (ek == 8) = false := by simpa using hk8
                     obtain ⟨z0, z1, z2, z3, z4, z5, _⟩ := L5.out.box
                     obtain ⟨x0, x1', x2', x3, x4, x5, xf⟩ := N5.out.box
                     have hput := L5.out.put N5.out hql
                     rw [put6_def] at hput
                     have HPUT : Hid _ := hput
                     clear hput
                     go_wp2
                     go_roundg (60 - (k + 1))
                     case measure => omega
                     case rel => exact ⟨k + 1, t, _, _, by omega, by omega, by go_num, HRt.out, HTt.out, HPUT.out⟩
       · have h0b : (E != 0) = true := by simpa using h0
         go_wp2
         go_roundg (60 - (k + 1))
         case measure => omega
         case rel => exact ⟨k + 1, s, N, L, by omega, by omega, by go_num, HR.out, by have := HTX.out; omega, HW.out.below HL.out.bel⟩
     · by_cases hk0 : k < n0
       · have hg1 : decide ((k : Int) < (n0 : Int)) = true := decide_eq_true (by omega)
         have hg2 : decide ((k : Int) < 60) = false := decide_eq_false (by omega)
         go_wp2
         go_meet
         case rel => exact ⟨s, N, L, HR.out, by have := HTX.out; omega, HW.out⟩
       · have hg1 : decide ((k : Int) < (n0 : Int)) = false := decide_eq_false (by omega)
         go_wp2
         go_meet
         case rel => exact ⟨s, N, L, HR.out, by have := HTX.out; omega, HW.out⟩
  case rest =>
   obtain ⟨s, N, L, hR, htx, hNow⟩ := hcut
   have HR : Hid (RtS s) := hR
   have HW : Hid (Now w q wc s N L) := hNow
   have HTT : Hid (s.tx ≠ 300) := by show s.tx ≠ 300; omega
   have HNL : Hid (NL wc N.a N.n s.ns) := hNow.spIn.nl
   clear hR htx hNow H2 HU HN hx0
   go_wp2
   go_ret
   exact ⟨rfl, HW.out.bel⟩

theorem walk (a0 : Option Addr) (b0 off0 cap0 : Nat) (ss0 : List ER) (W : World) (h0 : Eds W a0 b0 off0 ss0 ∧ ss0.length ≤ cap0) :
    Calls Tryz.prog 5 #[.slice a0 ss0.length cap0] W fun e w' => e = .returned (.bool true) ∧ Below W.heap.size W w' :=
  walk_b a0 b0 off0 cap0 _ ss0 W rfl h0.1

set_option maxRecDepth 100000 in
theorem lifted (os : Os) (started : os.Started) (H : Type) (enc : TypeId × Value → H) :
    ReturnsInHanded {} Tryz.checked os 5 .any (Rows.spaceWritesSpec.pre6 enc Tryz.prog Tryz.f5 Rows.spaceWritesRow.domain false) (Rows.spaceWritesSpec.post enc Tryz.prog Tryz.f5 false true false false) := by
  refine returnsInHanded_of_change (C := Tryz.checked) own started (by kernel_rfl) Tryz.func5
    (ChangeSpec.witness6 (enc := enc) (C := Tryz.checked) false ⟨#[], #[.slice none 0 0], []⟩ 8 (by kernel_rfl) (by kernel_rfl) (by kernel_rfl) (by kernel_rfl)) ?_
  intro W base args ds gs before hval0 hW hcnd _
  have hval : ∀ (j : Nat) t v, Tryz.f5.params[j]? = some t → args[j]? = some v → Value.okWide Tryz.prog W .any base t v := hval0
  have hW' := hW
  obtain ⟨p, q, hA0, hV, rfl, hfz, hnd⟩ := hW
  have hA : DataW.TrodAll enc Tryz.prog W 0 (fun _ => true) true Tryz.f5.params.toList args.toList ds p := hA0
  rw [Tryz.params5] at hA hval
  obtain ⟨v0, vs0, d0, ds0, p0, q0, hargs, rfl, rfl, h0, r0⟩ := trodAll_cons hA
  obtain ⟨rfl, rfl, rfl⟩ := trodAll_nil r0
  obtain rfl : args = #[v0] := by cases args; simp_all
  obtain ⟨rfl, rfl⟩ := trodVars_none hV
  obtain ⟨a0, len0, cap0, rfl⟩ := okWide_slice Tryz.underlying22 (hval 0 22 v0 rfl rfl)
  have k0 := h0
  have lt0 : ∀ x ∈ p0, x.block < W.heap.size := by obtain ⟨m, hm⟩ := k0; exact DataW.trod_lt m _ _ _ hm
  obtain ⟨b0, off0, ss0, rfl, w0⟩ := Spa.open_edits h0
  clear hA0 hval0
  refine (walk a0 b0 off0 cap0 ss0 W w0).mono fun e W' ⟨he, bel⟩ => ?_
  subst he
  exact ⟨_, rfl, _, _, _, [], _, [], hW', trodAll_mk1 (shut_bool Tryz.underlying4 _), (trodAll_cons_mk (Below.trod laidOut (by kernel_rfl) (of_decide_eq_true (by kernel_rfl)) k0 bel lt0) trodAll_mk0), rfl, bel.frame _, fun h => by cases h⟩

theorem over : Rows.spaceWritesRow.holds Tryz.pinned (OpenSpec.ofChange Rows.spaceWritesSpec) :=
  OpenClaim.holds_of_wide 5 Tryz.f5 rfl rfl rfl rfl rfl rfl rfl ⟨rfl, rfl, rfl, rfl, rfl⟩ rfl rfl rfl rfl rfl (by kernel_rfl) Tryz.func5 (by kernel_rfl)
    (of_decide_eq_true (by kernel_rfl)) (by unfold Func.isWrapper; first | (rw [if_pos (by decide +kernel)]; kernel_rfl) | (rw [if_neg (by decide +kernel)]; exact ⟨rfl, rfl⟩))
    (fun os started H enc _ => lifted os started H enc)
end Go.Proofs.YtaafombnpngblaaGreat.spaceWrites

namespace Go.Proofs.YtaafombnpngblaaGreat
/-- The statement. -/
theorem spaceWrites_holds : Rows.SpaceWritesSaid := spaceWrites.over
#print axioms spaceWrites_holds
end Go.Proofs.YtaafombnpngblaaGreat
