/- Part 52 of the proof: ImageL2. -/
import Derived.Test.YtdilfbfkeiaafaaGreatB44
import Derived.Test.YtdilfbfkeiaafaaGreatB45
import Derived.BigQuiet
import Derived.Deep.CutBlock
import Derived.Deep.DeepCutAuto
import Derived.Deep.LoopGhost
import Derived.Deep.RegionHeld
set_option maxRecDepth 100000
set_option maxHeartbeats 8000000
namespace Go.Proofs.YtdilfbfkeiaafaaGreat.Spa
open Go.RowKit Go.Proofs.YtdilfbfkeiaafaaGreat
open Go.Proofs.YtdilfbfkeiaafaaGreat.Edi (Ed Nm EdAt edV bel_drew)
structure OfR (e : Ending) (w' : World) : Prop where
  ex : ∃ s N L, e = .returned (spV s N L) ∧ RtS s ∧ SpIn w' s N L
structure Ofs (w : World) (q R : Nat) (wr : World) (s : Sp) (N L : RS) : Prop where
  bel : Below w.heap.size w wr
  box : SpC wr q s N L
  res : SpC wr R zeroS noS noS
  apt : Apt w.heap.size q R wr s N L
theorem Ofs.below {w wr w' : World} {q R : Nat} {s : Sp} {N L : RS} (h : Ofs w q R wr s N L) (hb : Below wr.heap.size wr w') : Ofs w q R w' s N L := ⟨bel_tr h.bel hb, h.box.below hb, h.res.below hb, h.apt.below hb⟩
theorem Ofs.put {w wr W : World} {q R tq aq : Nat} {s t : Sp} {N L N1 L1 : RS} {E : Int} {b : Blk} {x : Nd} {sx : RS} (h : Ofs w q R W s N L) (hl : Land wr W tq aq t N1 L1 E b x sx) (hq : q < wr.heap.size) (hR : R < wr.heap.size) (hne : q ≠ R) (q0 : w.heap.size ≤ q) : Ofs w q R (put6 W q t N1 L1) t N1 L1 := by
  obtain ⟨ps, g, gl, base, M, h1, h2, _⟩ := hl.own
  have hp := put6_at h.box t N1 L1
  refine ⟨bel_put6 h.bel h.box q0 _ _ _, hp.1, h.res.keep hp.2 (fun e => hne e.symm), ?_⟩
  exact Apt.put ⟨ps, g, gl, base, M, h1, .inl (by omega), .inl (by omega), by omega⟩ h.box
theorem of_val (a0 : Option Addr) (b0 off0 cap0 n0 : Nat) (us : List ER) (w : World) (hn0 : us.length = n0) (hU : Eds w a0 b0 off0 us) :
    Calls Tryz.prog 20 #[.slice a0 n0 cap0] w fun e w' => OfR e w' ∧ Below w.heap.size w w' := by
  have hx0 : n0 ≤ 9223372036854775807 := by have := hU.len; unfold maxLen at this; omega
  have HN : Hid _ := hn0
  have HU : Hid (Eds w a0 b0 off0 us) := hU
  clear hn0 hU; have hst := run_store_str
  have hst2 := sto2
  go_enter Tryz.func20, Tryz.ntmps20; go_wp2_with fail
  refine (new_val _).mono ?_
  rintro e w2 ⟨⟨N0, L0, p0, g0, gl0, bb0, M0, hbb0, rfl, hO0⟩, c2⟩; have hsz2 : ∀ o : Obj, (w.alloc o).heap.size = w.heap.size + 1 := fun o => by simp
  have hw2 := c2.size
  rw [hsz2] at hbb0 hw2
  have R2 : SpC w2 w.heap.size zeroS noS noS := (SpC.new w 27 zeroS noS noS).below c2
  have B2 : Below w.heap.size w w2 := bel_tr (bel_al _ _) c2
  have H2 : Hid (Ofs w w2.heap.size w.heap.size (w2.alloc (.cells #[.int .i64 newS.tx, .int .i64 newS.nb, .int .i64 newS.ng, .int .i64 newS.now, .slice N0.a N0.n N0.c, .slice L0.a L0.n L0.c] 27)) newS N0 L0) := ⟨bel_tr B2 (bel_al _ _), SpC.new w2 _ newS N0 L0, R2.below (bel_al _ _), p0, g0, gl0, bb0, w2.heap.size, hO0.top.below (bel_al _ _), .inr (Nat.le_refl _), .inl (by omega), by omega⟩
  have hqR : w2.heap.size ≠ w.heap.size := by omega
  have hq0 : w.heap.size ≤ w2.heap.size := by omega
  clear c2 hO0 R2 B2 hsz2 hbb0 hw2; unfold spV; go_wp2; generalize hW : w2.alloc (.cells #[.int .i64 newS.tx, .int .i64 newS.nb, .int .i64 newS.ng, .int .i64 newS.now, .slice N0.a N0.n N0.c, .slice L0.a L0.n L0.c] 27) = w3 at *
  clear hW; generalize w2.heap.size = q at *
  go_loopg [4] 40 (fun g v wr => ∃ (k : Nat) (s : Sp) (N L : RS), k ≤ n0 ∧ k + g = 40 ∧ v = .int .i64 k ∧ RtS s ∧ s.tx ≤ k ∧ Ofs w q w.heap.size wr s N L)
  case atStart => exact ⟨0, newS, N0, L0, by omega, by omega, rfl, new_right, by decide, H2.out⟩
  case round =>
     obtain ⟨k, s, N, L, hk1, hk2, rfl, hR, htx, hNow⟩ := hrel
     have HR : Hid (RtS s) := hR
     have HTX : Hid (s.tx ≤ k) := htx
     have HW : Hid (Ofs w q w.heap.size wr s N L) := hNow
     have HEND : Hid (SpC (put6 wr w.heap.size s N L) w.heap.size s N L ∧ Below w.heap.size w (put6 wr w.heap.size s N L) ∧ SpIn (put6 wr w.heap.size s N L) s N L) := ⟨(put6_at hNow.res s N L).1, bel_put6 hNow.bel hNow.res (Nat.le_refl _) _ _ _, (Apt.putR hNow.apt hNow.res).spIn⟩
     clear hR hNow H2 htx; by_cases hlt : k < n0 ∧ k < 40
     · obtain ⟨hlt0, hlt1⟩ := hlt
       have hk0 : k < us.length := by rw [HN.out]; exact hlt0
       obtain rfl := HU.out.addr (by omega)
       have hEd := (HU.out.below HW.out.bel).at hk0
       have HOK : Hid (EdOk wr us[k]) := (HU.out.below HW.out.bel).ok _ (List.getElem_mem hk0)
       generalize us[k] = u at *
       obtain ⟨⟨ek, ep, et, ec, el, en, els⟩, ⟨ea, em, eq⟩⟩ := u
       obtain ⟨E, hE⟩ := appE_any s ⟨ek, ep, et, ec, el, en, els⟩
       have CA : Hid (∀ W, Below wr.heap.size wr W → Calls Tryz.prog 11 #[spV s N L, edV ⟨ek, ep, et, ec, el, en, els⟩ ea em eq] W fun r w' => ApR W.heap.size (appS s ⟨ek, ep, et, ec, el, en, els⟩ E) E (appB s ⟨ek, ep, et, ec, el, en, els⟩ E) (appN s ⟨ek, ep, et, ec, el, en, els⟩ E) r w' ∧ Below W.heap.size W w') := fun W hb => apply_any (HW.out.apt.spIn.below hb) _ ea em eq (HOK.out.nm.below hb) E hE
       have HE : Hid (AppE s ⟨ek, ep, et, ec, el, en, els⟩ E) := hE
       obtain ⟨g0, g1, g2, g3, g4, g5, g6⟩ := hEd
       obtain ⟨p0, p1, p2, p3, p4, p5, pf⟩ := HW.out.box
       unfold spV edV at CA; simp only at CA g0 g1 g2 g3 g4 g5 g6
       have hql : q < wr.heap.size := World.block_lt_of_cell? _ _ HW.out.box.c0
       have hrl : w.heap.size < wr.heap.size := World.block_lt_of_cell? _ _ HW.out.res.c0
       clear hE hk0 HEND; generalize hXN : appN s ⟨ek, ep, et, ec, el, en, els⟩ E = x at *
       generalize hBK : appB s ⟨ek, ep, et, ec, el, en, els⟩ E = bk at *
       generalize hTS : appS s ⟨ek, ep, et, ec, el, en, els⟩ E = t at *
       go_upto_region 5 with fail
       go_cut [5, 6] (fun v6 v7 wx => ∃ tq aq N1 L1 sx, v6 = .pointer (some ⟨tq, 0, none⟩) ∧ v7 = .pointer (some ⟨aq, 0, none⟩) ∧ Land wr wx tq aq t N1 L1 E bk x sx)
       case first =>
         refine wp_region_held_drew (S := fun W => Below wr.heap.size wr W) (by kernel_rfl) (bel_drew wr) (fun hS0 => ?_)
         refine wpAnyH_take (i := 0) (v := ?_) rfl (by kernel_rfl) (by kernel_rfl) (by kernel_rfl) (fun _ _ _ h => h) (Or.inl ⟨by rfl, ?_⟩) hS0 ?_
         rotate_left
         · intro W9 hSw; have d0 := bel_cell hSw p0; have d1 := bel_cell hSw p1; have d2 := bel_cell hSw p2; have d3 := bel_cell hSw p3; have d4 := bel_cell hSw p4; have d5 := bel_cell hSw p5; go_simp; first | done | with_reducible rfl
         refine wpAnyH_take (i := 1) (v := ?_) rfl (by kernel_rfl) (by kernel_rfl) (by kernel_rfl) (fun _ _ _ h => h) (Or.inl ⟨by rfl, ?_⟩) hS0 ?_
         rotate_left
         · intro W9 hSw; go_simp; first | done | with_reducible rfl
         refine wpAnyH_take (i := 2) (v := ?_) rfl (by kernel_rfl) (by kernel_rfl) (by kernel_rfl) (fun _ _ _ h => h) (Or.inl ⟨by rfl, ?_⟩) hS0 ?_
         rotate_left
         · intro W9 hSw; go_simp; first | done | with_reducible rfl
         refine wpAnyH_take (i := 3) (v := ?_) rfl (by kernel_rfl) (by kernel_rfl) (by kernel_rfl) (fun _ _ _ h => h) (Or.inl ⟨by rfl, ?_⟩) hS0 ?_
         rotate_left
         · intro W9 hSw; go_simp; first | done | with_reducible rfl
         refine wpAnyH_take (i := 4) (v := ?_) rfl (by kernel_rfl) (by kernel_rfl) (by kernel_rfl) (fun _ _ _ h => h) (Or.inl ⟨by rfl, ?_⟩) hS0 ?_
         rotate_left
         · intro W9 hSw; have d0 := bel_cell hSw g0; have d1 := bel_cell hSw g1; have d2 := bel_cell hSw g2; have d3 := bel_cell hSw g3; have d4 := bel_cell hSw g4; have d5 := bel_cell hSw g5; have d6 := bel_cell hSw g6; go_simp; first | done | with_reducible rfl
         refine wpAnyH_ready (rs := [5, 9, 10]) (by kernel_rfl) (by simp) ?_
         refine AllReadyH.cons rfl (fun K hK => ?_) ?_
         · go_simp
           refine (CA.out _ hS0).mono ?_
           rintro e w5 ⟨⟨N1, L1, ps1, gg1, gl1, base1, M1, sx1, rfl, hO1, hF1, hb1, hb2⟩, c5⟩; have C5 : Hid _ := c5
           have HO1 : Hid (OwnM base1 w5.heap.size w5 t N1 L1 ps1 gg1 gl1) := hO1.top
           have HF1 : Hid (Free M1 w5 (x, sx1)) := hF1
           have HB1 : Hid (wr.heap.size ≤ base1 ∧ base1 ≤ M1) := ⟨by have := hb1; (try simp at this); omega, hb2⟩
           have HW5 : Hid (wr.heap.size + 0 ≤ w5.heap.size) := by have := c5.size; simp at this; show _ ≤ _; omega
           clear hO1 hF1 hb1 hb2; try go_simp
           refine hK.out _ _ (bel_tr hS0 c5) (fun hS1 => ?_)
           clear c5; clear hK K; refine wpAnyH_take (i := 6) (v := ?_) rfl (by kernel_rfl) (by kernel_rfl) (by kernel_rfl) (fun _ _ _ h => h) (Or.inl ⟨by rfl, ?_⟩) hS1 ?_
           rotate_left
           · intro W9 hSw; go_simp; first | done | with_reducible rfl
           refine wpAnyH_take (i := 7) (v := ?_) rfl (by kernel_rfl) (by kernel_rfl) (by kernel_rfl) (fun _ _ _ h => h) (Or.inl ⟨by rfl, ?_⟩) hS1 ?_
           rotate_left
           · intro W9 hSw; go_simp; first | done | with_reducible rfl
           refine wpAnyH_take (i := 8) (v := ?_) rfl (by kernel_rfl) (by kernel_rfl) (by kernel_rfl) (fun _ _ _ h => h) (Or.inl ⟨by rfl, ?_⟩) hS1 ?_
           rotate_left
           · intro W9 hSw; go_simp; first | done | with_reducible rfl
           refine wpAnyH_ready (rs := [9, 10]) (by kernel_rfl) (by simp) ?_
           refine AllReadyH.cons rfl (fun K hK => ?_) ?_
           · go_simp
             refine hK.out _ _ (bel_tr hS1 (by first | exact bel_al _ _ | exact bel_dal _ _ | exact bel_daal _ _ _)) (fun hS2 => ?_)
             clear hK K; refine wpAnyH_ready (rs := [10]) (by kernel_rfl) (by simp) ?_
             refine AllReadyH.cons rfl (fun K hK => ?_) ?_
             · go_simp
               refine hK.out _ _ (bel_tr hS2 (by first | exact bel_al _ _ | exact bel_dal _ _ | exact bel_daal _ _ _)) (fun hS3 => ?_)
               clear hK K; have FS : Hid (SpC ((w5.alloc (.cells #[.int .i64 0, .int .i64 0, .int .i64 0, .int .i64 0, .slice none 0 0, .slice none 0 0] 27)).alloc (.cells #[.int .i64 0, .int .i64 0, .int .i64 0, .int .i64 0, .slice none 0 0, .string ⟨#[]⟩, .bool false, .int .i64 0, .slice none 0 0, .int .i64 0, .int .i64 0] 37)) (w5.heap.size) zeroS noS noS) := (SpC.new w5 27 zeroS noS noS).below (bel_al _ _)
               have FA : Hid (AnC ((w5.alloc (.cells #[.int .i64 0, .int .i64 0, .int .i64 0, .int .i64 0, .slice none 0 0, .slice none 0 0] 27)).alloc (.cells #[.int .i64 0, .int .i64 0, .int .i64 0, .int .i64 0, .slice none 0 0, .string ⟨#[]⟩, .bool false, .int .i64 0, .slice none 0 0, .int .i64 0, .int .i64 0] 37)) (w5.heap.size + 1) 0 zeroB noS zeroX 0) := an_sec w5
               have BL : Hid (Below w5.heap.size w5 ((w5.alloc (.cells #[.int .i64 0, .int .i64 0, .int .i64 0, .int .i64 0, .slice none 0 0, .slice none 0 0] 27)).alloc (.cells #[.int .i64 0, .int .i64 0, .int .i64 0, .int .i64 0, .slice none 0 0, .string ⟨#[]⟩, .bool false, .int .i64 0, .slice none 0 0, .int .i64 0, .int .i64 0] 37))) := bel_tr (bel_al _ _) (bel_al _ _)
               have H7 : Hid (Below wr.heap.size wr ((w5.alloc (.cells #[.int .i64 0, .int .i64 0, .int .i64 0, .int .i64 0, .slice none 0 0, .slice none 0 0] 27)).alloc (.cells #[.int .i64 0, .int .i64 0, .int .i64 0, .int .i64 0, .slice none 0 0, .string ⟨#[]⟩, .bool false, .int .i64 0, .slice none 0 0, .int .i64 0, .int .i64 0] 37))) := hS3
               generalize (w5.alloc (.cells #[.int .i64 0, .int .i64 0, .int .i64 0, .int .i64 0, .slice none 0 0, .slice none 0 0] 27)).alloc (.cells #[.int .i64 0, .int .i64 0, .int .i64 0, .int .i64 0, .slice none 0 0, .string ⟨#[]⟩, .bool false, .int .i64 0, .slice none 0 0, .int .i64 0, .int .i64 0] 37) = w7 at *
               have FA2 : Hid (AnC (put6 w7 (w5.heap.size) t N1 L1) (w5.heap.size + 1) 0 zeroB noS zeroX 0) := an_put6 FS.out FA.out (by have := HW5.out; omega)
               have BS6 : Hid (Below wr.heap.size wr (put6 w7 (w5.heap.size) t N1 L1)) := bel_put6 H7.out FS.out (by have := HW5.out; omega) _ _ _
               have BS11 : Hid (Below wr.heap.size wr (put11 (put6 w7 (w5.heap.size) t N1 L1) (w5.heap.size + 1) E bk noS (x, sx1) 0)) := bel_put11 BS6.out FA2.out (by have := HW5.out; omega) _ _ _ _ _
               have HL : Hid (Land wr (put11 (put6 w7 (w5.heap.size) t N1 L1) (w5.heap.size + 1) E bk noS (x, sx1) 0) (w5.heap.size) (w5.heap.size + 1) t N1 L1 E bk x sx1) := land_of HO1.out HF1.out HB1.out.2 (by have := HB1.out.1; omega) H7.out BL.out FS.out FA.out (by have := HW5.out; omega) (by have := HW5.out; have := HB1.out.1; omega) (by have := HW5.out; have := HB1.out.1; omega) (by have := HW5.out; omega) (by have := HW5.out; omega)
               refine wpAnyH_ready (rs := [11]) (by kernel_rfl) (by simp) ?_
               refine AllReadyH.cons rfl (fun K hK => ?_) ?_
               · skip
                 obtain ⟨z0, z1, z2, z3, z4, z5, zf⟩ := FS.out
                 unfold spV; go_simp
                 rw [← put6_def w7 (w5.heap.size) t N1 L1]
                 refine hK.out _ _ BS6.out (fun hS4 => ?_)
                 clear z0 z1 z2 z3 z4 z5 zf; generalize put6 w7 (w5.heap.size) t N1 L1 = w8 at *
                 clear hK K; refine wpAnyH_ready (rs := [12]) (by kernel_rfl) (by simp) ?_
                 refine AllReadyH.cons rfl (fun K hK => ?_) ?_
                 · skip
                   obtain ⟨z0, z1, z2, z3, z4, z5, z6, z7, z8, z9, z10, zf⟩ := FA2.out
                   unfold anV; go_simp
                   rw [← put11_def w8 (w5.heap.size + 1) E bk noS (x, sx1) 0]
                   refine hK.out _ _ BS11.out (fun hS5 => ?_)
                   clear z0 z1 z2 z3 z4 z5 z6 z7 z8 z9 z10 zf; generalize put11 w8 (w5.heap.size + 1) E bk noS (x, sx1) 0 = w9 at *
                   clear hK K; refine wpAnyH_done (by kernel_rfl) ?_ _
                   go_wp2_with fail
                   go_meet
                   case rel => exact ⟨w5.heap.size, w5.heap.size + 1, N1, L1, sx1, rfl, rfl, HL.out⟩
                 exact AllReadyH.nil
               exact AllReadyH.nil
             exact AllReadyH.nil
           refine AllReadyH.cons rfl (fun K hK => ?_) ?_
           · go_simp
             refine hK.out _ _ (bel_tr hS1 (by first | exact bel_al _ _ | exact bel_dal _ _ | exact bel_daal _ _ _)) (fun hS2 => ?_)
             clear hK K; refine wpAnyH_ready (rs := [9]) (by kernel_rfl) (by simp) ?_
             refine AllReadyH.cons rfl (fun K hK => ?_) ?_
             · go_simp
               refine hK.out _ _ (bel_tr hS2 (by first | exact bel_al _ _ | exact bel_dal _ _ | exact bel_daal _ _ _)) (fun hS3 => ?_)
               clear hK K; have FS : Hid (SpC ((w5.alloc (.cells #[.int .i64 0, .int .i64 0, .int .i64 0, .int .i64 0, .slice none 0 0, .string ⟨#[]⟩, .bool false, .int .i64 0, .slice none 0 0, .int .i64 0, .int .i64 0] 37)).alloc (.cells #[.int .i64 0, .int .i64 0, .int .i64 0, .int .i64 0, .slice none 0 0, .slice none 0 0] 27)) (w5.heap.size + 1) zeroS noS noS) := sp_sec w5
               have FA : Hid (AnC ((w5.alloc (.cells #[.int .i64 0, .int .i64 0, .int .i64 0, .int .i64 0, .slice none 0 0, .string ⟨#[]⟩, .bool false, .int .i64 0, .slice none 0 0, .int .i64 0, .int .i64 0] 37)).alloc (.cells #[.int .i64 0, .int .i64 0, .int .i64 0, .int .i64 0, .slice none 0 0, .slice none 0 0] 27)) (w5.heap.size) 0 zeroB noS zeroX 0) := (AnC.new w5 37).below (bel_al _ _)
               have BL : Hid (Below w5.heap.size w5 ((w5.alloc (.cells #[.int .i64 0, .int .i64 0, .int .i64 0, .int .i64 0, .slice none 0 0, .string ⟨#[]⟩, .bool false, .int .i64 0, .slice none 0 0, .int .i64 0, .int .i64 0] 37)).alloc (.cells #[.int .i64 0, .int .i64 0, .int .i64 0, .int .i64 0, .slice none 0 0, .slice none 0 0] 27))) := bel_tr (bel_al _ _) (bel_al _ _)
               have H7 : Hid (Below wr.heap.size wr ((w5.alloc (.cells #[.int .i64 0, .int .i64 0, .int .i64 0, .int .i64 0, .slice none 0 0, .string ⟨#[]⟩, .bool false, .int .i64 0, .slice none 0 0, .int .i64 0, .int .i64 0] 37)).alloc (.cells #[.int .i64 0, .int .i64 0, .int .i64 0, .int .i64 0, .slice none 0 0, .slice none 0 0] 27))) := hS3
               generalize (w5.alloc (.cells #[.int .i64 0, .int .i64 0, .int .i64 0, .int .i64 0, .slice none 0 0, .string ⟨#[]⟩, .bool false, .int .i64 0, .slice none 0 0, .int .i64 0, .int .i64 0] 37)).alloc (.cells #[.int .i64 0, .int .i64 0, .int .i64 0, .int .i64 0, .slice none 0 0, .slice none 0 0] 27) = w7 at *
               have FA2 : Hid (AnC (put6 w7 (w5.heap.size + 1) t N1 L1) (w5.heap.size) 0 zeroB noS zeroX 0) := an_put6 FS.out FA.out (by have := HW5.out; omega)
               have BS6 : Hid (Below wr.heap.size wr (put6 w7 (w5.heap.size + 1) t N1 L1)) := bel_put6 H7.out FS.out (by have := HW5.out; omega) _ _ _
               have BS11 : Hid (Below wr.heap.size wr (put11 (put6 w7 (w5.heap.size + 1) t N1 L1) (w5.heap.size) E bk noS (x, sx1) 0)) := bel_put11 BS6.out FA2.out (by have := HW5.out; omega) _ _ _ _ _
               have HL : Hid (Land wr (put11 (put6 w7 (w5.heap.size + 1) t N1 L1) (w5.heap.size) E bk noS (x, sx1) 0) (w5.heap.size + 1) (w5.heap.size) t N1 L1 E bk x sx1) := land_of HO1.out HF1.out HB1.out.2 (by have := HB1.out.1; omega) H7.out BL.out FS.out FA.out (by have := HW5.out; omega) (by have := HW5.out; have := HB1.out.1; omega) (by have := HW5.out; have := HB1.out.1; omega) (by have := HW5.out; omega) (by have := HW5.out; omega)
               refine wpAnyH_ready (rs := [11]) (by kernel_rfl) (by simp) ?_
               refine AllReadyH.cons rfl (fun K hK => ?_) ?_
               · skip
                 obtain ⟨z0, z1, z2, z3, z4, z5, zf⟩ := FS.out
                 unfold spV; go_simp
                 rw [← put6_def w7 (w5.heap.size + 1) t N1 L1]
                 refine hK.out _ _ BS6.out (fun hS4 => ?_)
                 clear z0 z1 z2 z3 z4 z5 zf; generalize put6 w7 (w5.heap.size + 1) t N1 L1 = w8 at *
                 clear hK K; refine wpAnyH_ready (rs := [12]) (by kernel_rfl) (by simp) ?_
                 refine AllReadyH.cons rfl (fun K hK => ?_) ?_
                 · skip
                   obtain ⟨z0, z1, z2, z3, z4, z5, z6, z7, z8, z9, z10, zf⟩ := FA2.out
                   unfold anV; go_simp
                   rw [← put11_def w8 (w5.heap.size) E bk noS (x, sx1) 0]
                   refine hK.out _ _ BS11.out (fun hS5 => ?_)
                   clear z0 z1 z2 z3 z4 z5 z6 z7 z8 z9 z10 zf; generalize put11 w8 (w5.heap.size) E bk noS (x, sx1) 0 = w9 at *
                   clear hK K; refine wpAnyH_done (by kernel_rfl) ?_ _
                   go_wp2_with fail
                   go_meet
                   case rel => exact ⟨w5.heap.size + 1, w5.heap.size, N1, L1, sx1, rfl, rfl, HL.out⟩
                 exact AllReadyH.nil
               exact AllReadyH.nil
             exact AllReadyH.nil
           exact AllReadyH.nil
         refine AllReadyH.cons rfl (fun K hK => ?_) ?_
         · go_simp
           refine hK.out _ _ (bel_tr hS0 (by first | exact bel_al _ _ | exact bel_dal _ _ | exact bel_daal _ _ _)) (fun hS1 => ?_)
           clear hK K; refine wpAnyH_ready (rs := [5, 10]) (by kernel_rfl) (by simp) ?_
           refine AllReadyH.cons rfl (fun K hK => ?_) ?_
           · go_simp
             refine (CA.out _ hS1).mono ?_
             rintro e w5 ⟨⟨N1, L1, ps1, gg1, gl1, base1, M1, sx1, rfl, hO1, hF1, hb1, hb2⟩, c5⟩; have C5 : Hid _ := c5
             have HO1 : Hid (OwnM base1 w5.heap.size w5 t N1 L1 ps1 gg1 gl1) := hO1.top
             have HF1 : Hid (Free M1 w5 (x, sx1)) := hF1
             have HB1 : Hid (wr.heap.size + 1 ≤ base1 ∧ base1 ≤ M1) := ⟨by have := hb1; (try simp at this); omega, hb2⟩
             have HW5 : Hid (wr.heap.size + 1 ≤ w5.heap.size) := by have := c5.size; simp at this; show _ ≤ _; omega
             clear hO1 hF1 hb1 hb2; try go_simp
             refine hK.out _ _ (bel_tr hS1 c5) (fun hS2 => ?_)
             clear c5; clear hK K; refine wpAnyH_take (i := 6) (v := ?_) rfl (by kernel_rfl) (by kernel_rfl) (by kernel_rfl) (fun _ _ _ h => h) (Or.inl ⟨by rfl, ?_⟩) hS2 ?_
             rotate_left
             · intro W9 hSw; go_simp; first | done | with_reducible rfl
             refine wpAnyH_take (i := 7) (v := ?_) rfl (by kernel_rfl) (by kernel_rfl) (by kernel_rfl) (fun _ _ _ h => h) (Or.inl ⟨by rfl, ?_⟩) hS2 ?_
             rotate_left
             · intro W9 hSw; go_simp; first | done | with_reducible rfl
             refine wpAnyH_take (i := 8) (v := ?_) rfl (by kernel_rfl) (by kernel_rfl) (by kernel_rfl) (fun _ _ _ h => h) (Or.inl ⟨by rfl, ?_⟩) hS2 ?_
             rotate_left
             · intro W9 hSw; go_simp; first | done | with_reducible rfl
             refine wpAnyH_ready (rs := [10]) (by kernel_rfl) (by simp) ?_
             refine AllReadyH.cons rfl (fun K hK => ?_) ?_
             · go_simp
               refine hK.out _ _ (bel_tr hS2 (by first | exact bel_al _ _ | exact bel_dal _ _ | exact bel_daal _ _ _)) (fun hS3 => ?_)
               clear hK K; have FS : Hid (SpC (w5.alloc (.cells #[.int .i64 0, .int .i64 0, .int .i64 0, .int .i64 0, .slice none 0 0, .string ⟨#[]⟩, .bool false, .int .i64 0, .slice none 0 0, .int .i64 0, .int .i64 0] 37)) (wr.heap.size) zeroS noS noS) := (sp_one C5.out).below (bel_al _ _)
               have FA : Hid (AnC (w5.alloc (.cells #[.int .i64 0, .int .i64 0, .int .i64 0, .int .i64 0, .slice none 0 0, .string ⟨#[]⟩, .bool false, .int .i64 0, .slice none 0 0, .int .i64 0, .int .i64 0] 37)) (w5.heap.size) 0 zeroB noS zeroX 0) := AnC.new w5 37
               have BL : Hid (Below w5.heap.size w5 (w5.alloc (.cells #[.int .i64 0, .int .i64 0, .int .i64 0, .int .i64 0, .slice none 0 0, .string ⟨#[]⟩, .bool false, .int .i64 0, .slice none 0 0, .int .i64 0, .int .i64 0] 37))) := bel_al _ _
               have H7 : Hid (Below wr.heap.size wr (w5.alloc (.cells #[.int .i64 0, .int .i64 0, .int .i64 0, .int .i64 0, .slice none 0 0, .string ⟨#[]⟩, .bool false, .int .i64 0, .slice none 0 0, .int .i64 0, .int .i64 0] 37))) := hS3
               generalize w5.alloc (.cells #[.int .i64 0, .int .i64 0, .int .i64 0, .int .i64 0, .slice none 0 0, .string ⟨#[]⟩, .bool false, .int .i64 0, .slice none 0 0, .int .i64 0, .int .i64 0] 37) = w7 at *
               have FA2 : Hid (AnC (put6 w7 (wr.heap.size) t N1 L1) (w5.heap.size) 0 zeroB noS zeroX 0) := an_put6 FS.out FA.out (by have := HW5.out; omega)
               have BS6 : Hid (Below wr.heap.size wr (put6 w7 (wr.heap.size) t N1 L1)) := bel_put6 H7.out FS.out (by have := HW5.out; omega) _ _ _
               have BS11 : Hid (Below wr.heap.size wr (put11 (put6 w7 (wr.heap.size) t N1 L1) (w5.heap.size) E bk noS (x, sx1) 0)) := bel_put11 BS6.out FA2.out (by have := HW5.out; omega) _ _ _ _ _
               have HL : Hid (Land wr (put11 (put6 w7 (wr.heap.size) t N1 L1) (w5.heap.size) E bk noS (x, sx1) 0) (wr.heap.size) (w5.heap.size) t N1 L1 E bk x sx1) := land_of HO1.out HF1.out HB1.out.2 (by have := HB1.out.1; omega) H7.out BL.out FS.out FA.out (by have := HW5.out; omega) (by have := HW5.out; have := HB1.out.1; omega) (by have := HW5.out; have := HB1.out.1; omega) (by have := HW5.out; omega) (by have := HW5.out; omega)
               refine wpAnyH_ready (rs := [11]) (by kernel_rfl) (by simp) ?_
               refine AllReadyH.cons rfl (fun K hK => ?_) ?_
               · skip
                 obtain ⟨z0, z1, z2, z3, z4, z5, zf⟩ := FS.out
                 unfold spV; go_simp
                 rw [← put6_def w7 (wr.heap.size) t N1 L1]
                 refine hK.out _ _ BS6.out (fun hS4 => ?_)
                 clear z0 z1 z2 z3 z4 z5 zf; generalize put6 w7 (wr.heap.size) t N1 L1 = w8 at *
                 clear hK K; refine wpAnyH_ready (rs := [12]) (by kernel_rfl) (by simp) ?_
                 refine AllReadyH.cons rfl (fun K hK => ?_) ?_
                 · skip
                   obtain ⟨z0, z1, z2, z3, z4, z5, z6, z7, z8, z9, z10, zf⟩ := FA2.out
                   unfold anV; go_simp
                   rw [← put11_def w8 (w5.heap.size) E bk noS (x, sx1) 0]
                   refine hK.out _ _ BS11.out (fun hS5 => ?_)
                   clear z0 z1 z2 z3 z4 z5 z6 z7 z8 z9 z10 zf; generalize put11 w8 (w5.heap.size) E bk noS (x, sx1) 0 = w9 at *
                   clear hK K; refine wpAnyH_done (by kernel_rfl) ?_ _
                   go_wp2_with fail
                   go_meet
                   case rel => exact ⟨wr.heap.size, w5.heap.size, N1, L1, sx1, rfl, rfl, HL.out⟩
                 exact AllReadyH.nil
               exact AllReadyH.nil
             exact AllReadyH.nil
           refine AllReadyH.cons rfl (fun K hK => ?_) ?_
           · go_simp
             refine hK.out _ _ (bel_tr hS1 (by first | exact bel_al _ _ | exact bel_dal _ _ | exact bel_daal _ _ _)) (fun hS2 => ?_)
             clear hK K; refine wpAnyH_ready (rs := [5]) (by kernel_rfl) (by simp) ?_
             refine AllReadyH.cons rfl (fun K hK => ?_) ?_
             · go_simp
               refine (CA.out _ hS2).mono ?_
               rintro e w5 ⟨⟨N1, L1, ps1, gg1, gl1, base1, M1, sx1, rfl, hO1, hF1, hb1, hb2⟩, c5⟩; have C5 : Hid _ := c5
               have HO1 : Hid (OwnM base1 w5.heap.size w5 t N1 L1 ps1 gg1 gl1) := hO1.top
               have HF1 : Hid (Free M1 w5 (x, sx1)) := hF1
               have HB1 : Hid (wr.heap.size + 1 + 1 ≤ base1 ∧ base1 ≤ M1) := ⟨by have := hb1; (try simp at this); omega, hb2⟩
               have HW5 : Hid (wr.heap.size + 2 ≤ w5.heap.size) := by have := c5.size; simp at this; show _ ≤ _; omega
               clear hO1 hF1 hb1 hb2; try go_simp
               refine hK.out _ _ (bel_tr hS2 c5) (fun hS3 => ?_)
               clear c5; clear hK K; have FS : Hid (SpC (w5) (wr.heap.size) zeroS noS noS) := sp_first C5.out
               have FA : Hid (AnC (w5) (wr.heap.size + 1) 0 zeroB noS zeroX 0) := an_second C5.out
               have BL : Hid (Below w5.heap.size w5 (w5)) := Below.refl _ _
               have H7 : Hid (Below wr.heap.size wr (w5)) := hS3
               have FA2 : Hid (AnC (put6 w5 (wr.heap.size) t N1 L1) (wr.heap.size + 1) 0 zeroB noS zeroX 0) := an_put6 FS.out FA.out (by have := HW5.out; omega)
               have BS6 : Hid (Below wr.heap.size wr (put6 w5 (wr.heap.size) t N1 L1)) := bel_put6 H7.out FS.out (by have := HW5.out; omega) _ _ _
               have BS11 : Hid (Below wr.heap.size wr (put11 (put6 w5 (wr.heap.size) t N1 L1) (wr.heap.size + 1) E bk noS (x, sx1) 0)) := bel_put11 BS6.out FA2.out (by have := HW5.out; omega) _ _ _ _ _
               have HL : Hid (Land wr (put11 (put6 w5 (wr.heap.size) t N1 L1) (wr.heap.size + 1) E bk noS (x, sx1) 0) (wr.heap.size) (wr.heap.size + 1) t N1 L1 E bk x sx1) := land_of HO1.out HF1.out HB1.out.2 (by have := HB1.out.1; omega) H7.out BL.out FS.out FA.out (by have := HW5.out; omega) (by have := HW5.out; have := HB1.out.1; omega) (by have := HW5.out; have := HB1.out.1; omega) (by have := HW5.out; omega) (by have := HW5.out; omega)
               refine wpAnyH_take (i := 6) (v := ?_) rfl (by kernel_rfl) (by kernel_rfl) (by kernel_rfl) (fun _ _ _ h => h) (Or.inl ⟨by rfl, ?_⟩) hS3 ?_
               rotate_left
               · intro W9 hSw; go_simp; first | done | with_reducible rfl
               refine wpAnyH_take (i := 7) (v := ?_) rfl (by kernel_rfl) (by kernel_rfl) (by kernel_rfl) (fun _ _ _ h => h) (Or.inl ⟨by rfl, ?_⟩) hS3 ?_
               rotate_left
               · intro W9 hSw; go_simp; first | done | with_reducible rfl
               refine wpAnyH_take (i := 8) (v := ?_) rfl (by kernel_rfl) (by kernel_rfl) (by kernel_rfl) (fun _ _ _ h => h) (Or.inl ⟨by rfl, ?_⟩) hS3 ?_
               rotate_left
               · intro W9 hSw; go_simp; first | done | with_reducible rfl
               refine wpAnyH_ready (rs := [11]) (by kernel_rfl) (by simp) ?_
               refine AllReadyH.cons rfl (fun K hK => ?_) ?_
               · skip
                 obtain ⟨z0, z1, z2, z3, z4, z5, zf⟩ := FS.out
                 unfold spV; go_simp
                 rw [← put6_def w5 (wr.heap.size) t N1 L1]
                 refine hK.out _ _ BS6.out (fun hS4 => ?_)
                 clear z0 z1 z2 z3 z4 z5 zf; generalize put6 w5 (wr.heap.size) t N1 L1 = w8 at *
                 clear hK K; refine wpAnyH_ready (rs := [12]) (by kernel_rfl) (by simp) ?_
                 refine AllReadyH.cons rfl (fun K hK => ?_) ?_
                 · skip
                   obtain ⟨z0, z1, z2, z3, z4, z5, z6, z7, z8, z9, z10, zf⟩ := FA2.out
                   unfold anV; go_simp
                   rw [← put11_def w8 (wr.heap.size + 1) E bk noS (x, sx1) 0]
                   refine hK.out _ _ BS11.out (fun hS5 => ?_)
                   clear z0 z1 z2 z3 z4 z5 z6 z7 z8 z9 z10 zf; generalize put11 w8 (wr.heap.size + 1) E bk noS (x, sx1) 0 = w9 at *
                   clear hK K; refine wpAnyH_done (by kernel_rfl) ?_ _
                   go_wp2_with fail
                   go_meet
                   case rel => exact ⟨wr.heap.size, wr.heap.size + 1, N1, L1, sx1, rfl, rfl, HL.out⟩
                 exact AllReadyH.nil
               exact AllReadyH.nil
             exact AllReadyH.nil
           exact AllReadyH.nil
         refine AllReadyH.cons rfl (fun K hK => ?_) ?_
         · go_simp
           refine hK.out _ _ (bel_tr hS0 (by first | exact bel_al _ _ | exact bel_dal _ _ | exact bel_daal _ _ _)) (fun hS1 => ?_)
           clear hK K; refine wpAnyH_ready (rs := [5, 9]) (by kernel_rfl) (by simp) ?_
           refine AllReadyH.cons rfl (fun K hK => ?_) ?_
           · go_simp
             refine (CA.out _ hS1).mono ?_
             rintro e w5 ⟨⟨N1, L1, ps1, gg1, gl1, base1, M1, sx1, rfl, hO1, hF1, hb1, hb2⟩, c5⟩; have C5 : Hid _ := c5
             have HO1 : Hid (OwnM base1 w5.heap.size w5 t N1 L1 ps1 gg1 gl1) := hO1.top
             have HF1 : Hid (Free M1 w5 (x, sx1)) := hF1
             have HB1 : Hid (wr.heap.size + 1 ≤ base1 ∧ base1 ≤ M1) := ⟨by have := hb1; (try simp at this); omega, hb2⟩
             have HW5 : Hid (wr.heap.size + 1 ≤ w5.heap.size) := by have := c5.size; simp at this; show _ ≤ _; omega
             clear hO1 hF1 hb1 hb2; try go_simp
             refine hK.out _ _ (bel_tr hS1 c5) (fun hS2 => ?_)
             clear c5; clear hK K; refine wpAnyH_take (i := 6) (v := ?_) rfl (by kernel_rfl) (by kernel_rfl) (by kernel_rfl) (fun _ _ _ h => h) (Or.inl ⟨by rfl, ?_⟩) hS2 ?_
             rotate_left
             · intro W9 hSw; go_simp; first | done | with_reducible rfl
             refine wpAnyH_take (i := 7) (v := ?_) rfl (by kernel_rfl) (by kernel_rfl) (by kernel_rfl) (fun _ _ _ h => h) (Or.inl ⟨by rfl, ?_⟩) hS2 ?_
             rotate_left
             · intro W9 hSw; go_simp; first | done | with_reducible rfl
             refine wpAnyH_take (i := 8) (v := ?_) rfl (by kernel_rfl) (by kernel_rfl) (by kernel_rfl) (fun _ _ _ h => h) (Or.inl ⟨by rfl, ?_⟩) hS2 ?_
             rotate_left
             · intro W9 hSw; go_simp; first | done | with_reducible rfl
             refine wpAnyH_ready (rs := [9]) (by kernel_rfl) (by simp) ?_
             refine AllReadyH.cons rfl (fun K hK => ?_) ?_
             · go_simp
               refine hK.out _ _ (bel_tr hS2 (by first | exact bel_al _ _ | exact bel_dal _ _ | exact bel_daal _ _ _)) (fun hS3 => ?_)
               clear hK K; have FS : Hid (SpC (w5.alloc (.cells #[.int .i64 0, .int .i64 0, .int .i64 0, .int .i64 0, .slice none 0 0, .slice none 0 0] 27)) (w5.heap.size) zeroS noS noS) := SpC.new w5 27 zeroS noS noS
               have FA : Hid (AnC (w5.alloc (.cells #[.int .i64 0, .int .i64 0, .int .i64 0, .int .i64 0, .slice none 0 0, .slice none 0 0] 27)) (wr.heap.size) 0 zeroB noS zeroX 0) := (an_one C5.out).below (bel_al _ _)
               have BL : Hid (Below w5.heap.size w5 (w5.alloc (.cells #[.int .i64 0, .int .i64 0, .int .i64 0, .int .i64 0, .slice none 0 0, .slice none 0 0] 27))) := bel_al _ _
               have H7 : Hid (Below wr.heap.size wr (w5.alloc (.cells #[.int .i64 0, .int .i64 0, .int .i64 0, .int .i64 0, .slice none 0 0, .slice none 0 0] 27))) := hS3
               generalize w5.alloc (.cells #[.int .i64 0, .int .i64 0, .int .i64 0, .int .i64 0, .slice none 0 0, .slice none 0 0] 27) = w7 at *
               have FA2 : Hid (AnC (put6 w7 (w5.heap.size) t N1 L1) (wr.heap.size) 0 zeroB noS zeroX 0) := an_put6 FS.out FA.out (by have := HW5.out; omega)
               have BS6 : Hid (Below wr.heap.size wr (put6 w7 (w5.heap.size) t N1 L1)) := bel_put6 H7.out FS.out (by have := HW5.out; omega) _ _ _
               have BS11 : Hid (Below wr.heap.size wr (put11 (put6 w7 (w5.heap.size) t N1 L1) (wr.heap.size) E bk noS (x, sx1) 0)) := bel_put11 BS6.out FA2.out (by have := HW5.out; omega) _ _ _ _ _
               have HL : Hid (Land wr (put11 (put6 w7 (w5.heap.size) t N1 L1) (wr.heap.size) E bk noS (x, sx1) 0) (w5.heap.size) (wr.heap.size) t N1 L1 E bk x sx1) := land_of HO1.out HF1.out HB1.out.2 (by have := HB1.out.1; omega) H7.out BL.out FS.out FA.out (by have := HW5.out; omega) (by have := HW5.out; have := HB1.out.1; omega) (by have := HW5.out; have := HB1.out.1; omega) (by have := HW5.out; omega) (by have := HW5.out; omega)
               refine wpAnyH_ready (rs := [11]) (by kernel_rfl) (by simp) ?_
               refine AllReadyH.cons rfl (fun K hK => ?_) ?_
               · skip
                 obtain ⟨z0, z1, z2, z3, z4, z5, zf⟩ := FS.out
                 unfold spV; go_simp
                 rw [← put6_def w7 (w5.heap.size) t N1 L1]
                 refine hK.out _ _ BS6.out (fun hS4 => ?_)
                 clear z0 z1 z2 z3 z4 z5 zf; generalize put6 w7 (w5.heap.size) t N1 L1 = w8 at *
                 clear hK K; refine wpAnyH_ready (rs := [12]) (by kernel_rfl) (by simp) ?_
                 refine AllReadyH.cons rfl (fun K hK => ?_) ?_
                 · skip
                   obtain ⟨z0, z1, z2, z3, z4, z5, z6, z7, z8, z9, z10, zf⟩ := FA2.out
                   unfold anV; go_simp
                   rw [← put11_def w8 (wr.heap.size) E bk noS (x, sx1) 0]
                   refine hK.out _ _ BS11.out (fun hS5 => ?_)
                   clear z0 z1 z2 z3 z4 z5 z6 z7 z8 z9 z10 zf; generalize put11 w8 (wr.heap.size) E bk noS (x, sx1) 0 = w9 at *
                   clear hK K; refine wpAnyH_done (by kernel_rfl) ?_ _
                   go_wp2_with fail
                   go_meet
                   case rel => exact ⟨w5.heap.size, wr.heap.size, N1, L1, sx1, rfl, rfl, HL.out⟩
                 exact AllReadyH.nil
               exact AllReadyH.nil
             exact AllReadyH.nil
           refine AllReadyH.cons rfl (fun K hK => ?_) ?_
           · go_simp
             refine hK.out _ _ (bel_tr hS1 (by first | exact bel_al _ _ | exact bel_dal _ _ | exact bel_daal _ _ _)) (fun hS2 => ?_)
             clear hK K; refine wpAnyH_ready (rs := [5]) (by kernel_rfl) (by simp) ?_
             refine AllReadyH.cons rfl (fun K hK => ?_) ?_
             · go_simp
               refine (CA.out _ hS2).mono ?_
               rintro e w5 ⟨⟨N1, L1, ps1, gg1, gl1, base1, M1, sx1, rfl, hO1, hF1, hb1, hb2⟩, c5⟩; have C5 : Hid _ := c5
               have HO1 : Hid (OwnM base1 w5.heap.size w5 t N1 L1 ps1 gg1 gl1) := hO1.top
               have HF1 : Hid (Free M1 w5 (x, sx1)) := hF1
               have HB1 : Hid (wr.heap.size + 1 + 1 ≤ base1 ∧ base1 ≤ M1) := ⟨by have := hb1; (try simp at this); omega, hb2⟩
               have HW5 : Hid (wr.heap.size + 2 ≤ w5.heap.size) := by have := c5.size; simp at this; show _ ≤ _; omega
               clear hO1 hF1 hb1 hb2; try go_simp
               refine hK.out _ _ (bel_tr hS2 c5) (fun hS3 => ?_)
               clear c5; clear hK K; have FS : Hid (SpC (w5) (wr.heap.size + 1) zeroS noS noS) := sp_second C5.out
               have FA : Hid (AnC (w5) (wr.heap.size) 0 zeroB noS zeroX 0) := an_first C5.out
               have BL : Hid (Below w5.heap.size w5 (w5)) := Below.refl _ _
               have H7 : Hid (Below wr.heap.size wr (w5)) := hS3
               have FA2 : Hid (AnC (put6 w5 (wr.heap.size + 1) t N1 L1) (wr.heap.size) 0 zeroB noS zeroX 0) := an_put6 FS.out FA.out (by have := HW5.out; omega)
               have BS6 : Hid (Below wr.heap.size wr (put6 w5 (wr.heap.size + 1) t N1 L1)) := bel_put6 H7.out FS.out (by have := HW5.out; omega) _ _ _
               have BS11 : Hid (Below wr.heap.size wr (put11 (put6 w5 (wr.heap.size + 1) t N1 L1) (wr.heap.size) E bk noS (x, sx1) 0)) := bel_put11 BS6.out FA2.out (by have := HW5.out; omega) _ _ _ _ _
               have HL : Hid (Land wr (put11 (put6 w5 (wr.heap.size + 1) t N1 L1) (wr.heap.size) E bk noS (x, sx1) 0) (wr.heap.size + 1) (wr.heap.size) t N1 L1 E bk x sx1) := land_of HO1.out HF1.out HB1.out.2 (by have := HB1.out.1; omega) H7.out BL.out FS.out FA.out (by have := HW5.out; omega) (by have := HW5.out; have := HB1.out.1; omega) (by have := HW5.out; have := HB1.out.1; omega) (by have := HW5.out; omega) (by have := HW5.out; omega)
               refine wpAnyH_take (i := 6) (v := ?_) rfl (by kernel_rfl) (by kernel_rfl) (by kernel_rfl) (fun _ _ _ h => h) (Or.inl ⟨by rfl, ?_⟩) hS3 ?_
               rotate_left
               · intro W9 hSw; go_simp; first | done | with_reducible rfl
               refine wpAnyH_take (i := 7) (v := ?_) rfl (by kernel_rfl) (by kernel_rfl) (by kernel_rfl) (fun _ _ _ h => h) (Or.inl ⟨by rfl, ?_⟩) hS3 ?_
               rotate_left
               · intro W9 hSw; go_simp; first | done | with_reducible rfl
               refine wpAnyH_take (i := 8) (v := ?_) rfl (by kernel_rfl) (by kernel_rfl) (by kernel_rfl) (fun _ _ _ h => h) (Or.inl ⟨by rfl, ?_⟩) hS3 ?_
               rotate_left
               · intro W9 hSw; go_simp; first | done | with_reducible rfl
               refine wpAnyH_ready (rs := [11]) (by kernel_rfl) (by simp) ?_
               refine AllReadyH.cons rfl (fun K hK => ?_) ?_
               · skip
                 obtain ⟨z0, z1, z2, z3, z4, z5, zf⟩ := FS.out
                 unfold spV; go_simp
                 rw [← put6_def w5 (wr.heap.size + 1) t N1 L1]
                 refine hK.out _ _ BS6.out (fun hS4 => ?_)
                 clear z0 z1 z2 z3 z4 z5 zf; generalize put6 w5 (wr.heap.size + 1) t N1 L1 = w8 at *
                 clear hK K; refine wpAnyH_ready (rs := [12]) (by kernel_rfl) (by simp) ?_
                 refine AllReadyH.cons rfl (fun K hK => ?_) ?_
                 · skip
                   obtain ⟨z0, z1, z2, z3, z4, z5, z6, z7, z8, z9, z10, zf⟩ := FA2.out
                   unfold anV; go_simp
                   rw [← put11_def w8 (wr.heap.size) E bk noS (x, sx1) 0]
                   refine hK.out _ _ BS11.out (fun hS5 => ?_)
                   clear z0 z1 z2 z3 z4 z5 z6 z7 z8 z9 z10 zf; generalize put11 w8 (wr.heap.size) E bk noS (x, sx1) 0 = w9 at *
                   clear hK K; refine wpAnyH_done (by kernel_rfl) ?_ _
                   go_wp2_with fail
                   go_meet
                   case rel => exact ⟨wr.heap.size + 1, wr.heap.size, N1, L1, sx1, rfl, rfl, HL.out⟩
                 exact AllReadyH.nil
               exact AllReadyH.nil
             exact AllReadyH.nil
           exact AllReadyH.nil
         exact AllReadyH.nil
       case rest =>
         obtain ⟨tq, aq, N1, L1, sx, rfl, rfl, hL⟩ := hcut
         have HL : Hid (Land wr wc tq aq t N1 L1 E bk x sx) := hL
         have e0 := hL.an.c0
         have HWc : Hid (Ofs w q w.heap.size wc s N L) := HW.out.below hL.bel
         clear hL CA p0 p1 p2 p3 p4 p5 pf; by_cases h0 : E = 0
         · subst h0
           have hts : doS s ⟨ek, ep, et, ec, el, en, els⟩ = t := hTS
           have HRt : Hid (RtS t) := hts ▸ (app_keeps HE.out).2
           have HTt : Hid (t.tx ≤ ((k + 1 : Nat) : Int)) := by
             have h1 := HTX.out
             rw [← hts]
             show s.tx + 1 ≤ _
             omega
           obtain ⟨z0, z1, z2, z3, z4, z5, _⟩ := HL.out.box
           obtain ⟨x0, x1, x2, x3, x4, x5, xf⟩ := HWc.out.box
           have hput := HWc.out.put HL.out hql hrl hqR hq0
           rw [put6_def] at hput
           have HPUT : Hid _ := hput
           clear hput g0 g1 g2 g3 g4 g5 g6 hTS hts; go_wp2; go_roundg (40 - (k + 1))
           case measure => omega
           case rel => exact ⟨k + 1, t, _, _, by omega, by omega, by go_num, HRt.out, HTt.out, HPUT.out⟩
         · have h0b : (E != 0) = true := by simpa using h0
           have h0c : (E == 0) = false := by simpa using h0
           go_wp2; go_roundg (40 - (k + 1))
           case measure => omega
           case rel => exact ⟨k + 1, s, N, L, by omega, by omega, by go_num, HR.out, by have := HTX.out; omega, HWc.out⟩
     · have hHE := HEND.out
       rw [put6_def] at hHE
       have HF : Hid _ := hHE
       obtain ⟨z0, z1, z2, z3, z4, z5, _⟩ := HW.out.box
       obtain ⟨r0, r1, r2, r3, r4, r5, rf⟩ := HW.out.res
       simp only [zeroS, noS] at r0 r1 r2 r3 r4 r5
       clear hHE HEND; by_cases hk0 : k < n0
       · have hg1 : decide ((k : Int) < (n0 : Int)) = true := decide_eq_true (by omega)
         have hg2 : decide ((k : Int) < 40) = false := decide_eq_false (by omega)
         go_wp2; obtain ⟨q0, q1, q2, q3, q4, q5, _⟩ := HF.out.1
         refine bodyPost_ret (v := spV s N L) ?_ rfl ⟨⟨s, N, L, rfl, HR.out, HF.out.2.2⟩, HF.out.2.1⟩
         unfold spV; simp only [results, Tryz.results20]
         simp [go_sem, q0, q1, q2, q3, q4, q5]
       · have hg1 : decide ((k : Int) < (n0 : Int)) = false := decide_eq_false (by omega)
         go_wp2; obtain ⟨q0, q1, q2, q3, q4, q5, _⟩ := HF.out.1
         refine bodyPost_ret (v := spV s N L) ?_ rfl ⟨⟨s, N, L, rfl, HR.out, HF.out.2.2⟩, HF.out.2.1⟩
         unfold spV; simp only [results, Tryz.results20]
         simp [go_sem, q0, q1, q2, q3, q4, q5]
end Go.Proofs.YtdilfbfkeiaafaaGreat.Spa
