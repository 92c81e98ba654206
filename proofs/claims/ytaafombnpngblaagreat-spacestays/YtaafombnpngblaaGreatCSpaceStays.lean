/- SpaceStays: for every list of edits: the statement's function returns true; nothing that was there is changed. No condition. -/
import Derived.Test.YtaafombnpngblaaGreatB30
import Derived.Test.YtaafombnpngblaaGreatB34
import Derived.Test.YtaafombnpngblaaGreatCSpaceL3
import Derived.Test.YtaafombnpngblaaGreatB31
import Derived.Deep.DeepCutAuto
import Derived.Deep.LoopGhost
import Derived.Deep.CutBlock
import Derived.Deep.RegionHeld
import Derived.BigQuiet
namespace Go.Proofs.YtaafombnpngblaaGreat.spaceStays
open Go.ChangeShapes Go.WideShapes Go.ChangeAt Go.RowKit Go.Proofs.YtaafombnpngblaaGreat Go.Proofs.YtaafombnpngblaaGreat.Spa
open Go.ChangeMaps (open_string shut_string)
open Go.Proofs.YtaafombnpngblaaGreat.Edi (Ed Nm edV bel_drew)
set_option linter.unusedVariables false

theorem own : ownKnob Tryz.prog.godebug = none := by kernel_rfl

set_option maxRecDepth 100000 in
set_option maxHeartbeats 8000000 in
theorem walk_b (a0 : Option Addr) (b0 off0 cap0 n0 : Nat) (us : List ER) (w : World) (hn0 : us.length = n0) (hU : Eds w a0 b0 off0 us) :
    Calls Tryz.prog 3 #[.slice a0 n0 cap0] w fun e w' => e = .returned (.bool true) ∧ Below w.heap.size w w' := by
  have hx0 : n0 ≤ 9223372036854775807 := by have := hU.len; unfold maxLen at this; omega
  have HN : Hid _ := hn0
  have HU : Hid (Eds w a0 b0 off0 us) := hU
  clear hn0 hU
  have hst := run_store_str
  have hst2 : ∀ (w : World) (a : Addr) (x : Option Addr) (n c : Nat) (m : Mode), (store a (.slice x n c) m).run Tryz.prog w = stored Tryz.prog w a (.slice x n c) m := fun w a x n c m => run_store_any w a _ m rfl
  go_enter Tryz.func3, Tryz.ntmps3
  go_wp2_with fail
  refine (examples_val _).mono ?_
  rintro e w1 ⟨rfl, b1⟩
  have B1 : Hid (Below w.heap.size w w1) := b1
  clear b1
  go_wp2_with fail
  refine (new_val _).mono ?_
  rintro e w2 ⟨⟨N0, L0, p0, g0, gl0, bb0, M0, _, rfl, hO0⟩, c2⟩
  have H2 : Hid _ := Now.start (bel_tr B1.out c2) hO0 27
  clear c2 hO0
  unfold spV
  go_upto_block 0 with fail
  generalize hW : w2.alloc (.cells #[.int .i64 newS.tx, .int .i64 newS.nb, .int .i64 newS.ng, .int .i64 newS.now, .slice N0.a N0.n N0.c, .slice L0.a L0.n L0.c] 27) = w3 at *
  clear hW
  generalize w2.heap.size = q at *
  go_cut [] (fun wx => ∃ (s : Sp) (N L : RS), RtS s ∧ s.tx ≤ 60 ∧ Now w q wx s N L)
  case first =>
   go_wp2_with fail
   go_loopg [5] 60 (fun g v wr => ∃ (k : Nat) (s : Sp) (N L : RS), k ≤ n0 ∧ k + g = 60 ∧ v = .int .i64 k ∧ RtS s ∧ s.tx ≤ k ∧ Now w q wr s N L)
   case atStart => exact ⟨0, newS, N0, L0, by omega, by omega, rfl, new_right, by decide, H2.out⟩
   case round =>
     obtain ⟨k, s, N, L, hk1, hk2, rfl, hR, htx, hNow⟩ := hrel
     have HR : Hid (RtS s) := hR
     have HTX : Hid (s.tx ≤ k) := htx
     have HW : Hid (Now w q wr s N L) := hNow
     clear hR hNow H2 htx
     by_cases hlt : k < n0 ∧ k < 60
     · obtain ⟨hlt0, hlt1⟩ := hlt
       have hk0 : k < us.length := by rw [HN.out]; exact hlt0
       obtain rfl := HU.out.addr (by omega)
       have hEd := (HU.out.below HW.out.bel).at hk0
       have HOK : Hid (EdOk wr us[k]) := (HU.out.below HW.out.bel).ok _ (List.getElem_mem hk0)
       generalize us[k] = u at *
       obtain ⟨⟨ek, ep, et, ec, el, en, els⟩, ⟨ea, em, eq⟩⟩ := u
       obtain ⟨E, hE⟩ := appE_any s ⟨ek, ep, et, ec, el, en, els⟩
       have CA : Hid (∀ W, Below wr.heap.size wr W → Calls Tryz.prog 11 #[spV s N L, edV ⟨ek, ep, et, ec, el, en, els⟩ ea em eq] W fun r w' => ApR W.heap.size (appS s ⟨ek, ep, et, ec, el, en, els⟩ E) E (appB s ⟨ek, ep, et, ec, el, en, els⟩ E) (appN s ⟨ek, ep, et, ec, el, en, els⟩ E) r w' ∧ Below W.heap.size W w') := fun W hb => apply_any (HW.out.spIn.below hb) _ ea em eq (HOK.out.nm.below hb) E hE
       have HE : Hid (AppE s ⟨ek, ep, et, ec, el, en, els⟩ E) := hE
       obtain ⟨g0, g1, g2, g3, g4, g5, g6⟩ := hEd
       obtain ⟨p0, p1, p2, p3, p4, p5, pf⟩ := HW.out.box
       unfold spV edV at CA
       simp only at CA g0 g1 g2 g3 g4 g5 g6
       have hql : q < wr.heap.size := HW.out.lt
       clear hE hk0
       generalize hXN : appN s ⟨ek, ep, et, ec, el, en, els⟩ E = x at *
       generalize hBK : appB s ⟨ek, ep, et, ec, el, en, els⟩ E = bk at *
       generalize hTS : appS s ⟨ek, ep, et, ec, el, en, els⟩ E = t at *
       go_upto_region 6 with fail
       go_cut [6, 7] (fun v6 v7 wx => ∃ tq aq N1 L1 sx, v6 = .pointer (some ⟨tq, 0, none⟩) ∧ v7 = .pointer (some ⟨aq, 0, none⟩) ∧ Land wr wx tq aq t N1 L1 E bk x sx)
       case first =>
         refine wp_region_held_drew (S := fun W => Below wr.heap.size wr W) (by kernel_rfl) (bel_drew wr) (fun hS0 => ?_)
         refine wpAnyH_take (i := 0) (v := ?_) rfl (by kernel_rfl) (by kernel_rfl) (by kernel_rfl) (fun _ _ _ h => h) (Or.inl ⟨by rfl, ?_⟩) hS0 ?_
         rotate_left
         · intro W9 hSw; have d0 := bel_cell hSw p0; have d1 := bel_cell hSw p1; have d2 := bel_cell hSw p2; have d3 := bel_cell hSw p3; have d4 := bel_cell hSw p4; have d5 := bel_cell hSw p5; go_simp; first | done | with_reducible rfl
         skip
         refine wpAnyH_take (i := 1) (v := ?_) rfl (by kernel_rfl) (by kernel_rfl) (by kernel_rfl) (fun _ _ _ h => h) (Or.inl ⟨by rfl, ?_⟩) hS0 ?_
         rotate_left
         · intro W9 hSw; go_simp; first | done | with_reducible rfl
         skip
         refine wpAnyH_take (i := 2) (v := ?_) rfl (by kernel_rfl) (by kernel_rfl) (by kernel_rfl) (fun _ _ _ h => h) (Or.inl ⟨by rfl, ?_⟩) hS0 ?_
         rotate_left
         · intro W9 hSw; go_simp; first | done | with_reducible rfl
         skip
         refine wpAnyH_take (i := 3) (v := ?_) rfl (by kernel_rfl) (by kernel_rfl) (by kernel_rfl) (fun _ _ _ h => h) (Or.inl ⟨by rfl, ?_⟩) hS0 ?_
         rotate_left
         · intro W9 hSw; go_simp; first | done | with_reducible rfl
         skip
         refine wpAnyH_take (i := 4) (v := ?_) rfl (by kernel_rfl) (by kernel_rfl) (by kernel_rfl) (fun _ _ _ h => h) (Or.inl ⟨by rfl, ?_⟩) hS0 ?_
         rotate_left
         · intro W9 hSw; have d0 := bel_cell hSw g0; have d1 := bel_cell hSw g1; have d2 := bel_cell hSw g2; have d3 := bel_cell hSw g3; have d4 := bel_cell hSw g4; have d5 := bel_cell hSw g5; have d6 := bel_cell hSw g6; go_simp; first | done | with_reducible rfl
         skip
         refine wpAnyH_ready (rs := [5, 9, 10]) (by kernel_rfl) (by simp) ?_
         refine AllReadyH.cons rfl (fun K hK => ?_) ?_
         · go_simp
           refine (CA.out _ hS0).mono ?_
           rintro e w5 ⟨⟨N1, L1, ps1, gg1, gl1, base1, M1, sx1, rfl, hO1, hF1, hb1, hb2⟩, c5⟩
           have C5 : Hid _ := c5
           have HO1 : Hid (OwnM base1 w5.heap.size w5 t N1 L1 ps1 gg1 gl1) := hO1.top
           have HF1 : Hid (Free M1 w5 (x, sx1)) := hF1
           have HB1 : Hid (wr.heap.size ≤ base1 ∧ base1 ≤ M1) := ⟨by have := hb1; (try simp at this); omega, hb2⟩
           have HW5 : Hid (wr.heap.size + 0 ≤ w5.heap.size) := by have := c5.size; simp at this; show _ ≤ _; omega
           clear hO1 hF1 hb1 hb2
           try go_simp
           refine hK.out _ _ (bel_tr hS0 c5) (fun hS1 => ?_)
           clear c5
           clear hK K
           refine wpAnyH_take (i := 6) (v := ?_) rfl (by kernel_rfl) (by kernel_rfl) (by kernel_rfl) (fun _ _ _ h => h) (Or.inl ⟨by rfl, ?_⟩) hS1 ?_
           rotate_left
           · intro W9 hSw; go_simp; first | done | with_reducible rfl
           skip
           refine wpAnyH_take (i := 7) (v := ?_) rfl (by kernel_rfl) (by kernel_rfl) (by kernel_rfl) (fun _ _ _ h => h) (Or.inl ⟨by rfl, ?_⟩) hS1 ?_
           rotate_left
           · intro W9 hSw; go_simp; first | done | with_reducible rfl
           skip
           refine wpAnyH_take (i := 8) (v := ?_) rfl (by kernel_rfl) (by kernel_rfl) (by kernel_rfl) (fun _ _ _ h => h) (Or.inl ⟨by rfl, ?_⟩) hS1 ?_
           rotate_left
           · intro W9 hSw; go_simp; first | done | with_reducible rfl
           skip
           refine wpAnyH_ready (rs := [9, 10]) (by kernel_rfl) (by simp) ?_
           refine AllReadyH.cons rfl (fun K hK => ?_) ?_
           · go_simp
             refine hK.out _ _ (bel_tr hS1 (by first | exact bel_al _ _ | exact bel_dal _ _ | exact bel_daal _ _ _)) (fun hS2 => ?_)
             clear hK K
             refine wpAnyH_ready (rs := [10]) (by kernel_rfl) (by simp) ?_
             refine AllReadyH.cons rfl (fun K hK => ?_) ?_
             · go_simp
               refine hK.out _ _ (bel_tr hS2 (by first | exact bel_al _ _ | exact bel_dal _ _ | exact bel_daal _ _ _)) (fun hS3 => ?_)
               clear hK K
               have FS : Hid (SpC ((w5.alloc (.cells #[.int .i64 0, .int .i64 0, .int .i64 0, .int .i64 0, .slice none 0 0, .slice none 0 0] 27)).alloc (.cells #[.int .i64 0, .int .i64 0, .int .i64 0, .int .i64 0, .slice none 0 0, .string ⟨#[]⟩, .bool false, .int .i64 0, .slice none 0 0, .int .i64 0, .int .i64 0] 37)) (w5.heap.size) zeroS noS noS) := (SpC.new w5 27 zeroS noS noS).below (bel_al _ _)
               have FA : Hid (AnC ((w5.alloc (.cells #[.int .i64 0, .int .i64 0, .int .i64 0, .int .i64 0, .slice none 0 0, .slice none 0 0] 27)).alloc (.cells #[.int .i64 0, .int .i64 0, .int .i64 0, .int .i64 0, .slice none 0 0, .string ⟨#[]⟩, .bool false, .int .i64 0, .slice none 0 0, .int .i64 0, .int .i64 0] 37)) (w5.heap.size + 1) 0 zeroB noS zeroX 0) := an_sec w5
               have BL : Hid (Below w5.heap.size w5 ((w5.alloc (.cells #[.int .i64 0, .int .i64 0, .int .i64 0, .int .i64 0, .slice none 0 0, .slice none 0 0] 27)).alloc (.cells #[.int .i64 0, .int .i64 0, .int .i64 0, .int .i64 0, .slice none 0 0, .string ⟨#[]⟩, .bool false, .int .i64 0, .slice none 0 0, .int .i64 0, .int .i64 0] 37))) := bel_tr (bel_al _ _) (bel_al _ _)
               have H7 : Hid (Below wr.heap.size wr ((w5.alloc (.cells #[.int .i64 0, .int .i64 0, .int .i64 0, .int .i64 0, .slice none 0 0, .slice none 0 0] 27)).alloc (.cells #[.int .i64 0, .int .i64 0, .int .i64 0, .int .i64 0, .slice none 0 0, .string ⟨#[]⟩, .bool false, .int .i64 0, .slice none 0 0, .int .i64 0, .int .i64 0] 37))) := hS3
               generalize (w5.alloc (.cells #[.int .i64 0, .int .i64 0, .int .i64 0, .int .i64 0, .slice none 0 0, .slice none 0 0] 27)).alloc (.cells #[.int .i64 0, .int .i64 0, .int .i64 0, .int .i64 0, .slice none 0 0, .string ⟨#[]⟩, .bool false, .int .i64 0, .slice none 0 0, .int .i64 0, .int .i64 0] 37) = w7 at *
               have FA2 : Hid (AnC (put6 w7 (w5.heap.size) t N1 L1) (w5.heap.size + 1) 0 zeroB noS zeroX 0) := an_put6 FS.out FA.out (by have := HW5.out; omega)
               have BS6 : Hid (Below wr.heap.size wr (put6 w7 (w5.heap.size) t N1 L1)) := bel_put6 H7.out FS.out (by have := HW5.out; omega) _ _ _
               have BS11 : Hid (Below wr.heap.size wr (put11 (put6 w7 (w5.heap.size) t N1 L1) (w5.heap.size + 1) E bk noS (x, sx1) 0)) := bel_put11 BS6.out FA2.out (by have := HW5.out; omega) _ _ _ _ _
               have HL : Hid (Land wr (put11 (put6 w7 (w5.heap.size) t N1 L1) (w5.heap.size + 1) E bk noS (x, sx1) 0) (w5.heap.size) (w5.heap.size + 1) t N1 L1 E bk x sx1) := land_of HO1.out HF1.out HB1.out.2 (by have := HB1.out.1; omega) H7.out BL.out FS.out FA.out (by have := HW5.out; omega) (by have := HW5.out; have := HB1.out.1; omega) (by have := HW5.out; have := HB1.out.1; omega) (by have := HW5.out; omega) (by have := HW5.out; omega)
               refine wpAnyH_ready (rs := [11]) (by kernel_rfl) (by simp) ?_
               refine AllReadyH.cons rfl (fun K hK => ?_) ?_
               · skip
                 obtain ⟨z0, z1, z2, z3, z4, z5, zf⟩ := FS.out
                 unfold spV
                 go_simp
                 rw [← put6_def w7 (w5.heap.size) t N1 L1]
                 refine hK.out _ _ BS6.out (fun hS4 => ?_)
                 clear z0 z1 z2 z3 z4 z5 zf
                 generalize put6 w7 (w5.heap.size) t N1 L1 = w8 at *
                 clear hK K
                 refine wpAnyH_ready (rs := [12]) (by kernel_rfl) (by simp) ?_
                 refine AllReadyH.cons rfl (fun K hK => ?_) ?_
                 · skip
                   obtain ⟨z0, z1, z2, z3, z4, z5, z6, z7, z8, z9, z10, zf⟩ := FA2.out
                   unfold anV
                   go_simp
                   rw [← put11_def w8 (w5.heap.size + 1) E bk noS (x, sx1) 0]
                   refine hK.out _ _ BS11.out (fun hS5 => ?_)
                   clear z0 z1 z2 z3 z4 z5 z6 z7 z8 z9 z10 zf
                   generalize put11 w8 (w5.heap.size + 1) E bk noS (x, sx1) 0 = w9 at *
                   clear hK K
                   refine wpAnyH_done (by kernel_rfl) ?_ _
                   go_wp2_with fail
                   go_meet
                   case rel => exact ⟨w5.heap.size, w5.heap.size + 1, N1, L1, sx1, rfl, rfl, HL.out⟩
                 exact AllReadyH.nil
               exact AllReadyH.nil
             exact AllReadyH.nil
           refine AllReadyH.cons rfl (fun K hK => ?_) ?_
           · go_simp
             refine hK.out _ _ (bel_tr hS1 (by first | exact bel_al _ _ | exact bel_dal _ _ | exact bel_daal _ _ _)) (fun hS2 => ?_)
             clear hK K
             refine wpAnyH_ready (rs := [9]) (by kernel_rfl) (by simp) ?_
             refine AllReadyH.cons rfl (fun K hK => ?_) ?_
             · go_simp
               refine hK.out _ _ (bel_tr hS2 (by first | exact bel_al _ _ | exact bel_dal _ _ | exact bel_daal _ _ _)) (fun hS3 => ?_)
               clear hK K
               have FS : Hid (SpC ((w5.alloc (.cells #[.int .i64 0, .int .i64 0, .int .i64 0, .int .i64 0, .slice none 0 0, .string ⟨#[]⟩, .bool false, .int .i64 0, .slice none 0 0, .int .i64 0, .int .i64 0] 37)).alloc (.cells #[.int .i64 0, .int .i64 0, .int .i64 0, .int .i64 0, .slice none 0 0, .slice none 0 0] 27)) (w5.heap.size + 1) zeroS noS noS) := sp_sec w5
               have FA : Hid (AnC ((w5.alloc (.cells #[.int .i64 0, .int .i64 0, .int .i64 0, .int .i64 0, .slice none 0 0, .string ⟨#[]⟩, .bool false, .int .i64 0, .slice none 0 0, .int .i64 0, .int .i64 0] 37)).alloc (.cells #[.int .i64 0, .int .i64 0, .int .i64 0, .int .i64 0, .slice none 0 0, .slice none 0 0] 27)) (w5.heap.size) 0 zeroB noS zeroX 0) := (AnC.new w5 37).below (bel_al _ _)
               have BL : Hid (Below w5.heap.size w5 ((w5.alloc (.cells #[.int .i64 0, .int .i64 0, .int .i64 0, .int .i64 0, .slice none 0 0, .string ⟨#[]⟩, .bool false, .int .i64 0, .slice none 0 0, .int .i64 0, .int .i64 0] 37)).alloc (.cells #[.int .i64 0, .int .i64 0, .int .i64 0, .int .i64 0, .slice none 0 0, .slice none 0 0] 27))) := bel_tr (bel_al _ _) (bel_al _ _)
               have H7 : Hid (Below wr.heap.size wr ((w5.alloc (.cells #[.int .i64 0, .int .i64 0, .int .i64 0, .int .i64 0, .slice none 0 0, .string ⟨#[]⟩, .bool false, .int .i64 0, .slice none 0 0, .int .i64 0, .int .i64 0] 37)).alloc (.cells #[.int .i64 0, .int .i64 0, .int .i64 0, .int .i64 0, .slice none 0 0, .slice none 0 0] 27))) := hS3
               generalize (w5.alloc (.cells #[.int .i64 0, .int .i64 0, .int .i64 0, .int .i64 0, .slice none 0 0, .string ⟨#[]⟩, .bool false, .int .i64 0, .slice none 0 0, .int .i64 0, .int .i64 0] 37)).alloc (.cells #[.int .i64 0, .int .i64 0, .int .i64 0, .int .i64 0, .slice none 0 0, .slice none 0 0] 27) = w7 at *
               have FA2 : Hid (AnC (put6 w7 (w5.heap.size + 1) t N1 L1) (w5.heap.size) 0 zeroB noS zeroX 0) := an_put6 FS.out FA.out (by have := HW5.out; omega)
               have BS6 : Hid (Below wr.heap.size wr (put6 w7 (w5.heap.size + 1) t N1 L1)) := bel_put6 H7.out FS.out (by have := HW5.out; omega) _ _ _
               have BS11 : Hid (Below wr.heap.size wr (put11 (put6 w7 (w5.heap.size + 1) t N1 L1) (w5.heap.size) E bk noS (x, sx1) 0)) := bel_put11 BS6.out FA2.out (by have := HW5.out; omega) _ _ _ _ _
               have HL : Hid (Land wr (put11 (put6 w7 (w5.heap.size + 1) t N1 L1) (w5.heap.size) E bk noS (x, sx1) 0) (w5.heap.size + 1) (w5.heap.size) t N1 L1 E bk x sx1) := land_of HO1.out HF1.out HB1.out.2 (by have := HB1.out.1; omega) H7.out BL.out FS.out FA.out (by have := HW5.out; omega) (by have := HW5.out; have := HB1.out.1; omega) (by have := HW5.out; have := HB1.out.1; omega) (by have := HW5.out; omega) (by have := HW5.out; omega)
               refine wpAnyH_ready (rs := [11]) (by kernel_rfl) (by simp) ?_
               refine AllReadyH.cons rfl (fun K hK => ?_) ?_
               · skip
                 obtain ⟨z0, z1, z2, z3, z4, z5, zf⟩ := FS.out
                 unfold spV
                 go_simp
                 rw [← put6_def w7 (w5.heap.size + 1) t N1 L1]
                 refine hK.out _ _ BS6.out (fun hS4 => ?_)
                 clear z0 z1 z2 z3 z4 z5 zf
                 generalize put6 w7 (w5.heap.size + 1) t N1 L1 = w8 at *
                 clear hK K
                 refine wpAnyH_ready (rs := [12]) (by kernel_rfl) (by simp) ?_
                 refine AllReadyH.cons rfl (fun K hK => ?_) ?_
                 · skip
                   obtain ⟨z0, z1, z2, z3, z4, z5, z6, z7, z8, z9, z10, zf⟩ := FA2.out
                   unfold anV
                   go_simp
                   rw [← put11_def w8 (w5.heap.size) E bk noS (x, sx1) 0]
                   refine hK.out _ _ BS11.out (fun hS5 => ?_)
                   clear z0 z1 z2 z3 z4 z5 z6 z7 z8 z9 z10 zf
                   generalize put11 w8 (w5.heap.size) E bk noS (x, sx1) 0 = w9 at *
                   clear hK K
                   refine wpAnyH_done (by kernel_rfl) ?_ _
                   go_wp2_with fail
                   go_meet
                   case rel => exact ⟨w5.heap.size + 1, w5.heap.size, N1, L1, sx1, rfl, rfl, HL.out⟩
                 exact AllReadyH.nil
               exact AllReadyH.nil
             exact AllReadyH.nil
           exact AllReadyH.nil
         refine AllReadyH.cons rfl (fun K hK => ?_) ?_
         · go_simp
           refine hK.out _ _ (bel_tr hS0 (by first | exact bel_al _ _ | exact bel_dal _ _ | exact bel_daal _ _ _)) (fun hS1 => ?_)
           clear hK K
           refine wpAnyH_ready (rs := [5, 10]) (by kernel_rfl) (by simp) ?_
           refine AllReadyH.cons rfl (fun K hK => ?_) ?_
           · go_simp
             refine (CA.out _ hS1).mono ?_
             rintro e w5 ⟨⟨N1, L1, ps1, gg1, gl1, base1, M1, sx1, rfl, hO1, hF1, hb1, hb2⟩, c5⟩
             have C5 : Hid _ := c5
             have HO1 : Hid (OwnM base1 w5.heap.size w5 t N1 L1 ps1 gg1 gl1) := hO1.top
             have HF1 : Hid (Free M1 w5 (x, sx1)) := hF1
             have HB1 : Hid (wr.heap.size + 1 ≤ base1 ∧ base1 ≤ M1) := ⟨by have := hb1; (try simp at this); omega, hb2⟩
             have HW5 : Hid (wr.heap.size + 1 ≤ w5.heap.size) := by have := c5.size; simp at this; show _ ≤ _; omega
             clear hO1 hF1 hb1 hb2
             try go_simp
             refine hK.out _ _ (bel_tr hS1 c5) (fun hS2 => ?_)
             clear c5
             clear hK K
             refine wpAnyH_take (i := 6) (v := ?_) rfl (by kernel_rfl) (by kernel_rfl) (by kernel_rfl) (fun _ _ _ h => h) (Or.inl ⟨by rfl, ?_⟩) hS2 ?_
             rotate_left
             · intro W9 hSw; go_simp; first | done | with_reducible rfl
             skip
             refine wpAnyH_take (i := 7) (v := ?_) rfl (by kernel_rfl) (by kernel_rfl) (by kernel_rfl) (fun _ _ _ h => h) (Or.inl ⟨by rfl, ?_⟩) hS2 ?_
             rotate_left
             · intro W9 hSw; go_simp; first | done | with_reducible rfl
             skip
             refine wpAnyH_take (i := 8) (v := ?_) rfl (by kernel_rfl) (by kernel_rfl) (by kernel_rfl) (fun _ _ _ h => h) (Or.inl ⟨by rfl, ?_⟩) hS2 ?_
             rotate_left
             · intro W9 hSw; go_simp; first | done | with_reducible rfl
             skip
             refine wpAnyH_ready (rs := [10]) (by kernel_rfl) (by simp) ?_
             refine AllReadyH.cons rfl (fun K hK => ?_) ?_
             · go_simp
               refine hK.out _ _ (bel_tr hS2 (by first | exact bel_al _ _ | exact bel_dal _ _ | exact bel_daal _ _ _)) (fun hS3 => ?_)
               clear hK K
               have FS : Hid (SpC (w5.alloc (.cells #[.int .i64 0, .int .i64 0, .int .i64 0, .int .i64 0, .slice none 0 0, .string ⟨#[]⟩, .bool false, .int .i64 0, .slice none 0 0, .int .i64 0, .int .i64 0] 37)) (wr.heap.size) zeroS noS noS) := (sp_one C5.out).below (bel_al _ _)
               have FA : Hid (AnC (w5.alloc (.cells #[.int .i64 0, .int .i64 0, .int .i64 0, .int .i64 0, .slice none 0 0, .string ⟨#[]⟩, .bool false, .int .i64 0, .slice none 0 0, .int .i64 0, .int .i64 0] 37)) (w5.heap.size) 0 zeroB noS zeroX 0) := AnC.new w5 37
               have BL : Hid (Below w5.heap.size w5 (w5.alloc (.cells #[.int .i64 0, .int .i64 0, .int .i64 0, .int .i64 0, .slice none 0 0, .string ⟨#[]⟩, .bool false, .int .i64 0, .slice none 0 0, .int .i64 0, .int .i64 0] 37))) := bel_al _ _
               have H7 : Hid (Below wr.heap.size wr (w5.alloc (.cells #[.int .i64 0, .int .i64 0, .int .i64 0, .int .i64 0, .slice none 0 0, .string ⟨#[]⟩, .bool false, .int .i64 0, .slice none 0 0, .int .i64 0, .int .i64 0] 37))) := hS3
               generalize w5.alloc (.cells #[.int .i64 0, .int .i64 0, .int .i64 0, .int .i64 0, .slice none 0 0, .string ⟨#[]⟩, .bool false, .int .i64 0, .slice none 0 0, .int .i64 0, .int .i64 0] 37) = w7 at *
               have FA2 : Hid (AnC (put6 w7 (wr.heap.size) t N1 L1) (w5.heap.size) 0 zeroB noS zeroX 0) := an_put6 FS.out FA.out (by have := HW5.out; omega)
               have BS6 : Hid (Below wr.heap.size wr (put6 w7 (wr.heap.size) t N1 L1)) := bel_put6 H7.out FS.out (by have := HW5.out; omega) _ _ _
               have BS11 : Hid (Below wr.heap.size wr (put11 (put6 w7 (wr.heap.size) t N1 L1) (w5.heap.size) E bk noS (x, sx1) 0)) := bel_put11 BS6.out FA2.out (by have := HW5.out; omega) _ _ _ _ _
               have HL : Hid (Land wr (put11 (put6 w7 (wr.heap.size) t N1 L1) (w5.heap.size) E bk noS (x, sx1) 0) (wr.heap.size) (w5.heap.size) t N1 L1 E bk x sx1) := land_of HO1.out HF1.out HB1.out.2 (by have := HB1.out.1; omega) H7.out BL.out FS.out FA.out (by have := HW5.out; omega) (by have := HW5.out; have := HB1.out.1; omega) (by have := HW5.out; have := HB1.out.1; omega) (by have := HW5.out; omega) (by have := HW5.out; omega)
               refine wpAnyH_ready (rs := [11]) (by kernel_rfl) (by simp) ?_
               refine AllReadyH.cons rfl (fun K hK => ?_) ?_
               · skip
                 obtain ⟨z0, z1, z2, z3, z4, z5, zf⟩ := FS.out
                 unfold spV
                 go_simp
                 rw [← put6_def w7 (wr.heap.size) t N1 L1]
                 refine hK.out _ _ BS6.out (fun hS4 => ?_)
                 clear z0 z1 z2 z3 z4 z5 zf
                 generalize put6 w7 (wr.heap.size) t N1 L1 = w8 at *
                 clear hK K
                 refine wpAnyH_ready (rs := [12]) (by kernel_rfl) (by simp) ?_
                 refine AllReadyH.cons rfl (fun K hK => ?_) ?_
                 · skip
                   obtain ⟨z0, z1, z2, z3, z4, z5, z6, z7, z8, z9, z10, zf⟩ := FA2.out
                   unfold anV
                   go_simp
                   rw [← put11_def w8 (w5.heap.size) E bk noS (x, sx1) 0]
                   refine hK.out _ _ BS11.out (fun hS5 => ?_)
                   clear z0 z1 z2 z3 z4 z5 z6 z7 z8 z9 z10 zf
                   generalize put11 w8 (w5.heap.size) E bk noS (x, sx1) 0 = w9 at *
                   clear hK K
                   refine wpAnyH_done (by kernel_rfl) ?_ _
                   go_wp2_with fail
                   go_meet
                   case rel => exact ⟨wr.heap.size, w5.heap.size, N1, L1, sx1, rfl, rfl, HL.out⟩
                 exact AllReadyH.nil
               exact AllReadyH.nil
             exact AllReadyH.nil
           refine AllReadyH.cons rfl (fun K hK => ?_) ?_
           · go_simp
             refine hK.out _ _ (bel_tr hS1 (by first | exact bel_al _ _ | exact bel_dal _ _ | exact bel_daal _ _ _)) (fun hS2 => ?_)
             clear hK K
             refine wpAnyH_ready (rs := [5]) (by kernel_rfl) (by simp) ?_
             refine AllReadyH.cons rfl (fun K hK => ?_) ?_
             · go_simp
               refine (CA.out _ hS2).mono ?_
               rintro e w5 ⟨⟨N1, L1, ps1, gg1, gl1, base1, M1, sx1, rfl, hO1, hF1, hb1, hb2⟩, c5⟩
               have C5 : Hid _ := c5
               have HO1 : Hid (OwnM base1 w5.heap.size w5 t N1 L1 ps1 gg1 gl1) := hO1.top
               have HF1 : Hid (Free M1 w5 (x, sx1)) := hF1
               have HB1 : Hid (wr.heap.size + 1 + 1 ≤ base1 ∧ base1 ≤ M1) := ⟨by have := hb1; (try simp at this); omega, hb2⟩
               have HW5 : Hid (wr.heap.size + 2 ≤ w5.heap.size) := by have := c5.size; simp at this; show _ ≤ _; omega
               clear hO1 hF1 hb1 hb2
               try go_simp
               refine hK.out _ _ (bel_tr hS2 c5) (fun hS3 => ?_)
               clear c5
               clear hK K
               have FS : Hid (SpC (w5) (wr.heap.size) zeroS noS noS) := sp_first C5.out
               have FA : Hid (AnC (w5) (wr.heap.size + 1) 0 zeroB noS zeroX 0) := an_second C5.out
               have BL : Hid (Below w5.heap.size w5 (w5)) := Below.refl _ _
               have H7 : Hid (Below wr.heap.size wr (w5)) := hS3
               have FA2 : Hid (AnC (put6 w5 (wr.heap.size) t N1 L1) (wr.heap.size + 1) 0 zeroB noS zeroX 0) := an_put6 FS.out FA.out (by have := HW5.out; omega)
               have BS6 : Hid (Below wr.heap.size wr (put6 w5 (wr.heap.size) t N1 L1)) := bel_put6 H7.out FS.out (by have := HW5.out; omega) _ _ _
               have BS11 : Hid (Below wr.heap.size wr (put11 (put6 w5 (wr.heap.size) t N1 L1) (wr.heap.size + 1) E bk noS (x, sx1) 0)) := bel_put11 BS6.out FA2.out (by have := HW5.out; omega) _ _ _ _ _
               have HL : Hid (Land wr (put11 (put6 w5 (wr.heap.size) t N1 L1) (wr.heap.size + 1) E bk noS (x, sx1) 0) (wr.heap.size) (wr.heap.size + 1) t N1 L1 E bk x sx1) := land_of HO1.out HF1.out HB1.out.2 (by have := HB1.out.1; omega) H7.out BL.out FS.out FA.out (by have := HW5.out; omega) (by have := HW5.out; have := HB1.out.1; omega) (by have := HW5.out; have := HB1.out.1; omega) (by have := HW5.out; omega) (by have := HW5.out; omega)
               refine wpAnyH_take (i := 6) (v := ?_) rfl (by kernel_rfl) (by kernel_rfl) (by kernel_rfl) (fun _ _ _ h => h) (Or.inl ⟨by rfl, ?_⟩) hS3 ?_
               rotate_left
               · intro W9 hSw; go_simp; first | done | with_reducible rfl
               skip
               refine wpAnyH_take (i := 7) (v := ?_) rfl (by kernel_rfl) (by kernel_rfl) (by kernel_rfl) (fun _ _ _ h => h) (Or.inl ⟨by rfl, ?_⟩) hS3 ?_
               rotate_left
               · intro W9 hSw; go_simp; first | done | with_reducible rfl
               skip
               refine wpAnyH_take (i := 8) (v := ?_) rfl (by kernel_rfl) (by kernel_rfl) (by kernel_rfl) (fun _ _ _ h => h) (Or.inl ⟨by rfl, ?_⟩) hS3 ?_
               rotate_left
               · intro W9 hSw; go_simp; first | done | with_reducible rfl
               skip
               refine wpAnyH_ready (rs := [11]) (by kernel_rfl) (by simp) ?_
               refine AllReadyH.cons rfl (fun K hK => ?_) ?_
               · skip
                 obtain ⟨z0, z1, z2, z3, z4, z5, zf⟩ := FS.out
                 unfold spV
                 go_simp
                 rw [← put6_def w5 (wr.heap.size) t N1 L1]
                 refine hK.out _ _ BS6.out (fun hS4 => ?_)
                 clear z0 z1 z2 z3 z4 z5 zf
                 generalize put6 w5 (wr.heap.size) t N1 L1 = w8 at *
                 clear hK K
                 refine wpAnyH_ready (rs := [12]) (by kernel_rfl) (by simp) ?_
                 refine AllReadyH.cons rfl (fun K hK => ?_) ?_
                 · skip
                   obtain ⟨z0, z1, z2, z3, z4, z5, z6, z7, z8, z9, z10, zf⟩ := FA2.out
                   unfold anV
                   go_simp
                   rw [← put11_def w8 (wr.heap.size + 1) E bk noS (x, sx1) 0]
                   refine hK.out _ _ BS11.out (fun hS5 => ?_)
                   clear z0 z1 z2 z3 z4 z5 z6 z7 z8 z9 z10 zf
                   generalize put11 w8 (wr.heap.size + 1) E bk noS (x, sx1) 0 = w9 at *
                   clear hK K
                   refine wpAnyH_done (by kernel_rfl) ?_ _
                   go_wp2_with fail
                   go_meet
                   case rel => exact ⟨wr.heap.size, wr.heap.size + 1, N1, L1, sx1, rfl, rfl, HL.out⟩
                 exact AllReadyH.nil
               exact AllReadyH.nil
             exact AllReadyH.nil
           exact AllReadyH.nil
         refine AllReadyH.cons rfl (fun K hK => ?_) ?_
         · go_simp
           refine hK.out _ _ (bel_tr hS0 (by first | exact bel_al _ _ | exact bel_dal _ _ | exact bel_daal _ _ _)) (fun hS1 => ?_)
           clear hK K
           refine wpAnyH_ready (rs := [5, 9]) (by kernel_rfl) (by simp) ?_
           refine AllReadyH.cons rfl (fun K hK => ?_) ?_
           · go_simp
             refine (CA.out _ hS1).mono ?_
             rintro e w5 ⟨⟨N1, L1, ps1, gg1, gl1, base1, M1, sx1, rfl, hO1, hF1, hb1, hb2⟩, c5⟩
             have C5 : Hid _ := c5
             have HO1 : Hid (OwnM base1 w5.heap.size w5 t N1 L1 ps1 gg1 gl1) := hO1.top
             have HF1 : Hid (Free M1 w5 (x, sx1)) := hF1
             have HB1 : Hid (wr.heap.size + 1 ≤ base1 ∧ base1 ≤ M1) := ⟨by have := hb1; (try simp at this); omega, hb2⟩
             have HW5 : Hid (wr.heap.size + 1 ≤ w5.heap.size) := by have := c5.size; simp at this; show _ ≤ _; omega
             clear hO1 hF1 hb1 hb2
             try go_simp
             refine hK.out _ _ (bel_tr hS1 c5) (fun hS2 => ?_)
             clear c5
             clear hK K
             refine wpAnyH_take (i := 6) (v := ?_) rfl (by kernel_rfl) (by kernel_rfl) (by kernel_rfl) (fun _ _ _ h => h) (Or.inl ⟨by rfl, ?_⟩) hS2 ?_
             rotate_left
             · intro W9 hSw; go_simp; first | done | with_reducible rfl
             skip
             refine wpAnyH_take (i := 7) (v := ?_) rfl (by kernel_rfl) (by kernel_rfl) (by kernel_rfl) (fun _ _ _ h => h) (Or.inl ⟨by rfl, ?_⟩) hS2 ?_
             rotate_left
             · intro W9 hSw; go_simp; first | done | with_reducible rfl
             skip
             refine wpAnyH_take (i := 8) (v := ?_) rfl (by kernel_rfl) (by kernel_rfl) (by kernel_rfl) (fun _ _ _ h => h) (Or.inl ⟨by rfl, ?_⟩) hS2 ?_
             rotate_left
             · intro W9 hSw; go_simp; first | done | with_reducible rfl
             skip
             refine wpAnyH_ready (rs := [9]) (by kernel_rfl) (by simp) ?_
             refine AllReadyH.cons rfl (fun K hK => ?_) ?_
             · go_simp
               refine hK.out _ _ (bel_tr hS2 (by first | exact bel_al _ _ | exact bel_dal _ _ | exact bel_daal _ _ _)) (fun hS3 => ?_)
               clear hK K
               have FS : Hid (SpC (w5.alloc (.cells #[.int .i64 0, .int .i64 0, .int .i64 0, .int .i64 0, .slice none 0 0, .slice none 0 0] 27)) (w5.heap.size) zeroS noS noS) := SpC.new w5 27 zeroS noS noS
               have FA : Hid (AnC (w5.alloc (.cells #[.int .i64 0, .int .i64 0, .int .i64 0, .int .i64 0, .slice none 0 0, .slice none 0 0] 27)) (wr.heap.size) 0 zeroB noS zeroX 0) := (an_one C5.out).below (bel_al _ _)
               have BL : Hid (Below w5.heap.size w5 (w5.alloc (.cells #[.int .i64 0, .int .i64 0, .int .i64 0, .int .i64 0, .slice none 0 0, .slice none 0 0] 27))) := bel_al _ _
               have H7 : Hid (Below wr.heap.size wr (w5.alloc (.cells #[.int .i64 0, .int .i64 0, .int .i64 0, .int .i64 0, .slice none 0 0, .slice none 0 0] 27))) := hS3
               generalize w5.alloc (.cells #[.int .i64 0, .int .i64 0, .int .i64 0, .int .i64 0, .slice none 0 0, .slice none 0 0] 27) = w7 at *
               have FA2 : Hid (AnC (put6 w7 (w5.heap.size) t N1 L1) (wr.heap.size) 0 zeroB noS zeroX 0) := an_put6 FS.out FA.out (by have := HW5.out; omega)
               have BS6 : Hid (Below wr.heap.size wr (put6 w7 (w5.heap.size) t N1 L1)) := bel_put6 H7.out FS.out (by have := HW5.out; omega) _ _ _
               have BS11 : Hid (Below wr.heap.size wr (put11 (put6 w7 (w5.heap.size) t N1 L1) (wr.heap.size) E bk noS (x, sx1) 0)) := bel_put11 BS6.out FA2.out (by have := HW5.out; omega) _ _ _ _ _
               have HL : Hid (Land wr (put11 (put6 w7 (w5.heap.size) t N1 L1) (wr.heap.size) E bk noS (x, sx1) 0) (w5.heap.size) (wr.heap.size) t N1 L1 E bk x sx1) := land_of HO1.out HF1.out HB1.out.2 (by have := HB1.out.1; omega) H7.out BL.out FS.out FA.out (by have := HW5.out; omega) (by have := HW5.out; have := HB1.out.1; omega) (by have := HW5.out; have := HB1.out.1; omega) (by have := HW5.out; omega) (by have := HW5.out; omega)
               refine wpAnyH_ready (rs := [11]) (by kernel_rfl) (by simp) ?_
               refine AllReadyH.cons rfl (fun K hK => ?_) ?_
               · skip
                 obtain ⟨z0, z1, z2, z3, z4, z5, zf⟩ := FS.out
                 unfold spV
                 go_simp
                 rw [← put6_def w7 (w5.heap.size) t N1 L1]
                 refine hK.out _ _ BS6.out (fun hS4 => ?_)
                 clear z0 z1 z2 z3 z4 z5 zf
                 generalize put6 w7 (w5.heap.size) t N1 L1 = w8 at *
                 clear hK K
                 refine wpAnyH_ready (rs := [12]) (by kernel_rfl) (by simp) ?_
                 refine AllReadyH.cons rfl (fun K hK => ?_) ?_
                 · skip
                   obtain ⟨z0, z1, z2, z3, z4, z5, z6, z7, z8, z9, z10, zf⟩ := FA2.out
                   unfold anV
                   go_simp
                   rw [← put11_def w8 (wr.heap.size) E bk noS (x, sx1) 0]
                   refine hK.out _ _ BS11.out (fun hS5 => ?_)
                   clear z0 z1 z2 z3 z4 z5 z6 z7 z8 z9 z10 zf
                   generalize put11 w8 (wr.heap.size) E bk noS (x, sx1) 0 = w9 at *
                   clear hK K
                   refine wpAnyH_done (by kernel_rfl) ?_ _
                   go_wp2_with fail
                   go_meet
                   case rel => exact ⟨w5.heap.size, wr.heap.size, N1, L1, sx1, rfl, rfl, HL.out⟩
                 exact AllReadyH.nil
               exact AllReadyH.nil
             exact AllReadyH.nil
           refine AllReadyH.cons rfl (fun K hK => ?_) ?_
           · go_simp
             refine hK.out _ _ (bel_tr hS1 (by first | exact bel_al _ _ | exact bel_dal _ _ | exact bel_daal _ _ _)) (fun hS2 => ?_)
             clear hK K
             refine wpAnyH_ready (rs := [5]) (by kernel_rfl) (by simp) ?_
             refine AllReadyH.cons rfl (fun K hK => ?_) ?_
             · go_simp
               refine (CA.out _ hS2).mono ?_
               rintro e w5 ⟨⟨N1, L1, ps1, gg1, gl1, base1, M1, sx1, rfl, hO1, hF1, hb1, hb2⟩, c5⟩
               have C5 : Hid _ := c5
               have HO1 : Hid (OwnM base1 w5.heap.size w5 t N1 L1 ps1 gg1 gl1) := hO1.top
               have HF1 : Hid (Free M1 w5 (x, sx1)) := hF1
               have HB1 : Hid (wr.heap.size + 1 + 1 ≤ base1 ∧ base1 ≤ M1) := ⟨by have := hb1; (try simp at this); omega, hb2⟩
               have HW5 : Hid (wr.heap.size + 2 ≤ w5.heap.size) := by have := c5.size; simp at this; show _ ≤ _; omega
               clear hO1 hF1 hb1 hb2
               try go_simp
               refine hK.out _ _ (bel_tr hS2 c5) (fun hS3 => ?_)
               clear c5
               clear hK K
               have FS : Hid (SpC (w5) (wr.heap.size + 1) zeroS noS noS) := sp_second C5.out
               have FA : Hid (AnC (w5) (wr.heap.size) 0 zeroB noS zeroX 0) := an_first C5.out
               have BL : Hid (Below w5.heap.size w5 (w5)) := Below.refl _ _
               have H7 : Hid (Below wr.heap.size wr (w5)) := hS3
               have FA2 : Hid (AnC (put6 w5 (wr.heap.size + 1) t N1 L1) (wr.heap.size) 0 zeroB noS zeroX 0) := an_put6 FS.out FA.out (by have := HW5.out; omega)
               have BS6 : Hid (Below wr.heap.size wr (put6 w5 (wr.heap.size + 1) t N1 L1)) := bel_put6 H7.out FS.out (by have := HW5.out; omega) _ _ _
               have BS11 : Hid (Below wr.heap.size wr (put11 (put6 w5 (wr.heap.size + 1) t N1 L1) (wr.heap.size) E bk noS (x, sx1) 0)) := bel_put11 BS6.out FA2.out (by have := HW5.out; omega) _ _ _ _ _
               have HL : Hid (Land wr (put11 (put6 w5 (wr.heap.size + 1) t N1 L1) (wr.heap.size) E bk noS (x, sx1) 0) (wr.heap.size + 1) (wr.heap.size) t N1 L1 E bk x sx1) := land_of HO1.out HF1.out HB1.out.2 (by have := HB1.out.1; omega) H7.out BL.out FS.out FA.out (by have := HW5.out; omega) (by have := HW5.out; have := HB1.out.1; omega) (by have := HW5.out; have := HB1.out.1; omega) (by have := HW5.out; omega) (by have := HW5.out; omega)
               refine wpAnyH_take (i := 6) (v := ?_) rfl (by kernel_rfl) (by kernel_rfl) (by kernel_rfl) (fun _ _ _ h => h) (Or.inl ⟨by rfl, ?_⟩) hS3 ?_
               rotate_left
               · intro W9 hSw; go_simp; first | done | with_reducible rfl
               skip
               refine wpAnyH_take (i := 7) (v := ?_) rfl (by kernel_rfl) (by kernel_rfl) (by kernel_rfl) (fun _ _ _ h => h) (Or.inl ⟨by rfl, ?_⟩) hS3 ?_
               rotate_left
               · intro W9 hSw; go_simp; first | done | with_reducible rfl
               skip
               refine wpAnyH_take (i := 8) (v := ?_) rfl (by kernel_rfl) (by kernel_rfl) (by kernel_rfl) (fun _ _ _ h => h) (Or.inl ⟨by rfl, ?_⟩) hS3 ?_
               rotate_left
               · intro W9 hSw; go_simp; first | done | with_reducible rfl
               skip
               refine wpAnyH_ready (rs := [11]) (by kernel_rfl) (by simp) ?_
               refine AllReadyH.cons rfl (fun K hK => ?_) ?_
               · skip
                 obtain ⟨z0, z1, z2, z3, z4, z5, zf⟩ := FS.out
                 unfold spV
                 go_simp
                 rw [← put6_def w5 (wr.heap.size + 1) t N1 L1]
                 refine hK.out _ _ BS6.out (fun hS4 => ?_)
                 clear z0 z1 z2 z3 z4 z5 zf
                 generalize put6 w5 (wr.heap.size + 1) t N1 L1 = w8 at *
                 clear hK K
                 refine wpAnyH_ready (rs := [12]) (by kernel_rfl) (by simp) ?_
                 refine AllReadyH.cons rfl (fun K hK => ?_) ?_
                 · skip
                   obtain ⟨z0, z1, z2, z3, z4, z5, z6, z7, z8, z9, z10, zf⟩ := FA2.out
                   unfold anV
                   go_simp
                   rw [← put11_def w8 (wr.heap.size) E bk noS (x, sx1) 0]
                   refine hK.out _ _ BS11.out (fun hS5 => ?_)
                   clear z0 z1 z2 z3 z4 z5 z6 z7 z8 z9 z10 zf
                   generalize put11 w8 (wr.heap.size) E bk noS (x, sx1) 0 = w9 at *
                   clear hK K
                   refine wpAnyH_done (by kernel_rfl) ?_ _
                   go_wp2_with fail
                   go_meet
                   case rel => exact ⟨wr.heap.size + 1, wr.heap.size, N1, L1, sx1, rfl, rfl, HL.out⟩
                 exact AllReadyH.nil
               exact AllReadyH.nil
             exact AllReadyH.nil
           exact AllReadyH.nil
         exact AllReadyH.nil
       case rest =>
         obtain ⟨tq, aq, N1, L1, sx, rfl, rfl, hL⟩ := hcut
         have HL : Hid (Land wr wc tq aq t N1 L1 E bk x sx) := hL
         have e0 := hL.an.c0
         have HWc : Hid (Now w q wc s N L) := HW.out.below hL.bel
         clear hL CA p0 p1 p2 p3 p4 p5 pf
         by_cases h0 : E = 0
         · subst h0
           have hts : doS s ⟨ek, ep, et, ec, el, en, els⟩ = t := hTS
           have HRt : Hid (RtS t) := hts ▸ (app_keeps HE.out).2
           have HTt : Hid (t.tx ≤ ((k + 1 : Nat) : Int)) := by
             have h1 := HTX.out
             rw [← hts]
             show s.tx + 1 ≤ _
             omega
           obtain ⟨z0, z1, z2, z3, z4, z5, _⟩ := HL.out.box
           obtain ⟨x0, x1, x2, x3, x4, x5, xf⟩ := HWc.out.box
           obtain ⟨_, _, _, _, _, HOW, _, _⟩ := HL.out.own
           have HIN : Hid (SpIn wc t N1 L1) := HOW.spIn
           have htx : t.tx = s.tx + 1 := by rw [← hts]; rfl
           have htb : (t.tx != s.tx + 1) = false := by rw [htx]; simp
           have h1 : decide (t.nb < s.nb) = false := by rw [← hts]; exact decide_eq_false (by have := app_nb (s := s) (e := ⟨ek, ep, et, ec, el, en, els⟩); omega)
           have h2 : decide (t.ng < s.ng) = false := by rw [← hts]; exact decide_eq_false (by have := app_ng (s := s) (e := ⟨ek, ep, et, ec, el, en, els⟩); omega)
           have h3 : decide (t.now < s.now) = false := by rw [← hts]; exact decide_eq_false (by have := app_now HE.out; omega)
           have hsx := HR.out.tx
           have CRT : Hid (∀ W, Below wc.heap.size wc W → Calls Tryz.prog 14 #[spV t N1 L1] W fun e w' => e = .returned (.bool true) ∧ Below W.heap.size W w') := fun W hb => rightS_val (HIN.out.below hb) true ⟨fun _ => HRt.out, fun _ => rfl⟩
           have COV : Hid (∀ W, Below wc.heap.size wc W → Calls Tryz.prog 15 #[.slice N1.a N1.n N1.c] W fun e w' => TextsR W.heap.size [] 0 e w' ∧ Below W.heap.size W w') := fun W hb => over_val (HIN.out.nl.below hb) true ⟨fun _ => HRt.out.tree, fun _ => rfl⟩ [] HRt.out.over 0 rfl
           have CTR : Hid (∀ W, Below wc.heap.size wc W → Calls Tryz.prog 16 #[.slice N1.a N1.n N1.c] W fun e w' => e = .returned (.bool true) ∧ Below W.heap.size W w') := fun W hb => right_val (HIN.out.nl.below hb) true ⟨fun _ => HRt.out.tree, fun _ => rfl⟩
           unfold spV at CRT
           clear HOW htx g0 g1 g2 g3 g4 g5 g6 hTS hts hXN hBK e0
           have ha0 := HL.out.an.c0
           go_wp2_with (first
             | (go_at_call 14; refine (CRT.out _ (Below.refl _ _)).mono ?_; rintro e w6 ⟨rfl, c6⟩; have B6 : Hid (Below wc.heap.size wc w6) := c6; have y0 := bel_cell c6 z0; have y1 := bel_cell c6 z1; have y2 := bel_cell c6 z2; have y3 := bel_cell c6 z3; have y4 := bel_cell c6 z4; have v0 := bel_cell c6 x0; have v1 := bel_cell c6 x1; have v2 := bel_cell c6 x2; have v3 := bel_cell c6 x3; clear c6)
             | (go_at_call 15; refine (COV.out _ B6.out).mono ?_; rintro e w7 ⟨⟨oa, oc, og, rfl, _⟩, c7⟩; have B7 : Hid (Below wc.heap.size wc w7) := bel_tr B6.out c7; have r4 := bel_cell c7 y4; clear c7)
             | (go_at_call 16; refine (CTR.out _ B7.out).mono ?_; rintro e w8 ⟨rfl, c8⟩; have B8 : Hid (Below wc.heap.size wc w8) := bel_tr B7.out c8; have b8 := bel_tr B7.out c8; have L8 := HL.out.below b8; have N8 := HWc.out.below b8; obtain ⟨s0, s1, s2, s3, s4, s5, _⟩ := L8.box; obtain ⟨r0, r1, r2, r3, r4', r5, rf⟩ := N8.box; have hput := L8.put N8 hql; rw [put6_def] at hput; have HPUT : Hid _ := hput; clear hput L8 N8 c8 b8))
           go_roundg (60 - (k + 1))
           case measure => omega
           case rel => exact ⟨k + 1, t, _, _, by omega, by omega, by go_num, HRt.out, HTt.out, HPUT.out⟩
         · have h0b : (E != 0) = true := by simpa using h0
           have h0c : (E == 0) = false := by simpa using h0
           have hz : zeroS = t := by rw [← hTS]; exact (if_neg h0).symm
           have hx0' : zeroN = x := by rw [← hXN]; exact (if_neg h0).symm
           have hb0 : zeroB = bk := by rw [← hBK]; exact (if_neg h0).symm
           subst hz hx0' hb0
           obtain ⟨nb', noff', ps', hNd', hpl', hpm', hLL'⟩ := HL.out.parts
           have hn0' : N1.n = 0 := by
             rw [← hpl', ← List.length_map (f := (·.1)), hpm']; rfl
           have hl0' : L1.n = 0 := hLL'.len.symm
           have hs0' : sx.n = 0 := by
             obtain ⟨_, _, _, _, _, _, _, hFr⟩ := HL.out.own
             exact hFr.ok.bs.len.symm
           clear hNd' hpl' hpm' hLL'
           obtain ⟨z0, z1, z2, z3, z4, z5, _⟩ := HL.out.box
           obtain ⟨a0', a1', a2', a3', a4', a5', a6', a7', a8', a9', a10', _⟩ := HL.out.an
           obtain ⟨na, nn, nc⟩ := N1
           obtain ⟨la, ln, lc⟩ := L1
           obtain ⟨xa, xn, xc⟩ := sx
           simp only at hn0' hl0' hs0'
           subst hn0' hl0' hs0'
           have CAN : Hid (∀ W, Calls Tryz.prog 12 #[anV E zeroB noS (zeroN, ⟨xa, 0, xc⟩) 0, anV E zeroB noS zeroX 0] W fun e w' => e = .returned (.bool true) ∧ Below W.heap.size W w') := fun W => answers_zero E xa xc W
           have CSM : Hid (∀ W, Calls Tryz.prog 13 #[spV zeroS ⟨na, 0, nc⟩ ⟨la, 0, lc⟩, spV zeroS noS noS] W fun e w' => e = .returned (.bool true) ∧ Below W.heap.size W w') := fun W => same_zero na la nc lc W
           unfold anV zeroB zeroX zeroN noS at CAN
           unfold spV zeroS noS at CSM
           simp only [zeroB, zeroN, noS, zeroS] at CAN CSM a1' a2' a3' a4' a5' a6' a7' a8' a9' z0 z1 z2 z3 z4 z5
           clear hTS hXN hBK g0 g1 g2 g3 g4 g5 g6 e0
           go_wp2_with fail
           refine (CAN.out _).mono ?_
           rintro e w6 ⟨rfl, c6⟩
           have B6 : Hid (Below wc.heap.size wc w6) := c6
           have y0 := bel_cell c6 z0
           have y1 := bel_cell c6 z1
           have y2 := bel_cell c6 z2
           have y3 := bel_cell c6 z3
           have y4 := bel_cell c6 z4
           have y5 := bel_cell c6 z5
           clear c6 z0 z1 z2 z3 z4 z5 a0' a1' a2' a3' a4' a5' a6' a7' a8' a9' a10'
           go_wp2_with fail
           refine (CSM.out _).mono ?_
           rintro e w7 ⟨rfl, c7⟩
           have B7 : Hid (Below wc.heap.size wc w7) := bel_tr B6.out c7
           clear c7
           go_wp2
           go_roundg (60 - (k + 1))
           case measure => omega
           case rel => exact ⟨k + 1, s, N, L, by omega, by omega, by go_num, HR.out, by have := HTX.out; omega, HWc.out.below B7.out⟩
     · by_cases hk0 : k < n0
       · have hg1 : decide ((k : Int) < (n0 : Int)) = true := decide_eq_true (by omega)
         have hg2 : decide ((k : Int) < 60) = false := decide_eq_false (by omega)
         go_wp2
         go_meet
         case rel => exact ⟨s, N, L, HR.out, by have := HTX.out; omega, HW.out⟩
       · have hg1 : decide ((k : Int) < (n0 : Int)) = false := decide_eq_false (by omega)
         go_wp2
         go_meet
         case rel => exact ⟨s, N, L, HR.out, by have := HTX.out; omega, HW.out⟩
  case rest =>
   obtain ⟨s, N, L, hR, htx, hNow⟩ := hcut
   have HR : Hid (RtS s) := hR
   have HW : Hid (Now w q wc s N L) := hNow
   have HTT : Hid (s.tx ≠ 300) := by show s.tx ≠ 300; omega
   have HNL : Hid (NL wc N.a N.n s.ns) := hNow.spIn.nl
   clear hR htx hNow H2 HU HN hx0
   go_wp2
   go_ret
   exact ⟨rfl, HW.out.bel⟩

theorem walk (a0 : Option Addr) (b0 off0 cap0 : Nat) (ss0 : List ER) (W : World) (h0 : Eds W a0 b0 off0 ss0 ∧ ss0.length ≤ cap0) :
    Calls Tryz.prog 3 #[.slice a0 ss0.length cap0] W fun e w' => e = .returned (.bool true) ∧ Below W.heap.size W w' :=
  walk_b a0 b0 off0 cap0 _ ss0 W rfl h0.1

set_option maxRecDepth 100000 in
theorem lifted (os : Os) (started : os.Started) (H : Type) (enc : TypeId × Value → H) :
    ReturnsInHanded {} Tryz.checked os 3 .any (Rows.spaceStaysSpec.pre6 enc Tryz.prog Tryz.f3 Rows.spaceStaysRow.domain false) (Rows.spaceStaysSpec.post enc Tryz.prog Tryz.f3 false true false false) := by
  refine returnsInHanded_of_change (C := Tryz.checked) own started (by kernel_rfl) Tryz.func3
    (ChangeSpec.witness6 (enc := enc) (C := Tryz.checked) false ⟨#[], #[.slice none 0 0], []⟩ 8 (by kernel_rfl) (by kernel_rfl) (by kernel_rfl) (by kernel_rfl)) ?_
  intro W base args ds gs before hval0 hW hcnd _
  have hval : ∀ (j : Nat) t v, Tryz.f3.params[j]? = some t → args[j]? = some v → Value.okWide Tryz.prog W .any base t v := hval0
  have hW' := hW
  obtain ⟨p, q, hA0, hV, rfl, hfz, hnd⟩ := hW
  have hA : DataW.TrodAll enc Tryz.prog W 0 (fun _ => true) true Tryz.f3.params.toList args.toList ds p := hA0
  rw [Tryz.params3] at hA hval
  obtain ⟨v0, vs0, d0, ds0, p0, q0, hargs, rfl, rfl, h0, r0⟩ := trodAll_cons hA
  obtain ⟨rfl, rfl, rfl⟩ := trodAll_nil r0
  obtain rfl : args = #[v0] := by cases args; simp_all
  obtain ⟨rfl, rfl⟩ := trodVars_none hV
  obtain ⟨a0, len0, cap0, rfl⟩ := okWide_slice Tryz.underlying22 (hval 0 22 v0 rfl rfl)
  have k0 := h0
  have lt0 : ∀ x ∈ p0, x.block < W.heap.size := by obtain ⟨m, hm⟩ := k0; exact DataW.trod_lt m _ _ _ hm
  obtain ⟨b0, off0, ss0, rfl, w0⟩ := Spa.open_edits h0
  clear hA0 hval0
  refine (walk a0 b0 off0 cap0 ss0 W w0).mono fun e W' ⟨he, bel⟩ => ?_
  subst he
  exact ⟨_, rfl, _, _, _, [], _, [], hW', trodAll_mk1 (shut_bool Tryz.underlying4 _), (trodAll_cons_mk (Below.trod laidOut (by kernel_rfl) (of_decide_eq_true (by kernel_rfl)) k0 bel lt0) trodAll_mk0), rfl, bel.frame _, fun h => by cases h⟩

theorem over : Rows.spaceStaysRow.holds Tryz.pinned (OpenSpec.ofChange Rows.spaceStaysSpec) :=
  OpenClaim.holds_of_wide 3 Tryz.f3 rfl rfl rfl rfl rfl rfl rfl ⟨rfl, rfl, rfl, rfl, rfl⟩ rfl rfl rfl rfl rfl (by kernel_rfl) Tryz.func3 (by kernel_rfl)
    (of_decide_eq_true (by kernel_rfl)) (by unfold Func.isWrapper; first | (rw [if_pos (by decide +kernel)]; kernel_rfl) | (rw [if_neg (by decide +kernel)]; exact ⟨rfl, rfl⟩))
    (fun os started H enc _ => lifted os started H enc)
end Go.Proofs.YtaafombnpngblaaGreat.spaceStays

namespace Go.Proofs.YtaafombnpngblaaGreat
/-- The statement. -/
theorem spaceStays_holds : Rows.SpaceStaysSaid := spaceStays.over
#print axioms spaceStays_holds
end Go.Proofs.YtaafombnpngblaaGreat

