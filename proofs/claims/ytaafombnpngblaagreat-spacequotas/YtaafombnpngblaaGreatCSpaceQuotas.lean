/- SpaceQuotas: for every list of edits, every string and every number: the statement's function returns true; nothing that was there is changed. No condition. -/
import Derived.Test.YtaafombnpngblaaGreatB30
import Derived.Test.YtaafombnpngblaaGreatB34
import Derived.Test.YtaafombnpngblaaGreatB17
import Derived.Test.YtaafombnpngblaaGreatB31
import Derived.Deep.DeepCutAuto
import Derived.Deep.LoopGhost
import Derived.Deep.CutBlock
import Derived.Deep.RegionHeld
import Derived.BigQuiet
namespace Go.Proofs.YtaafombnpngblaaGreat.spaceQuotas
open Go.ChangeShapes Go.WideShapes Go.ChangeAt Go.RowKit Go.Proofs.YtaafombnpngblaaGreat Go.Proofs.YtaafombnpngblaaGreat.Spa
open Go.ChangeMaps (open_string shut_string)
open Go.Proofs.YtaafombnpngblaaGreat.Edi (Ed Nm edV bel_drew)
set_option linter.unusedVariables false

theorem own : ownKnob Tryz.prog.godebug = none := by kernel_rfl

set_option maxRecDepth 100000 in
set_option maxHeartbeats 8000000 in
theorem walk_b (a0 : Option Addr) (b0 off0 cap0 n0 : Nat) (us : List ER) (p : ByteArray) (n : Int) (w : World) (hn0 : us.length = n0) (hU : Eds w a0 b0 off0 us) (hp : p.size ≤ maxLen) (hn : -9223372036854775808 ≤ n ∧ n ≤ 9223372036854775807) :
    Calls Tryz.prog 7 #[.slice a0 n0 cap0, .string p, .int .i64 n] w fun e w' => e = .returned (.bool true) ∧ Below w.heap.size w w' := by
  have hx0 : n0 ≤ 9223372036854775807 := by have := hU.len; unfold maxLen at this; omega
  have HN : Hid _ := hn0
  have HU : Hid (Eds w a0 b0 off0 us) := hU
  clear hn0 hU
  have HP : Hid (p.size ≤ maxLen) := hp
  obtain ⟨hn1, hn2⟩ := hn
  clear hp
  have hst := run_store_str
  have hst2 : ∀ (w : World) (a : Addr) (x : Option Addr) (n c : Nat) (m : Mode), (store a (.slice x n c) m).run Tryz.prog w = stored Tryz.prog w a (.slice x n c) m := fun w a x n c m => run_store_any w a _ m rfl
  go_enter Tryz.func7, Tryz.ntmps7
  go_wp2_with fail
  refine (examples_val _).mono ?_
  rintro e w1 ⟨rfl, b1⟩
  have B1 : Hid (Below w.heap.size w w1) := b1
  clear b1
  go_wp2_with fail
  refine (new_val _).mono ?_
  rintro e w2 ⟨⟨N0, L0, p0, g0, gl0, bb0, M0, _, rfl, hO0⟩, c2⟩
  have H2 : Hid _ := Now.start (bel_tr B1.out c2) hO0 27
  clear c2 hO0
  unfold spV
  go_upto_block 0 with fail
  generalize hW : w2.alloc (.cells #[.int .i64 newS.tx, .int .i64 newS.nb, .int .i64 newS.ng, .int .i64 newS.now, .slice N0.a N0.n N0.c, .slice L0.a L0.n L0.c] 27) = w3 at *
  clear hW
  generalize w2.heap.size = q at *
  go_cut [] (fun wx => ∃ (s : Sp) (N L : RS), RtS s ∧ s.tx ≤ 50 ∧ Now w q wx s N L)
  case first =>
   go_wp2_with fail
   go_loopg [9] 50 (fun g v wr => ∃ (k : Nat) (s : Sp) (N L : RS), k ≤ n0 ∧ k + g = 50 ∧ v = .int .i64 k ∧ RtS s ∧ s.tx ≤ k ∧ Now w q wr s N L)
   case atStart => exact ⟨0, newS, N0, L0, by omega, by omega, rfl, new_right, by decide, H2.out⟩
   case round =>
     obtain ⟨k, s, N, L, hk1, hk2, rfl, hR, htx, hNow⟩ := hrel
     have HR : Hid (RtS s) := hR
     have HTX : Hid (s.tx ≤ k) := htx
     have HW : Hid (Now w q wr s N L) := hNow
     clear hR hNow H2 htx
     by_cases hlt : k < n0 ∧ k < 50
     · obtain ⟨hlt0, hlt1⟩ := hlt
       have hk0 : k < us.length := by rw [HN.out]; exact hlt0
       obtain rfl := HU.out.addr (by omega)
       have hEd := (HU.out.below HW.out.bel).at hk0
       have HOK : Hid (EdOk wr us[k]) := (HU.out.below HW.out.bel).ok _ (List.getElem_mem hk0)
       generalize us[k] = u at *
       obtain ⟨⟨ek, ep, et, ec, el, en, els⟩, ⟨ea, em, eq⟩⟩ := u
       obtain ⟨E, hE⟩ := appE_any s ⟨ek, ep, et, ec, el, en, els⟩
       have CA : Hid (∀ W, Below wr.heap.size wr W → Calls Tryz.prog 11 #[spV s N L, edV ⟨ek, ep, et, ec, el, en, els⟩ ea em eq] W fun r w' => ApR W.heap.size (appS s ⟨ek, ep, et, ec, el, en, els⟩ E) E (appB s ⟨ek, ep, et, ec, el, en, els⟩ E) (appN s ⟨ek, ep, et, ec, el, en, els⟩ E) r w' ∧ Below W.heap.size W w') := fun W hb => apply_any (HW.out.spIn.below hb) _ ea em eq (HOK.out.nm.below hb) E hE
       have HE : Hid (AppE s ⟨ek, ep, et, ec, el, en, els⟩ E) := hE
       obtain ⟨g0, g1, g2, g3, g4, g5, g6⟩ := hEd
       obtain ⟨p0, p1, p2, p3, p4, p5, pf⟩ := HW.out.box
       unfold spV edV at CA
       simp only at CA g0 g1 g2 g3 g4 g5 g6
       have hql : q < wr.heap.size := HW.out.lt
       clear hE hk0
       generalize appN s ⟨ek, ep, et, ec, el, en, els⟩ E = x at *
       generalize appB s ⟨ek, ep, et, ec, el, en, els⟩ E = bk at *
       generalize hTS : appS s ⟨ek, ep, et, ec, el, en, els⟩ E = t at *
       go_upto_region 6 with fail
       go_cut [10, 11] (fun v6 v7 wx => ∃ tq aq N1 L1 sx, v6 = .pointer (some ⟨tq, 0, none⟩) ∧ v7 = .pointer (some ⟨aq, 0, none⟩) ∧ Land wr wx tq aq t N1 L1 E bk x sx)
       case first =>
         refine wp_region_held_drew (S := fun W => Below wr.heap.size wr W) (by kernel_rfl) (bel_drew wr) (fun hS0 => ?_)
         refine wpAnyH_take (i := 0) (v := ?_) rfl (by kernel_rfl) (by kernel_rfl) (by kernel_rfl) (fun _ _ _ h => h) (Or.inl ⟨by rfl, ?_⟩) hS0 ?_
         rotate_left
         · intro W9 hSw; have d0 := bel_cell hSw p0; have d1 := bel_cell hSw p1; have d2 := bel_cell hSw p2; have d3 := bel_cell hSw p3; have d4 := bel_cell hSw p4; have d5 := bel_cell hSw p5; go_simp; first | done | with_reducible rfl
         skip
         refine wpAnyH_take (i := 1) (v := ?_) rfl (by kernel_rfl) (by kernel_rfl) (by kernel_rfl) (fun _ _ _ h => h) (Or.inl ⟨by rfl, ?_⟩) hS0 ?_
         rotate_left
         · intro W9 hSw; go_simp; first | done | with_reducible rfl
         skip
         refine wpAnyH_take (i := 2) (v := ?_) rfl (by kernel_rfl) (by kernel_rfl) (by kernel_rfl) (fun _ _ _ h => h) (Or.inl ⟨by rfl, ?_⟩) hS0 ?_
         rotate_left
         · intro W9 hSw; go_simp; first | done | with_reducible rfl
         skip
         refine wpAnyH_take (i := 3) (v := ?_) rfl (by kernel_rfl) (by kernel_rfl) (by kernel_rfl) (fun _ _ _ h => h) (Or.inl ⟨by rfl, ?_⟩) hS0 ?_
         rotate_left
         · intro W9 hSw; go_simp; first | done | with_reducible rfl
         skip
         refine wpAnyH_take (i := 4) (v := ?_) rfl (by kernel_rfl) (by kernel_rfl) (by kernel_rfl) (fun _ _ _ h => h) (Or.inl ⟨by rfl, ?_⟩) hS0 ?_
         rotate_left
         · intro W9 hSw; have d0 := bel_cell hSw g0; have d1 := bel_cell hSw g1; have d2 := bel_cell hSw g2; have d3 := bel_cell hSw g3; have d4 := bel_cell hSw g4; have d5 := bel_cell hSw g5; have d6 := bel_cell hSw g6; go_simp; first | done | with_reducible rfl
         skip
         refine wpAnyH_ready (rs := [5, 9, 10]) (by kernel_rfl) (by simp) ?_
         refine AllReadyH.cons rfl (fun K hK => ?_) ?_
         · go_simp
           refine (CA.out _ hS0).mono ?_
           rintro e w5 ⟨⟨N1, L1, ps1, gg1, gl1, base1, M1, sx1, rfl, hO1, hF1, hb1, hb2⟩, c5⟩
           have C5 : Hid _ := c5
           have HO1 : Hid (OwnM base1 w5.heap.size w5 t N1 L1 ps1 gg1 gl1) := hO1.top
           have HF1 : Hid (Free M1 w5 (x, sx1)) := hF1
           have HB1 : Hid (wr.heap.size ≤ base1 ∧ base1 ≤ M1) := ⟨by have := hb1; (try simp at this); omega, hb2⟩
           have HW5 : Hid (wr.heap.size + 0 ≤ w5.heap.size) := by have := c5.size; simp at this; show _ ≤ _; omega
           clear hO1 hF1 hb1 hb2
           try go_simp
           refine hK.out _ _ (bel_tr hS0 c5) (fun hS1 => ?_)
           clear c5
           clear hK K
           refine wpAnyH_take (i := 6) (v := ?_) rfl (by kernel_rfl) (by kernel_rfl) (by kernel_rfl) (fun _ _ _ h => h) (Or.inl ⟨by rfl, ?_⟩) hS1 ?_
           rotate_left
           · intro W9 hSw; go_simp; first | done | with_reducible rfl
           skip
           refine wpAnyH_take (i := 7) (v := ?_) rfl (by kernel_rfl) (by kernel_rfl) (by kernel_rfl) (fun _ _ _ h => h) (Or.inl ⟨by rfl, ?_⟩) hS1 ?_
           rotate_left
           · intro W9 hSw; go_simp; first | done | with_reducible rfl
           skip
           refine wpAnyH_take (i := 8) (v := ?_) rfl (by kernel_rfl) (by kernel_rfl) (by kernel_rfl) (fun _ _ _ h => h) (Or.inl ⟨by rfl, ?_⟩) hS1 ?_
           rotate_left
           · intro W9 hSw; go_simp; first | done | with_reducible rfl
           skip
           refine wpAnyH_ready (rs := [9, 10]) (by kernel_rfl) (by simp) ?_
           refine AllReadyH.cons rfl (fun K hK => ?_) ?_
           · go_simp
             refine hK.out _ _ (bel_tr hS1 (by first | exact bel_al _ _ | exact bel_dal _ _ | exact bel_daal _ _ _)) (fun hS2 => ?_)
             clear hK K
             refine wpAnyH_ready (rs := [10]) (by kernel_rfl) (by simp) ?_
             refine AllReadyH.cons rfl (fun K hK => ?_) ?_
             · go_simp
               refine hK.out _ _ (bel_tr hS2 (by first | exact bel_al _ _ | exact bel_dal _ _ | exact bel_daal _ _ _)) (fun hS3 => ?_)
               clear hK K
               have FS : Hid (SpC ((w5.alloc (.cells #[.int .i64 0, .int .i64 0, .int .i64 0, .int .i64 0, .slice none 0 0, .slice none 0 0] 27)).alloc (.cells #[.int .i64 0, .int .i64 0, .int .i64 0, .int .i64 0, .slice none 0 0, .string ⟨#[]⟩, .bool false, .int .i64 0, .slice none 0 0, .int .i64 0, .int .i64 0] 37)) (w5.heap.size) zeroS noS noS) := (SpC.new w5 27 zeroS noS noS).below (bel_al _ _)
               have FA : Hid (AnC ((w5.alloc (.cells #[.int .i64 0, .int .i64 0, .int .i64 0, .int .i64 0, .slice none 0 0, .slice none 0 0] 27)).alloc (.cells #[.int .i64 0, .int .i64 0, .int .i64 0, .int .i64 0, .slice none 0 0, .string ⟨#[]⟩, .bool false, .int .i64 0, .slice none 0 0, .int .i64 0, .int .i64 0] 37)) (w5.heap.size + 1) 0 zeroB noS zeroX 0) := an_sec w5
               have BL : Hid (Below w5.heap.size w5 ((w5.alloc (.cells #[.int .i64 0, .int .i64 0, .int .i64 0, .int .i64 0, .slice none 0 0, .slice none 0 0] 27)).alloc (.cells #[.int .i64 0, .int .i64 0, .int .i64 0, .int .i64 0, .slice none 0 0, .string ⟨#[]⟩, .bool false, .int .i64 0, .slice none 0 0, .int .i64 0, .int .i64 0] 37))) := bel_tr (bel_al _ _) (bel_al _ _)
               have H7 : Hid (Below wr.heap.size wr ((w5.alloc (.cells #[.int .i64 0, .int .i64 0, .int .i64 0, .int .i64 0, .slice none 0 0, .slice none 0 0] 27)).alloc (.cells #[.int .i64 0, .int .i64 0, .int .i64 0, .int .i64 0, .slice none 0 0, .string ⟨#[]⟩, .bool false, .int .i64 0, .slice none 0 0, .int .i64 0, .int .i64 0] 37))) := hS3
               generalize (w5.alloc (.cells #[.int .i64 0, .int .i64 0, .int .i64 0, .int .i64 0, .slice none 0 0, .slice none 0 0] 27)).alloc (.cells #[.int .i64 0, .int .i64 0, .int .i64 0, .int .i64 0, .slice none 0 0, .string ⟨#[]⟩, .bool false, .int .i64 0, .slice none 0 0, .int .i64 0, .int .i64 0] 37) = w7 at *
               have FA2 : Hid (AnC (put6 w7 (w5.heap.size) t N1 L1) (w5.heap.size + 1) 0 zeroB noS zeroX 0) := an_put6 FS.out FA.out (by have := HW5.out; omega)
               have BS6 : Hid (Below wr.heap.size wr (put6 w7 (w5.heap.size) t N1 L1)) := bel_put6 H7.out FS.out (by have := HW5.out; omega) _ _ _
               have BS11 : Hid (Below wr.heap.size wr (put11 (put6 w7 (w5.heap.size) t N1 L1) (w5.heap.size + 1) E bk noS (x, sx1) 0)) := bel_put11 BS6.out FA2.out (by have := HW5.out; omega) _ _ _ _ _
               have HL : Hid (Land wr (put11 (put6 w7 (w5.heap.size) t N1 L1) (w5.heap.size + 1) E bk noS (x, sx1) 0) (w5.heap.size) (w5.heap.size + 1) t N1 L1 E bk x sx1) := land_of HO1.out HF1.out HB1.out.2 (by have := HB1.out.1; omega) H7.out BL.out FS.out FA.out (by have := HW5.out; omega) (by have := HW5.out; have := HB1.out.1; omega) (by have := HW5.out; have := HB1.out.1; omega) (by have := HW5.out; omega) (by have := HW5.out; omega)
               refine wpAnyH_ready (rs := [11]) (by kernel_rfl) (by simp) ?_
               refine AllReadyH.cons rfl (fun K hK => ?_) ?_
               · skip
                 obtain ⟨z0, z1, z2, z3, z4, z5, zf⟩ := FS.out
                 unfold spV
                 go_simp
                 rw [← put6_def w7 (w5.heap.size) t N1 L1]
                 refine hK.out _ _ BS6.out (fun hS4 => ?_)
                 clear z0 z1 z2 z3 z4 z5 zf
                 generalize put6 w7 (w5.heap.size) t N1 L1 = w8 at *
                 clear hK K
                 refine wpAnyH_ready (rs := [12]) (by kernel_rfl) (by simp) ?_
                 refine AllReadyH.cons rfl (fun K hK => ?_) ?_
                 · skip
                   obtain ⟨z0, z1, z2, z3, z4, z5, z6, z7, z8, z9, z10, zf⟩ := FA2.out
                   unfold anV
                   go_simp
                   rw [← put11_def w8 (w5.heap.size + 1) E bk noS (x, sx1) 0]
                   refine hK.out _ _ BS11.out (fun hS5 => ?_)
                   clear z0 z1 z2 z3 z4 z5 z6 z7 z8 z9 z10 zf
                   generalize put11 w8 (w5.heap.size + 1) E bk noS (x, sx1) 0 = w9 at *
                   clear hK K
                   refine wpAnyH_done (by kernel_rfl) ?_ _
                   go_wp2_with fail
                   go_meet
                   case rel => exact ⟨w5.heap.size, w5.heap.size + 1, N1, L1, sx1, rfl, rfl, HL.out⟩
                 exact AllReadyH.nil
               exact AllReadyH.nil
             exact AllReadyH.nil
           refine AllReadyH.cons rfl (fun K hK => ?_) ?_
           · go_simp
             refine hK.out _ _ (bel_tr hS1 (by first | exact bel_al _ _ | exact bel_dal _ _ | exact bel_daal _ _ _)) (fun hS2 => ?_)
             clear hK K
             refine wpAnyH_ready (rs := [9]) (by kernel_rfl) (by simp) ?_
             refine AllReadyH.cons rfl (fun K hK => ?_) ?_
             · go_simp
               refine hK.out _ _ (bel_tr hS2 (by first | exact bel_al _ _ | exact bel_dal _ _ | exact bel_daal _ _ _)) (fun hS3 => ?_)
               clear hK K
               have FS : Hid (SpC ((w5.alloc (.cells #[.int .i64 0, .int .i64 0, .int .i64 0, .int .i64 0, .slice none 0 0, .string ⟨#[]⟩, .bool false, .int .i64 0, .slice none 0 0, .int .i64 0, .int .i64 0] 37)).alloc (.cells #[.int .i64 0, .int .i64 0, .int .i64 0, .int .i64 0, .slice none 0 0, .slice none 0 0] 27)) (w5.heap.size + 1) zeroS noS noS) := sp_sec w5
               have FA : Hid (AnC ((w5.alloc (.cells #[.int .i64 0, .int .i64 0, .int .i64 0, .int .i64 0, .slice none 0 0, .string ⟨#[]⟩, .bool false, .int .i64 0, .slice none 0 0, .int .i64 0, .int .i64 0] 37)).alloc (.cells #[.int .i64 0, .int .i64 0, .int .i64 0, .int .i64 0, .slice none 0 0, .slice none 0 0] 27)) (w5.heap.size) 0 zeroB noS zeroX 0) := (AnC.new w5 37).below (bel_al _ _)
               have BL : Hid (Below w5.heap.size w5 ((w5.alloc (.cells #[.int .i64 0, .int .i64 0, .int .i64 0, .int .i64 0, .slice none 0 0, .string ⟨#[]⟩, .bool false, .int .i64 0, .slice none 0 0, .int .i64 0, .int .i64 0] 37)).alloc (.cells #[.int .i64 0, .int .i64 0, .int .i64 0, .int .i64 0, .slice none 0 0, .slice none 0 0] 27))) := bel_tr (bel_al _ _) (bel_al _ _)
               have H7 : Hid (Below wr.heap.size wr ((w5.alloc (.cells #[.int .i64 0, .int .i64 0, .int .i64 0, .int .i64 0, .slice none 0 0, .string ⟨#[]⟩, .bool false, .int .i64 0, .slice none 0 0, .int .i64 0, .int .i64 0] 37)).alloc (.cells #[.int .i64 0, .int .i64 0, .int .i64 0, .int .i64 0, .slice none 0 0, .slice none 0 0] 27))) := hS3
               generalize (w5.alloc (.cells #[.int .i64 0, .int .i64 0, .int .i64 0, .int .i64 0, .slice none 0 0, .string ⟨#[]⟩, .bool false, .int .i64 0, .slice none 0 0, .int .i64 0, .int .i64 0] 37)).alloc (.cells #[.int .i64 0, .int .i64 0, .int .i64 0, .int .i64 0, .slice none 0 0, .slice none 0 0] 27) = w7 at *
               have FA2 : Hid (AnC (put6 w7 (w5.heap.size + 1) t N1 L1) (w5.heap.size) 0 zeroB noS zeroX 0) := an_put6 FS.out FA.out (by have := HW5.out; omega)
               have BS6 : Hid (Below wr.heap.size wr (put6 w7 (w5.heap.size + 1) t N1 L1)) := bel_put6 H7.out FS.out (by have := HW5.out; omega) _ _ _
               have BS11 : Hid (Below wr.heap.size wr (put11 (put6 w7 (w5.heap.size + 1) t N1 L1) (w5.heap.size) E bk noS (x, sx1) 0)) := bel_put11 BS6.out FA2.out (by have := HW5.out; omega) _ _ _ _ _
               have HL : Hid (Land wr (put11 (put6 w7 (w5.heap.size + 1) t N1 L1) (w5.heap.size) E bk noS (x, sx1) 0) (w5.heap.size + 1) (w5.heap.size) t N1 L1 E bk x sx1) := land_of HO1.out HF1.out HB1.out.2 (by have := HB1.out.1; omega) H7.out BL.out FS.out FA.out (by have := HW5.out; omega) (by have := HW5.out; have := HB1.out.1; omega) (by have := HW5.out; have := HB1.out.1; omega) (by have := HW5.out; omega) (by have := HW5.out; omega)
               refine wpAnyH_ready (rs := [11]) (by kernel_rfl) (by simp) ?_
               refine AllReadyH.cons rfl (fun K hK => ?_) ?_
               · skip
                 obtain ⟨z0, z1, z2, z3, z4, z5, zf⟩ := FS.out
                 unfold spV
                 go_simp
                 rw [← put6_def w7 (w5.heap.size + 1) t N1 L1]
                 refine hK.out _ _ BS6.out (fun hS4 => ?_)
                 clear z0 z1 z2 z3 z4 z5 zf
                 generalize put6 w7 (w5.heap.size + 1) t N1 L1 = w8 at *
                 clear hK K
                 refine wpAnyH_ready (rs := [12]) (by kernel_rfl) (by simp) ?_
                 refine AllReadyH.cons rfl (fun K hK => ?_) ?_
                 · skip
                   obtain ⟨z0, z1, z2, z3, z4, z5, z6, z7, z8, z9, z10, zf⟩ := FA2.out
                   unfold anV
                   go_simp
                   rw [← put11_def w8 (w5.heap.size) E bk noS (x, sx1) 0]
                   refine hK.out _ _ BS11.out (fun hS5 => ?_)
                   clear z0 z1 z2 z3 z4 z5 z6 z7 z8 z9 z10 zf
                   generalize put11 w8 (w5.heap.size) E bk noS (x, sx1) 0 = w9 at *
                   clear hK K
                   refine wpAnyH_done (by kernel_rfl) ?_ _
                   go_wp2_with fail
                   go_meet
                   case rel => exact ⟨w5.heap.size + 1, w5.heap.size, N1, L1, sx1, rfl, rfl, HL.out⟩
                 exact AllReadyH.nil
               exact AllReadyH.nil
             exact AllReadyH.nil
           exact AllReadyH.nil
         refine AllReadyH.cons rfl (fun K hK => ?_) ?_
         · go_simp
           refine hK.out _ _ (bel_tr hS0 (by first | exact bel_al _ _ | exact bel_dal _ _ | exact bel_daal _ _ _)) (fun hS1 => ?_)
           clear hK K
           refine wpAnyH_ready (rs := [5, 10]) (by kernel_rfl) (by simp) ?_
           refine AllReadyH.cons rfl (fun K hK => ?_) ?_
           · go_simp
             refine (CA.out _ hS1).mono ?_
             rintro e w5 ⟨⟨N1, L1, ps1, gg1, gl1, base1, M1, sx1, rfl, hO1, hF1, hb1, hb2⟩, c5⟩
             have C5 : Hid _ := c5
             have HO1 : Hid (OwnM base1 w5.heap.size w5 t N1 L1 ps1 gg1 gl1) := hO1.top
             have HF1 : Hid (Free M1 w5 (x, sx1)) := hF1
             have HB1 : Hid (wr.heap.size + 1 ≤ base1 ∧ base1 ≤ M1) := ⟨by have := hb1; (try simp at this); omega, hb2⟩
             have HW5 : Hid (wr.heap.size + 1 ≤ w5.heap.size) := by have := c5.size; simp at this; show _ ≤ _; omega
             clear hO1 hF1 hb1 hb2
             try go_simp
             refine hK.out _ _ (bel_tr hS1 c5) (fun hS2 => ?_)
             clear c5
             clear hK K
             refine wpAnyH_take (i := 6) (v := ?_) rfl (by kernel_rfl) (by kernel_rfl) (by kernel_rfl) (fun _ _ _ h => h) (Or.inl ⟨by rfl, ?_⟩) hS2 ?_
             rotate_left
             · intro W9 hSw; go_simp; first | done | with_reducible rfl
             skip
             refine wpAnyH_take (i := 7) (v := ?_) rfl (by kernel_rfl) (by kernel_rfl) (by kernel_rfl) (fun _ _ _ h => h) (Or.inl ⟨by rfl, ?_⟩) hS2 ?_
             rotate_left
             · intro W9 hSw; go_simp; first | done | with_reducible rfl
             skip
             refine wpAnyH_take (i := 8) (v := ?_) rfl (by kernel_rfl) (by kernel_rfl) (by kernel_rfl) (fun _ _ _ h => h) (Or.inl ⟨by rfl, ?_⟩) hS2 ?_
             rotate_left
             · intro W9 hSw; go_simp; first | done | with_reducible rfl
             skip
             refine wpAnyH_ready (rs := [10]) (by kernel_rfl) (by simp) ?_
             refine AllReadyH.cons rfl (fun K hK => ?_) ?_
             · go_simp
               refine hK.out _ _ (bel_tr hS2 (by first | exact bel_al _ _ | exact bel_dal _ _ | exact bel_daal _ _ _)) (fun hS3 => ?_)
               clear hK K
               have FS : Hid (SpC (w5.alloc (.cells #[.int .i64 0, .int .i64 0, .int .i64 0, .int .i64 0, .slice none 0 0, .string ⟨#[]⟩, .bool false, .int .i64 0, .slice none 0 0, .int .i64 0, .int .i64 0] 37)) (wr.heap.size) zeroS noS noS) := (sp_one C5.out).below (bel_al _ _)
               have FA : Hid (AnC (w5.alloc (.cells #[.int .i64 0, .int .i64 0, .int .i64 0, .int .i64 0, .slice none 0 0, .string ⟨#[]⟩, .bool false, .int .i64 0, .slice none 0 0, .int .i64 0, .int .i64 0] 37)) (w5.heap.size) 0 zeroB noS zeroX 0) := AnC.new w5 37
               have BL : Hid (Below w5.heap.size w5 (w5.alloc (.cells #[.int .i64 0, .int .i64 0, .int .i64 0, .int .i64 0, .slice none 0 0, .string ⟨#[]⟩, .bool false, .int .i64 0, .slice none 0 0, .int .i64 0, .int .i64 0] 37))) := bel_al _ _
               have H7 : Hid (Below wr.heap.size wr (w5.alloc (.cells #[.int .i64 0, .int .i64 0, .int .i64 0, .int .i64 0, .slice none 0 0, .string ⟨#[]⟩, .bool false, .int .i64 0, .slice none 0 0, .int .i64 0, .int .i64 0] 37))) := hS3
               generalize w5.alloc (.cells #[.int .i64 0, .int .i64 0, .int .i64 0, .int .i64 0, .slice none 0 0, .string ⟨#[]⟩, .bool false, .int .i64 0, .slice none 0 0, .int .i64 0, .int .i64 0] 37) = w7 at *
               have FA2 : Hid (AnC (put6 w7 (wr.heap.size) t N1 L1) (w5.heap.size) 0 zeroB noS zeroX 0) := an_put6 FS.out FA.out (by have := HW5.out; omega)
               have BS6 : Hid (Below wr.heap.size wr (put6 w7 (wr.heap.size) t N1 L1)) := bel_put6 H7.out FS.out (by have := HW5.out; omega) _ _ _
               have BS11 : Hid (Below wr.heap.size wr (put11 (put6 w7 (wr.heap.size) t N1 L1) (w5.heap.size) E bk noS (x, sx1) 0)) := bel_put11 BS6.out FA2.out (by have := HW5.out; omega) _ _ _ _ _
               have HL : Hid (Land wr (put11 (put6 w7 (wr.heap.size) t N1 L1) (w5.heap.size) E bk noS (x, sx1) 0) (wr.heap.size) (w5.heap.size) t N1 L1 E bk x sx1) := land_of HO1.out HF1.out HB1.out.2 (by have := HB1.out.1; omega) H7.out BL.out FS.out FA.out (by have := HW5.out; omega) (by have := HW5.out; have := HB1.out.1; omega) (by have := HW5.out; have := HB1.out.1; omega) (by have := HW5.out; omega) (by have := HW5.out; omega)
               refine wpAnyH_ready (rs := [11]) (by kernel_rfl) (by simp) ?_
               refine AllReadyH.cons rfl (fun K hK => ?_) ?_
               · skip
                 obtain ⟨z0, z1, z2, z3, z4, z5, zf⟩ := FS.out
                 unfold spV
                 go_simp
                 rw [← put6_def w7 (wr.heap.size) t N1 L1]
                 refine hK.out _ _ BS6.out (fun hS4 => ?_)
                 clear z0 z1 z2 z3 z4 z5 zf
                 generalize put6 w7 (wr.heap.size) t N1 L1 = w8 at *
                 clear hK K
                 refine wpAnyH_ready (rs := [12]) (by kernel_rfl) (by simp) ?_
                 refine AllReadyH.cons rfl (fun K hK => ?_) ?_
                 · skip
                   obtain ⟨z0, z1, z2, z3, z4, z5, z6, z7, z8, z9, z10, zf⟩ := FA2.out
                   unfold anV
                   go_simp
                   rw [← put11_def w8 (w5.heap.size) E bk noS (x, sx1) 0]
                   refine hK.out _ _ BS11.out (fun hS5 => ?_)
                   clear z0 z1 z2 z3 z4 z5 z6 z7 z8 z9 z10 zf
                   generalize put11 w8 (w5.heap.size) E bk noS (x, sx1) 0 = w9 at *
                   clear hK K
                   refine wpAnyH_done (by kernel_rfl) ?_ _
                   go_wp2_with fail
                   go_meet
                   case rel => exact ⟨wr.heap.size, w5.heap.size, N1, L1, sx1, rfl, rfl, HL.out⟩
                 exact AllReadyH.nil
               exact AllReadyH.nil
             exact AllReadyH.nil
           refine AllReadyH.cons rfl (fun K hK => ?_) ?_
           · go_simp
             refine hK.out _ _ (bel_tr hS1 (by first | exact bel_al _ _ | exact bel_dal _ _ | exact bel_daal _ _ _)) (fun hS2 => ?_)
             clear hK K
             refine wpAnyH_ready (rs := [5]) (by kernel_rfl) (by simp) ?_
             refine AllReadyH.cons rfl (fun K hK => ?_) ?_
             · go_simp
               refine (CA.out _ hS2).mono ?_
               rintro e w5 ⟨⟨N1, L1, ps1, gg1, gl1, base1, M1, sx1, rfl, hO1, hF1, hb1, hb2⟩, c5⟩
               have C5 : Hid _ := c5
               have HO1 : Hid (OwnM base1 w5.heap.size w5 t N1 L1 ps1 gg1 gl1) := hO1.top
               have HF1 : Hid (Free M1 w5 (x, sx1)) := hF1
               have HB1 : Hid (wr.heap.size + 1 + 1 ≤ base1 ∧ base1 ≤ M1) := ⟨by have := hb1; (try simp at this); omega, hb2⟩
               have HW5 : Hid (wr.heap.size + 2 ≤ w5.heap.size) := by have := c5.size; simp at this; show _ ≤ _; omega
               clear hO1 hF1 hb1 hb2
               try go_simp
               refine hK.out _ _ (bel_tr hS2 c5) (fun hS3 => ?_)
               clear c5
               clear hK K
               have FS : Hid (SpC (w5) (wr.heap.size) zeroS noS noS) := sp_first C5.out
               have FA : Hid (AnC (w5) (wr.heap.size + 1) 0 zeroB noS zeroX 0) := an_second C5.out
               have BL : Hid (Below w5.heap.size w5 (w5)) := Below.refl _ _
               have H7 : Hid (Below wr.heap.size wr (w5)) := hS3
               have FA2 : Hid (AnC (put6 w5 (wr.heap.size) t N1 L1) (wr.heap.size + 1) 0 zeroB noS zeroX 0) := an_put6 FS.out FA.out (by have := HW5.out; omega)
               have BS6 : Hid (Below wr.heap.size wr (put6 w5 (wr.heap.size) t N1 L1)) := bel_put6 H7.out FS.out (by have := HW5.out; omega) _ _ _
               have BS11 : Hid (Below wr.heap.size wr (put11 (put6 w5 (wr.heap.size) t N1 L1) (wr.heap.size + 1) E bk noS (x, sx1) 0)) := bel_put11 BS6.out FA2.out (by have := HW5.out; omega) _ _ _ _ _
               have HL : Hid (Land wr (put11 (put6 w5 (wr.heap.size) t N1 L1) (wr.heap.size + 1) E bk noS (x, sx1) 0) (wr.heap.size) (wr.heap.size + 1) t N1 L1 E bk x sx1) := land_of HO1.out HF1.out HB1.out.2 (by have := HB1.out.1; omega) H7.out BL.out FS.out FA.out (by have := HW5.out; omega) (by have := HW5.out; have := HB1.out.1; omega) (by have := HW5.out; have := HB1.out.1; omega) (by have := HW5.out; omega) (by have := HW5.out; omega)
               refine wpAnyH_take (i := 6) (v := ?_) rfl (by kernel_rfl) (by kernel_rfl) (by kernel_rfl) (fun _ _ _ h => h) (Or.inl ⟨by rfl, ?_⟩) hS3 ?_
               rotate_left
               · intro W9 hSw; go_simp; first | done | with_reducible rfl
               skip
               refine wpAnyH_take (i := 7) (v := ?_) rfl (by kernel_rfl) (by kernel_rfl) (by kernel_rfl) (fun _ _ _ h => h) (Or.inl ⟨by rfl, ?_⟩) hS3 ?_
               rotate_left
               · intro W9 hSw; go_simp; first | done | with_reducible rfl
               skip
               refine wpAnyH_take (i := 8) (v := ?_) rfl (by kernel_rfl) (by kernel_rfl) (by kernel_rfl) (fun _ _ _ h => h) (Or.inl ⟨by rfl, ?_⟩) hS3 ?_
               rotate_left
               · intro W9 hSw; go_simp; first | done | with_reducible rfl
               skip
               refine wpAnyH_ready (rs := [11]) (by kernel_rfl) (by simp) ?_
               refine AllReadyH.cons rfl (fun K hK => ?_) ?_
               · skip
                 obtain ⟨z0, z1, z2, z3, z4, z5, zf⟩ := FS.out
                 unfold spV
                 go_simp
                 rw [← put6_def w5 (wr.heap.size) t N1 L1]
                 refine hK.out _ _ BS6.out (fun hS4 => ?_)
                 clear z0 z1 z2 z3 z4 z5 zf
                 generalize put6 w5 (wr.heap.size) t N1 L1 = w8 at *
                 clear hK K
                 refine wpAnyH_ready (rs := [12]) (by kernel_rfl) (by simp) ?_
                 refine AllReadyH.cons rfl (fun K hK => ?_) ?_
                 · skip
                   obtain ⟨z0, z1, z2, z3, z4, z5, z6, z7, z8, z9, z10, zf⟩ := FA2.out
                   unfold anV
                   go_simp
                   rw [← put11_def w8 (wr.heap.size + 1) E bk noS (x, sx1) 0]
                   refine hK.out _ _ BS11.out (fun hS5 => ?_)
                   clear z0 z1 z2 z3 z4 z5 z6 z7 z8 z9 z10 zf
                   generalize put11 w8 (wr.heap.size + 1) E bk noS (x, sx1) 0 = w9 at *
                   clear hK K
                   refine wpAnyH_done (by kernel_rfl) ?_ _
                   go_wp2_with fail
                   go_meet
                   case rel => exact ⟨wr.heap.size, wr.heap.size + 1, N1, L1, sx1, rfl, rfl, HL.out⟩
                 exact AllReadyH.nil
               exact AllReadyH.nil
             exact AllReadyH.nil
           exact AllReadyH.nil
         refine AllReadyH.cons rfl (fun K hK => ?_) ?_
         · go_simp
           refine hK.out _ _ (bel_tr hS0 (by first | exact bel_al _ _ | exact bel_dal _ _ | exact bel_daal _ _ _)) (fun hS1 => ?_)
           clear hK K
           refine wpAnyH_ready (rs := [5, 9]) (by kernel_rfl) (by simp) ?_
           refine AllReadyH.cons rfl (fun K hK => ?_) ?_
           · go_simp
             refine (CA.out _ hS1).mono ?_
             rintro e w5 ⟨⟨N1, L1, ps1, gg1, gl1, base1, M1, sx1, rfl, hO1, hF1, hb1, hb2⟩, c5⟩
             have C5 : Hid _ := c5
             have HO1 : Hid (OwnM base1 w5.heap.size w5 t N1 L1 ps1 gg1 gl1) := hO1.top
             have HF1 : Hid (Free M1 w5 (x, sx1)) := hF1
             have HB1 : Hid (wr.heap.size + 1 ≤ base1 ∧ base1 ≤ M1) := ⟨by have := hb1; (try simp at this); omega, hb2⟩
             have HW5 : Hid (wr.heap.size + 1 ≤ w5.heap.size) := by have := c5.size; simp at this; show _ ≤ _; omega
             clear hO1 hF1 hb1 hb2
             try go_simp
             refine hK.out _ _ (bel_tr hS1 c5) (fun hS2 => ?_)
             clear c5
             clear hK K
             refine wpAnyH_take (i := 6) (v := ?_) rfl (by kernel_rfl) (by kernel_rfl) (by kernel_rfl) (fun _ _ _ h => h) (Or.inl ⟨by rfl, ?_⟩) hS2 ?_
             rotate_left
             · intro W9 hSw; go_simp; first | done | with_reducible rfl
             skip
             refine wpAnyH_take (i := 7) (v := ?_) rfl (by kernel_rfl) (by kernel_rfl) (by kernel_rfl) (fun _ _ _ h => h) (Or.inl ⟨by rfl, ?_⟩) hS2 ?_
             rotate_left
             · intro W9 hSw; go_simp; first | done | with_reducible rfl
             skip
             refine wpAnyH_take (i := 8) (v := ?_) rfl (by kernel_rfl) (by kernel_rfl) (by kernel_rfl) (fun _ _ _ h => h) (Or.inl ⟨by rfl, ?_⟩) hS2 ?_
             rotate_left
             · intro W9 hSw; go_simp; first | done | with_reducible rfl
             skip
             refine wpAnyH_ready (rs := [9]) (by kernel_rfl) (by simp) ?_
             refine AllReadyH.cons rfl (fun K hK => ?_) ?_
             · go_simp
               refine hK.out _ _ (bel_tr hS2 (by first | exact bel_al _ _ | exact bel_dal _ _ | exact bel_daal _ _ _)) (fun hS3 => ?_)
               clear hK K
               have FS : Hid (SpC (w5.alloc (.cells #[.int .i64 0, .int .i64 0, .int .i64 0, .int .i64 0, .slice none 0 0, .slice none 0 0] 27)) (w5.heap.size) zeroS noS noS) := SpC.new w5 27 zeroS noS noS
               have FA : Hid (AnC (w5.alloc (.cells #[.int .i64 0, .int .i64 0, .int .i64 0, .int .i64 0, .slice none 0 0, .slice none 0 0] 27)) (wr.heap.size) 0 zeroB noS zeroX 0) := (an_one C5.out).below (bel_al _ _)
               have BL : Hid (Below w5.heap.size w5 (w5.alloc (.cells #[.int .i64 0, .int .i64 0, .int .i64 0, .int .i64 0, .slice none 0 0, .slice none 0 0] 27))) := bel_al _ _
               have H7 : Hid (Below wr.heap.size wr (w5.alloc (.cells #[.int .i64 0, .int .i64 0, .int .i64 0, .int .i64 0, .slice none 0 0, .slice none 0 0] 27))) := hS3
               generalize w5.alloc (.cells #[.int .i64 0, .int .i64 0, .int .i64 0, .int .i64 0, .slice none 0 0, .slice none 0 0] 27) = w7 at *
               have FA2 : Hid (AnC (put6 w7 (w5.heap.size) t N1 L1) (wr.heap.size) 0 zeroB noS zeroX 0) := an_put6 FS.out FA.out (by have := HW5.out; omega)
               have BS6 : Hid (Below wr.heap.size wr (put6 w7 (w5.heap.size) t N1 L1)) := bel_put6 H7.out FS.out (by have := HW5.out; omega) _ _ _
               have BS11 : Hid (Below wr.heap.size wr (put11 (put6 w7 (w5.heap.size) t N1 L1) (wr.heap.size) E bk noS (x, sx1) 0)) := bel_put11 BS6.out FA2.out (by have := HW5.out; omega) _ _ _ _ _
               have HL : Hid (Land wr (put11 (put6 w7 (w5.heap.size) t N1 L1) (wr.heap.size) E bk noS (x, sx1) 0) (w5.heap.size) (wr.heap.size) t N1 L1 E bk x sx1) := land_of HO1.out HF1.out HB1.out.2 (by have := HB1.out.1; omega) H7.out BL.out FS.out FA.out (by have := HW5.out; omega) (by have := HW5.out; have := HB1.out.1; omega) (by have := HW5.out; have := HB1.out.1; omega) (by have := HW5.out; omega) (by have := HW5.out; omega)
               refine wpAnyH_ready (rs := [11]) (by kernel_rfl) (by simp) ?_
               refine AllReadyH.cons rfl (fun K hK => ?_) ?_
               · skip
                 obtain ⟨z0, z1, z2, z3, z4, z5, zf⟩ := FS.out
                 unfold spV
                 go_simp
                 rw [← put6_def w7 (w5.heap.size) t N1 L1]
                 refine hK.out _ _ BS6.out (fun hS4 => ?_)
                 clear z0 z1 z2 z3 z4 z5 zf
                 generalize put6 w7 (w5.heap.size) t N1 L1 = w8 at *
                 clear hK K
                 refine wpAnyH_ready (rs := [12]) (by kernel_rfl) (by simp) ?_
                 refine AllReadyH.cons rfl (fun K hK => ?_) ?_
                 · skip
                   obtain ⟨z0, z1, z2, z3, z4, z5, z6, z7, z8, z9, z10, zf⟩ := FA2.out
                   unfold anV
                   go_simp
                   rw [← put11_def w8 (wr.heap.size) E bk noS (x, sx1) 0]
                   refine hK.out _ _ BS11.out (fun hS5 => ?_)
                   clear z0 z1 z2 z3 z4 z5 z6 z7 z8 z9 z10 zf
                   generalize put11 w8 (wr.heap.size) E bk noS (x, sx1) 0 = w9 at *
                   clear hK K
                   refine wpAnyH_done (by kernel_rfl) ?_ _
                   go_wp2_with fail
                   go_meet
                   case rel => exact ⟨w5.heap.size, wr.heap.size, N1, L1, sx1, rfl, rfl, HL.out⟩
                 exact AllReadyH.nil
               exact AllReadyH.nil
             exact AllReadyH.nil
           refine AllReadyH.cons rfl (fun K hK => ?_) ?_
           · go_simp
             refine hK.out _ _ (bel_tr hS1 (by first | exact bel_al _ _ | exact bel_dal _ _ | exact bel_daal _ _ _)) (fun hS2 => ?_)
             clear hK K
             refine wpAnyH_ready (rs := [5]) (by kernel_rfl) (by simp) ?_
             refine AllReadyH.cons rfl (fun K hK => ?_) ?_
             · go_simp
               refine (CA.out _ hS2).mono ?_
               rintro e w5 ⟨⟨N1, L1, ps1, gg1, gl1, base1, M1, sx1, rfl, hO1, hF1, hb1, hb2⟩, c5⟩
               have C5 : Hid _ := c5
               have HO1 : Hid (OwnM base1 w5.heap.size w5 t N1 L1 ps1 gg1 gl1) := hO1.top
               have HF1 : Hid (Free M1 w5 (x, sx1)) := hF1
               have HB1 : Hid (wr.heap.size + 1 + 1 ≤ base1 ∧ base1 ≤ M1) := ⟨by have := hb1; (try simp at this); omega, hb2⟩
               have HW5 : Hid (wr.heap.size + 2 ≤ w5.heap.size) := by have := c5.size; simp at this; show _ ≤ _; omega
               clear hO1 hF1 hb1 hb2
               try go_simp
               refine hK.out _ _ (bel_tr hS2 c5) (fun hS3 => ?_)
               clear c5
               clear hK K
               have FS : Hid (SpC (w5) (wr.heap.size + 1) zeroS noS noS) := sp_second C5.out
               have FA : Hid (AnC (w5) (wr.heap.size) 0 zeroB noS zeroX 0) := an_first C5.out
               have BL : Hid (Below w5.heap.size w5 (w5)) := Below.refl _ _
               have H7 : Hid (Below wr.heap.size wr (w5)) := hS3
               have FA2 : Hid (AnC (put6 w5 (wr.heap.size + 1) t N1 L1) (wr.heap.size) 0 zeroB noS zeroX 0) := an_put6 FS.out FA.out (by have := HW5.out; omega)
               have BS6 : Hid (Below wr.heap.size wr (put6 w5 (wr.heap.size + 1) t N1 L1)) := bel_put6 H7.out FS.out (by have := HW5.out; omega) _ _ _
               have BS11 : Hid (Below wr.heap.size wr (put11 (put6 w5 (wr.heap.size + 1) t N1 L1) (wr.heap.size) E bk noS (x, sx1) 0)) := bel_put11 BS6.out FA2.out (by have := HW5.out; omega) _ _ _ _ _
               have HL : Hid (Land wr (put11 (put6 w5 (wr.heap.size + 1) t N1 L1) (wr.heap.size) E bk noS (x, sx1) 0) (wr.heap.size + 1) (wr.heap.size) t N1 L1 E bk x sx1) := land_of HO1.out HF1.out HB1.out.2 (by have := HB1.out.1; omega) H7.out BL.out FS.out FA.out (by have := HW5.out; omega) (by have := HW5.out; have := HB1.out.1; omega) (by have := HW5.out; have := HB1.out.1; omega) (by have := HW5.out; omega) (by have := HW5.out; omega)
               refine wpAnyH_take (i := 6) (v := ?_) rfl (by kernel_rfl) (by kernel_rfl) (by kernel_rfl) (fun _ _ _ h => h) (Or.inl ⟨by rfl, ?_⟩) hS3 ?_
               rotate_left
               · intro W9 hSw; go_simp; first | done | with_reducible rfl
               skip
               refine wpAnyH_take (i := 7) (v := ?_) rfl (by kernel_rfl) (by kernel_rfl) (by kernel_rfl) (fun _ _ _ h => h) (Or.inl ⟨by rfl, ?_⟩) hS3 ?_
               rotate_left
               · intro W9 hSw; go_simp; first | done | with_reducible rfl
               skip
               refine wpAnyH_take (i := 8) (v := ?_) rfl (by kernel_rfl) (by kernel_rfl) (by kernel_rfl) (fun _ _ _ h => h) (Or.inl ⟨by rfl, ?_⟩) hS3 ?_
               rotate_left
               · intro W9 hSw; go_simp; first | done | with_reducible rfl
               skip
               refine wpAnyH_ready (rs := [11]) (by kernel_rfl) (by simp) ?_
               refine AllReadyH.cons rfl (fun K hK => ?_) ?_
               · skip
                 obtain ⟨z0, z1, z2, z3, z4, z5, zf⟩ := FS.out
                 unfold spV
                 go_simp
                 rw [← put6_def w5 (wr.heap.size + 1) t N1 L1]
                 refine hK.out _ _ BS6.out (fun hS4 => ?_)
                 clear z0 z1 z2 z3 z4 z5 zf
                 generalize put6 w5 (wr.heap.size + 1) t N1 L1 = w8 at *
                 clear hK K
                 refine wpAnyH_ready (rs := [12]) (by kernel_rfl) (by simp) ?_
                 refine AllReadyH.cons rfl (fun K hK => ?_) ?_
                 · skip
                   obtain ⟨z0, z1, z2, z3, z4, z5, z6, z7, z8, z9, z10, zf⟩ := FA2.out
                   unfold anV
                   go_simp
                   rw [← put11_def w8 (wr.heap.size) E bk noS (x, sx1) 0]
                   refine hK.out _ _ BS11.out (fun hS5 => ?_)
                   clear z0 z1 z2 z3 z4 z5 z6 z7 z8 z9 z10 zf
                   generalize put11 w8 (wr.heap.size) E bk noS (x, sx1) 0 = w9 at *
                   clear hK K
                   refine wpAnyH_done (by kernel_rfl) ?_ _
                   go_wp2_with fail
                   go_meet
                   case rel => exact ⟨wr.heap.size + 1, wr.heap.size, N1, L1, sx1, rfl, rfl, HL.out⟩
                 exact AllReadyH.nil
               exact AllReadyH.nil
             exact AllReadyH.nil
           exact AllReadyH.nil
         exact AllReadyH.nil
       case rest =>
         obtain ⟨tq, aq, N1, L1, sx, rfl, rfl, hL⟩ := hcut
         have HL : Hid (Land wr wc tq aq t N1 L1 E bk x sx) := hL
         have e0 := hL.an.c0
         have HWc : Hid (Now w q wc s N L) := HW.out.below hL.bel
         clear hL CA p0 p1 p2 p3 p4 p5 pf
         by_cases h0 : E = 0
         · subst h0
           have hts : doS s ⟨ek, ep, et, ec, el, en, els⟩ = t := hTS
           have HRt : Hid (RtS t) := hts ▸ (app_keeps HE.out).2
           have HTt : Hid (t.tx ≤ ((k + 1 : Nat) : Int)) := by
             have h1 := HTX.out
             rw [← hts]
             show s.tx + 1 ≤ _
             omega
           obtain ⟨z0, z1, z2, z3, z4, z5, _⟩ := HL.out.box
           obtain ⟨x0, x1, x2, x3, x4, x5, xf⟩ := HWc.out.box
           have hput := HL.out.put HWc.out hql
           rw [put6_def] at hput
           have HPUT : Hid _ := hput
           clear hput g0 g1 g2 g3 g4 g5 g6 hTS hts
           go_wp2
           go_roundg (50 - (k + 1))
           case measure => omega
           case rel => exact ⟨k + 1, t, _, _, by omega, by omega, by go_num, HRt.out, HTt.out, HPUT.out⟩
         · have h0b : (E != 0) = true := by simpa using h0
           have h0c : (E == 0) = false := by simpa using h0
           go_wp2
           go_roundg (50 - (k + 1))
           case measure => omega
           case rel => exact ⟨k + 1, s, N, L, by omega, by omega, by go_num, HR.out, by have := HTX.out; omega, HWc.out⟩
     · by_cases hk0 : k < n0
       · have hg1 : decide ((k : Int) < (n0 : Int)) = true := decide_eq_true (by omega)
         have hg2 : decide ((k : Int) < 50) = false := decide_eq_false (by omega)
         go_wp2
         go_meet
         case rel => exact ⟨s, N, L, HR.out, by have := HTX.out; omega, HW.out⟩
       · have hg1 : decide ((k : Int) < (n0 : Int)) = false := decide_eq_false (by omega)
         go_wp2
         go_meet
         case rel => exact ⟨s, N, L, HR.out, by have := HTX.out; omega, HW.out⟩
  case rest =>
   obtain ⟨s, N, L, hR, htx, hNow⟩ := hcut
   have HR : Hid (RtS s) := hR
   have HW : Hid (Now w q wc s N L) := hNow
   have HTT : Hid (s.tx ≠ 300) := by show s.tx ≠ 300; omega
   have HNL : Hid (NL wc N.a N.n s.ns) := hNow.spIn.nl
   clear hR htx hNow H2 HU HN hx0
   have CF : Hid (∀ I, findI s.ns p = I → Calls Tryz.prog 21 #[.slice N.a N.n N.c, .string p] wc fun e w' => e = .returned (.int .i64 I) ∧ Below wc.heap.size wc w') := fun I hI => find_val HNL.out p I hI
   have hcase : (findI s.ns p = -1 ∧ at? s.ns p = none) ∨ ∃ i : Nat, findI s.ns p = (i : Int) ∧ at? s.ns p = some i := by
     cases h : at? s.ns p with
     | none => exact .inl ⟨by unfold findI; rw [h], rfl⟩
     | some i => exact .inr ⟨i, by unfold findI; rw [h], rfl⟩
   have q4 := HW.out.box.c4
   obtain ⟨N', hN'⟩ : ∃ z : Int, (if n < 0 then -(n + 1) else n) = z := ⟨_, rfl⟩
   have hz : 0 ≤ N' ∧ N' ≤ 9223372036854775807 := by rw [← hN']; split <;> omega
   rename World => wl
   go_upto_if 45 with fail
   go_cut [2] (fun v wx => v = .int .i64 N' ∧ wx = wl)
   case first =>
     by_cases hneg : n < 0
     · have hnb : decide (n < 0) = true := decide_eq_true hneg
       rw [if_pos hneg] at hN'
       go_wp2
       go_meet
       case rel => exact ⟨by rw [← hN'], rfl⟩
     · have hnb : decide (n < 0) = false := decide_eq_false hneg
       rw [if_neg hneg] at hN'
       go_wp2
       go_meet
       case rel => exact ⟨by rw [← hN'], rfl⟩
   case rest =>
     obtain ⟨rfl, hw⟩ := hcut
     subst hw
     clear hN' hn1 hn2
     obtain ⟨m, hm⟩ : ∃ m : Nat, N' % 70 = (m : Int) := ⟨(N' % 70).toNat, by omega⟩
     have hm70 : m < 70 := by omega
     obtain ⟨N'', rfl⟩ : ∃ z : Nat, N' = (z : Int) := ⟨N'.toNat, by omega⟩
     rcases hcase with ⟨hI, hno⟩ | ⟨i, hi, hsome⟩
     · -- there is nothing
       obtain ⟨E, hE⟩ := appE_any s (setQ p (m : Int))
       have h0 := setq_none hE hno
       have hEb : (E != 0) = true := by simpa using h0
       have CA : Hid (∀ W, Below wc.heap.size wc W → Calls Tryz.prog 11 #[spV s N L, edV (setQ p (m : Int)) none 0 0] W fun r w' => r = .returned (.tuple #[spV zeroS noS noS, anV E zeroB noS zeroX 0]) ∧ Below W.heap.size W w') := fun W hb => apply_refused (HW.out.spIn.below hb) _ none 0 0 (Edi.Nm.nil _) E hE h0
       unfold spV edV setQ at CA
       simp only at CA
       have hIm : decide ((-1 : Int) < 0) = true := by decide
       clear hE h0 hno
       go_wp2_with fail
       refine (CF.out _ hI).mono ?_
       rintro e w6 ⟨rfl, c6⟩
       have B6 : Hid (Below wc.heap.size wc w6) := c6
       obtain ⟨x0, x1, x2, x3, x4, x5, xf⟩ := HW.out.box.below c6
       clear c6
       go_wp2_with fail
       refine (CA.out _ B6.out).mono ?_
       rintro e w7 ⟨rfl, c7⟩
       have B7 : Hid (Below wc.heap.size wc w7) := bel_tr B6.out c7
       clear c7
       unfold anV noS zeroB zeroX zeroN noS
       simp only
       go_wp2
       go_ret
       exact ⟨rfl, bel_tr (bel_tr HW.out.bel B7.out) (bel_tr (bel_al _ _) (bel_al _ _))⟩
     · obtain ⟨x, hx⟩ := at_node HR.out hsome
       obtain ⟨nb, noff, ps, hm1, hm2, hNd⟩ := HNL.out.ex
       have hil := hx.lt
       have hip : i < ps.length := by rw [← hm1, List.length_map] at hil; exact hil
       have hin : i < N.n := by rw [← hm2]; exact hil
       have hxe : ps[i].1 = x := by
         have h1 : s.ns[i]? = some ps[i].1 := by rw [← hm1, List.getElem?_map, List.getElem?_eq_getElem hip]; rfl
         rw [hx.nd] at h1
         exact (Option.some.inj h1).symm
       have HC1 : Hid (∀ W, Below wc.heap.size wc W → W.cell? ⟨nb, noff + i * 5 + 1, none⟩ = some (.bool x.dir)) := fun W hb => by
         have := ((hNd.below hb).at hip).2.1
         rw [hxe] at this
         exact this
       have hna := hNd.addr (by omega)
       have hI : findI s.ns p = (i : Int) := hi
       have hIb : decide ((i : Int) < 0) = false := decide_eq_false (by omega)
       have hIc : decide ((N.n : Int) ≤ (i : Int)) = false := decide_eq_false (by omega)
       have hp120 : p.size ≤ 120 := path_small hx.path
       have HX : Hid (Is s.ns p i x) := hx
       clear hm1 hm2 hNd hxe hip hil hx hi
       obtain ⟨na, nn, nc⟩ := N
       simp only at hna hin hIc
       subst hna
       cases hd : x.dir with
       | false =>
         obtain ⟨E, hE⟩ := appE_any s (setQ p (m : Int))
         have h0 := setq_file hE hsome HX.out.nd hd
         have hEb : (E != 0) = true := by simpa using h0
         have CA : Hid (∀ W, Below wc.heap.size wc W → Calls Tryz.prog 11 #[spV s ⟨some ⟨nb, noff, none⟩, nn, nc⟩ L, edV (setQ p (m : Int)) none 0 0] W fun r w' => r = .returned (.tuple #[spV zeroS noS noS, anV E zeroB noS zeroX 0]) ∧ Below W.heap.size W w') := fun W hb => apply_refused (HW.out.spIn.below hb) _ none 0 0 (Edi.Nm.nil _) E hE h0
         unfold spV edV setQ at CA
         simp only at CA
         rw [hd] at HC1
         clear hE h0 hsome
         go_wp2_with fail
         refine (CF.out _ hI).mono ?_
         rintro e w6 ⟨rfl, c6⟩
         have B6 : Hid (Below wc.heap.size wc w6) := c6
         obtain ⟨x0, x1, x2, x3, x4, x5, xf⟩ := HW.out.box.below c6
         clear c6
         go_wp2_with fail
         refine (CA.out _ B6.out).mono ?_
         rintro e w7 ⟨rfl, c7⟩
         have B7 : Hid (Below wc.heap.size wc w7) := bel_tr B6.out c7
         have v4 := cell_al2 (HW.out.box.below B7.out).c4
         have v1 := cell_al2 (HC1.out _ B7.out)
         clear c7 x0 x1 x2 x3 x4 x5 xf
         unfold anV noS zeroB zeroX zeroN noS
         simp only at v4 ⊢
         go_wp2
         go_ret
         exact ⟨rfl, bel_tr (bel_tr HW.out.bel B7.out) (bel_tr (bel_al _ _) (bel_al _ _))⟩
       | true =>
         rw [hd] at HC1
         have CQ : Hid (∀ W, Below wc.heap.size wc W → Calls Tryz.prog 22 #[.slice (some ⟨nb, noff, none⟩) nn nc, .string p] W fun e w' => e = .returned (.int .i64 (cntL s.ns p : Int)) ∧ Below W.heap.size W w') := fun W hb => count_val (HNL.out.below hb) true ⟨fun _ => HR.out.tree, fun _ => rfl⟩ p HP.out _ rfl
         by_cases hc : (m : Int) < (cntL s.ns p : Int)
         · have hE := setq_full HR.out HTT.out (p := p) (n := (m : Int)) (by omega) (by omega) HX.out hd hc
           have CA : Hid (∀ W, Below wc.heap.size wc W → Calls Tryz.prog 11 #[spV s ⟨some ⟨nb, noff, none⟩, nn, nc⟩ L, edV (setQ p (m : Int)) none 0 0] W fun r w' => r = .returned (.tuple #[spV zeroS noS noS, anV 8 zeroB noS zeroX 0]) ∧ Below W.heap.size W w') := fun W hb => apply_refused (HW.out.spIn.below hb) _ none 0 0 (Edi.Nm.nil _) 8 hE (by decide)
           unfold spV edV setQ at CA
           simp only at CA
           generalize cntL s.ns p = c at *
           have hcb : decide ((m : Int) < (c : Int)) = true := decide_eq_true hc
           clear hE hsome
           go_wp2_with fail
           refine (CF.out _ hI).mono ?_
           rintro e w6 ⟨rfl, c6⟩
           have B6 : Hid (Below wc.heap.size wc w6) := c6
           obtain ⟨x0, x1, x2, x3, x4, x5, xf⟩ := HW.out.box.below c6
           clear c6
           go_wp2_with fail
           refine (CA.out _ B6.out).mono ?_
           rintro e w7 ⟨rfl, c7⟩
           have B7 : Hid (Below wc.heap.size wc w7) := bel_tr B6.out c7
           have v4 := cell_al2 (HW.out.box.below B7.out).c4
           have v1 := cell_al2 (HC1.out _ B7.out)
           clear c7 x0 x1 x2 x3 x4 x5 xf
           unfold anV noS zeroB zeroX zeroN noS
           simp only at v4 ⊢
           go_wp2_with fail
           refine (CQ.out _ (bel_tr B7.out (bel_tr (bel_al _ _) (bel_al _ _)))).mono ?_
           rintro e w8 ⟨rfl, c8⟩
           obtain ⟨k1, k2, k3, k4, k5, k6⟩ := two_boxes c8
           have a0 := k3 0 _ rfl
           have B8 : Hid (Below wc.heap.size wc w8) := bel_tr B7.out k5
           clear k1 k2 k3 k4 k5 k6 c8 v4 v1
           go_wp2
           go_ret
           exact ⟨rfl, bel_tr HW.out.bel B8.out⟩
         · have hE := setq_set HR.out HTT.out (p := p) (n := (m : Int)) (by omega) (by omega) HX.out hd (by omega)
           have hR1 := (app_keeps hE).2
           have HR1 : Hid (RtS (doS s (setQ p (m : Int)))) := hR1
           have hcn := setq_cnt (n := (m : Int)) HX.out
           have HCN : Hid (cntL (doS s (setQ p (m : Int))).ns p = cntL s.ns p) := hcn
           have CA : Hid (∀ W, Below wc.heap.size wc W → Calls Tryz.prog 11 #[spV s ⟨some ⟨nb, noff, none⟩, nn, nc⟩ L, edV (setQ p (m : Int)) none 0 0] W fun r w' => AppliedR W.heap.size (doS s (setQ p (m : Int))) zeroB zeroN r w' ∧ Below W.heap.size W w') := fun W hb => apply_yes (HW.out.spIn.below hb) _ none 0 0 (Edi.Nm.nil _) hE
           have HMR : Hid ((m : Int) = (cntL s.ns p : Int) → ∀ q : ByteArray, q.data.toList = (if p = rootP then [] else p.data.toList) ++ newL → ∀ E, AppE (doS s (setQ p (m : Int))) (mkD q) E → E ≠ 0) := fun hmc q hq E hE2 => by
             rw [hmc] at hE2
             exact setq_more HX.out hq hE2
           unfold edV setQ at CA
           have hTd : Hid (doS s (setQ p (m : Int)) = doS s (setQ p (m : Int))) := rfl
           simp only at CA
           change Hid (∀ W, Below wc.heap.size wc W → Calls Tryz.prog 11 #[spV s ⟨some ⟨nb, noff, none⟩, nn, nc⟩ L, .agg #[.int .i64 7, .string p, .string ⟨#[]⟩, .int .i64 0, .int .i64 0, .int .i64 (m : Int), .slice none 0 0]] W fun r w' => AppliedR W.heap.size (doS s (setQ p (m : Int))) zeroB zeroN r w' ∧ Below W.heap.size W w') at CA
           generalize doS s (setQ p (m : Int)) = t at *
           rw [show spV s ⟨some ⟨nb, noff, none⟩, nn, nc⟩ L = .agg #[.int .i64 s.tx, .int .i64 s.nb, .int .i64 s.ng, .int .i64 s.now, .slice (some ⟨nb, noff, none⟩) nn nc, .slice L.a L.n L.c] from rfl] at CA
           generalize cntL s.ns p = c at *
           have hcb : decide ((m : Int) < (c : Int)) = false := decide_eq_false hc
           clear hE hR1 hcn hsome hTd
           go_wp2_with fail
           refine (CF.out _ hI).mono ?_
           rintro e w6 ⟨rfl, c6⟩
           have B6 : Hid (Below wc.heap.size wc w6) := c6
           obtain ⟨x0, x1, x2, x3, x4, x5, xf⟩ := HW.out.box.below c6
           clear c6
           go_wp2_with fail
           refine (CA.out _ B6.out).mono ?_
           rintro e w7 ⟨⟨N7, L7, ps7, g7, gl7, b7, M7, sx7, rfl, hO7, _, _, _⟩, c7⟩
           have B7 : Hid (Below wc.heap.size wc w7) := bel_tr B6.out c7
           have H7 : Hid (SpIn w7 t N7 L7) := hO7.spIn
           have v4 := cell_al2 (HW.out.box.below B7.out).c4
           have v1 := cell_al2 (HC1.out _ B7.out)
           clear c7 hO7 x0 x1 x2 x3 x4 x5 xf
           unfold spV anV noS zeroB zeroN
           simp only at v4 ⊢
           go_wp2_with fail
           refine (CQ.out _ (bel_tr B7.out (bel_tr (bel_al _ _) (bel_al _ _)))).mono ?_
           rintro e w8 ⟨rfl, c8⟩
           obtain ⟨k1, k2, k3, k4, k5, k6⟩ := two_boxes c8
           have a0 := k3 0 _ rfl
           have yt0 := k1 0 _ rfl
           have yt1 := k1 1 _ rfl
           have yt2 := k1 2 _ rfl
           have yt3 := k1 3 _ rfl
           have yt4 := k1 4 _ rfl
           have yt5 := k1 5 _ rfl
           have B8 : Hid (Below wc.heap.size wc w8) := bel_tr B7.out k5
           have H8 : Hid (SpIn w8 t N7 L7) := H7.out.below k5
           have T4 : Hid (w8.cell? ⟨w7.heap.size, 4, none⟩ = some (.slice N7.a N7.n N7.c)) := yt4
           clear k1 k2 k3 k4 k5 k6 c8 v4 v1 H7
           have CQ2 : Hid (∀ W, Below w8.heap.size w8 W → Calls Tryz.prog 22 #[.slice N7.a N7.n N7.c, .string p] W fun e w' => e = .returned (.int .i64 (c : Int)) ∧ Below W.heap.size W w') := fun W hb => count_val (H8.out.nl.below hb) true ⟨fun _ => HR1.out.tree, fun _ => rfl⟩ p HP.out _ HCN.out
           have hbig : p.size + 4 ≤ maxLen := by unfold maxLen; omega
           have main : ∀ Q : ByteArray, Q.data.toList = (if p = rootP then [] else p.data.toList) ++ newL → ∃ E, AppE t (mkD Q) E ∧ ((m : Int) = (c : Int) → (E != 0) = true) := fun Q hQ => by
             obtain ⟨E, hE⟩ := appE_any t (mkD Q)
             exact ⟨E, hE, fun h => by simpa using HMR.out h Q hQ E hE⟩
           have hmc : ((m : Int) = (c : Int) ∧ decide ((c : Int) < (m : Int)) = false ∧ decide (c < m) = false) ∨ (decide ((c : Int) < (m : Int)) = true ∧ decide (c < m) = true) := by
             by_cases h : (c : Int) < (m : Int)
             · exact .inr ⟨decide_eq_true h, decide_eq_true (by omega)⟩
             · exact .inl ⟨by omega, decide_eq_false h, decide_eq_false (by omega)⟩
           by_cases hroot : p = rootP
           · obtain ⟨E, hE, hne⟩ := main ⟨#[47, 110, 101, 119]⟩ (by rw [if_pos hroot]; rfl)
             have hrb : (p.toList == [47]) = true := by rw [hroot, Lib.toList_data]; rfl
             clear hroot
             rcases hmc with ⟨hm1, hm2, hm3⟩ | ⟨hm2, hm3⟩
             · have hEb : (E != 0) = true := hne hm1
               clear hm1
               have CA2 : Hid (∀ W, Below w8.heap.size w8 W → Calls Tryz.prog 11 #[spV t N7 L7, edV (mkD ⟨#[47, 110, 101, 119]⟩) none 0 0] W fun r w' => ApR W.heap.size (appS t (mkD ⟨#[47, 110, 101, 119]⟩) E) E (appB t (mkD ⟨#[47, 110, 101, 119]⟩) E) (appN t (mkD ⟨#[47, 110, 101, 119]⟩) E) r w' ∧ Below W.heap.size W w') := fun W hb => apply_any (H8.out.below hb) _ none 0 0 (Edi.Nm.nil _) E hE
               generalize appS t (mkD ⟨#[47, 110, 101, 119]⟩) E = t2 at *
               generalize appB t (mkD ⟨#[47, 110, 101, 119]⟩) E = b2 at *
               generalize appN t (mkD ⟨#[47, 110, 101, 119]⟩) E = x2 at *
               unfold spV edV mkD at CA2
               simp only at CA2
               clear hE hne main HMR
               go_wp2_with fail
               refine (CA2.out _ (Below.refl _ _)).mono ?_
               rintro e w9 ⟨⟨N9, L9, ps9, g9, gl9, b9, M9, sx9, rfl, _, _, _, _⟩, c9⟩
               have B9 : Hid (Below w8.heap.size w8 w9) := c9
               have r4 := cell_al2 (bel_cell c9 T4.out)
               clear c9 yt0 yt1 yt2 yt3 yt4 yt5 a0
               unfold spV anV noS
               simp only
               go_wp2_with (go_at_call 22; refine (CQ2.out _ (bel_tr B9.out (bel_tr (bel_al _ _) (bel_al _ _)))).mono ?_; rintro e w10 ⟨rfl, c10⟩; have B10 : Hid (Below w9.heap.size w9 w10) := bel_tr (bel_tr (bel_al _ _) (bel_al _ _)) c10; clear c10)
               go_ret
               exact ⟨rfl, bel_tr HW.out.bel (bel_tr B8.out (bel_tr B9.out B10.out))⟩
             · have CA2 : Hid (∀ W, Below w8.heap.size w8 W → Calls Tryz.prog 11 #[spV t N7 L7, edV (mkD ⟨#[47, 110, 101, 119]⟩) none 0 0] W fun r w' => ApR W.heap.size (appS t (mkD ⟨#[47, 110, 101, 119]⟩) E) E (appB t (mkD ⟨#[47, 110, 101, 119]⟩) E) (appN t (mkD ⟨#[47, 110, 101, 119]⟩) E) r w' ∧ Below W.heap.size W w') := fun W hb => apply_any (H8.out.below hb) _ none 0 0 (Edi.Nm.nil _) E hE
               generalize appS t (mkD ⟨#[47, 110, 101, 119]⟩) E = t2 at *
               generalize appB t (mkD ⟨#[47, 110, 101, 119]⟩) E = b2 at *
               generalize appN t (mkD ⟨#[47, 110, 101, 119]⟩) E = x2 at *
               unfold spV edV mkD at CA2
               simp only at CA2
               clear hE hne main HMR
               go_wp2_with fail
               refine (CA2.out _ (Below.refl _ _)).mono ?_
               rintro e w9 ⟨⟨N9, L9, ps9, g9, gl9, b9, M9, sx9, rfl, _, _, _, _⟩, c9⟩
               have B9 : Hid (Below w8.heap.size w8 w9) := c9
               have r4 := cell_al2 (bel_cell c9 T4.out)
               clear c9 yt0 yt1 yt2 yt3 yt4 yt5 a0
               unfold spV anV noS
               simp only
               go_wp2_with (go_at_call 22; refine (CQ2.out _ (bel_tr B9.out (bel_tr (bel_al _ _) (bel_al _ _)))).mono ?_; rintro e w10 ⟨rfl, c10⟩; have B10 : Hid (Below w9.heap.size w9 w10) := bel_tr (bel_tr (bel_al _ _) (bel_al _ _)) c10; clear c10)
               go_ret
               exact ⟨rfl, bel_tr HW.out.bel (bel_tr B8.out (bel_tr B9.out B10.out))⟩
           · obtain ⟨E, hE, hne⟩ := main (p ++ ⟨#[47, 110, 101, 119]⟩) (by rw [if_neg hroot]; exact ba_app p ⟨#[47, 110, 101, 119]⟩)
             have hrb : (p.toList == [47]) = false := by
               rw [Bool.eq_false_iff]
               intro h
               rw [beq_iff_eq, Lib.toList_data] at h
               exact hroot (ba_inj h)
             clear hroot
             rcases hmc with ⟨hm1, hm2, hm3⟩ | ⟨hm2, hm3⟩
             · have hEb : (E != 0) = true := hne hm1
               clear hm1
               have CA2 : Hid (∀ W, Below w8.heap.size w8 W → Calls Tryz.prog 11 #[spV t N7 L7, edV (mkD (p ++ ⟨#[47, 110, 101, 119]⟩)) none 0 0] W fun r w' => ApR W.heap.size (appS t (mkD (p ++ ⟨#[47, 110, 101, 119]⟩)) E) E (appB t (mkD (p ++ ⟨#[47, 110, 101, 119]⟩)) E) (appN t (mkD (p ++ ⟨#[47, 110, 101, 119]⟩)) E) r w' ∧ Below W.heap.size W w') := fun W hb => apply_any (H8.out.below hb) _ none 0 0 (Edi.Nm.nil _) E hE
               generalize appS t (mkD (p ++ ⟨#[47, 110, 101, 119]⟩)) E = t2 at *
               generalize appB t (mkD (p ++ ⟨#[47, 110, 101, 119]⟩)) E = b2 at *
               generalize appN t (mkD (p ++ ⟨#[47, 110, 101, 119]⟩)) E = x2 at *
               unfold spV edV mkD at CA2
               simp only at CA2
               clear hE hne main HMR
               go_wp2_with fail
               refine (CA2.out _ (Below.refl _ _)).mono ?_
               rintro e w9 ⟨⟨N9, L9, ps9, g9, gl9, b9, M9, sx9, rfl, _, _, _, _⟩, c9⟩
               have B9 : Hid (Below w8.heap.size w8 w9) := c9
               have r4 := cell_al2 (bel_cell c9 T4.out)
               clear c9 yt0 yt1 yt2 yt3 yt4 yt5 a0
               unfold spV anV noS
               simp only
               go_wp2_with (go_at_call 22; refine (CQ2.out _ (bel_tr B9.out (bel_tr (bel_al _ _) (bel_al _ _)))).mono ?_; rintro e w10 ⟨rfl, c10⟩; have B10 : Hid (Below w9.heap.size w9 w10) := bel_tr (bel_tr (bel_al _ _) (bel_al _ _)) c10; clear c10)
               go_ret
               exact ⟨rfl, bel_tr HW.out.bel (bel_tr B8.out (bel_tr B9.out B10.out))⟩
             · have CA2 : Hid (∀ W, Below w8.heap.size w8 W → Calls Tryz.prog 11 #[spV t N7 L7, edV (mkD (p ++ ⟨#[47, 110, 101, 119]⟩)) none 0 0] W fun r w' => ApR W.heap.size (appS t (mkD (p ++ ⟨#[47, 110, 101, 119]⟩)) E) E (appB t (mkD (p ++ ⟨#[47, 110, 101, 119]⟩)) E) (appN t (mkD (p ++ ⟨#[47, 110, 101, 119]⟩)) E) r w' ∧ Below W.heap.size W w') := fun W hb => apply_any (H8.out.below hb) _ none 0 0 (Edi.Nm.nil _) E hE
               generalize appS t (mkD (p ++ ⟨#[47, 110, 101, 119]⟩)) E = t2 at *
               generalize appB t (mkD (p ++ ⟨#[47, 110, 101, 119]⟩)) E = b2 at *
               generalize appN t (mkD (p ++ ⟨#[47, 110, 101, 119]⟩)) E = x2 at *
               unfold spV edV mkD at CA2
               simp only at CA2
               clear hE hne main HMR
               go_wp2_with fail
               refine (CA2.out _ (Below.refl _ _)).mono ?_
               rintro e w9 ⟨⟨N9, L9, ps9, g9, gl9, b9, M9, sx9, rfl, _, _, _, _⟩, c9⟩
               have B9 : Hid (Below w8.heap.size w8 w9) := c9
               have r4 := cell_al2 (bel_cell c9 T4.out)
               clear c9 yt0 yt1 yt2 yt3 yt4 yt5 a0
               unfold spV anV noS
               simp only
               go_wp2_with (go_at_call 22; refine (CQ2.out _ (bel_tr B9.out (bel_tr (bel_al _ _) (bel_al _ _)))).mono ?_; rintro e w10 ⟨rfl, c10⟩; have B10 : Hid (Below w9.heap.size w9 w10) := bel_tr (bel_tr (bel_al _ _) (bel_al _ _)) c10; clear c10)
               go_ret
               exact ⟨rfl, bel_tr HW.out.bel (bel_tr B8.out (bel_tr B9.out B10.out))⟩

theorem walk (a0 : Option Addr) (b0 off0 cap0 : Nat) (ss0 : List ER) (a1 : ByteArray) (a2 : Int) (W : World) (h0 : Eds W a0 b0 off0 ss0 ∧ ss0.length ≤ cap0) (h1 : a1.size ≤ maxLen) (h2 : (Lit.int .i64 a2).wf = true) :
    Calls Tryz.prog 7 #[.slice a0 ss0.length cap0, .string a1, .int .i64 a2] W fun e w' => e = .returned (.bool true) ∧ Below W.heap.size W w' :=
  walk_b a0 b0 off0 cap0 _ ss0 a1 a2 W rfl h0.1 h1 (bounds_i64 h2)

set_option maxRecDepth 100000 in
theorem lifted (os : Os) (started : os.Started) (H : Type) (enc : TypeId × Value → H) :
    ReturnsInHanded {} Tryz.checked os 7 .any (Rows.spaceQuotasSpec.pre6 enc Tryz.prog Tryz.f7 Rows.spaceQuotasRow.domain false) (Rows.spaceQuotasSpec.post enc Tryz.prog Tryz.f7 false true false false) := by
  refine returnsInHanded_of_change (C := Tryz.checked) own started (by kernel_rfl) Tryz.func7
    (ChangeSpec.witness6 (enc := enc) (C := Tryz.checked) false ⟨#[], #[.slice none 0 0, .string ByteArray.empty, .int .i64 0], []⟩ 8 (by kernel_rfl) (by kernel_rfl) (by kernel_rfl) (by kernel_rfl)) ?_
  intro W base args ds gs before hval0 hW hcnd _
  have hval : ∀ (j : Nat) t v, Tryz.f7.params[j]? = some t → args[j]? = some v → Value.okWide Tryz.prog W .any base t v := hval0
  have hW' := hW
  obtain ⟨p, q, hA0, hV, rfl, hfz, hnd⟩ := hW
  have hA : DataW.TrodAll enc Tryz.prog W 0 (fun _ => true) true Tryz.f7.params.toList args.toList ds p := hA0
  rw [Tryz.params7] at hA hval
  obtain ⟨v0, vs0, d0, ds0, p0, q0, hargs, rfl, rfl, h0, r0⟩ := trodAll_cons hA
  obtain ⟨v1, vs1, d1, ds1, p1, q1, rfl, rfl, rfl, h1, r1⟩ := trodAll_cons r0
  obtain ⟨v2, vs2, d2, ds2, p2, q2, rfl, rfl, rfl, h2, r2⟩ := trodAll_cons r1
  obtain ⟨rfl, rfl, rfl⟩ := trodAll_nil r2
  obtain rfl : args = #[v0, v1, v2] := by cases args; simp_all
  obtain ⟨rfl, rfl⟩ := trodVars_none hV
  obtain ⟨a0, len0, cap0, rfl⟩ := okWide_slice Tryz.underlying22 (hval 0 22 v0 rfl rfl)
  have k0 := h0
  have lt0 : ∀ x ∈ p0, x.block < W.heap.size := by obtain ⟨m, hm⟩ := k0; exact DataW.trod_lt m _ _ _ hm
  obtain ⟨b0, off0, ss0, rfl, w0⟩ := Spa.open_edits h0
  obtain ⟨a1, rfl, rfl, rfl, w1⟩ := open_string Tryz.underlying9 (hval 1 9 v1 rfl rfl) h1
  obtain ⟨a2, rfl, rfl, rfl, w2⟩ := open_int Tryz.underlying3 (hval 2 3 v2 rfl rfl) h2
  clear hA0 hval0
  refine (walk a0 b0 off0 cap0 ss0 a1 a2 W w0 w1 w2).mono fun e W' ⟨he, bel⟩ => ?_
  subst he
  exact ⟨_, rfl, _, _, _, [], _, [], hW', trodAll_mk1 (shut_bool Tryz.underlying4 _), (trodAll_cons_mk (Below.trod laidOut (by kernel_rfl) (of_decide_eq_true (by kernel_rfl)) k0 bel lt0) (trodAll_cons_mk (shut_string Tryz.underlying9 w1) (trodAll_cons_mk (shut_int Tryz.underlying3 w2) trodAll_mk0))), rfl, bel.frame _, fun h => by cases h⟩

theorem over : Rows.spaceQuotasRow.holds Tryz.pinned (OpenSpec.ofChange Rows.spaceQuotasSpec) :=
  OpenClaim.holds_of_wide 7 Tryz.f7 rfl rfl rfl rfl rfl rfl rfl ⟨rfl, rfl, rfl, rfl, rfl⟩ rfl rfl rfl rfl rfl (by kernel_rfl) Tryz.func7 (by kernel_rfl)
    (of_decide_eq_true (by kernel_rfl)) (by unfold Func.isWrapper; first | (rw [if_pos (by decide +kernel)]; kernel_rfl) | (rw [if_neg (by decide +kernel)]; exact ⟨rfl, rfl⟩))
    (fun os started H enc _ => lifted os started H enc)
end Go.Proofs.YtaafombnpngblaaGreat.spaceQuotas

namespace Go.Proofs.YtaafombnpngblaaGreat
/-- The statement. -/
theorem spaceQuotas_holds : Rows.SpaceQuotasSaid := spaceQuotas.over
#print axioms spaceQuotas_holds
end Go.Proofs.YtaafombnpngblaaGreat

