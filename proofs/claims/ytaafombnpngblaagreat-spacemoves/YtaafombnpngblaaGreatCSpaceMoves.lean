/- SpaceMoves: for every list of edits and every two strings: the statement's function returns true; nothing that was there is changed. No condition. -/
import Derived.Test.YtaafombnpngblaaGreatB30
import Derived.Test.YtaafombnpngblaaGreatB34
import Derived.Test.YtaafombnpngblaaGreatCSpaceL4
import Derived.Test.YtaafombnpngblaaGreatCSpaceLm
import Derived.Deep.RegionHeld3
import Derived.Test.YtaafombnpngblaaGreatB31
import Derived.Deep.DeepCutAuto
import Derived.Deep.LoopGhost
import Derived.Deep.CutBlock
import Derived.Deep.RegionHeld
import Derived.BigQuiet
namespace Go.Proofs.YtaafombnpngblaaGreat.spaceMoves
open Go.ChangeShapes Go.WideShapes Go.ChangeAt Go.RowKit Go.Proofs.YtaafombnpngblaaGreat Go.Proofs.YtaafombnpngblaaGreat.Spa
open Go.ChangeMaps (open_string shut_string)
open Go.Proofs.YtaafombnpngblaaGreat.Edi (Ed Nm EdAt edV bel_drew)
set_option linter.unusedVariables false

theorem own : ownKnob Tryz.prog.godebug = none := by kernel_rfl
theorem fieldA (E b1 b2 b3 : Int) (na : Option Addr) (nl nc : Nat) (p : ByteArray) (dd : Bool) (qq : Int) (sa : Option Addr) (sl sc : Nat) (ww n : Int) (w : World) : (Instr.field 37 (.agg #[.int .i64 E, .int .i64 b1, .int .i64 b2, .int .i64 b3, .slice na nl nc, .string p, .bool dd, .int .i64 qq, .slice sa sl sc, .int .i64 ww, .int .i64 n]) 0).run Tryz.prog w = .ok (.int .i64 E) w := by kernel_rfl

set_option maxRecDepth 100000 in
set_option maxHeartbeats 8000000 in
theorem walk_b (a0 : Option Addr) (b0 off0 cap0 n0 : Nat) (us : List ER) (f tp : ByteArray) (w : World) (hn0 : us.length = n0) (hU : Eds w a0 b0 off0 us) (hf : f.size ≤ maxLen) (hto : tp.size ≤ maxLen) :
    Calls Tryz.prog 6 #[.slice a0 n0 cap0, .string f, .string tp] w fun e w' => e = .returned (.bool true) ∧ Below w.heap.size w w' := by
  have hx0 : n0 ≤ 9223372036854775807 := by have := hU.len; unfold maxLen at this; omega
  have HN : Hid _ := hn0
  have HU : Hid (Eds w a0 b0 off0 us) := hU
  clear hn0 hU
  have HF : Hid (f.size ≤ maxLen) := hf
  have HTo : Hid (tp.size ≤ maxLen) := hto
  clear hf hto
  have hst := run_store_str
  have hst2 : ∀ (w : World) (a : Addr) (x : Option Addr) (n c : Nat) (m : Mode), (store a (.slice x n c) m).run Tryz.prog w = stored Tryz.prog w a (.slice x n c) m := fun w a x n c m => run_store_any w a _ m rfl
  go_enter Tryz.func6, Tryz.ntmps6
  go_wp2_with fail
  refine (examples_val _).mono ?_
  rintro e w1 ⟨rfl, b1⟩
  have B1 : Hid (Below w.heap.size w w1) := b1
  clear b1
  go_wp2_with fail
  refine (new_val _).mono ?_
  rintro e w2 ⟨⟨N0, L0, p0, g0, gl0, bb0, M0, _, rfl, hO0⟩, c2⟩
  have H2 : Hid _ := Now.start (bel_tr B1.out c2) hO0 27
  clear c2 hO0
  unfold spV
  go_upto_block 0 with fail
  generalize hW : w2.alloc (.cells #[.int .i64 newS.tx, .int .i64 newS.nb, .int .i64 newS.ng, .int .i64 newS.now, .slice N0.a N0.n N0.c, .slice L0.a L0.n L0.c] 27) = w3 at *
  clear hW
  generalize w2.heap.size = q at *
  go_cut [] (fun wx => ∃ (s : Sp) (N L : RS), RtS s ∧ s.tx ≤ 40 ∧ Now w q wx s N L)
  case first =>
   go_wp2_with fail
   go_loopg [9] 40 (fun g v wr => ∃ (k : Nat) (s : Sp) (N L : RS), k ≤ n0 ∧ k + g = 40 ∧ v = .int .i64 k ∧ RtS s ∧ s.tx ≤ k ∧ Now w q wr s N L)
   case atStart => exact ⟨0, newS, N0, L0, by omega, by omega, rfl, new_right, by decide, H2.out⟩
   case round =>
     obtain ⟨k, s, N, L, hk1, hk2, rfl, hR, htx, hNow⟩ := hrel
     have HR : Hid (RtS s) := hR
     have HTX : Hid (s.tx ≤ k) := htx
     have HW : Hid (Now w q wr s N L) := hNow
     clear hR hNow H2 htx
     by_cases hlt : k < n0 ∧ k < 40
     · obtain ⟨hlt0, hlt1⟩ := hlt
       have hk0 : k < us.length := by rw [HN.out]; exact hlt0
       obtain rfl := HU.out.addr (by omega)
       have hEd := (HU.out.below HW.out.bel).at hk0
       have HOK : Hid (EdOk wr us[k]) := (HU.out.below HW.out.bel).ok _ (List.getElem_mem hk0)
       generalize us[k] = u at *
       obtain ⟨⟨ek, ep, et, ec, el, en, els⟩, ⟨ea, em, eq⟩⟩ := u
       obtain ⟨E, hE⟩ := appE_any s ⟨ek, ep, et, ec, el, en, els⟩
       have CA : Hid (∀ W, Below wr.heap.size wr W → Calls Tryz.prog 11 #[spV s N L, edV ⟨ek, ep, et, ec, el, en, els⟩ ea em eq] W fun r w' => ApR W.heap.size (appS s ⟨ek, ep, et, ec, el, en, els⟩ E) E (appB s ⟨ek, ep, et, ec, el, en, els⟩ E) (appN s ⟨ek, ep, et, ec, el, en, els⟩ E) r w' ∧ Below W.heap.size W w') := fun W hb => apply_any (HW.out.spIn.below hb) _ ea em eq (HOK.out.nm.below hb) E hE
       have HE : Hid (AppE s ⟨ek, ep, et, ec, el, en, els⟩ E) := hE
       obtain ⟨g0, g1, g2, g3, g4, g5, g6⟩ := hEd
       obtain ⟨p0, p1, p2, p3, p4, p5, pf⟩ := HW.out.box
       unfold spV edV at CA
       simp only at CA g0 g1 g2 g3 g4 g5 g6
       have hql : q < wr.heap.size := HW.out.lt
       clear hE hk0
       generalize hXN : appN s ⟨ek, ep, et, ec, el, en, els⟩ E = x at *
       generalize hBK : appB s ⟨ek, ep, et, ec, el, en, els⟩ E = bk at *
       generalize hTS : appS s ⟨ek, ep, et, ec, el, en, els⟩ E = t at *
       go_upto_region 6 with fail
       go_cut [10, 11] (fun v6 v7 wx => ∃ tq aq N1 L1 sx, v6 = .pointer (some ⟨tq, 0, none⟩) ∧ v7 = .pointer (some ⟨aq, 0, none⟩) ∧ Land wr wx tq aq t N1 L1 E bk x sx)
       case first =>
         refine wp_region_held_drew (S := fun W => Below wr.heap.size wr W) (by kernel_rfl) (bel_drew wr) (fun hS0 => ?_)
         refine wpAnyH_take (i := 0) (v := ?_) rfl (by kernel_rfl) (by kernel_rfl) (by kernel_rfl) (fun _ _ _ h => h) (Or.inl ⟨by rfl, ?_⟩) hS0 ?_
         rotate_left
         · intro W9 hSw; have d0 := bel_cell hSw p0; have d1 := bel_cell hSw p1; have d2 := bel_cell hSw p2; have d3 := bel_cell hSw p3; have d4 := bel_cell hSw p4; have d5 := bel_cell hSw p5; go_simp; first | done | with_reducible rfl
         skip
         refine wpAnyH_take (i := 1) (v := ?_) rfl (by kernel_rfl) (by kernel_rfl) (by kernel_rfl) (fun _ _ _ h => h) (Or.inl ⟨by rfl, ?_⟩) hS0 ?_
         rotate_left
         · intro W9 hSw; go_simp; first | done | with_reducible rfl
         skip
         refine wpAnyH_take (i := 2) (v := ?_) rfl (by kernel_rfl) (by kernel_rfl) (by kernel_rfl) (fun _ _ _ h => h) (Or.inl ⟨by rfl, ?_⟩) hS0 ?_
         rotate_left
         · intro W9 hSw; go_simp; first | done | with_reducible rfl
         skip
         refine wpAnyH_take (i := 3) (v := ?_) rfl (by kernel_rfl) (by kernel_rfl) (by kernel_rfl) (fun _ _ _ h => h) (Or.inl ⟨by rfl, ?_⟩) hS0 ?_
         rotate_left
         · intro W9 hSw; go_simp; first | done | with_reducible rfl
         skip
         refine wpAnyH_take (i := 4) (v := ?_) rfl (by kernel_rfl) (by kernel_rfl) (by kernel_rfl) (fun _ _ _ h => h) (Or.inl ⟨by rfl, ?_⟩) hS0 ?_
         rotate_left
         · intro W9 hSw; have d0 := bel_cell hSw g0; have d1 := bel_cell hSw g1; have d2 := bel_cell hSw g2; have d3 := bel_cell hSw g3; have d4 := bel_cell hSw g4; have d5 := bel_cell hSw g5; have d6 := bel_cell hSw g6; go_simp; first | done | with_reducible rfl
         skip
         refine wpAnyH_ready (rs := [5, 9, 10]) (by kernel_rfl) (by simp) ?_
         refine AllReadyH.cons rfl (fun K hK => ?_) ?_
         · go_simp
           refine (CA.out _ hS0).mono ?_
           rintro e w5 ⟨⟨N1, L1, ps1, gg1, gl1, base1, M1, sx1, rfl, hO1, hF1, hb1, hb2⟩, c5⟩
           have C5 : Hid _ := c5
           have HO1 : Hid (OwnM base1 w5.heap.size w5 t N1 L1 ps1 gg1 gl1) := hO1.top
           have HF1 : Hid (Free M1 w5 (x, sx1)) := hF1
           have HB1 : Hid (wr.heap.size ≤ base1 ∧ base1 ≤ M1) := ⟨by have := hb1; (try simp at this); omega, hb2⟩
           have HW5 : Hid (wr.heap.size + 0 ≤ w5.heap.size) := by have := c5.size; simp at this; show _ ≤ _; omega
           clear hO1 hF1 hb1 hb2
           try go_simp
           refine hK.out _ _ (bel_tr hS0 c5) (fun hS1 => ?_)
           clear c5
           clear hK K
           refine wpAnyH_take (i := 6) (v := ?_) rfl (by kernel_rfl) (by kernel_rfl) (by kernel_rfl) (fun _ _ _ h => h) (Or.inl ⟨by rfl, ?_⟩) hS1 ?_
           rotate_left
           · intro W9 hSw; go_simp; first | done | with_reducible rfl
           skip
           refine wpAnyH_take (i := 7) (v := ?_) rfl (by kernel_rfl) (by kernel_rfl) (by kernel_rfl) (fun _ _ _ h => h) (Or.inl ⟨by rfl, ?_⟩) hS1 ?_
           rotate_left
           · intro W9 hSw; go_simp; first | done | with_reducible rfl
           skip
           refine wpAnyH_take (i := 8) (v := ?_) rfl (by kernel_rfl) (by kernel_rfl) (by kernel_rfl) (fun _ _ _ h => h) (Or.inl ⟨by rfl, ?_⟩) hS1 ?_
           rotate_left
           · intro W9 hSw; go_simp; first | done | with_reducible rfl
           skip
           refine wpAnyH_ready (rs := [9, 10]) (by kernel_rfl) (by simp) ?_
           refine AllReadyH.cons rfl (fun K hK => ?_) ?_
           · go_simp
             refine hK.out _ _ (bel_tr hS1 (by first | exact bel_al _ _ | exact bel_dal _ _ | exact bel_daal _ _ _)) (fun hS2 => ?_)
             clear hK K
             refine wpAnyH_ready (rs := [10]) (by kernel_rfl) (by simp) ?_
             refine AllReadyH.cons rfl (fun K hK => ?_) ?_
             · go_simp
               refine hK.out _ _ (bel_tr hS2 (by first | exact bel_al _ _ | exact bel_dal _ _ | exact bel_daal _ _ _)) (fun hS3 => ?_)
               clear hK K
               have FS : Hid (SpC ((w5.alloc (.cells #[.int .i64 0, .int .i64 0, .int .i64 0, .int .i64 0, .slice none 0 0, .slice none 0 0] 27)).alloc (.cells #[.int .i64 0, .int .i64 0, .int .i64 0, .int .i64 0, .slice none 0 0, .string ⟨#[]⟩, .bool false, .int .i64 0, .slice none 0 0, .int .i64 0, .int .i64 0] 37)) (w5.heap.size) zeroS noS noS) := (SpC.new w5 27 zeroS noS noS).below (bel_al _ _)
               have FA : Hid (AnC ((w5.alloc (.cells #[.int .i64 0, .int .i64 0, .int .i64 0, .int .i64 0, .slice none 0 0, .slice none 0 0] 27)).alloc (.cells #[.int .i64 0, .int .i64 0, .int .i64 0, .int .i64 0, .slice none 0 0, .string ⟨#[]⟩, .bool false, .int .i64 0, .slice none 0 0, .int .i64 0, .int .i64 0] 37)) (w5.heap.size + 1) 0 zeroB noS zeroX 0) := an_sec w5
               have BL : Hid (Below w5.heap.size w5 ((w5.alloc (.cells #[.int .i64 0, .int .i64 0, .int .i64 0, .int .i64 0, .slice none 0 0, .slice none 0 0] 27)).alloc (.cells #[.int .i64 0, .int .i64 0, .int .i64 0, .int .i64 0, .slice none 0 0, .string ⟨#[]⟩, .bool false, .int .i64 0, .slice none 0 0, .int .i64 0, .int .i64 0] 37))) := bel_tr (bel_al _ _) (bel_al _ _)
               have H7 : Hid (Below wr.heap.size wr ((w5.alloc (.cells #[.int .i64 0, .int .i64 0, .int .i64 0, .int .i64 0, .slice none 0 0, .slice none 0 0] 27)).alloc (.cells #[.int .i64 0, .int .i64 0, .int .i64 0, .int .i64 0, .slice none 0 0, .string ⟨#[]⟩, .bool false, .int .i64 0, .slice none 0 0, .int .i64 0, .int .i64 0] 37))) := hS3
               generalize (w5.alloc (.cells #[.int .i64 0, .int .i64 0, .int .i64 0, .int .i64 0, .slice none 0 0, .slice none 0 0] 27)).alloc (.cells #[.int .i64 0, .int .i64 0, .int .i64 0, .int .i64 0, .slice none 0 0, .string ⟨#[]⟩, .bool false, .int .i64 0, .slice none 0 0, .int .i64 0, .int .i64 0] 37) = w7 at *
               have FA2 : Hid (AnC (put6 w7 (w5.heap.size) t N1 L1) (w5.heap.size + 1) 0 zeroB noS zeroX 0) := an_put6 FS.out FA.out (by have := HW5.out; omega)
               have BS6 : Hid (Below wr.heap.size wr (put6 w7 (w5.heap.size) t N1 L1)) := bel_put6 H7.out FS.out (by have := HW5.out; omega) _ _ _
               have BS11 : Hid (Below wr.heap.size wr (put11 (put6 w7 (w5.heap.size) t N1 L1) (w5.heap.size + 1) E bk noS (x, sx1) 0)) := bel_put11 BS6.out FA2.out (by have := HW5.out; omega) _ _ _ _ _
               have HL : Hid (Land wr (put11 (put6 w7 (w5.heap.size) t N1 L1) (w5.heap.size + 1) E bk noS (x, sx1) 0) (w5.heap.size) (w5.heap.size + 1) t N1 L1 E bk x sx1) := land_of HO1.out HF1.out HB1.out.2 (by have := HB1.out.1; omega) H7.out BL.out FS.out FA.out (by have := HW5.out; omega) (by have := HW5.out; have := HB1.out.1; omega) (by have := HW5.out; have := HB1.out.1; omega) (by have := HW5.out; omega) (by have := HW5.out; omega)
               refine wpAnyH_ready (rs := [11]) (by kernel_rfl) (by simp) ?_
               refine AllReadyH.cons rfl (fun K hK => ?_) ?_
               · skip
                 obtain ⟨z0, z1, z2, z3, z4, z5, zf⟩ := FS.out
                 unfold spV
                 go_simp
                 rw [← put6_def w7 (w5.heap.size) t N1 L1]
                 refine hK.out _ _ BS6.out (fun hS4 => ?_)
                 clear z0 z1 z2 z3 z4 z5 zf
                 generalize put6 w7 (w5.heap.size) t N1 L1 = w8 at *
                 clear hK K
                 refine wpAnyH_ready (rs := [12]) (by kernel_rfl) (by simp) ?_
                 refine AllReadyH.cons rfl (fun K hK => ?_) ?_
                 · skip
                   obtain ⟨z0, z1, z2, z3, z4, z5, z6, z7, z8, z9, z10, zf⟩ := FA2.out
                   unfold anV
                   go_simp
                   rw [← put11_def w8 (w5.heap.size + 1) E bk noS (x, sx1) 0]
                   refine hK.out _ _ BS11.out (fun hS5 => ?_)
                   clear z0 z1 z2 z3 z4 z5 z6 z7 z8 z9 z10 zf
                   generalize put11 w8 (w5.heap.size + 1) E bk noS (x, sx1) 0 = w9 at *
                   clear hK K
                   refine wpAnyH_done (by kernel_rfl) ?_ _
                   go_wp2_with fail
                   go_meet
                   case rel => exact ⟨w5.heap.size, w5.heap.size + 1, N1, L1, sx1, rfl, rfl, HL.out⟩
                 exact AllReadyH.nil
               exact AllReadyH.nil
             exact AllReadyH.nil
           refine AllReadyH.cons rfl (fun K hK => ?_) ?_
           · go_simp
             refine hK.out _ _ (bel_tr hS1 (by first | exact bel_al _ _ | exact bel_dal _ _ | exact bel_daal _ _ _)) (fun hS2 => ?_)
             clear hK K
             refine wpAnyH_ready (rs := [9]) (by kernel_rfl) (by simp) ?_
             refine AllReadyH.cons rfl (fun K hK => ?_) ?_
             · go_simp
               refine hK.out _ _ (bel_tr hS2 (by first | exact bel_al _ _ | exact bel_dal _ _ | exact bel_daal _ _ _)) (fun hS3 => ?_)
               clear hK K
               have FS : Hid (SpC ((w5.alloc (.cells #[.int .i64 0, .int .i64 0, .int .i64 0, .int .i64 0, .slice none 0 0, .string ⟨#[]⟩, .bool false, .int .i64 0, .slice none 0 0, .int .i64 0, .int .i64 0] 37)).alloc (.cells #[.int .i64 0, .int .i64 0, .int .i64 0, .int .i64 0, .slice none 0 0, .slice none 0 0] 27)) (w5.heap.size + 1) zeroS noS noS) := sp_sec w5
               have FA : Hid (AnC ((w5.alloc (.cells #[.int .i64 0, .int .i64 0, .int .i64 0, .int .i64 0, .slice none 0 0, .string ⟨#[]⟩, .bool false, .int .i64 0, .slice none 0 0, .int .i64 0, .int .i64 0] 37)).alloc (.cells #[.int .i64 0, .int .i64 0, .int .i64 0, .int .i64 0, .slice none 0 0, .slice none 0 0] 27)) (w5.heap.size) 0 zeroB noS zeroX 0) := (AnC.new w5 37).below (bel_al _ _)
               have BL : Hid (Below w5.heap.size w5 ((w5.alloc (.cells #[.int .i64 0, .int .i64 0, .int .i64 0, .int .i64 0, .slice none 0 0, .string ⟨#[]⟩, .bool false, .int .i64 0, .slice none 0 0, .int .i64 0, .int .i64 0] 37)).alloc (.cells #[.int .i64 0, .int .i64 0, .int .i64 0, .int .i64 0, .slice none 0 0, .slice none 0 0] 27))) := bel_tr (bel_al _ _) (bel_al _ _)
               have H7 : Hid (Below wr.heap.size wr ((w5.alloc (.cells #[.int .i64 0, .int .i64 0, .int .i64 0, .int .i64 0, .slice none 0 0, .string ⟨#[]⟩, .bool false, .int .i64 0, .slice none 0 0, .int .i64 0, .int .i64 0] 37)).alloc (.cells #[.int .i64 0, .int .i64 0, .int .i64 0, .int .i64 0, .slice none 0 0, .slice none 0 0] 27))) := hS3
               generalize (w5.alloc (.cells #[.int .i64 0, .int .i64 0, .int .i64 0, .int .i64 0, .slice none 0 0, .string ⟨#[]⟩, .bool false, .int .i64 0, .slice none 0 0, .int .i64 0, .int .i64 0] 37)).alloc (.cells #[.int .i64 0, .int .i64 0, .int .i64 0, .int .i64 0, .slice none 0 0, .slice none 0 0] 27) = w7 at *
               have FA2 : Hid (AnC (put6 w7 (w5.heap.size + 1) t N1 L1) (w5.heap.size) 0 zeroB noS zeroX 0) := an_put6 FS.out FA.out (by have := HW5.out; omega)
               have BS6 : Hid (Below wr.heap.size wr (put6 w7 (w5.heap.size + 1) t N1 L1)) := bel_put6 H7.out FS.out (by have := HW5.out; omega) _ _ _
               have BS11 : Hid (Below wr.heap.size wr (put11 (put6 w7 (w5.heap.size + 1) t N1 L1) (w5.heap.size) E bk noS (x, sx1) 0)) := bel_put11 BS6.out FA2.out (by have := HW5.out; omega) _ _ _ _ _
               have HL : Hid (Land wr (put11 (put6 w7 (w5.heap.size + 1) t N1 L1) (w5.heap.size) E bk noS (x, sx1) 0) (w5.heap.size + 1) (w5.heap.size) t N1 L1 E bk x sx1) := land_of HO1.out HF1.out HB1.out.2 (by have := HB1.out.1; omega) H7.out BL.out FS.out FA.out (by have := HW5.out; omega) (by have := HW5.out; have := HB1.out.1; omega) (by have := HW5.out; have := HB1.out.1; omega) (by have := HW5.out; omega) (by have := HW5.out; omega)
               refine wpAnyH_ready (rs := [11]) (by kernel_rfl) (by simp) ?_
               refine AllReadyH.cons rfl (fun K hK => ?_) ?_
               · skip
                 obtain ⟨z0, z1, z2, z3, z4, z5, zf⟩ := FS.out
                 unfold spV
                 go_simp
                 rw [← put6_def w7 (w5.heap.size + 1) t N1 L1]
                 refine hK.out _ _ BS6.out (fun hS4 => ?_)
                 clear z0 z1 z2 z3 z4 z5 zf
                 generalize put6 w7 (w5.heap.size + 1) t N1 L1 = w8 at *
                 clear hK K
                 refine wpAnyH_ready (rs := [12]) (by kernel_rfl) (by simp) ?_
                 refine AllReadyH.cons rfl (fun K hK => ?_) ?_
                 · skip
                   obtain ⟨z0, z1, z2, z3, z4, z5, z6, z7, z8, z9, z10, zf⟩ := FA2.out
                   unfold anV
                   go_simp
                   rw [← put11_def w8 (w5.heap.size) E bk noS (x, sx1) 0]
                   refine hK.out _ _ BS11.out (fun hS5 => ?_)
                   clear z0 z1 z2 z3 z4 z5 z6 z7 z8 z9 z10 zf
                   generalize put11 w8 (w5.heap.size) E bk noS (x, sx1) 0 = w9 at *
                   clear hK K
                   refine wpAnyH_done (by kernel_rfl) ?_ _
                   go_wp2_with fail
                   go_meet
                   case rel => exact ⟨w5.heap.size + 1, w5.heap.size, N1, L1, sx1, rfl, rfl, HL.out⟩
                 exact AllReadyH.nil
               exact AllReadyH.nil
             exact AllReadyH.nil
           exact AllReadyH.nil
         refine AllReadyH.cons rfl (fun K hK => ?_) ?_
         · go_simp
           refine hK.out _ _ (bel_tr hS0 (by first | exact bel_al _ _ | exact bel_dal _ _ | exact bel_daal _ _ _)) (fun hS1 => ?_)
           clear hK K
           refine wpAnyH_ready (rs := [5, 10]) (by kernel_rfl) (by simp) ?_
           refine AllReadyH.cons rfl (fun K hK => ?_) ?_
           · go_simp
             refine (CA.out _ hS1).mono ?_
             rintro e w5 ⟨⟨N1, L1, ps1, gg1, gl1, base1, M1, sx1, rfl, hO1, hF1, hb1, hb2⟩, c5⟩
             have C5 : Hid _ := c5
             have HO1 : Hid (OwnM base1 w5.heap.size w5 t N1 L1 ps1 gg1 gl1) := hO1.top
             have HF1 : Hid (Free M1 w5 (x, sx1)) := hF1
             have HB1 : Hid (wr.heap.size + 1 ≤ base1 ∧ base1 ≤ M1) := ⟨by have := hb1; (try simp at this); omega, hb2⟩
             have HW5 : Hid (wr.heap.size + 1 ≤ w5.heap.size) := by have := c5.size; simp at this; show _ ≤ _; omega
             clear hO1 hF1 hb1 hb2
             try go_simp
             refine hK.out _ _ (bel_tr hS1 c5) (fun hS2 => ?_)
             clear c5
             clear hK K
             refine wpAnyH_take (i := 6) (v := ?_) rfl (by kernel_rfl) (by kernel_rfl) (by kernel_rfl) (fun _ _ _ h => h) (Or.inl ⟨by rfl, ?_⟩) hS2 ?_
             rotate_left
             · intro W9 hSw; go_simp; first | done | with_reducible rfl
             skip
             refine wpAnyH_take (i := 7) (v := ?_) rfl (by kernel_rfl) (by kernel_rfl) (by kernel_rfl) (fun _ _ _ h => h) (Or.inl ⟨by rfl, ?_⟩) hS2 ?_
             rotate_left
             · intro W9 hSw; go_simp; first | done | with_reducible rfl
             skip
             refine wpAnyH_take (i := 8) (v := ?_) rfl (by kernel_rfl) (by kernel_rfl) (by kernel_rfl) (fun _ _ _ h => h) (Or.inl ⟨by rfl, ?_⟩) hS2 ?_
             rotate_left
             · intro W9 hSw; go_simp; first | done | with_reducible rfl
             skip
             refine wpAnyH_ready (rs := [10]) (by kernel_rfl) (by simp) ?_
             refine AllReadyH.cons rfl (fun K hK => ?_) ?_
             · go_simp
               refine hK.out _ _ (bel_tr hS2 (by first | exact bel_al _ _ | exact bel_dal _ _ | exact bel_daal _ _ _)) (fun hS3 => ?_)
               clear hK K
               have FS : Hid (SpC (w5.alloc (.cells #[.int .i64 0, .int .i64 0, .int .i64 0, .int .i64 0, .slice none 0 0, .string ⟨#[]⟩, .bool false, .int .i64 0, .slice none 0 0, .int .i64 0, .int .i64 0] 37)) (wr.heap.size) zeroS noS noS) := (sp_one C5.out).below (bel_al _ _)
               have FA : Hid (AnC (w5.alloc (.cells #[.int .i64 0, .int .i64 0, .int .i64 0, .int .i64 0, .slice none 0 0, .string ⟨#[]⟩, .bool false, .int .i64 0, .slice none 0 0, .int .i64 0, .int .i64 0] 37)) (w5.heap.size) 0 zeroB noS zeroX 0) := AnC.new w5 37
               have BL : Hid (Below w5.heap.size w5 (w5.alloc (.cells #[.int .i64 0, .int .i64 0, .int .i64 0, .int .i64 0, .slice none 0 0, .string ⟨#[]⟩, .bool false, .int .i64 0, .slice none 0 0, .int .i64 0, .int .i64 0] 37))) := bel_al _ _
               have H7 : Hid (Below wr.heap.size wr (w5.alloc (.cells #[.int .i64 0, .int .i64 0, .int .i64 0, .int .i64 0, .slice none 0 0, .string ⟨#[]⟩, .bool false, .int .i64 0, .slice none 0 0, .int .i64 0, .int .i64 0] 37))) := hS3
               generalize w5.alloc (.cells #[.int .i64 0, .int .i64 0, .int .i64 0, .int .i64 0, .slice none 0 0, .string ⟨#[]⟩, .bool false, .int .i64 0, .slice none 0 0, .int .i64 0, .int .i64 0] 37) = w7 at *
               have FA2 : Hid (AnC (put6 w7 (wr.heap.size) t N1 L1) (w5.heap.size) 0 zeroB noS zeroX 0) := an_put6 FS.out FA.out (by have := HW5.out; omega)
               have BS6 : Hid (Below wr.heap.size wr (put6 w7 (wr.heap.size) t N1 L1)) := bel_put6 H7.out FS.out (by have := HW5.out; omega) _ _ _
               have BS11 : Hid (Below wr.heap.size wr (put11 (put6 w7 (wr.heap.size) t N1 L1) (w5.heap.size) E bk noS (x, sx1) 0)) := bel_put11 BS6.out FA2.out (by have := HW5.out; omega) _ _ _ _ _
               have HL : Hid (Land wr (put11 (put6 w7 (wr.heap.size) t N1 L1) (w5.heap.size) E bk noS (x, sx1) 0) (wr.heap.size) (w5.heap.size) t N1 L1 E bk x sx1) := land_of HO1.out HF1.out HB1.out.2 (by have := HB1.out.1; omega) H7.out BL.out FS.out FA.out (by have := HW5.out; omega) (by have := HW5.out; have := HB1.out.1; omega) (by have := HW5.out; have := HB1.out.1; omega) (by have := HW5.out; omega) (by have := HW5.out; omega)
               refine wpAnyH_ready (rs := [11]) (by kernel_rfl) (by simp) ?_
               refine AllReadyH.cons rfl (fun K hK => ?_) ?_
               · skip
                 obtain ⟨z0, z1, z2, z3, z4, z5, zf⟩ := FS.out
                 unfold spV
                 go_simp
                 rw [← put6_def w7 (wr.heap.size) t N1 L1]
                 refine hK.out _ _ BS6.out (fun hS4 => ?_)
                 clear z0 z1 z2 z3 z4 z5 zf
                 generalize put6 w7 (wr.heap.size) t N1 L1 = w8 at *
                 clear hK K
                 refine wpAnyH_ready (rs := [12]) (by kernel_rfl) (by simp) ?_
                 refine AllReadyH.cons rfl (fun K hK => ?_) ?_
                 · skip
                   obtain ⟨z0, z1, z2, z3, z4, z5, z6, z7, z8, z9, z10, zf⟩ := FA2.out
                   unfold anV
                   go_simp
                   rw [← put11_def w8 (w5.heap.size) E bk noS (x, sx1) 0]
                   refine hK.out _ _ BS11.out (fun hS5 => ?_)
                   clear z0 z1 z2 z3 z4 z5 z6 z7 z8 z9 z10 zf
                   generalize put11 w8 (w5.heap.size) E bk noS (x, sx1) 0 = w9 at *
                   clear hK K
                   refine wpAnyH_done (by kernel_rfl) ?_ _
                   go_wp2_with fail
                   go_meet
                   case rel => exact ⟨wr.heap.size, w5.heap.size, N1, L1, sx1, rfl, rfl, HL.out⟩
                 exact AllReadyH.nil
               exact AllReadyH.nil
             exact AllReadyH.nil
           refine AllReadyH.cons rfl (fun K hK => ?_) ?_
           · go_simp
             refine hK.out _ _ (bel_tr hS1 (by first | exact bel_al _ _ | exact bel_dal _ _ | exact bel_daal _ _ _)) (fun hS2 => ?_)
             clear hK K
             refine wpAnyH_ready (rs := [5]) (by kernel_rfl) (by simp) ?_
             refine AllReadyH.cons rfl (fun K hK => ?_) ?_
             · go_simp
               refine (CA.out _ hS2).mono ?_
               rintro e w5 ⟨⟨N1, L1, ps1, gg1, gl1, base1, M1, sx1, rfl, hO1, hF1, hb1, hb2⟩, c5⟩
               have C5 : Hid _ := c5
               have HO1 : Hid (OwnM base1 w5.heap.size w5 t N1 L1 ps1 gg1 gl1) := hO1.top
               have HF1 : Hid (Free M1 w5 (x, sx1)) := hF1
               have HB1 : Hid (wr.heap.size + 1 + 1 ≤ base1 ∧ base1 ≤ M1) := ⟨by have := hb1; (try simp at this); omega, hb2⟩
               have HW5 : Hid (wr.heap.size + 2 ≤ w5.heap.size) := by have := c5.size; simp at this; show _ ≤ _; omega
               clear hO1 hF1 hb1 hb2
               try go_simp
               refine hK.out _ _ (bel_tr hS2 c5) (fun hS3 => ?_)
               clear c5
               clear hK K
               have FS : Hid (SpC (w5) (wr.heap.size) zeroS noS noS) := sp_first C5.out
               have FA : Hid (AnC (w5) (wr.heap.size + 1) 0 zeroB noS zeroX 0) := an_second C5.out
               have BL : Hid (Below w5.heap.size w5 (w5)) := Below.refl _ _
               have H7 : Hid (Below wr.heap.size wr (w5)) := hS3
               have FA2 : Hid (AnC (put6 w5 (wr.heap.size) t N1 L1) (wr.heap.size + 1) 0 zeroB noS zeroX 0) := an_put6 FS.out FA.out (by have := HW5.out; omega)
               have BS6 : Hid (Below wr.heap.size wr (put6 w5 (wr.heap.size) t N1 L1)) := bel_put6 H7.out FS.out (by have := HW5.out; omega) _ _ _
               have BS11 : Hid (Below wr.heap.size wr (put11 (put6 w5 (wr.heap.size) t N1 L1) (wr.heap.size + 1) E bk noS (x, sx1) 0)) := bel_put11 BS6.out FA2.out (by have := HW5.out; omega) _ _ _ _ _
               have HL : Hid (Land wr (put11 (put6 w5 (wr.heap.size) t N1 L1) (wr.heap.size + 1) E bk noS (x, sx1) 0) (wr.heap.size) (wr.heap.size + 1) t N1 L1 E bk x sx1) := land_of HO1.out HF1.out HB1.out.2 (by have := HB1.out.1; omega) H7.out BL.out FS.out FA.out (by have := HW5.out; omega) (by have := HW5.out; have := HB1.out.1; omega) (by have := HW5.out; have := HB1.out.1; omega) (by have := HW5.out; omega) (by have := HW5.out; omega)
               refine wpAnyH_take (i := 6) (v := ?_) rfl (by kernel_rfl) (by kernel_rfl) (by kernel_rfl) (fun _ _ _ h => h) (Or.inl ⟨by rfl, ?_⟩) hS3 ?_
               rotate_left
               · intro W9 hSw; go_simp; first | done | with_reducible rfl
               skip
               refine wpAnyH_take (i := 7) (v := ?_) rfl (by kernel_rfl) (by kernel_rfl) (by kernel_rfl) (fun _ _ _ h => h) (Or.inl ⟨by rfl, ?_⟩) hS3 ?_
               rotate_left
               · intro W9 hSw; go_simp; first | done | with_reducible rfl
               skip
               refine wpAnyH_take (i := 8) (v := ?_) rfl (by kernel_rfl) (by kernel_rfl) (by kernel_rfl) (fun _ _ _ h => h) (Or.inl ⟨by rfl, ?_⟩) hS3 ?_
               rotate_left
               · intro W9 hSw; go_simp; first | done | with_reducible rfl
               skip
               refine wpAnyH_ready (rs := [11]) (by kernel_rfl) (by simp) ?_
               refine AllReadyH.cons rfl (fun K hK => ?_) ?_
               · skip
                 obtain ⟨z0, z1, z2, z3, z4, z5, zf⟩ := FS.out
                 unfold spV
                 go_simp
                 rw [← put6_def w5 (wr.heap.size) t N1 L1]
                 refine hK.out _ _ BS6.out (fun hS4 => ?_)
                 clear z0 z1 z2 z3 z4 z5 zf
                 generalize put6 w5 (wr.heap.size) t N1 L1 = w8 at *
                 clear hK K
                 refine wpAnyH_ready (rs := [12]) (by kernel_rfl) (by simp) ?_
                 refine AllReadyH.cons rfl (fun K hK => ?_) ?_
                 · skip
                   obtain ⟨z0, z1, z2, z3, z4, z5, z6, z7, z8, z9, z10, zf⟩ := FA2.out
                   unfold anV
                   go_simp
                   rw [← put11_def w8 (wr.heap.size + 1) E bk noS (x, sx1) 0]
                   refine hK.out _ _ BS11.out (fun hS5 => ?_)
                   clear z0 z1 z2 z3 z4 z5 z6 z7 z8 z9 z10 zf
                   generalize put11 w8 (wr.heap.size + 1) E bk noS (x, sx1) 0 = w9 at *
                   clear hK K
                   refine wpAnyH_done (by kernel_rfl) ?_ _
                   go_wp2_with fail
                   go_meet
                   case rel => exact ⟨wr.heap.size, wr.heap.size + 1, N1, L1, sx1, rfl, rfl, HL.out⟩
                 exact AllReadyH.nil
               exact AllReadyH.nil
             exact AllReadyH.nil
           exact AllReadyH.nil
         refine AllReadyH.cons rfl (fun K hK => ?_) ?_
         · go_simp
           refine hK.out _ _ (bel_tr hS0 (by first | exact bel_al _ _ | exact bel_dal _ _ | exact bel_daal _ _ _)) (fun hS1 => ?_)
           clear hK K
           refine wpAnyH_ready (rs := [5, 9]) (by kernel_rfl) (by simp) ?_
           refine AllReadyH.cons rfl (fun K hK => ?_) ?_
           · go_simp
             refine (CA.out _ hS1).mono ?_
             rintro e w5 ⟨⟨N1, L1, ps1, gg1, gl1, base1, M1, sx1, rfl, hO1, hF1, hb1, hb2⟩, c5⟩
             have C5 : Hid _ := c5
             have HO1 : Hid (OwnM base1 w5.heap.size w5 t N1 L1 ps1 gg1 gl1) := hO1.top
             have HF1 : Hid (Free M1 w5 (x, sx1)) := hF1
             have HB1 : Hid (wr.heap.size + 1 ≤ base1 ∧ base1 ≤ M1) := ⟨by have := hb1; (try simp at this); omega, hb2⟩
             have HW5 : Hid (wr.heap.size + 1 ≤ w5.heap.size) := by have := c5.size; simp at this; show _ ≤ _; omega
             clear hO1 hF1 hb1 hb2
             try go_simp
             refine hK.out _ _ (bel_tr hS1 c5) (fun hS2 => ?_)
             clear c5
             clear hK K
             refine wpAnyH_take (i := 6) (v := ?_) rfl (by kernel_rfl) (by kernel_rfl) (by kernel_rfl) (fun _ _ _ h => h) (Or.inl ⟨by rfl, ?_⟩) hS2 ?_
             rotate_left
             · intro W9 hSw; go_simp; first | done | with_reducible rfl
             skip
             refine wpAnyH_take (i := 7) (v := ?_) rfl (by kernel_rfl) (by kernel_rfl) (by kernel_rfl) (fun _ _ _ h => h) (Or.inl ⟨by rfl, ?_⟩) hS2 ?_
             rotate_left
             · intro W9 hSw; go_simp; first | done | with_reducible rfl
             skip
             refine wpAnyH_take (i := 8) (v := ?_) rfl (by kernel_rfl) (by kernel_rfl) (by kernel_rfl) (fun _ _ _ h => h) (Or.inl ⟨by rfl, ?_⟩) hS2 ?_
             rotate_left
             · intro W9 hSw; go_simp; first | done | with_reducible rfl
             skip
             refine wpAnyH_ready (rs := [9]) (by kernel_rfl) (by simp) ?_
             refine AllReadyH.cons rfl (fun K hK => ?_) ?_
             · go_simp
               refine hK.out _ _ (bel_tr hS2 (by first | exact bel_al _ _ | exact bel_dal _ _ | exact bel_daal _ _ _)) (fun hS3 => ?_)
               clear hK K
               have FS : Hid (SpC (w5.alloc (.cells #[.int .i64 0, .int .i64 0, .int .i64 0, .int .i64 0, .slice none 0 0, .slice none 0 0] 27)) (w5.heap.size) zeroS noS noS) := SpC.new w5 27 zeroS noS noS
               have FA : Hid (AnC (w5.alloc (.cells #[.int .i64 0, .int .i64 0, .int .i64 0, .int .i64 0, .slice none 0 0, .slice none 0 0] 27)) (wr.heap.size) 0 zeroB noS zeroX 0) := (an_one C5.out).below (bel_al _ _)
               have BL : Hid (Below w5.heap.size w5 (w5.alloc (.cells #[.int .i64 0, .int .i64 0, .int .i64 0, .int .i64 0, .slice none 0 0, .slice none 0 0] 27))) := bel_al _ _
               have H7 : Hid (Below wr.heap.size wr (w5.alloc (.cells #[.int .i64 0, .int .i64 0, .int .i64 0, .int .i64 0, .slice none 0 0, .slice none 0 0] 27))) := hS3
               generalize w5.alloc (.cells #[.int .i64 0, .int .i64 0, .int .i64 0, .int .i64 0, .slice none 0 0, .slice none 0 0] 27) = w7 at *
               have FA2 : Hid (AnC (put6 w7 (w5.heap.size) t N1 L1) (wr.heap.size) 0 zeroB noS zeroX 0) := an_put6 FS.out FA.out (by have := HW5.out; omega)
               have BS6 : Hid (Below wr.heap.size wr (put6 w7 (w5.heap.size) t N1 L1)) := bel_put6 H7.out FS.out (by have := HW5.out; omega) _ _ _
               have BS11 : Hid (Below wr.heap.size wr (put11 (put6 w7 (w5.heap.size) t N1 L1) (wr.heap.size) E bk noS (x, sx1) 0)) := bel_put11 BS6.out FA2.out (by have := HW5.out; omega) _ _ _ _ _
               have HL : Hid (Land wr (put11 (put6 w7 (w5.heap.size) t N1 L1) (wr.heap.size) E bk noS (x, sx1) 0) (w5.heap.size) (wr.heap.size) t N1 L1 E bk x sx1) := land_of HO1.out HF1.out HB1.out.2 (by have := HB1.out.1; omega) H7.out BL.out FS.out FA.out (by have := HW5.out; omega) (by have := HW5.out; have := HB1.out.1; omega) (by have := HW5.out; have := HB1.out.1; omega) (by have := HW5.out; omega) (by have := HW5.out; omega)
               refine wpAnyH_ready (rs := [11]) (by kernel_rfl) (by simp) ?_
               refine AllReadyH.cons rfl (fun K hK => ?_) ?_
               · skip
                 obtain ⟨z0, z1, z2, z3, z4, z5, zf⟩ := FS.out
                 unfold spV
                 go_simp
                 rw [← put6_def w7 (w5.heap.size) t N1 L1]
                 refine hK.out _ _ BS6.out (fun hS4 => ?_)
                 clear z0 z1 z2 z3 z4 z5 zf
                 generalize put6 w7 (w5.heap.size) t N1 L1 = w8 at *
                 clear hK K
                 refine wpAnyH_ready (rs := [12]) (by kernel_rfl) (by simp) ?_
                 refine AllReadyH.cons rfl (fun K hK => ?_) ?_
                 · skip
                   obtain ⟨z0, z1, z2, z3, z4, z5, z6, z7, z8, z9, z10, zf⟩ := FA2.out
                   unfold anV
                   go_simp
                   rw [← put11_def w8 (wr.heap.size) E bk noS (x, sx1) 0]
                   refine hK.out _ _ BS11.out (fun hS5 => ?_)
                   clear z0 z1 z2 z3 z4 z5 z6 z7 z8 z9 z10 zf
                   generalize put11 w8 (wr.heap.size) E bk noS (x, sx1) 0 = w9 at *
                   clear hK K
                   refine wpAnyH_done (by kernel_rfl) ?_ _
                   go_wp2_with fail
                   go_meet
                   case rel => exact ⟨w5.heap.size, wr.heap.size, N1, L1, sx1, rfl, rfl, HL.out⟩
                 exact AllReadyH.nil
               exact AllReadyH.nil
             exact AllReadyH.nil
           refine AllReadyH.cons rfl (fun K hK => ?_) ?_
           · go_simp
             refine hK.out _ _ (bel_tr hS1 (by first | exact bel_al _ _ | exact bel_dal _ _ | exact bel_daal _ _ _)) (fun hS2 => ?_)
             clear hK K
             refine wpAnyH_ready (rs := [5]) (by kernel_rfl) (by simp) ?_
             refine AllReadyH.cons rfl (fun K hK => ?_) ?_
             · go_simp
               refine (CA.out _ hS2).mono ?_
               rintro e w5 ⟨⟨N1, L1, ps1, gg1, gl1, base1, M1, sx1, rfl, hO1, hF1, hb1, hb2⟩, c5⟩
               have C5 : Hid _ := c5
               have HO1 : Hid (OwnM base1 w5.heap.size w5 t N1 L1 ps1 gg1 gl1) := hO1.top
               have HF1 : Hid (Free M1 w5 (x, sx1)) := hF1
               have HB1 : Hid (wr.heap.size + 1 + 1 ≤ base1 ∧ base1 ≤ M1) := ⟨by have := hb1; (try simp at this); omega, hb2⟩
               have HW5 : Hid (wr.heap.size + 2 ≤ w5.heap.size) := by have := c5.size; simp at this; show _ ≤ _; omega
               clear hO1 hF1 hb1 hb2
               try go_simp
               refine hK.out _ _ (bel_tr hS2 c5) (fun hS3 => ?_)
               clear c5
               clear hK K
               have FS : Hid (SpC (w5) (wr.heap.size + 1) zeroS noS noS) := sp_second C5.out
               have FA : Hid (AnC (w5) (wr.heap.size) 0 zeroB noS zeroX 0) := an_first C5.out
               have BL : Hid (Below w5.heap.size w5 (w5)) := Below.refl _ _
               have H7 : Hid (Below wr.heap.size wr (w5)) := hS3
               have FA2 : Hid (AnC (put6 w5 (wr.heap.size + 1) t N1 L1) (wr.heap.size) 0 zeroB noS zeroX 0) := an_put6 FS.out FA.out (by have := HW5.out; omega)
               have BS6 : Hid (Below wr.heap.size wr (put6 w5 (wr.heap.size + 1) t N1 L1)) := bel_put6 H7.out FS.out (by have := HW5.out; omega) _ _ _
               have BS11 : Hid (Below wr.heap.size wr (put11 (put6 w5 (wr.heap.size + 1) t N1 L1) (wr.heap.size) E bk noS (x, sx1) 0)) := bel_put11 BS6.out FA2.out (by have := HW5.out; omega) _ _ _ _ _
               have HL : Hid (Land wr (put11 (put6 w5 (wr.heap.size + 1) t N1 L1) (wr.heap.size) E bk noS (x, sx1) 0) (wr.heap.size + 1) (wr.heap.size) t N1 L1 E bk x sx1) := land_of HO1.out HF1.out HB1.out.2 (by have := HB1.out.1; omega) H7.out BL.out FS.out FA.out (by have := HW5.out; omega) (by have := HW5.out; have := HB1.out.1; omega) (by have := HW5.out; have := HB1.out.1; omega) (by have := HW5.out; omega) (by have := HW5.out; omega)
               refine wpAnyH_take (i := 6) (v := ?_) rfl (by kernel_rfl) (by kernel_rfl) (by kernel_rfl) (fun _ _ _ h => h) (Or.inl ⟨by rfl, ?_⟩) hS3 ?_
               rotate_left
               · intro W9 hSw; go_simp; first | done | with_reducible rfl
               skip
               refine wpAnyH_take (i := 7) (v := ?_) rfl (by kernel_rfl) (by kernel_rfl) (by kernel_rfl) (fun _ _ _ h => h) (Or.inl ⟨by rfl, ?_⟩) hS3 ?_
               rotate_left
               · intro W9 hSw; go_simp; first | done | with_reducible rfl
               skip
               refine wpAnyH_take (i := 8) (v := ?_) rfl (by kernel_rfl) (by kernel_rfl) (by kernel_rfl) (fun _ _ _ h => h) (Or.inl ⟨by rfl, ?_⟩) hS3 ?_
               rotate_left
               · intro W9 hSw; go_simp; first | done | with_reducible rfl
               skip
               refine wpAnyH_ready (rs := [11]) (by kernel_rfl) (by simp) ?_
               refine AllReadyH.cons rfl (fun K hK => ?_) ?_
               · skip
                 obtain ⟨z0, z1, z2, z3, z4, z5, zf⟩ := FS.out
                 unfold spV
                 go_simp
                 rw [← put6_def w5 (wr.heap.size + 1) t N1 L1]
                 refine hK.out _ _ BS6.out (fun hS4 => ?_)
                 clear z0 z1 z2 z3 z4 z5 zf
                 generalize put6 w5 (wr.heap.size + 1) t N1 L1 = w8 at *
                 clear hK K
                 refine wpAnyH_ready (rs := [12]) (by kernel_rfl) (by simp) ?_
                 refine AllReadyH.cons rfl (fun K hK => ?_) ?_
                 · skip
                   obtain ⟨z0, z1, z2, z3, z4, z5, z6, z7, z8, z9, z10, zf⟩ := FA2.out
                   unfold anV
                   go_simp
                   rw [← put11_def w8 (wr.heap.size) E bk noS (x, sx1) 0]
                   refine hK.out _ _ BS11.out (fun hS5 => ?_)
                   clear z0 z1 z2 z3 z4 z5 z6 z7 z8 z9 z10 zf
                   generalize put11 w8 (wr.heap.size) E bk noS (x, sx1) 0 = w9 at *
                   clear hK K
                   refine wpAnyH_done (by kernel_rfl) ?_ _
                   go_wp2_with fail
                   go_meet
                   case rel => exact ⟨wr.heap.size + 1, wr.heap.size, N1, L1, sx1, rfl, rfl, HL.out⟩
                 exact AllReadyH.nil
               exact AllReadyH.nil
             exact AllReadyH.nil
           exact AllReadyH.nil
         exact AllReadyH.nil
       case rest =>
         obtain ⟨tq, aq, N1, L1, sx, rfl, rfl, hL⟩ := hcut
         have HL : Hid (Land wr wc tq aq t N1 L1 E bk x sx) := hL
         have e0 := hL.an.c0
         have HWc : Hid (Now w q wc s N L) := HW.out.below hL.bel
         clear hL CA p0 p1 p2 p3 p4 p5 pf
         by_cases h0 : E = 0
         · subst h0
           have hts : doS s ⟨ek, ep, et, ec, el, en, els⟩ = t := hTS
           have HRt : Hid (RtS t) := hts ▸ (app_keeps HE.out).2
           have HTt : Hid (t.tx ≤ ((k + 1 : Nat) : Int)) := by
             have h1 := HTX.out
             rw [← hts]
             show s.tx + 1 ≤ _
             omega
           obtain ⟨z0, z1, z2, z3, z4, z5, _⟩ := HL.out.box
           obtain ⟨x0, x1, x2, x3, x4, x5, xf⟩ := HWc.out.box
           have hput := HL.out.put HWc.out hql
           rw [put6_def] at hput
           have HPUT : Hid _ := hput
           clear hput g0 g1 g2 g3 g4 g5 g6 hTS hts
           go_wp2
           go_roundg (40 - (k + 1))
           case measure => omega
           case rel => exact ⟨k + 1, t, _, _, by omega, by omega, by go_num, HRt.out, HTt.out, HPUT.out⟩
         · have h0b : (E != 0) = true := by simpa using h0
           have h0c : (E == 0) = false := by simpa using h0
           go_wp2
           go_roundg (40 - (k + 1))
           case measure => omega
           case rel => exact ⟨k + 1, s, N, L, by omega, by omega, by go_num, HR.out, by have := HTX.out; omega, HWc.out⟩
     · by_cases hk0 : k < n0
       · have hg1 : decide ((k : Int) < (n0 : Int)) = true := decide_eq_true (by omega)
         have hg2 : decide ((k : Int) < 40) = false := decide_eq_false (by omega)
         go_wp2
         go_meet
         case rel => exact ⟨s, N, L, HR.out, by have := HTX.out; omega, HW.out⟩
       · have hg1 : decide ((k : Int) < (n0 : Int)) = false := decide_eq_false (by omega)
         go_wp2
         go_meet
         case rel => exact ⟨s, N, L, HR.out, by have := HTX.out; omega, HW.out⟩
  case rest =>
   obtain ⟨s, N, L, hR, htx, hNow⟩ := hcut
   have HR : Hid (RtS s) := hR
   have HW : Hid (Now w q wc s N L) := hNow
   have HTT : Hid (s.tx ≠ 300) := by show s.tx ≠ 300; omega
   have HNL : Hid (NL wc N.a N.n s.ns) := hNow.spIn.nl
   clear hR htx hNow H2 HU HN hx0
   rename World => wb
   obtain ⟨E1, x1, hS1⟩ := statE_any s f
   obtain ⟨E2, x2, hS2⟩ := statE_any s tp
   obtain ⟨E, hE⟩ := appE_any s (renE f tp)
   obtain ⟨D, hD⟩ := appE_any s (delE f)
   have HS1 : Hid (StatE s f E1 x1) := hS1
   have HS2 : Hid (StatE s tp E2 x2) := hS2
   have HE : Hid (AppE s (renE f tp) E) := hE
   have HD : Hid (AppE s (delE f) D) := hD
   have CS : Hid (∀ W p E x, Below wb.heap.size wb W → p.size ≤ maxLen → StatE s p E x → Calls Tryz.prog 18 #[spV s N L, .string p] W fun e w' => StatR E x e w' ∧ Below W.heap.size W w') := fun W p E x hb hp h => stat_val (HW.out.spIn.below hb) p hp HR.out E x h
   have CA : Hid (∀ W, Below wb.heap.size wb W → Calls Tryz.prog 11 #[spV s N L, edV (renE f tp) none 0 0] W fun r w' => ApR W.heap.size (appS s (renE f tp) E) E (appB s (renE f tp) E) (appN s (renE f tp) E) r w' ∧ Below W.heap.size W w') := fun W hb => apply_any (HW.out.spIn.below hb) _ none 0 0 (Edi.Nm.nil _) E hE
   have CD : Hid (∀ W, Below wb.heap.size wb W → Calls Tryz.prog 11 #[spV s N L, edV (delE f) none 0 0] W fun r w' => ApR W.heap.size (appS s (delE f) D) D (appB s (delE f) D) (appN s (delE f) D) r w' ∧ Below W.heap.size W w') := fun W hb => apply_any (HW.out.spIn.below hb) _ none 0 0 (Edi.Nm.nil _) D hD
   have CBS : Hid (∀ W, Below wb.heap.size wb W → Calls Tryz.prog 19 #[spV s N L] W fun e w' => (∃ ys, sortB s.ns ys ∧ BlkR ys e w') ∧ Below W.heap.size W w') := fun W hb => blocks_val (HW.out.spIn.below hb) HR.out
   unfold edV renE at CA
   unfold edV delE at CD
   unfold spV at CA CD CS CBS
   simp only at CA CD CS CBS
   clear hS1 hS2 hE hD
   generalize hT : appS s ⟨4, f, tp, 0, 0, 0, []⟩ E = t at *
   generalize appB s ⟨4, f, tp, 0, 0, 0, []⟩ E = tb at *
   generalize appN s ⟨4, f, tp, 0, 0, 0, []⟩ E = tx at *
   generalize hU2 : appS s ⟨3, f, ⟨#[]⟩, 0, 0, 0, []⟩ D = u at *
   generalize appB s ⟨3, f, ⟨#[]⟩, 0, 0, 0, []⟩ D = ub at *
   generalize appN s ⟨3, f, ⟨#[]⟩, 0, 0, 0, []⟩ D = ux at *
   have HTe : Hid (appS s (renE f tp) E = t) := hT
   have HUe : Hid (appS s (delE f) D = u) := hU2
   clear hT hU2
   obtain ⟨p0, p1, p2, p3, p4, p5, _⟩ := HW.out.box
   go_wp2_with fail
   refine (CS.out _ f E1 x1 (Below.refl _ _) HF.out HS1.out).mono ?_
   rintro e w4 ⟨⟨s1, rfl, hok1⟩, c4⟩
   have B4 : Hid (Below wb.heap.size wb w4) := c4
   have K1 : Hid (NdOk w4 (x1, s1)) := hok1
   have NB : Hid (∀ o, Now w q (w4.alloc o) s N L) := fun o => (HW.out.below B4.out).below (bel_al _ _)
   clear p0 p1 p2 p3 p4 p5 c4 hok1
   have p0 := fun o => (NB.out o).box.c0
   have p1 := fun o => (NB.out o).box.c1
   have p2 := fun o => (NB.out o).box.c2
   have p3 := fun o => (NB.out o).box.c3
   have p4 := fun o => (NB.out o).box.c4
   have p5 := fun o => (NB.out o).box.c5
   unfold anV zeroB noS
   simp only
   go_wp2_with fail
   refine (CS.out _ tp E2 x2 (bel_tr B4.out (bel_al _ _)) HTo.out HS2.out).mono ?_
   rintro e w5 ⟨⟨s2, rfl, hok2⟩, c5⟩
   have B5 : Hid (Below wb.heap.size wb w5) := bel_tr B4.out (bel_tr (bel_al _ _) c5)
   have A5 : Hid (AnC w5 w4.heap.size E1 zeroB noS (x1, s1) 0) := (an_new w4 37 E1 zeroB (x1, s1)).below c5
   have K1b : Hid (NdOk w5 (x1, s1)) := K1.out.below (bel_tr (bel_al _ _) c5)
   have K2 : Hid (NdOk w5 (x2, s2)) := hok2
   have NB5 : Hid (∀ o, Now w q (w5.alloc o) s N L) := fun o => (HW.out.below B5.out).below (bel_al _ _)
   clear p0 p1 p2 p3 p4 p5 c5 hok2 NB
   have p0 := fun o => (NB5.out o).box.c0
   have p1 := fun o => (NB5.out o).box.c1
   have p2 := fun o => (NB5.out o).box.c2
   have p3 := fun o => (NB5.out o).box.c3
   have p4 := fun o => (NB5.out o).box.c4
   have p5 := fun o => (NB5.out o).box.c5
   unfold anV zeroB noS
   simp only
   go_wp2_with fail
   refine (CA.out _ (bel_tr B5.out (bel_al _ _))).mono ?_
   rintro e w6 ⟨⟨N1, L1, ps1, gg1, gl1, base1, M1, sx, rfl, hO1, hF1, hb1, hb2⟩, c6⟩
   have B6 : Hid (Below wb.heap.size wb w6) := bel_tr B5.out (bel_tr (bel_al _ _) c6)
   have C56 : Hid (Below w5.heap.size w5 w6) := bel_tr (bel_al _ _) c6
   have A6 : Hid (AnC w6 w4.heap.size E1 zeroB noS (x1, s1) 0) := A5.out.below C56.out
   have G6 : Hid (AnC w6 w5.heap.size E2 zeroB noS (x2, s2) 0) := (an_new w5 37 E2 zeroB (x2, s2)).below c6
   have hb1' : wb.heap.size ≤ base1 := Nat.le_trans B5.out.size (Nat.le_trans (bel_al w5 _).size hb1)
   have HL0 : Hid _ := land_new (wr := wb) (E := E) (b := tb) B6.out hO1 hF1 hb1' hb2 27 37
   have HI6 : Hid (SpIn w6 t N1 L1) := hO1.spIn
   clear p0 p1 p2 p3 p4 p5 c6 hO1 hF1 hb1 hb1' hb2 NB5
   unfold spV anV noS
   simp only
   have BA6 : Hid (Below w6.heap.size w6 ((w6.alloc (.cells #[.int .i64 t.tx, .int .i64 t.nb, .int .i64 t.ng, .int .i64 t.now, .slice N1.a N1.n N1.c, .slice L1.a L1.n L1.c] 27)).alloc (.cells #[.int .i64 E, .int .i64 tb.id, .int .i64 tb.gen, .int .i64 tb.len, .slice none 0 0, .string tx.path, .bool tx.dir, .int .i64 tx.quota, .slice sx.a sx.n sx.c, .int .i64 tx.wr, .int .i64 0] 37))) := bel_tr (bel_al _ _) (bel_al _ _)
   have HL : Hid (Land wb ((w6.alloc (.cells #[.int .i64 t.tx, .int .i64 t.nb, .int .i64 t.ng, .int .i64 t.now, .slice N1.a N1.n N1.c, .slice L1.a L1.n L1.c] 27)).alloc (.cells #[.int .i64 E, .int .i64 tb.id, .int .i64 tb.gen, .int .i64 tb.len, .slice none 0 0, .string tx.path, .bool tx.dir, .int .i64 tx.quota, .slice sx.a sx.n sx.c, .int .i64 tx.wr, .int .i64 0] 37)) w6.heap.size (w6.heap.size + 1) t N1 L1 E tb tx sx) := HL0.out
   clear HL0
   go_upto_region 12 with fail
   generalize (w6.alloc (.cells #[.int .i64 t.tx, .int .i64 t.nb, .int .i64 t.ng, .int .i64 t.now, .slice N1.a N1.n N1.c, .slice L1.a L1.n L1.c] 27)).alloc (.cells #[.int .i64 E, .int .i64 tb.id, .int .i64 tb.gen, .int .i64 tb.len, .slice none 0 0, .string tx.path, .bool tx.dir, .int .i64 tx.quota, .slice sx.a sx.n sx.c, .int .i64 tx.wr, .int .i64 0] 37) = W6 at *
   have ae := HL.out.an.c0
   go_upto_if 65 with fail
   clear ae
   go_cut [] (fun wx => Below W6.heap.size W6 wx)
   case first =>
     by_cases h0 : E = 0
     · subst h0
       have hRt : RtS t := HTe.out ▸ (app_keeps HE.out).2
       have HRt : Hid (RtS t) := hRt
       have hg : (∃ i, Is s.ns tp i x2) ∨ (at? s.ns tp = none ∧ x2.bs = []) := by
         cases HS2.out with
         | ok i x hi => exact .inl ⟨i, hi⟩
         | no I E hf h0 =>
           cases hf with
           | arg hp =>
             have := (mov_of (ren_mov HE.out).1).pt
             rw [path_of this] at hp; cases hp
           | none _ hn => exact .inr ⟨hn, rfl⟩
           | ok i x hi => exact absurd rfl h0
       obtain ⟨⟨i0, y0, j0, y, hi, hj, e1, e2, e3⟩, ⟨hpf, hnf⟩, hlen⟩ := renamed HE.out hg
       rw [show doS s (renE f tp) = t from HTe.out] at hj hnf hlen
       have hx1 := (HS1.out.is hi).2
       rw [← hx1] at e1 e2 e3
       have HE2 : Hid (y.wr = x1.wr) := e2
       have HE3 : Hid (y.dir = x1.dir) := e3
       have HBSE : Hid (y.bs = x1.bs) := e1
       have HLEN : Hid ((blksL t.ns).length + x2.bs.length = (blksL s.ns).length) := hlen
       have CT : Hid (∀ W, Below W6.heap.size W6 W → Calls Tryz.prog 18 #[spV t N1 L1, .string tp] W fun e w' => StatR 0 y e w' ∧ Below W.heap.size W w') := fun W hb => stat_val (HI6.out.below (bel_tr BA6.out hb)) tp HTo.out hRt 0 y (.ok j0 y hj)
       have CF : Hid (∀ W, Below W6.heap.size W6 W → Calls Tryz.prog 18 #[spV t N1 L1, .string f] W fun e w' => StatR 5 zeroN e w' ∧ Below W.heap.size W w') := fun W hb => stat_val (HI6.out.below (bel_tr BA6.out hb)) f HF.out hRt 5 zeroN (.no 0 5 (.none hpf hnf) (by decide))
       have CBT : Hid (∀ W, Below W6.heap.size W6 W → Calls Tryz.prog 19 #[spV t N1 L1] W fun e w' => (∃ ys, sortB t.ns ys ∧ BlkR ys e w') ∧ Below W.heap.size W w') := fun W hb => blocks_val (HI6.out.below (bel_tr BA6.out hb)) hRt
       unfold spV at CT CF CBT
       clear hRt hg hi hj e1 e2 e3 hpf hnf hlen hx1
       obtain ⟨z0, z1, z2, z3, z4, z5, _⟩ := HL.out.box
       have ae := HL.out.an.c0
       go_wp2_with fail
       refine (CT.out _ (Below.refl _ _)).mono ?_
       rintro e w7 ⟨⟨sy, rfl, hoky⟩, c7⟩
       have C7 : Hid (Below W6.heap.size W6 w7) := c7
       have KY : Hid (Blks w7 sy x1.bs) := HBSE.out ▸ hoky.bs
       have KX : Hid (Blks w7 s1 x1.bs) := (K1b.out.below (bel_tr C56.out (bel_tr BA6.out c7))).bs
       have a8 := cell_al (A6.out.below (bel_tr BA6.out c7)).c8
       clear z0 z1 z2 z3 z4 z5 c7 hoky ae
       unfold anV zeroB noS
       simp only at a8 ⊢
       go_wp2_with fail
       refine (blocks_same (KY.out.below (bel_al _ _)) (KX.out.below (bel_al _ _))).mono ?_
       rintro e w8 ⟨rfl, c8⟩
       have C8 : Hid (Below W6.heap.size W6 w8) := bel_tr C7.out (bel_tr (bel_al _ _) c8)
       obtain ⟨_, _, _, _, _, _, n6, _, _, n9, _, _⟩ := (an_new w7 37 0 zeroB (y, sy)).below c8
       obtain ⟨_, _, _, _, _, _, v6, _, _, v9, _, _⟩ := A6.out.below (bel_tr BA6.out C8.out)
       obtain ⟨_, _, _, _, _, _, _, _, g8, _, _, _⟩ := G6.out.below (bel_tr BA6.out C8.out)
       obtain ⟨z0, z1, z2, z3, z4, z5, _⟩ := HL.out.box.below C8.out
       obtain ⟨p0, p1, p2, p3, p4, p5, _⟩ := (HW.out.below (bel_tr B6.out (bel_tr BA6.out C8.out))).box
       have hs2 : x2.bs.length = s2.n := K2.out.bs.len
       have BW8 : Hid (Below wb.heap.size wb w8) := bel_tr B6.out (bel_tr BA6.out C8.out)
       simp only at n6 n9 v6 v9 g8
       rw [HE2.out] at n9
       rw [HE3.out] at n6
       clear a8 c8
       go_upto_region 15 with fail
       go_cut [116] (fun v wx => v = .bool false ∧ Below w8.heap.size w8 wx)
       case first =>
         have MKS : Hid (∀ W, Below w8.heap.size w8 W → W.cell? ⟨w7.heap.size, 9, none⟩ = some (.int .i64 x1.wr) ∧ W.cell? ⟨w4.heap.size, 9, none⟩ = some (.int .i64 x1.wr) ∧ W.cell? ⟨w7.heap.size, 6, none⟩ = some (.bool x1.dir) ∧ W.cell? ⟨w4.heap.size, 6, none⟩ = some (.bool x1.dir) ∧ W.cell? ⟨w6.heap.size, 0, none⟩ = some (.int .i64 t.tx) ∧ W.cell? ⟨w6.heap.size, 1, none⟩ = some (.int .i64 t.nb) ∧ W.cell? ⟨w6.heap.size, 2, none⟩ = some (.int .i64 t.ng) ∧ W.cell? ⟨w6.heap.size, 3, none⟩ = some (.int .i64 t.now) ∧ W.cell? ⟨w6.heap.size, 4, none⟩ = some (.slice N1.a N1.n N1.c) ∧ W.cell? ⟨w6.heap.size, 5, none⟩ = some (.slice L1.a L1.n L1.c) ∧ W.cell? ⟨q, 0, none⟩ = some (.int .i64 s.tx) ∧ W.cell? ⟨q, 1, none⟩ = some (.int .i64 s.nb) ∧ W.cell? ⟨q, 2, none⟩ = some (.int .i64 s.ng) ∧ W.cell? ⟨q, 3, none⟩ = some (.int .i64 s.now) ∧ W.cell? ⟨q, 4, none⟩ = some (.slice N.a N.n N.c) ∧ W.cell? ⟨q, 5, none⟩ = some (.slice L.a L.n L.c) ∧ W.cell? ⟨w5.heap.size, 8, none⟩ = some (.slice s2.a s2.n s2.c)) := fun W hb => ⟨bel_cell hb n9, bel_cell hb v9, bel_cell hb n6, bel_cell hb v6, bel_cell hb z0, bel_cell hb z1, bel_cell hb z2, bel_cell hb z3, bel_cell hb z4, bel_cell hb z5, bel_cell hb p0, bel_cell hb p1, bel_cell hb p2, bel_cell hb p3, bel_cell hb p4, bel_cell hb p5, bel_cell hb g8⟩
         have MT : Hid True := trivial
         have MS : Hid True := trivial
         clear n9 v9 n6 v6 z0 z1 z2 z3 z4 z5 p0 p1 p2 p3 p4 p5 g8
         go_region_held3 (fun W => W.cell? ⟨w7.heap.size, 9, none⟩ = some (.int .i64 x1.wr) ∧ W.cell? ⟨w4.heap.size, 9, none⟩ = some (.int .i64 x1.wr) ∧ W.cell? ⟨w7.heap.size, 6, none⟩ = some (.bool x1.dir) ∧ W.cell? ⟨w4.heap.size, 6, none⟩ = some (.bool x1.dir) ∧ W.cell? ⟨w6.heap.size, 0, none⟩ = some (.int .i64 t.tx) ∧ W.cell? ⟨w6.heap.size, 1, none⟩ = some (.int .i64 t.nb) ∧ W.cell? ⟨w6.heap.size, 2, none⟩ = some (.int .i64 t.ng) ∧ W.cell? ⟨w6.heap.size, 3, none⟩ = some (.int .i64 t.now) ∧ W.cell? ⟨w6.heap.size, 4, none⟩ = some (.slice N1.a N1.n N1.c) ∧ W.cell? ⟨w6.heap.size, 5, none⟩ = some (.slice L1.a L1.n L1.c) ∧ W.cell? ⟨q, 0, none⟩ = some (.int .i64 s.tx) ∧ W.cell? ⟨q, 1, none⟩ = some (.int .i64 s.nb) ∧ W.cell? ⟨q, 2, none⟩ = some (.int .i64 s.ng) ∧ W.cell? ⟨q, 3, none⟩ = some (.int .i64 s.now) ∧ W.cell? ⟨q, 4, none⟩ = some (.slice N.a N.n N.c) ∧ W.cell? ⟨q, 5, none⟩ = some (.slice L.a L.n L.c) ∧ W.cell? ⟨w5.heap.size, 8, none⟩ = some (.slice s2.a s2.n s2.c))
           (first | exact MKS.out _ (bel_drew _) | exact MKS.out _ BF.out | exact MKS.out _ BS.out | exact MKS.out _ BT.out)
           (first
             | (go_at_call 19; have mt := MT.out; refine (CBT.out _ (bel_tr C8.out (bel_drew _))).mono ?_; clear mt MT; rintro e wT ⟨⟨ysT, hysT, ⟨rT, rfl, hblT⟩⟩, cN⟩; have HYT : Hid (ysT.length = (blksL t.ns).length) := hysT.1.length_eq; have HRT : Hid (ysT.length = rT.n) := hblT.len; have BT : Hid (Below w8.heap.size w8 wT) := bel_tr (bel_drew _) cN; clear hysT hblT cN)
             | (go_at_call 19; have mt := MS.out; refine (CBS.out _ (bel_tr BW8.out BT.out)).mono ?_; clear mt MS; rintro e wS ⟨⟨ysS, hysS, ⟨rS, rfl, hblS⟩⟩, cN⟩; have hqq : ((rT.n : Int) != wrap64 ((rS.n : Int) - (s2.n : Int))) = false := neq_len HYT.out HRT.out hysS.1.length_eq hblS.len HLEN.out hs2 hblS.lid; have hws2 : ((rT.n : Int) != IntKind.i64.wrap ((rS.n : Int) - (s2.n : Int))) = false := neq_len2 HYT.out HRT.out hysS.1.length_eq hblS.len HLEN.out hs2 hblS.lid; have BS : Hid (Below w8.heap.size w8 wS) := bel_tr BT.out cN; clear hysS hblS cN)
             | (go_at_call 18; refine (CF.out _ (bel_tr C8.out BS.out)).mono ?_; rintro e wF ⟨⟨sF, rfl, hokF⟩, cN⟩; have BF : Hid (Below w8.heap.size w8 wF) := bel_tr BS.out cN; have hfl := fun W => fieldA 5 zeroB.id zeroB.gen zeroB.len noS.a noS.n noS.c zeroN.path zeroN.dir zeroN.quota sF.a sF.n sF.c zeroN.wr 0 W; unfold anV; clear hokF cN))
         all_goals (go_wp2_with fail; go_meet)
         all_goals exact ⟨rfl, BF.out⟩
       case rest =>
         obtain ⟨rfl, hb9⟩ := hcut
         have HB9 : Hid _ := hb9
         clear hb9
         go_wp2
         go_meet
         case rel => exact bel_tr C8.out HB9.out
     · have h0c : (E == 0) = false := by simpa using h0
       have ae := HL.out.an.c0
       go_wp2
       go_meet
       case rel => exact Below.refl _ _
   case rest =>
     rename World => W9
     have H9 : Hid (Below W6.heap.size W6 W9) := hcut
     have B9 : Hid (Below wb.heap.size wb W9) := bel_tr B6.out (bel_tr BA6.out hcut)
     have N9 : Hid (Now w q W9 s N L) := HW.out.below B9.out
     have V9 : Hid (AnC W9 w4.heap.size E1 zeroB noS (x1, s1) 0) := A6.out.below (bel_tr BA6.out hcut)
     clear hcut CA
     obtain ⟨p0, p1, p2, p3, p4, p5, _⟩ := N9.out.box
     go_wp2_with fail
     refine (CD.out _ B9.out).mono ?_
     rintro e w10 ⟨⟨N2, L2, ps2, gg2, gl2, base2, M2, sx2, rfl, hO2, hF2, hb1, hb2⟩, c10⟩
     have B10 : Hid (Below wb.heap.size wb w10) := bel_tr B9.out c10
     have C10 : Hid (Below W9.heap.size W9 w10) := c10
     have HI10 : Hid (SpIn w10 u N2 L2) := hO2.spIn
     clear c10 hO2 hF2 hb1 hb2 p0 p1 p2 p3 p4 p5
     unfold spV anV noS
     simp only
     by_cases h0 : D = 0
     · subst h0
       have hRu : RtS u := HUe.out ▸ (app_keeps HD.out).2
       have HRu : Hid (RtS u) := hRu
       obtain ⟨i0, y0, hi⟩ := del_is HD.out
       have hx1 := (HS1.out.is hi).2
       rw [← hx1] at hi
       obtain ⟨⟨hpf, hnf⟩, hsub, hlen⟩ := deleted HD.out hi
       rw [show doS s (delE f) = u from HUe.out] at hnf hsub hlen
       have HSUB : Hid ((blksL u.ns).Sublist (blksL s.ns)) := hsub
       have HLEN : Hid ((blksL u.ns).length + x1.bs.length ≤ (blksL s.ns).length) := hlen
       have CBU : Hid (∀ W, Below w10.heap.size w10 W → Calls Tryz.prog 19 #[spV u N2 L2] W fun e w' => (∃ ys, sortB u.ns ys ∧ BlkR ys e w') ∧ Below W.heap.size W w') := fun W hb => blocks_val (HI10.out.below hb) hRu
       have CFU : Hid (∀ W, Below w10.heap.size w10 W → Calls Tryz.prog 18 #[spV u N2 L2, .string f] W fun e w' => StatR 5 zeroN e w' ∧ Below W.heap.size W w') := fun W hb => stat_val (HI10.out.below hb) f HF.out hRu 5 zeroN (.no 0 5 (.none hpf hnf) (by decide))
       unfold spV at CBU CFU
       clear hRu hi hx1 hpf hnf hsub hlen
       go_wp2_with fail
       refine (CBU.out _ (bel_tr (bel_al _ _) (bel_al _ _))).mono ?_
       rintro e w11 ⟨⟨ys, hys, ⟨r, rfl, hbl⟩⟩, c11⟩
       obtain ⟨k1, k2, k3, k4, k5, k6⟩ := two_boxes c11
       have B11 : Hid (Below w10.heap.size w10 w11) := k5
       have UB : Hid (SpC w11 w10.heap.size u N2 L2) := ⟨k1 0 _ rfl, k1 1 _ rfl, k1 2 _ rfl, k1 3 _ rfl, k1 4 _ rfl, k1 5 _ rfl, k2⟩
       have BW11 : Hid (Below wb.heap.size wb w11) := bel_tr B10.out k5
       have HYS : Hid (sortB u.ns ys) := hys
       have HB1 : Hid (Blks w11 r ys) := hbl
       obtain ⟨p0, p1, p2, p3, p4, p5, _⟩ := (HW.out.below BW11.out).box
       clear c11 k1 k2 k3 k4 k5 k6 hys hbl
       go_wp2_with fail
       refine (CBS.out _ BW11.out).mono ?_
       rintro e w12 ⟨⟨us2, hus, ⟨r2, rfl, hbl2⟩⟩, c12⟩
       have C12 : Hid (Below w11.heap.size w11 w12) := c12
       have HB2 : Hid (Blks w12 r2 us2) := hbl2
       have HB1b : Hid (Blks w12 r ys) := HB1.out.below c12
       have HUP1 : Hid (UpB ys) := HYS.out.2
       have HUP2 : Hid (UpB us2) := hus.2
       have HAM : Hid (Among ys us2 0 0) := among_start (fun b hb => hus.1.symm.subset (HSUB.out.subset (HYS.out.1.subset hb)))
       have hle : Hid (r.n + x1.bs.length ≤ r2.n) := by
         have h1 := HLEN.out
         have h2 := HYS.out.1.length_eq
         have h3 := hus.1.length_eq
         have h4 := HB1.out.len
         have h5 := hbl2.len
         show _ ≤ _
         omega
       clear c12 hbl2 hus p0 p1 p2 p3 p4 p5
       have hln := HB1b.out.len
       have hln2 := HB2.out.len
       have hlid := HB1b.out.lid
       have hlid2 := HB2.out.lid
       unfold maxLen at hlid hlid2
       have HLN : Hid (ys.length = r.n) := hln
       have HLN2 : Hid (us2.length = r2.n) := hln2
       obtain ⟨ra, rn, rc⟩ := r
       obtain ⟨ra2, rn2, rc2⟩ := r2
       simp only at HLN HLN2 hlid hlid2 hle
       clear hln hln2 HB1 HSUB
       go_wp2
       go_loopg [22, 23] rn (fun g v22 v23 wi => ∃ (i at_ : Nat), i + g = rn ∧ at_ ≤ rn2 ∧ v23 = .int .i64 i ∧ v22 = .int .i64 at_ ∧ Among ys us2 i at_ ∧ Below w12.heap.size w12 wi)
       case atStart => exact ⟨0, 0, by omega, by omega, rfl, rfl, HAM.out, Below.refl _ _⟩
       case round =>
         obtain ⟨i, at_, hig, hat, rfl, rfl, hAm, hbi⟩ := hrel
         have HAm : Hid (Among ys us2 i at_) := hAm
         have HBI : Hid (Below w12.heap.size w12 wr) := hbi
         by_cases hi : i < rn
         · have hiy : i < ys.length := by rw [HLN.out]; exact hi
           obtain ⟨pp, hpp, hap, hpe⟩ := hAm.ex i hiy (Nat.le_refl _)
           have hpr : pp < rn2 := by rw [← HLN2.out]; exact hpp
           have HPE : Hid (us2[pp] = ys[i]) := hpe
           have HNX : Hid (Among ys us2 (i + 1) pp) := among_next HUP1.out HUP2.out hAm hiy hpp hpe
           clear hAm hpe hbi
           go_wp2
           rename World => wo
           go_loopg [22] (pp - at_) (fun g v22 wi => ∃ a : Nat, a + g = pp ∧ v22 = .int .i64 a ∧ Below wo.heap.size wo wi)
           case atStart => exact ⟨at_, by omega, rfl, Below.refl _ _⟩
           case round =>
             obtain ⟨a, hag, rfl, hbj⟩ := hrel
             have HBJ : Hid (Below wo.heap.size wo wr) := hbj
             have hau : a < us2.length := by rw [HLN2.out]; omega
             have har : a < rn2 := by omega
             obtain ⟨c1, o1, ha1, hc1⟩ := (HB2.out.below (bel_tr HBI.out hbj)).cells (by show 0 < rn2; omega)
             obtain ⟨c2, o2, ha2, hc2⟩ := (HB1b.out.below (bel_tr HBI.out hbj)).cells (by show 0 < rn; omega)
             simp only at ha1 ha2
             subst ha1 ha2
             have b0 : wr.cell? ⟨c1, o1 + a * 3, none⟩ = some (.int .i64 us2[a].id) := hc1 a hau 0 _ rfl
             have b1 := hc1 a hau 1 _ rfl
             have b2 := hc1 a hau 2 _ rfl
             have d0 : wr.cell? ⟨c2, o2 + i * 3, none⟩ = some (.int .i64 ys[i].id) := hc2 i hiy 0 _ rfl
             have d1 := hc2 i hiy 1 _ rfl
             have d2 := hc2 i hiy 2 _ rfl
             have hgd : decide ((a : Int) < (rn2 : Int)) = true := decide_eq_true (by omega)
             have hgn : decide (a < rn2) = true := decide_eq_true har
             clear hc1 hc2 hbj
             by_cases hap2 : a = pp
             · subst hap2
               have hsame : us2[a] = ys[i] := HPE.out
               rw [hsame] at b0 b1 b2
               clear hsame
               have hne : ((a : Int) == (rn2 : Int)) = false := by rw [beq_eq_false_iff_ne]; omega
               generalize ys[i].id = k0 at *
               generalize ys[i].gen = k1 at *
               generalize ys[i].len = k2 at *
               have HNA : Hid (Among ys us2 (i + 1) a) := HNX.out
               clear HNX HPE hau hiy hpp
               go_wp2
               go_quiet (fail)
               go_wp2
               go_roundg (rn - (i + 1))
               case measure => omega
               case rel => exact ⟨i + 1, a, by omega, by omega, by go_num, rfl, HNA.out, bel_tr HBI.out (bel_tr HBJ.out (bel_drewN _ _))⟩
             · have hid : (us2[a].id == ys[i].id) = false := by
                 have h1 := List.pairwise_iff_getElem.1 HUP2.out a pp hau hpp (by omega)
                 rw [HPE.out] at h1
                 rw [beq_eq_false_iff_ne]; omega
               generalize ys[i].id = k0 at *
               generalize ys[i].gen = k1 at *
               generalize ys[i].len = k2 at *
               generalize us2[a].id = k3 at *
               generalize us2[a].gen = k4 at *
               generalize us2[a].len = k5 at *
               clear HPE HNX hau hiy hpp
               go_wp2
               go_quiet (fail)
               go_wp2
               go_roundg (pp - (a + 1))
               case measure => omega
               case rel => exact ⟨a + 1, by omega, by go_num, bel_tr HBJ.out (bel_drewN _ _)⟩
         · obtain rfl : i = rn := by omega
           have hgd : decide ((i : Int) < (i : Int)) = false := decide_eq_false (by omega)
           have BX := bel_tr C12.out hbi
           obtain ⟨z0, z1, z2, z3, z4, z5, _⟩ := UB.out.below BX
           have v8 := (V9.out.below (bel_tr C10.out (bel_tr B11.out BX))).c8
           have hs1 : x1.bs.length = s1.n := K1b.out.bs.len
           have hle2 : decide ((i : Int) ≤ wrap64 ((rn2 : Int) - (s1.n : Int))) = true := decide_eq_true (by have := hle.out; rw [wrap_sub (by omega) (by omega)]; omega)
           have BXH : Hid (Below w11.heap.size w11 wr) := BX
           simp only at v8
           clear BX hbi hAm
           go_wp2_with (go_at_call 18; refine (CFU.out _ (bel_tr B11.out BXH.out)).mono ?_; rintro e w13 ⟨⟨sF, rfl, hokF⟩, c13⟩; have B13 : Hid (Below wr.heap.size wr w13) := c13; have v8b := bel_cell c13 v8; have hfl := fun W => fieldA 5 zeroB.id zeroB.gen zeroB.len noS.a noS.n noS.c zeroN.path zeroN.dir zeroN.quota sF.a sF.n sF.c zeroN.wr 0 W; unfold anV; clear c13 hokF)
           go_ret
           exact ⟨rfl, bel_tr HW.out.bel (bel_tr BW11.out (bel_tr BXH.out B13.out))⟩
     · have h0b : (D != 0) = true := by simpa using h0
       go_wp2
       go_ret
       exact ⟨rfl, bel_tr HW.out.bel (bel_tr B10.out (bel_tr (bel_al _ _) (bel_al _ _)))⟩

theorem walk (a0 : Option Addr) (b0 off0 cap0 : Nat) (ss0 : List ER) (a1 a2 : ByteArray) (W : World) (h0 : Eds W a0 b0 off0 ss0 ∧ ss0.length ≤ cap0) (h1 : a1.size ≤ maxLen) (h2 : a2.size ≤ maxLen) :
    Calls Tryz.prog 6 #[.slice a0 ss0.length cap0, .string a1, .string a2] W fun e w' => e = .returned (.bool true) ∧ Below W.heap.size W w' :=
  walk_b a0 b0 off0 cap0 _ ss0 a1 a2 W rfl h0.1 h1 h2

set_option maxRecDepth 100000 in
theorem lifted (os : Os) (started : os.Started) (H : Type) (enc : TypeId × Value → H) :
    ReturnsInHanded {} Tryz.checked os 6 .any (Rows.spaceMovesSpec.pre6 enc Tryz.prog Tryz.f6 Rows.spaceMovesRow.domain false) (Rows.spaceMovesSpec.post enc Tryz.prog Tryz.f6 false true false false) := by
  refine returnsInHanded_of_change (C := Tryz.checked) own started (by kernel_rfl) Tryz.func6
    (ChangeSpec.witness6 (enc := enc) (C := Tryz.checked) false ⟨#[], #[.slice none 0 0, .string ByteArray.empty, .string ByteArray.empty], []⟩ 8 (by kernel_rfl) (by kernel_rfl) (by kernel_rfl) (by kernel_rfl)) ?_
  intro W base args ds gs before hval0 hW hcnd _
  have hval : ∀ (j : Nat) t v, Tryz.f6.params[j]? = some t → args[j]? = some v → Value.okWide Tryz.prog W .any base t v := hval0
  have hW' := hW
  obtain ⟨p, q, hA0, hV, rfl, hfz, hnd⟩ := hW
  have hA : DataW.TrodAll enc Tryz.prog W 0 (fun _ => true) true Tryz.f6.params.toList args.toList ds p := hA0
  rw [Tryz.params6] at hA hval
  obtain ⟨v0, vs0, d0, ds0, p0, q0, hargs, rfl, rfl, h0, r0⟩ := trodAll_cons hA
  obtain ⟨v1, vs1, d1, ds1, p1, q1, rfl, rfl, rfl, h1, r1⟩ := trodAll_cons r0
  obtain ⟨v2, vs2, d2, ds2, p2, q2, rfl, rfl, rfl, h2, r2⟩ := trodAll_cons r1
  obtain ⟨rfl, rfl, rfl⟩ := trodAll_nil r2
  obtain rfl : args = #[v0, v1, v2] := by cases args; simp_all
  obtain ⟨rfl, rfl⟩ := trodVars_none hV
  obtain ⟨a0, len0, cap0, rfl⟩ := okWide_slice Tryz.underlying22 (hval 0 22 v0 rfl rfl)
  have k0 := h0
  have lt0 : ∀ x ∈ p0, x.block < W.heap.size := by obtain ⟨m, hm⟩ := k0; exact DataW.trod_lt m _ _ _ hm
  obtain ⟨b0, off0, ss0, rfl, w0⟩ := Spa.open_edits h0
  obtain ⟨a1, rfl, rfl, rfl, w1⟩ := open_string Tryz.underlying9 (hval 1 9 v1 rfl rfl) h1
  obtain ⟨a2, rfl, rfl, rfl, w2⟩ := open_string Tryz.underlying9 (hval 2 9 v2 rfl rfl) h2
  clear hA0 hval0
  refine (walk a0 b0 off0 cap0 ss0 a1 a2 W w0 w1 w2).mono fun e W' ⟨he, bel⟩ => ?_
  subst he
  exact ⟨_, rfl, _, _, _, [], _, [], hW', trodAll_mk1 (shut_bool Tryz.underlying4 _), (trodAll_cons_mk (Below.trod laidOut (by kernel_rfl) (of_decide_eq_true (by kernel_rfl)) k0 bel lt0) (trodAll_cons_mk (shut_string Tryz.underlying9 w1) (trodAll_cons_mk (shut_string Tryz.underlying9 w2) trodAll_mk0))), rfl, bel.frame _, fun h => by cases h⟩

theorem over : Rows.spaceMovesRow.holds Tryz.pinned (OpenSpec.ofChange Rows.spaceMovesSpec) :=
  OpenClaim.holds_of_wide 6 Tryz.f6 rfl rfl rfl rfl rfl rfl rfl ⟨rfl, rfl, rfl, rfl, rfl⟩ rfl rfl rfl rfl rfl (by kernel_rfl) Tryz.func6 (by kernel_rfl)
    (of_decide_eq_true (by kernel_rfl)) (by unfold Func.isWrapper; first | (rw [if_pos (by decide +kernel)]; kernel_rfl) | (rw [if_neg (by decide +kernel)]; exact ⟨rfl, rfl⟩))
    (fun os started H enc _ => lifted os started H enc)
end Go.Proofs.YtaafombnpngblaaGreat.spaceMoves

namespace Go.Proofs.YtaafombnpngblaaGreat
/-- The statement. -/
theorem spaceMoves_holds : Rows.SpaceMovesSaid := spaceMoves.over
#print axioms spaceMoves_holds
end Go.Proofs.YtaafombnpngblaaGreat

