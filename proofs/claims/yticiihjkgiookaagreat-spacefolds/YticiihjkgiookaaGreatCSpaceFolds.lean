/- SpaceFolds: for every list of edits and every number: the statement's function returns true; nothing that was there is changed. No condition. -/
import Derived.Test.YticiihjkgiookaaGreatB30
import Derived.Test.YticiihjkgiookaaGreatB34
import Derived.Test.YticiihjkgiookaaGreatB31
import Derived.Deep.DeepCutAuto
import Derived.Deep.LoopGhost
import Derived.Deep.CutBlock
import Derived.Deep.RegionHeld
import Derived.BigQuiet
namespace Go.Proofs.YticiihjkgiookaaGreat.spaceFolds
open Go.ChangeShapes Go.WideShapes Go.ChangeAt Go.RowKit Go.Proofs.YticiihjkgiookaaGreat Go.Proofs.YticiihjkgiookaaGreat.Spa
open Go.ChangeMaps (open_string shut_string)
open Go.Proofs.YticiihjkgiookaaGreat.Edi (Ed Nm EdAt edV bel_drew)
set_option linter.unusedVariables false

theorem own : ownKnob Tryz.prog.godebug = none := by kernel_rfl
theorem info_ed : ∃ j, Tryz.prog.info? 42 = some j ∧ j.zero = some (.agg #[.int .i64 0, .string ⟨#[]⟩, .string ⟨#[]⟩, .int .i64 0, .int .i64 0, .int .i64 0, .slice none 0 0]) ∧ j.size = 7 ∧ j.bytes = 88 :=
  info_parts (show (Tryz.prog.info? 42).map (fun i => (i.zero, i.size, i.bytes)) = some (some (.agg #[.int .i64 0, .string ⟨#[]⟩, .string ⟨#[]⟩, .int .i64 0, .int .i64 0, .int .i64 0, .slice none 0 0]), 7, 88) by kernel_rfl)

set_option maxRecDepth 100000 in
set_option maxHeartbeats 8000000 in
theorem walk_b (a0 : Option Addr) (b0 off0 cap0 n0 : Nat) (us : List ER) (a1 : Int) (w : World) (hn0 : us.length = n0) (hU : Eds w a0 b0 off0 us) (ha1 : -9223372036854775808 ≤ a1 ∧ a1 ≤ 9223372036854775807) :
    Calls Tryz.prog 3 #[.slice a0 n0 cap0, .int .i64 a1] w fun e w' => e = .returned (.bool true) ∧ Below w.heap.size w w' := by
  have hx0 : n0 ≤ 9223372036854775807 := by have := hU.len; unfold maxLen at this; omega
  have HN : Hid (us.length = n0) := hn0
  have HU : Hid (Eds w a0 b0 off0 us) := hU
  clear hn0 hU
  obtain ⟨ti, hi1, hi2, hi3, hi4⟩ := info_ed
  have hst := run_store_str
  have hst2 : ∀ (w : World) (a : Addr) (x : Option Addr) (n c : Nat) (m : Mode), (store a (.slice x n c) m).run Tryz.prog w = stored Tryz.prog w a (.slice x n c) m := fun w a x n c m => run_store_any w a _ m rfl
  go_enter Tryz.func3, Tryz.ntmps3
  go_wp2_with fail
  refine (examples_val _).mono ?_
  rintro e w1 ⟨rfl, b1⟩
  have B1 : Hid (Below w.heap.size w w1) := b1
  clear b1
  go_wp2_with fail
  refine (new_val _).mono ?_
  rintro e w2 ⟨⟨N0, L0, p0, g0, gl0, bb0, M0, _, rfl, hO0⟩, c2⟩
  have H2 : Hid _ := Fo.start (bel_tr B1.out c2) hO0 27
  clear c2 hO0
  unfold spV
  go_upto_block 0 with fail
  generalize hW : w2.alloc (.cells #[.int .i64 newS.tx, .int .i64 newS.nb, .int .i64 newS.ng, .int .i64 newS.now, .slice N0.a N0.n N0.c, .slice L0.a L0.n L0.c] 27) = w3 at *
  clear hW
  generalize w2.heap.size = q at *
  go_cut [7] (fun v7 wx => ∃ (s : Sp) (N L : RS) (a : Option Addr) (m c : Nat) (vs : List ER), v7 = .slice a m c ∧ m ≤ 60 ∧ Chain newS (vs.map (·.1)) ∧ foldS newS (vs.map (·.1)) = s ∧ Fo w q wx s N L a m c vs)
  case first =>
   go_wp2_with fail
   go_loopg [7, 8] 60 (fun g v7 v wr => ∃ (k : Nat) (s : Sp) (N L : RS) (a : Option Addr) (m c : Nat) (vs : List ER), k ≤ n0 ∧ k + g = 60 ∧ v = .int .i64 k ∧ v7 = .slice a m c ∧ m ≤ k ∧ Chain newS (vs.map (·.1)) ∧ foldS newS (vs.map (·.1)) = s ∧ Fo w q wr s N L a m c vs)
   case atStart => exact ⟨0, newS, N0, L0, none, 0, 0, [], by omega, by omega, rfl, rfl, by omega, Chain.nil _, rfl, H2.out⟩
   case round =>
     obtain ⟨k, s, N, L, ma, m, mc, vs, hk1, hk2, rfl, rfl, hmk, hCh, hFs, hFo⟩ := hrel
     have HCH : Hid (Chain newS (vs.map (·.1)) ∧ foldS newS (vs.map (·.1)) = s) := ⟨hCh, hFs⟩
     have HF : Hid (Fo w q wr s N L ma m mc vs) := hFo
     have HW : Hid (Now w q wr s N L) := hFo.now
     clear hFo H2 hCh hFs
     by_cases hlt : k < n0 ∧ k < 60
     · obtain ⟨hlt0, hlt1⟩ := hlt
       have hk0 : k < us.length := by rw [HN.out]; exact hlt0
       obtain rfl := HU.out.addr (by omega)
       have hEd := (HU.out.below HW.out.bel).at hk0
       have HOK : Hid (EdOk wr us[k]) := (HU.out.below HW.out.bel).ok _ (List.getElem_mem hk0)
       have HOK0 : Hid (EdOk w us[k]) := HU.out.ok _ (List.getElem_mem hk0)
       generalize us[k] = u at *
       obtain ⟨⟨ek, ep, et, ec, el, en, els⟩, ⟨ea, em, eq⟩⟩ := u
       obtain ⟨E, hE⟩ := appE_any s ⟨ek, ep, et, ec, el, en, els⟩
       have CA : Hid (∀ W, Below wr.heap.size wr W → Calls Tryz.prog 7 #[spV s N L, edV ⟨ek, ep, et, ec, el, en, els⟩ ea em eq] W fun r w' => ApR W.heap.size (appS s ⟨ek, ep, et, ec, el, en, els⟩ E) E (appB s ⟨ek, ep, et, ec, el, en, els⟩ E) (appN s ⟨ek, ep, et, ec, el, en, els⟩ E) r w' ∧ Below W.heap.size W w') := fun W hb => apply_any (HW.out.spIn.below hb) _ ea em eq (HOK.out.nm.below hb) E hE
       have HE : Hid (AppE s ⟨ek, ep, et, ec, el, en, els⟩ E) := hE
       obtain ⟨g0, g1, g2, g3, g4, g5, g6⟩ := hEd
       obtain ⟨p0, p1, p2, p3, p4, p5, pf⟩ := HW.out.box
       unfold spV edV at CA
       simp only at CA g0 g1 g2 g3 g4 g5 g6
       have hql : q < wr.heap.size := HW.out.lt
       clear hE hk0
       generalize hXN : appN s ⟨ek, ep, et, ec, el, en, els⟩ E = x at *
       generalize hBK : appB s ⟨ek, ep, et, ec, el, en, els⟩ E = bk at *
       generalize hTS : appS s ⟨ek, ep, et, ec, el, en, els⟩ E = t at *
       go_upto_region 7 with fail
       go_cut [9, 10] (fun v6 v7 wx => ∃ tq aq N1 L1 sx, v6 = .pointer (some ⟨tq, 0, none⟩) ∧ v7 = .pointer (some ⟨aq, 0, none⟩) ∧ Land wr wx tq aq t N1 L1 E bk x sx ∧ wr.heap.size ≤ tq)
       case first =>
         refine wp_region_held_drew (S := fun W => Below wr.heap.size wr W) (by kernel_rfl) (bel_drew wr) (fun hS0 => ?_)
         refine wpAnyH_take (i := 0) (v := ?_) rfl (by kernel_rfl) (by kernel_rfl) (by kernel_rfl) (fun _ _ _ h => h) (Or.inl ⟨by rfl, ?_⟩) hS0 ?_
         rotate_left
         · intro W9 hSw; have d0 := bel_cell hSw p0; have d1 := bel_cell hSw p1; have d2 := bel_cell hSw p2; have d3 := bel_cell hSw p3; have d4 := bel_cell hSw p4; have d5 := bel_cell hSw p5; go_simp; first | done | with_reducible rfl
         skip
         refine wpAnyH_take (i := 1) (v := ?_) rfl (by kernel_rfl) (by kernel_rfl) (by kernel_rfl) (fun _ _ _ h => h) (Or.inl ⟨by rfl, ?_⟩) hS0 ?_
         rotate_left
         · intro W9 hSw; go_simp; first | done | with_reducible rfl
         skip
         refine wpAnyH_take (i := 2) (v := ?_) rfl (by kernel_rfl) (by kernel_rfl) (by kernel_rfl) (fun _ _ _ h => h) (Or.inl ⟨by rfl, ?_⟩) hS0 ?_
         rotate_left
         · intro W9 hSw; go_simp; first | done | with_reducible rfl
         skip
         refine wpAnyH_take (i := 3) (v := ?_) rfl (by kernel_rfl) (by kernel_rfl) (by kernel_rfl) (fun _ _ _ h => h) (Or.inl ⟨by rfl, ?_⟩) hS0 ?_
         rotate_left
         · intro W9 hSw; go_simp; first | done | with_reducible rfl
         skip
         refine wpAnyH_take (i := 4) (v := ?_) rfl (by kernel_rfl) (by kernel_rfl) (by kernel_rfl) (fun _ _ _ h => h) (Or.inl ⟨by rfl, ?_⟩) hS0 ?_
         rotate_left
         · intro W9 hSw; have d0 := bel_cell hSw g0; have d1 := bel_cell hSw g1; have d2 := bel_cell hSw g2; have d3 := bel_cell hSw g3; have d4 := bel_cell hSw g4; have d5 := bel_cell hSw g5; have d6 := bel_cell hSw g6; go_simp; first | done | with_reducible rfl
         skip
         refine wpAnyH_ready (rs := [5, 9, 10]) (by kernel_rfl) (by simp) ?_
         refine AllReadyH.cons rfl (fun K hK => ?_) ?_
         · go_simp
           refine (CA.out _ hS0).mono ?_
           rintro e w5 ⟨⟨N1, L1, ps1, gg1, gl1, base1, M1, sx1, rfl, hO1, hF1, hb1, hb2⟩, c5⟩
           have C5 : Hid _ := c5
           have HO1 : Hid (OwnM base1 w5.heap.size w5 t N1 L1 ps1 gg1 gl1) := hO1.top
           have HF1 : Hid (Free M1 w5 (x, sx1)) := hF1
           have HB1 : Hid (wr.heap.size ≤ base1 ∧ base1 ≤ M1) := ⟨by have := hb1; (try simp at this); omega, hb2⟩
           have HW5 : Hid (wr.heap.size + 0 ≤ w5.heap.size) := by have := c5.size; simp at this; show _ ≤ _; omega
           clear hO1 hF1 hb1 hb2
           try go_simp
           refine hK.out _ _ (bel_tr hS0 c5) (fun hS1 => ?_)
           clear c5
           clear hK K
           refine wpAnyH_take (i := 6) (v := ?_) rfl (by kernel_rfl) (by kernel_rfl) (by kernel_rfl) (fun _ _ _ h => h) (Or.inl ⟨by rfl, ?_⟩) hS1 ?_
           rotate_left
           · intro W9 hSw; go_simp; first | done | with_reducible rfl
           skip
           refine wpAnyH_take (i := 7) (v := ?_) rfl (by kernel_rfl) (by kernel_rfl) (by kernel_rfl) (fun _ _ _ h => h) (Or.inl ⟨by rfl, ?_⟩) hS1 ?_
           rotate_left
           · intro W9 hSw; go_simp; first | done | with_reducible rfl
           skip
           refine wpAnyH_take (i := 8) (v := ?_) rfl (by kernel_rfl) (by kernel_rfl) (by kernel_rfl) (fun _ _ _ h => h) (Or.inl ⟨by rfl, ?_⟩) hS1 ?_
           rotate_left
           · intro W9 hSw; go_simp; first | done | with_reducible rfl
           skip
           refine wpAnyH_ready (rs := [9, 10]) (by kernel_rfl) (by simp) ?_
           refine AllReadyH.cons rfl (fun K hK => ?_) ?_
           · go_simp
             refine hK.out _ _ (bel_tr hS1 (by first | exact bel_al _ _ | exact bel_dal _ _ | exact bel_daal _ _ _)) (fun hS2 => ?_)
             clear hK K
             refine wpAnyH_ready (rs := [10]) (by kernel_rfl) (by simp) ?_
             refine AllReadyH.cons rfl (fun K hK => ?_) ?_
             · go_simp
               refine hK.out _ _ (bel_tr hS2 (by first | exact bel_al _ _ | exact bel_dal _ _ | exact bel_daal _ _ _)) (fun hS3 => ?_)
               clear hK K
               have FS : Hid (SpC ((w5.alloc (.cells #[.int .i64 0, .int .i64 0, .int .i64 0, .int .i64 0, .slice none 0 0, .slice none 0 0] 27)).alloc (.cells #[.int .i64 0, .int .i64 0, .int .i64 0, .int .i64 0, .slice none 0 0, .string ⟨#[]⟩, .bool false, .int .i64 0, .slice none 0 0, .int .i64 0, .int .i64 0] 37)) (w5.heap.size) zeroS noS noS) := (SpC.new w5 27 zeroS noS noS).below (bel_al _ _)
               have FA : Hid (AnC ((w5.alloc (.cells #[.int .i64 0, .int .i64 0, .int .i64 0, .int .i64 0, .slice none 0 0, .slice none 0 0] 27)).alloc (.cells #[.int .i64 0, .int .i64 0, .int .i64 0, .int .i64 0, .slice none 0 0, .string ⟨#[]⟩, .bool false, .int .i64 0, .slice none 0 0, .int .i64 0, .int .i64 0] 37)) (w5.heap.size + 1) 0 zeroB noS zeroX 0) := an_sec w5
               have BL : Hid (Below w5.heap.size w5 ((w5.alloc (.cells #[.int .i64 0, .int .i64 0, .int .i64 0, .int .i64 0, .slice none 0 0, .slice none 0 0] 27)).alloc (.cells #[.int .i64 0, .int .i64 0, .int .i64 0, .int .i64 0, .slice none 0 0, .string ⟨#[]⟩, .bool false, .int .i64 0, .slice none 0 0, .int .i64 0, .int .i64 0] 37))) := bel_tr (bel_al _ _) (bel_al _ _)
               have H7 : Hid (Below wr.heap.size wr ((w5.alloc (.cells #[.int .i64 0, .int .i64 0, .int .i64 0, .int .i64 0, .slice none 0 0, .slice none 0 0] 27)).alloc (.cells #[.int .i64 0, .int .i64 0, .int .i64 0, .int .i64 0, .slice none 0 0, .string ⟨#[]⟩, .bool false, .int .i64 0, .slice none 0 0, .int .i64 0, .int .i64 0] 37))) := hS3
               generalize (w5.alloc (.cells #[.int .i64 0, .int .i64 0, .int .i64 0, .int .i64 0, .slice none 0 0, .slice none 0 0] 27)).alloc (.cells #[.int .i64 0, .int .i64 0, .int .i64 0, .int .i64 0, .slice none 0 0, .string ⟨#[]⟩, .bool false, .int .i64 0, .slice none 0 0, .int .i64 0, .int .i64 0] 37) = w7 at *
               have FA2 : Hid (AnC (put6 w7 (w5.heap.size) t N1 L1) (w5.heap.size + 1) 0 zeroB noS zeroX 0) := an_put6 FS.out FA.out (by have := HW5.out; omega)
               have BS6 : Hid (Below wr.heap.size wr (put6 w7 (w5.heap.size) t N1 L1)) := bel_put6 H7.out FS.out (by have := HW5.out; omega) _ _ _
               have BS11 : Hid (Below wr.heap.size wr (put11 (put6 w7 (w5.heap.size) t N1 L1) (w5.heap.size + 1) E bk noS (x, sx1) 0)) := bel_put11 BS6.out FA2.out (by have := HW5.out; omega) _ _ _ _ _
               have HL : Hid (Land wr (put11 (put6 w7 (w5.heap.size) t N1 L1) (w5.heap.size + 1) E bk noS (x, sx1) 0) (w5.heap.size) (w5.heap.size + 1) t N1 L1 E bk x sx1) := land_of HO1.out HF1.out HB1.out.2 (by have := HB1.out.1; omega) H7.out BL.out FS.out FA.out (by have := HW5.out; omega) (by have := HW5.out; have := HB1.out.1; omega) (by have := HW5.out; have := HB1.out.1; omega) (by have := HW5.out; omega) (by have := HW5.out; omega)
               refine wpAnyH_ready (rs := [11]) (by kernel_rfl) (by simp) ?_
               refine AllReadyH.cons rfl (fun K hK => ?_) ?_
               · skip
                 obtain ⟨z0, z1, z2, z3, z4, z5, zf⟩ := FS.out
                 unfold spV
                 go_simp
                 rw [← put6_def w7 (w5.heap.size) t N1 L1]
                 refine hK.out _ _ BS6.out (fun hS4 => ?_)
                 clear z0 z1 z2 z3 z4 z5 zf
                 generalize put6 w7 (w5.heap.size) t N1 L1 = w8 at *
                 clear hK K
                 refine wpAnyH_ready (rs := [12]) (by kernel_rfl) (by simp) ?_
                 refine AllReadyH.cons rfl (fun K hK => ?_) ?_
                 · skip
                   obtain ⟨z0, z1, z2, z3, z4, z5, z6, z7, z8, z9, z10, zf⟩ := FA2.out
                   unfold anV
                   go_simp
                   rw [← put11_def w8 (w5.heap.size + 1) E bk noS (x, sx1) 0]
                   refine hK.out _ _ BS11.out (fun hS5 => ?_)
                   clear z0 z1 z2 z3 z4 z5 z6 z7 z8 z9 z10 zf
                   generalize put11 w8 (w5.heap.size + 1) E bk noS (x, sx1) 0 = w9 at *
                   clear hK K
                   refine wpAnyH_done (by kernel_rfl) ?_ _
                   go_wp2_with fail
                   go_meet
                   case rel => exact ⟨w5.heap.size, w5.heap.size + 1, N1, L1, sx1, rfl, rfl, HL.out, (by have := HW5.out; omega)⟩
                 exact AllReadyH.nil
               exact AllReadyH.nil
             exact AllReadyH.nil
           refine AllReadyH.cons rfl (fun K hK => ?_) ?_
           · go_simp
             refine hK.out _ _ (bel_tr hS1 (by first | exact bel_al _ _ | exact bel_dal _ _ | exact bel_daal _ _ _)) (fun hS2 => ?_)
             clear hK K
             refine wpAnyH_ready (rs := [9]) (by kernel_rfl) (by simp) ?_
             refine AllReadyH.cons rfl (fun K hK => ?_) ?_
             · go_simp
               refine hK.out _ _ (bel_tr hS2 (by first | exact bel_al _ _ | exact bel_dal _ _ | exact bel_daal _ _ _)) (fun hS3 => ?_)
               clear hK K
               have FS : Hid (SpC ((w5.alloc (.cells #[.int .i64 0, .int .i64 0, .int .i64 0, .int .i64 0, .slice none 0 0, .string ⟨#[]⟩, .bool false, .int .i64 0, .slice none 0 0, .int .i64 0, .int .i64 0] 37)).alloc (.cells #[.int .i64 0, .int .i64 0, .int .i64 0, .int .i64 0, .slice none 0 0, .slice none 0 0] 27)) (w5.heap.size + 1) zeroS noS noS) := sp_sec w5
               have FA : Hid (AnC ((w5.alloc (.cells #[.int .i64 0, .int .i64 0, .int .i64 0, .int .i64 0, .slice none 0 0, .string ⟨#[]⟩, .bool false, .int .i64 0, .slice none 0 0, .int .i64 0, .int .i64 0] 37)).alloc (.cells #[.int .i64 0, .int .i64 0, .int .i64 0, .int .i64 0, .slice none 0 0, .slice none 0 0] 27)) (w5.heap.size) 0 zeroB noS zeroX 0) := (AnC.new w5 37).below (bel_al _ _)
               have BL : Hid (Below w5.heap.size w5 ((w5.alloc (.cells #[.int .i64 0, .int .i64 0, .int .i64 0, .int .i64 0, .slice none 0 0, .string ⟨#[]⟩, .bool false, .int .i64 0, .slice none 0 0, .int .i64 0, .int .i64 0] 37)).alloc (.cells #[.int .i64 0, .int .i64 0, .int .i64 0, .int .i64 0, .slice none 0 0, .slice none 0 0] 27))) := bel_tr (bel_al _ _) (bel_al _ _)
               have H7 : Hid (Below wr.heap.size wr ((w5.alloc (.cells #[.int .i64 0, .int .i64 0, .int .i64 0, .int .i64 0, .slice none 0 0, .string ⟨#[]⟩, .bool false, .int .i64 0, .slice none 0 0, .int .i64 0, .int .i64 0] 37)).alloc (.cells #[.int .i64 0, .int .i64 0, .int .i64 0, .int .i64 0, .slice none 0 0, .slice none 0 0] 27))) := hS3
               generalize (w5.alloc (.cells #[.int .i64 0, .int .i64 0, .int .i64 0, .int .i64 0, .slice none 0 0, .string ⟨#[]⟩, .bool false, .int .i64 0, .slice none 0 0, .int .i64 0, .int .i64 0] 37)).alloc (.cells #[.int .i64 0, .int .i64 0, .int .i64 0, .int .i64 0, .slice none 0 0, .slice none 0 0] 27) = w7 at *
               have FA2 : Hid (AnC (put6 w7 (w5.heap.size + 1) t N1 L1) (w5.heap.size) 0 zeroB noS zeroX 0) := an_put6 FS.out FA.out (by have := HW5.out; omega)
               have BS6 : Hid (Below wr.heap.size wr (put6 w7 (w5.heap.size + 1) t N1 L1)) := bel_put6 H7.out FS.out (by have := HW5.out; omega) _ _ _
               have BS11 : Hid (Below wr.heap.size wr (put11 (put6 w7 (w5.heap.size + 1) t N1 L1) (w5.heap.size) E bk noS (x, sx1) 0)) := bel_put11 BS6.out FA2.out (by have := HW5.out; omega) _ _ _ _ _
               have HL : Hid (Land wr (put11 (put6 w7 (w5.heap.size + 1) t N1 L1) (w5.heap.size) E bk noS (x, sx1) 0) (w5.heap.size + 1) (w5.heap.size) t N1 L1 E bk x sx1) := land_of HO1.out HF1.out HB1.out.2 (by have := HB1.out.1; omega) H7.out BL.out FS.out FA.out (by have := HW5.out; omega) (by have := HW5.out; have := HB1.out.1; omega) (by have := HW5.out; have := HB1.out.1; omega) (by have := HW5.out; omega) (by have := HW5.out; omega)
               refine wpAnyH_ready (rs := [11]) (by kernel_rfl) (by simp) ?_
               refine AllReadyH.cons rfl (fun K hK => ?_) ?_
               · skip
                 obtain ⟨z0, z1, z2, z3, z4, z5, zf⟩ := FS.out
                 unfold spV
                 go_simp
                 rw [← put6_def w7 (w5.heap.size + 1) t N1 L1]
                 refine hK.out _ _ BS6.out (fun hS4 => ?_)
                 clear z0 z1 z2 z3 z4 z5 zf
                 generalize put6 w7 (w5.heap.size + 1) t N1 L1 = w8 at *
                 clear hK K
                 refine wpAnyH_ready (rs := [12]) (by kernel_rfl) (by simp) ?_
                 refine AllReadyH.cons rfl (fun K hK => ?_) ?_
                 · skip
                   obtain ⟨z0, z1, z2, z3, z4, z5, z6, z7, z8, z9, z10, zf⟩ := FA2.out
                   unfold anV
                   go_simp
                   rw [← put11_def w8 (w5.heap.size) E bk noS (x, sx1) 0]
                   refine hK.out _ _ BS11.out (fun hS5 => ?_)
                   clear z0 z1 z2 z3 z4 z5 z6 z7 z8 z9 z10 zf
                   generalize put11 w8 (w5.heap.size) E bk noS (x, sx1) 0 = w9 at *
                   clear hK K
                   refine wpAnyH_done (by kernel_rfl) ?_ _
                   go_wp2_with fail
                   go_meet
                   case rel => exact ⟨w5.heap.size + 1, w5.heap.size, N1, L1, sx1, rfl, rfl, HL.out, (by have := HW5.out; omega)⟩
                 exact AllReadyH.nil
               exact AllReadyH.nil
             exact AllReadyH.nil
           exact AllReadyH.nil
         refine AllReadyH.cons rfl (fun K hK => ?_) ?_
         · go_simp
           refine hK.out _ _ (bel_tr hS0 (by first | exact bel_al _ _ | exact bel_dal _ _ | exact bel_daal _ _ _)) (fun hS1 => ?_)
           clear hK K
           refine wpAnyH_ready (rs := [5, 10]) (by kernel_rfl) (by simp) ?_
           refine AllReadyH.cons rfl (fun K hK => ?_) ?_
           · go_simp
             refine (CA.out _ hS1).mono ?_
             rintro e w5 ⟨⟨N1, L1, ps1, gg1, gl1, base1, M1, sx1, rfl, hO1, hF1, hb1, hb2⟩, c5⟩
             have C5 : Hid _ := c5
             have HO1 : Hid (OwnM base1 w5.heap.size w5 t N1 L1 ps1 gg1 gl1) := hO1.top
             have HF1 : Hid (Free M1 w5 (x, sx1)) := hF1
             have HB1 : Hid (wr.heap.size + 1 ≤ base1 ∧ base1 ≤ M1) := ⟨by have := hb1; (try simp at this); omega, hb2⟩
             have HW5 : Hid (wr.heap.size + 1 ≤ w5.heap.size) := by have := c5.size; simp at this; show _ ≤ _; omega
             clear hO1 hF1 hb1 hb2
             try go_simp
             refine hK.out _ _ (bel_tr hS1 c5) (fun hS2 => ?_)
             clear c5
             clear hK K
             refine wpAnyH_take (i := 6) (v := ?_) rfl (by kernel_rfl) (by kernel_rfl) (by kernel_rfl) (fun _ _ _ h => h) (Or.inl ⟨by rfl, ?_⟩) hS2 ?_
             rotate_left
             · intro W9 hSw; go_simp; first | done | with_reducible rfl
             skip
             refine wpAnyH_take (i := 7) (v := ?_) rfl (by kernel_rfl) (by kernel_rfl) (by kernel_rfl) (fun _ _ _ h => h) (Or.inl ⟨by rfl, ?_⟩) hS2 ?_
             rotate_left
             · intro W9 hSw; go_simp; first | done | with_reducible rfl
             skip
             refine wpAnyH_take (i := 8) (v := ?_) rfl (by kernel_rfl) (by kernel_rfl) (by kernel_rfl) (fun _ _ _ h => h) (Or.inl ⟨by rfl, ?_⟩) hS2 ?_
             rotate_left
             · intro W9 hSw; go_simp; first | done | with_reducible rfl
             skip
             refine wpAnyH_ready (rs := [10]) (by kernel_rfl) (by simp) ?_
             refine AllReadyH.cons rfl (fun K hK => ?_) ?_
             · go_simp
               refine hK.out _ _ (bel_tr hS2 (by first | exact bel_al _ _ | exact bel_dal _ _ | exact bel_daal _ _ _)) (fun hS3 => ?_)
               clear hK K
               have FS : Hid (SpC (w5.alloc (.cells #[.int .i64 0, .int .i64 0, .int .i64 0, .int .i64 0, .slice none 0 0, .string ⟨#[]⟩, .bool false, .int .i64 0, .slice none 0 0, .int .i64 0, .int .i64 0] 37)) (wr.heap.size) zeroS noS noS) := (sp_one C5.out).below (bel_al _ _)
               have FA : Hid (AnC (w5.alloc (.cells #[.int .i64 0, .int .i64 0, .int .i64 0, .int .i64 0, .slice none 0 0, .string ⟨#[]⟩, .bool false, .int .i64 0, .slice none 0 0, .int .i64 0, .int .i64 0] 37)) (w5.heap.size) 0 zeroB noS zeroX 0) := AnC.new w5 37
               have BL : Hid (Below w5.heap.size w5 (w5.alloc (.cells #[.int .i64 0, .int .i64 0, .int .i64 0, .int .i64 0, .slice none 0 0, .string ⟨#[]⟩, .bool false, .int .i64 0, .slice none 0 0, .int .i64 0, .int .i64 0] 37))) := bel_al _ _
               have H7 : Hid (Below wr.heap.size wr (w5.alloc (.cells #[.int .i64 0, .int .i64 0, .int .i64 0, .int .i64 0, .slice none 0 0, .string ⟨#[]⟩, .bool false, .int .i64 0, .slice none 0 0, .int .i64 0, .int .i64 0] 37))) := hS3
               generalize w5.alloc (.cells #[.int .i64 0, .int .i64 0, .int .i64 0, .int .i64 0, .slice none 0 0, .string ⟨#[]⟩, .bool false, .int .i64 0, .slice none 0 0, .int .i64 0, .int .i64 0] 37) = w7 at *
               have FA2 : Hid (AnC (put6 w7 (wr.heap.size) t N1 L1) (w5.heap.size) 0 zeroB noS zeroX 0) := an_put6 FS.out FA.out (by have := HW5.out; omega)
               have BS6 : Hid (Below wr.heap.size wr (put6 w7 (wr.heap.size) t N1 L1)) := bel_put6 H7.out FS.out (by have := HW5.out; omega) _ _ _
               have BS11 : Hid (Below wr.heap.size wr (put11 (put6 w7 (wr.heap.size) t N1 L1) (w5.heap.size) E bk noS (x, sx1) 0)) := bel_put11 BS6.out FA2.out (by have := HW5.out; omega) _ _ _ _ _
               have HL : Hid (Land wr (put11 (put6 w7 (wr.heap.size) t N1 L1) (w5.heap.size) E bk noS (x, sx1) 0) (wr.heap.size) (w5.heap.size) t N1 L1 E bk x sx1) := land_of HO1.out HF1.out HB1.out.2 (by have := HB1.out.1; omega) H7.out BL.out FS.out FA.out (by have := HW5.out; omega) (by have := HW5.out; have := HB1.out.1; omega) (by have := HW5.out; have := HB1.out.1; omega) (by have := HW5.out; omega) (by have := HW5.out; omega)
               refine wpAnyH_ready (rs := [11]) (by kernel_rfl) (by simp) ?_
               refine AllReadyH.cons rfl (fun K hK => ?_) ?_
               · skip
                 obtain ⟨z0, z1, z2, z3, z4, z5, zf⟩ := FS.out
                 unfold spV
                 go_simp
                 rw [← put6_def w7 (wr.heap.size) t N1 L1]
                 refine hK.out _ _ BS6.out (fun hS4 => ?_)
                 clear z0 z1 z2 z3 z4 z5 zf
                 generalize put6 w7 (wr.heap.size) t N1 L1 = w8 at *
                 clear hK K
                 refine wpAnyH_ready (rs := [12]) (by kernel_rfl) (by simp) ?_
                 refine AllReadyH.cons rfl (fun K hK => ?_) ?_
                 · skip
                   obtain ⟨z0, z1, z2, z3, z4, z5, z6, z7, z8, z9, z10, zf⟩ := FA2.out
                   unfold anV
                   go_simp
                   rw [← put11_def w8 (w5.heap.size) E bk noS (x, sx1) 0]
                   refine hK.out _ _ BS11.out (fun hS5 => ?_)
                   clear z0 z1 z2 z3 z4 z5 z6 z7 z8 z9 z10 zf
                   generalize put11 w8 (w5.heap.size) E bk noS (x, sx1) 0 = w9 at *
                   clear hK K
                   refine wpAnyH_done (by kernel_rfl) ?_ _
                   go_wp2_with fail
                   go_meet
                   case rel => exact ⟨wr.heap.size, w5.heap.size, N1, L1, sx1, rfl, rfl, HL.out, (by have := HW5.out; omega)⟩
                 exact AllReadyH.nil
               exact AllReadyH.nil
             exact AllReadyH.nil
           refine AllReadyH.cons rfl (fun K hK => ?_) ?_
           · go_simp
             refine hK.out _ _ (bel_tr hS1 (by first | exact bel_al _ _ | exact bel_dal _ _ | exact bel_daal _ _ _)) (fun hS2 => ?_)
             clear hK K
             refine wpAnyH_ready (rs := [5]) (by kernel_rfl) (by simp) ?_
             refine AllReadyH.cons rfl (fun K hK => ?_) ?_
             · go_simp
               refine (CA.out _ hS2).mono ?_
               rintro e w5 ⟨⟨N1, L1, ps1, gg1, gl1, base1, M1, sx1, rfl, hO1, hF1, hb1, hb2⟩, c5⟩
               have C5 : Hid _ := c5
               have HO1 : Hid (OwnM base1 w5.heap.size w5 t N1 L1 ps1 gg1 gl1) := hO1.top
               have HF1 : Hid (Free M1 w5 (x, sx1)) := hF1
               have HB1 : Hid (wr.heap.size + 1 + 1 ≤ base1 ∧ base1 ≤ M1) := ⟨by have := hb1; (try simp at this); omega, hb2⟩
               have HW5 : Hid (wr.heap.size + 2 ≤ w5.heap.size) := by have := c5.size; simp at this; show _ ≤ _; omega
               clear hO1 hF1 hb1 hb2
               try go_simp
               refine hK.out _ _ (bel_tr hS2 c5) (fun hS3 => ?_)
               clear c5
               clear hK K
               have FS : Hid (SpC (w5) (wr.heap.size) zeroS noS noS) := sp_first C5.out
               have FA : Hid (AnC (w5) (wr.heap.size + 1) 0 zeroB noS zeroX 0) := an_second C5.out
               have BL : Hid (Below w5.heap.size w5 (w5)) := Below.refl _ _
               have H7 : Hid (Below wr.heap.size wr (w5)) := hS3
               have FA2 : Hid (AnC (put6 w5 (wr.heap.size) t N1 L1) (wr.heap.size + 1) 0 zeroB noS zeroX 0) := an_put6 FS.out FA.out (by have := HW5.out; omega)
               have BS6 : Hid (Below wr.heap.size wr (put6 w5 (wr.heap.size) t N1 L1)) := bel_put6 H7.out FS.out (by have := HW5.out; omega) _ _ _
               have BS11 : Hid (Below wr.heap.size wr (put11 (put6 w5 (wr.heap.size) t N1 L1) (wr.heap.size + 1) E bk noS (x, sx1) 0)) := bel_put11 BS6.out FA2.out (by have := HW5.out; omega) _ _ _ _ _
               have HL : Hid (Land wr (put11 (put6 w5 (wr.heap.size) t N1 L1) (wr.heap.size + 1) E bk noS (x, sx1) 0) (wr.heap.size) (wr.heap.size + 1) t N1 L1 E bk x sx1) := land_of HO1.out HF1.out HB1.out.2 (by have := HB1.out.1; omega) H7.out BL.out FS.out FA.out (by have := HW5.out; omega) (by have := HW5.out; have := HB1.out.1; omega) (by have := HW5.out; have := HB1.out.1; omega) (by have := HW5.out; omega) (by have := HW5.out; omega)
               refine wpAnyH_take (i := 6) (v := ?_) rfl (by kernel_rfl) (by kernel_rfl) (by kernel_rfl) (fun _ _ _ h => h) (Or.inl ⟨by rfl, ?_⟩) hS3 ?_
               rotate_left
               · intro W9 hSw; go_simp; first | done | with_reducible rfl
               skip
               refine wpAnyH_take (i := 7) (v := ?_) rfl (by kernel_rfl) (by kernel_rfl) (by kernel_rfl) (fun _ _ _ h => h) (Or.inl ⟨by rfl, ?_⟩) hS3 ?_
               rotate_left
               · intro W9 hSw; go_simp; first | done | with_reducible rfl
               skip
               refine wpAnyH_take (i := 8) (v := ?_) rfl (by kernel_rfl) (by kernel_rfl) (by kernel_rfl) (fun _ _ _ h => h) (Or.inl ⟨by rfl, ?_⟩) hS3 ?_
               rotate_left
               · intro W9 hSw; go_simp; first | done | with_reducible rfl
               skip
               refine wpAnyH_ready (rs := [11]) (by kernel_rfl) (by simp) ?_
               refine AllReadyH.cons rfl (fun K hK => ?_) ?_
               · skip
                 obtain ⟨z0, z1, z2, z3, z4, z5, zf⟩ := FS.out
                 unfold spV
                 go_simp
                 rw [← put6_def w5 (wr.heap.size) t N1 L1]
                 refine hK.out _ _ BS6.out (fun hS4 => ?_)
                 clear z0 z1 z2 z3 z4 z5 zf
                 generalize put6 w5 (wr.heap.size) t N1 L1 = w8 at *
                 clear hK K
                 refine wpAnyH_ready (rs := [12]) (by kernel_rfl) (by simp) ?_
                 refine AllReadyH.cons rfl (fun K hK => ?_) ?_
                 · skip
                   obtain ⟨z0, z1, z2, z3, z4, z5, z6, z7, z8, z9, z10, zf⟩ := FA2.out
                   unfold anV
                   go_simp
                   rw [← put11_def w8 (wr.heap.size + 1) E bk noS (x, sx1) 0]
                   refine hK.out _ _ BS11.out (fun hS5 => ?_)
                   clear z0 z1 z2 z3 z4 z5 z6 z7 z8 z9 z10 zf
                   generalize put11 w8 (wr.heap.size + 1) E bk noS (x, sx1) 0 = w9 at *
                   clear hK K
                   refine wpAnyH_done (by kernel_rfl) ?_ _
                   go_wp2_with fail
                   go_meet
                   case rel => exact ⟨wr.heap.size, wr.heap.size + 1, N1, L1, sx1, rfl, rfl, HL.out, (by have := HW5.out; omega)⟩
                 exact AllReadyH.nil
               exact AllReadyH.nil
             exact AllReadyH.nil
           exact AllReadyH.nil
         refine AllReadyH.cons rfl (fun K hK => ?_) ?_
         · go_simp
           refine hK.out _ _ (bel_tr hS0 (by first | exact bel_al _ _ | exact bel_dal _ _ | exact bel_daal _ _ _)) (fun hS1 => ?_)
           clear hK K
           refine wpAnyH_ready (rs := [5, 9]) (by kernel_rfl) (by simp) ?_
           refine AllReadyH.cons rfl (fun K hK => ?_) ?_
           · go_simp
             refine (CA.out _ hS1).mono ?_
             rintro e w5 ⟨⟨N1, L1, ps1, gg1, gl1, base1, M1, sx1, rfl, hO1, hF1, hb1, hb2⟩, c5⟩
             have C5 : Hid _ := c5
             have HO1 : Hid (OwnM base1 w5.heap.size w5 t N1 L1 ps1 gg1 gl1) := hO1.top
             have HF1 : Hid (Free M1 w5 (x, sx1)) := hF1
             have HB1 : Hid (wr.heap.size + 1 ≤ base1 ∧ base1 ≤ M1) := ⟨by have := hb1; (try simp at this); omega, hb2⟩
             have HW5 : Hid (wr.heap.size + 1 ≤ w5.heap.size) := by have := c5.size; simp at this; show _ ≤ _; omega
             clear hO1 hF1 hb1 hb2
             try go_simp
             refine hK.out _ _ (bel_tr hS1 c5) (fun hS2 => ?_)
             clear c5
             clear hK K
             refine wpAnyH_take (i := 6) (v := ?_) rfl (by kernel_rfl) (by kernel_rfl) (by kernel_rfl) (fun _ _ _ h => h) (Or.inl ⟨by rfl, ?_⟩) hS2 ?_
             rotate_left
             · intro W9 hSw; go_simp; first | done | with_reducible rfl
             skip
             refine wpAnyH_take (i := 7) (v := ?_) rfl (by kernel_rfl) (by kernel_rfl) (by kernel_rfl) (fun _ _ _ h => h) (Or.inl ⟨by rfl, ?_⟩) hS2 ?_
             rotate_left
             · intro W9 hSw; go_simp; first | done | with_reducible rfl
             skip
             refine wpAnyH_take (i := 8) (v := ?_) rfl (by kernel_rfl) (by kernel_rfl) (by kernel_rfl) (fun _ _ _ h => h) (Or.inl ⟨by rfl, ?_⟩) hS2 ?_
             rotate_left
             · intro W9 hSw; go_simp; first | done | with_reducible rfl
             skip
             refine wpAnyH_ready (rs := [9]) (by kernel_rfl) (by simp) ?_
             refine AllReadyH.cons rfl (fun K hK => ?_) ?_
             · go_simp
               refine hK.out _ _ (bel_tr hS2 (by first | exact bel_al _ _ | exact bel_dal _ _ | exact bel_daal _ _ _)) (fun hS3 => ?_)
               clear hK K
               have FS : Hid (SpC (w5.alloc (.cells #[.int .i64 0, .int .i64 0, .int .i64 0, .int .i64 0, .slice none 0 0, .slice none 0 0] 27)) (w5.heap.size) zeroS noS noS) := SpC.new w5 27 zeroS noS noS
               have FA : Hid (AnC (w5.alloc (.cells #[.int .i64 0, .int .i64 0, .int .i64 0, .int .i64 0, .slice none 0 0, .slice none 0 0] 27)) (wr.heap.size) 0 zeroB noS zeroX 0) := (an_one C5.out).below (bel_al _ _)
               have BL : Hid (Below w5.heap.size w5 (w5.alloc (.cells #[.int .i64 0, .int .i64 0, .int .i64 0, .int .i64 0, .slice none 0 0, .slice none 0 0] 27))) := bel_al _ _
               have H7 : Hid (Below wr.heap.size wr (w5.alloc (.cells #[.int .i64 0, .int .i64 0, .int .i64 0, .int .i64 0, .slice none 0 0, .slice none 0 0] 27))) := hS3
               generalize w5.alloc (.cells #[.int .i64 0, .int .i64 0, .int .i64 0, .int .i64 0, .slice none 0 0, .slice none 0 0] 27) = w7 at *
               have FA2 : Hid (AnC (put6 w7 (w5.heap.size) t N1 L1) (wr.heap.size) 0 zeroB noS zeroX 0) := an_put6 FS.out FA.out (by have := HW5.out; omega)
               have BS6 : Hid (Below wr.heap.size wr (put6 w7 (w5.heap.size) t N1 L1)) := bel_put6 H7.out FS.out (by have := HW5.out; omega) _ _ _
               have BS11 : Hid (Below wr.heap.size wr (put11 (put6 w7 (w5.heap.size) t N1 L1) (wr.heap.size) E bk noS (x, sx1) 0)) := bel_put11 BS6.out FA2.out (by have := HW5.out; omega) _ _ _ _ _
               have HL : Hid (Land wr (put11 (put6 w7 (w5.heap.size) t N1 L1) (wr.heap.size) E bk noS (x, sx1) 0) (w5.heap.size) (wr.heap.size) t N1 L1 E bk x sx1) := land_of HO1.out HF1.out HB1.out.2 (by have := HB1.out.1; omega) H7.out BL.out FS.out FA.out (by have := HW5.out; omega) (by have := HW5.out; have := HB1.out.1; omega) (by have := HW5.out; have := HB1.out.1; omega) (by have := HW5.out; omega) (by have := HW5.out; omega)
               refine wpAnyH_ready (rs := [11]) (by kernel_rfl) (by simp) ?_
               refine AllReadyH.cons rfl (fun K hK => ?_) ?_
               · skip
                 obtain ⟨z0, z1, z2, z3, z4, z5, zf⟩ := FS.out
                 unfold spV
                 go_simp
                 rw [← put6_def w7 (w5.heap.size) t N1 L1]
                 refine hK.out _ _ BS6.out (fun hS4 => ?_)
                 clear z0 z1 z2 z3 z4 z5 zf
                 generalize put6 w7 (w5.heap.size) t N1 L1 = w8 at *
                 clear hK K
                 refine wpAnyH_ready (rs := [12]) (by kernel_rfl) (by simp) ?_
                 refine AllReadyH.cons rfl (fun K hK => ?_) ?_
                 · skip
                   obtain ⟨z0, z1, z2, z3, z4, z5, z6, z7, z8, z9, z10, zf⟩ := FA2.out
                   unfold anV
                   go_simp
                   rw [← put11_def w8 (wr.heap.size) E bk noS (x, sx1) 0]
                   refine hK.out _ _ BS11.out (fun hS5 => ?_)
                   clear z0 z1 z2 z3 z4 z5 z6 z7 z8 z9 z10 zf
                   generalize put11 w8 (wr.heap.size) E bk noS (x, sx1) 0 = w9 at *
                   clear hK K
                   refine wpAnyH_done (by kernel_rfl) ?_ _
                   go_wp2_with fail
                   go_meet
                   case rel => exact ⟨w5.heap.size, wr.heap.size, N1, L1, sx1, rfl, rfl, HL.out, (by have := HW5.out; omega)⟩
                 exact AllReadyH.nil
               exact AllReadyH.nil
             exact AllReadyH.nil
           refine AllReadyH.cons rfl (fun K hK => ?_) ?_
           · go_simp
             refine hK.out _ _ (bel_tr hS1 (by first | exact bel_al _ _ | exact bel_dal _ _ | exact bel_daal _ _ _)) (fun hS2 => ?_)
             clear hK K
             refine wpAnyH_ready (rs := [5]) (by kernel_rfl) (by simp) ?_
             refine AllReadyH.cons rfl (fun K hK => ?_) ?_
             · go_simp
               refine (CA.out _ hS2).mono ?_
               rintro e w5 ⟨⟨N1, L1, ps1, gg1, gl1, base1, M1, sx1, rfl, hO1, hF1, hb1, hb2⟩, c5⟩
               have C5 : Hid _ := c5
               have HO1 : Hid (OwnM base1 w5.heap.size w5 t N1 L1 ps1 gg1 gl1) := hO1.top
               have HF1 : Hid (Free M1 w5 (x, sx1)) := hF1
               have HB1 : Hid (wr.heap.size + 1 + 1 ≤ base1 ∧ base1 ≤ M1) := ⟨by have := hb1; (try simp at this); omega, hb2⟩
               have HW5 : Hid (wr.heap.size + 2 ≤ w5.heap.size) := by have := c5.size; simp at this; show _ ≤ _; omega
               clear hO1 hF1 hb1 hb2
               try go_simp
               refine hK.out _ _ (bel_tr hS2 c5) (fun hS3 => ?_)
               clear c5
               clear hK K
               have FS : Hid (SpC (w5) (wr.heap.size + 1) zeroS noS noS) := sp_second C5.out
               have FA : Hid (AnC (w5) (wr.heap.size) 0 zeroB noS zeroX 0) := an_first C5.out
               have BL : Hid (Below w5.heap.size w5 (w5)) := Below.refl _ _
               have H7 : Hid (Below wr.heap.size wr (w5)) := hS3
               have FA2 : Hid (AnC (put6 w5 (wr.heap.size + 1) t N1 L1) (wr.heap.size) 0 zeroB noS zeroX 0) := an_put6 FS.out FA.out (by have := HW5.out; omega)
               have BS6 : Hid (Below wr.heap.size wr (put6 w5 (wr.heap.size + 1) t N1 L1)) := bel_put6 H7.out FS.out (by have := HW5.out; omega) _ _ _
               have BS11 : Hid (Below wr.heap.size wr (put11 (put6 w5 (wr.heap.size + 1) t N1 L1) (wr.heap.size) E bk noS (x, sx1) 0)) := bel_put11 BS6.out FA2.out (by have := HW5.out; omega) _ _ _ _ _
               have HL : Hid (Land wr (put11 (put6 w5 (wr.heap.size + 1) t N1 L1) (wr.heap.size) E bk noS (x, sx1) 0) (wr.heap.size + 1) (wr.heap.size) t N1 L1 E bk x sx1) := land_of HO1.out HF1.out HB1.out.2 (by have := HB1.out.1; omega) H7.out BL.out FS.out FA.out (by have := HW5.out; omega) (by have := HW5.out; have := HB1.out.1; omega) (by have := HW5.out; have := HB1.out.1; omega) (by have := HW5.out; omega) (by have := HW5.out; omega)
               refine wpAnyH_take (i := 6) (v := ?_) rfl (by kernel_rfl) (by kernel_rfl) (by kernel_rfl) (fun _ _ _ h => h) (Or.inl ⟨by rfl, ?_⟩) hS3 ?_
               rotate_left
               · intro W9 hSw; go_simp; first | done | with_reducible rfl
               skip
               refine wpAnyH_take (i := 7) (v := ?_) rfl (by kernel_rfl) (by kernel_rfl) (by kernel_rfl) (fun _ _ _ h => h) (Or.inl ⟨by rfl, ?_⟩) hS3 ?_
               rotate_left
               · intro W9 hSw; go_simp; first | done | with_reducible rfl
               skip
               refine wpAnyH_take (i := 8) (v := ?_) rfl (by kernel_rfl) (by kernel_rfl) (by kernel_rfl) (fun _ _ _ h => h) (Or.inl ⟨by rfl, ?_⟩) hS3 ?_
               rotate_left
               · intro W9 hSw; go_simp; first | done | with_reducible rfl
               skip
               refine wpAnyH_ready (rs := [11]) (by kernel_rfl) (by simp) ?_
               refine AllReadyH.cons rfl (fun K hK => ?_) ?_
               · skip
                 obtain ⟨z0, z1, z2, z3, z4, z5, zf⟩ := FS.out
                 unfold spV
                 go_simp
                 rw [← put6_def w5 (wr.heap.size + 1) t N1 L1]
                 refine hK.out _ _ BS6.out (fun hS4 => ?_)
                 clear z0 z1 z2 z3 z4 z5 zf
                 generalize put6 w5 (wr.heap.size + 1) t N1 L1 = w8 at *
                 clear hK K
                 refine wpAnyH_ready (rs := [12]) (by kernel_rfl) (by simp) ?_
                 refine AllReadyH.cons rfl (fun K hK => ?_) ?_
                 · skip
                   obtain ⟨z0, z1, z2, z3, z4, z5, z6, z7, z8, z9, z10, zf⟩ := FA2.out
                   unfold anV
                   go_simp
                   rw [← put11_def w8 (wr.heap.size) E bk noS (x, sx1) 0]
                   refine hK.out _ _ BS11.out (fun hS5 => ?_)
                   clear z0 z1 z2 z3 z4 z5 z6 z7 z8 z9 z10 zf
                   generalize put11 w8 (wr.heap.size) E bk noS (x, sx1) 0 = w9 at *
                   clear hK K
                   refine wpAnyH_done (by kernel_rfl) ?_ _
                   go_wp2_with fail
                   go_meet
                   case rel => exact ⟨wr.heap.size + 1, wr.heap.size, N1, L1, sx1, rfl, rfl, HL.out, (by have := HW5.out; omega)⟩
                 exact AllReadyH.nil
               exact AllReadyH.nil
             exact AllReadyH.nil
           exact AllReadyH.nil
         exact AllReadyH.nil
       case rest =>
         obtain ⟨tq, aq, N1, L1, sx, rfl, rfl, hL, htq⟩ := hcut
         have HL : Hid (Land wr wc tq aq t N1 L1 E bk x sx ∧ wr.heap.size ≤ tq) := ⟨hL, htq⟩
         have e0 := hL.an.c0
         have HFc : Hid (Fo w q wc s N L ma m mc vs) := HF.out.below hL.bel
         have d0 := bel_cell hL.bel g0
         have d1 := bel_cell hL.bel g1
         have d2 := bel_cell hL.bel g2
         have d3 := bel_cell hL.bel g3
         have d4 := bel_cell hL.bel g4
         have d5 := bel_cell hL.bel g5
         have d6 := bel_cell hL.bel g6
         clear hL htq CA p0 p1 p2 p3 p4 p5 pf g0 g1 g2 g3 g4 g5 g6
         by_cases h0 : E = 0
         · subst h0
           have hts : doS s ⟨ek, ep, et, ec, el, en, els⟩ = t := hTS
           have HCN : Hid (Chain newS ((vs ++ [((⟨ek, ep, et, ec, el, en, els⟩ : Ed), (⟨ea, em, eq⟩ : RS))]).map (·.1)) ∧ foldS newS ((vs ++ [((⟨ek, ep, et, ec, el, en, els⟩ : Ed), (⟨ea, em, eq⟩ : RS))]).map (·.1)) = t) := by
             obtain ⟨c1, c2⟩ := HCH.out
             rw [List.map_append]
             refine ⟨c1.snoc (by rw [c2]; exact HE.out), ?_⟩
             rw [fold_app, c2]
             exact hts
           obtain ⟨gm, hC, hgm⟩ := HF.out.cel
           have CW : Hid (Cel (fun k => w.heap.size ≤ k) (wc.alloc (.cells #[.int .i64 ek, .string ep, .string et, .int .i64 ec, .int .i64 el, .int .i64 en, .slice ea em eq] 42)) 7 (.slice ma m mc) m (rowC edC vs) gm) := (hC.below HL.out.1.bel).below (bel_al _ _)
           have HGM : Hid (∀ k, gm = some k → k ≠ q ∧ k < wr.heap.size ∧ w.heap.size ≤ k) := hgm
           have SW : Hid (Src Tryz.prog 7 22 (.slice (some ⟨wc.heap.size, 0, none⟩) 1 1) 1 (edC ((⟨ek, ep, et, ec, el, en, els⟩ : Ed), (⟨ea, em, eq⟩ : RS))) (wc.alloc (.cells #[.int .i64 ek, .string ep, .string et, .int .i64 ec, .int .i64 el, .int .i64 en, .slice ea em eq] 42))) := src_edit wc ((⟨ek, ep, et, ec, el, en, els⟩ : Ed), (⟨ea, em, eq⟩ : RS))
           clear hTS hts hC hgm
           go_wp2_with (at_builtin; refine wpList_append_cel _ rfl _ _ 22 22 rfl 42 ti _ 7 88 Tryz.underlying22 hi1 hi2 hi3 hi4 rfl (O := fun k => w.heap.size ≤ k) (.slice ma m mc) m _ gm rfl CW.out _ 1 (edC ((⟨ek, ep, et, ec, el, en, els⟩ : Ed), (⟨ea, em, eq⟩ : RS))) rfl SW.out (by unfold maxLen; omega) (by omega) ?_; intro a7 c7 w7 g7 hC7 hS7 hg7; have H7 : Hid (SpC w7 tq t N1 L1 ∧ SpC w7 q s N L ∧ Fo w q (put6 w7 q t N1 L1) t N1 L1 a7 (m + 1) c7 (vs ++ [((⟨ek, ep, et, ec, el, en, els⟩ : Ed), (⟨ea, em, eq⟩ : RS))])) := fo_next HF.out HL.out.1 hql HL.out.2 HGM.out _ HOK0.out hC7 hS7 hg7; clear hC7 hS7 hg7 d0 d1 d2 d3 d4 d5 d6 e0; obtain ⟨z0, z1, z2, z3, z4, z5, _⟩ := H7.out.1; obtain ⟨x0, x1, x2, x3, x4, x5, xf⟩ := H7.out.2.1; have HPUT : Hid (Fo w q (put6 w7 q t N1 L1) t N1 L1 a7 (m + 1) c7 (vs ++ [((⟨ek, ep, et, ec, el, en, els⟩ : Ed), (⟨ea, em, eq⟩ : RS))])) := H7.out.2.2; rw [put6_def] at HPUT; clear H7 CW SW)
           go_roundg (60 - (k + 1))
           case measure => omega
           case rel => exact ⟨k + 1, t, N1, L1, a7, m + 1, c7, vs ++ [((⟨ek, ep, et, ec, el, en, els⟩ : Ed), (⟨ea, em, eq⟩ : RS))], by omega, by omega, by go_num, rfl, by omega, HCN.out.1, HCN.out.2, HPUT.out⟩
         · have h0b : (E != 0) = true := by simpa using h0
           have h0c : (E == 0) = false := by simpa using h0
           go_wp2
           go_roundg (60 - (k + 1))
           case measure => omega
           case rel => exact ⟨k + 1, s, N, L, ma, m, mc, vs, by omega, by omega, by go_num, rfl, by omega, HCH.out.1, HCH.out.2, HFc.out⟩
     · by_cases hk0 : k < n0
       · have hg1 : decide ((k : Int) < (n0 : Int)) = true := decide_eq_true (by omega)
         have hg2 : decide ((k : Int) < 60) = false := decide_eq_false (by omega)
         go_wp2
         go_meet
         case rel => exact ⟨s, N, L, ma, m, mc, vs, rfl, by omega, HCH.out.1, HCH.out.2, HF.out⟩
       · have hg1 : decide ((k : Int) < (n0 : Int)) = false := decide_eq_false (by omega)
         go_wp2
         go_meet
         case rel => exact ⟨s, N, L, ma, m, mc, vs, rfl, by omega, HCH.out.1, HCH.out.2, HF.out⟩
  case rest =>
   obtain ⟨s, N, L, ma, m, mc, vs, rfl, hm60, hCh, hFs, hFo⟩ := hcut
   have HCH : Hid (Chain newS (vs.map (·.1)) ∧ foldS newS (vs.map (·.1)) = s) := ⟨hCh, hFs⟩
   have HF : Hid (Fo w q wc s N L ma m mc vs) := hFo
   clear hCh hFs hFo H2 HU HN hx0
   go_upto_if 52 with fail
   go_cut [1] (fun v wx => ∃ kn : Nat, v = .int .i64 kn ∧ kn ≤ 9223372036854775807 ∧ Below wc.heap.size wc wx)
   case first =>
     by_cases hneg : a1 < 0
     · obtain ⟨kn, hkn⟩ : ∃ kn : Nat, -(a1 + 1) = (kn : Int) := ⟨(-(a1 + 1)).toNat, by omega⟩
       go_wp2
       go_meet
       case rel => exact ⟨kn, by first | rfl | simp [hkn], by omega, Below.refl _ _⟩
     · obtain ⟨kn, rfl⟩ : ∃ kn : Nat, a1 = (kn : Int) := ⟨a1.toNat, by omega⟩
       go_wp2
       go_meet
       case rel => exact ⟨kn, rfl, by omega, Below.refl _ _⟩
   case rest =>
     rename World => wk
     obtain ⟨kn, rfl, hkn, hbk⟩ := hcut
     have HFk : Hid (Fo w q wk s N L ma m mc vs) := HF.out.below hbk
     clear HF hbk
     obtain ⟨Q, hQ⟩ : ∃ Q, kn % (m + 1) = Q := ⟨_, rfl⟩
     have hQm : Q ≤ m := by have := Nat.mod_lt kn (show 0 < m + 1 by omega); omega
     have hr2 : (kn : Int) % ((m : Int) + 1) = (Q : Int) := by rw [← hQ]; simp
     have hr1 : (kn : Int).tmod ((m : Int) + 1) = (Q : Int) := by rw [Int.tmod_eq_emod_of_nonneg (by omega)]; exact hr2
     clear hQ
     go_upto_region 14 with fail
     clear hr1 hr2
     obtain ⟨gm, hC, _⟩ := HFk.out.cel
     have hcap := hC.cap2
     have hma0 : mc ≠ 0 → ∃ g, ma = some ⟨g, 0, none⟩ ∧ gm = some g := fun h => by
       cases hC with
       | nil h1 h2 h3 => cases h1; omega
       | row g cap h1 hl h2 h3 h4 h5 h6 h7 => cases h1; exact ⟨g, rfl, rfl⟩
     obtain ⟨d, rfl⟩ : ∃ d, m = Q + d := ⟨m - Q, by omega⟩
     obtain ⟨r, rfl⟩ : ∃ r, mc = Q + r := ⟨mc - Q, by omega⟩
     obtain ⟨eb, hE, hgb⟩ := eds_of hC HFk.out.len (fun x hx => (HFk.out.ok x hx).below HFk.out.bel)
     have hdr : d ≤ r := by omega
     have hle1 : (Q : Int) ≤ (Q : Int) + (r : Int) := by omega
     have hle2 : (Q : Int) ≤ (Q : Int) + (d : Int) := by omega
     have hrm : Q + r ≤ 9223372036854775807 := by have := hcap.2.1; unfold maxLen at this; omega
     obtain ⟨bS, hbS⟩ : ∃ b, foldS newS ((vs.map (·.1)).take Q) = b := ⟨_, rfl⟩
     have HTX : Hid (bS.tx = (Q : Int)) := by
       show bS.tx = (Q : Int)
       rw [← hbS, fold_tx, List.length_take, List.length_map, HFk.out.len]
       show (0 : Int) + _ = _
       rw [Nat.min_eq_left (by omega)]
       simp
     have HRB : Hid (RtS bS) := by have := (HCH.out.1.take Q).right new_right; rw [hbS] at this; exact this
     have CF1 : Hid (∀ W, Below wk.heap.size wk W → ∀ N' L', SpIn W newS N' L' → Calls Tryz.prog 8 #[spV newS N' L', .slice ma (Q + d) (Q + r)] W fun rr w' => FoldR W.heap.size s rr w' ∧ Below W.heap.size W w') := fun W hb N' L' hS => by
       have := fold_ok (c := Q + r) hS new_right (hE.below hb) HFk.out.len HCH.out.1
       rw [HCH.out.2] at this
       exact this
     have CF2k : Hid (∀ W, Below wk.heap.size wk W → ∀ N' L', SpIn W newS N' L' → Calls Tryz.prog 8 #[spV newS N' L', .slice ma Q (Q + r)] W fun rr w' => FoldR W.heap.size bS rr w' ∧ Below W.heap.size W w') := fun W hb N' L' hS => by
       have := fold_ok (c := Q + r) (n := Q) hS new_right ((hE.take Q).below hb) (by rw [List.length_take, HFk.out.len]; omega) (by rw [List.map_take]; exact HCH.out.1.take Q)
       rw [List.map_take, hbS] at this
       exact this
     have CF3k : Hid (∀ a' : Option Addr, (d ≠ 0 → a' = some ⟨eb, 0 + Q * 7, none⟩) → ∀ c' W, Below wk.heap.size wk W → ∀ N' L', SpIn W bS N' L' → Calls Tryz.prog 8 #[spV bS N' L', .slice a' d c'] W fun rr w' => FoldR W.heap.size s rr w' ∧ Below W.heap.size W w') := fun a' ha c' W hb N' L' hS => by
       have hl := HFk.out.len
       have := fold_ok (c := c') (n := d) hS HRB.out ((hE.drop Q (a' := a') (fun h => ha (by omega))).below hb) (by rw [List.length_drop, hl]; omega) (by rw [List.map_drop, ← hbS]; exact HCH.out.1.drop Q)
       rw [List.map_drop, ← hbS, fold_split, HCH.out.2, hbS] at this
       exact this
     have HGB : Hid (d ≠ 0 → gm = some eb) := fun h => hgb (by omega)
     have HMA : Hid (r ≠ 0 → ∃ g, ma = some ⟨g, 0, none⟩ ∧ gm = some g) := fun h => hma0 (by omega)
     clear hC hcap hE hgb hbS HRB hma0
     unfold spV at CF1 CF2k CF3k
     go_wp2_with fail
     refine (new_val _).mono ?_
     rintro e w4 ⟨⟨N4, L4, ps4, g4, gl4, bb4, M4, _, rfl, hO4⟩, c4⟩
     have HI4 : Hid (SpIn w4 newS N4 L4 ∧ Below wk.heap.size wk w4) := ⟨hO4.spIn, c4⟩
     clear hO4 c4
     unfold spV
     go_wp2_with fail
     refine (CF1.out _ HI4.out.2 _ _ HI4.out.1).mono ?_
     rintro e w5 ⟨⟨N5, L5, ps5, g5, gl5, base5, M5, rfl, hO5, _⟩, c5⟩
     have HI5 : Hid (SpIn w5 s N5 L5 ∧ Below wk.heap.size wk w5) := ⟨hO5.spIn, bel_tr HI4.out.2 c5⟩
     clear hO5 c5 HI4 CF1
     unfold spV
     go_upto_region 15 with fail
     have HX5 : Hid (SpC (w5.alloc (.cells #[.int .i64 s.tx, .int .i64 s.nb, .int .i64 s.ng, .int .i64 s.now, .slice N5.a N5.n N5.c, .slice L5.a L5.n L5.c] 27)) w5.heap.size s N5 L5 ∧ SpIn (w5.alloc (.cells #[.int .i64 s.tx, .int .i64 s.nb, .int .i64 s.ng, .int .i64 s.now, .slice N5.a N5.n N5.c, .slice L5.a L5.n L5.c] 27)) s N5 L5 ∧ Below wk.heap.size wk (w5.alloc (.cells #[.int .i64 s.tx, .int .i64 s.nb, .int .i64 s.ng, .int .i64 s.now, .slice N5.a N5.n N5.c, .slice L5.a L5.n L5.c] 27))) := ⟨SpC.new w5 27 s N5 L5, HI5.out.1.below (bel_al _ _), bel_tr HI5.out.2 (bel_al _ _)⟩
     generalize w5.alloc (.cells #[.int .i64 s.tx, .int .i64 s.nb, .int .i64 s.ng, .int .i64 s.now, .slice N5.a N5.n N5.c, .slice L5.a L5.n L5.c] 27) = wr at *
     generalize w5.heap.size = xq at *
     clear HI5
     have CF2 : Hid (∀ W, Below wr.heap.size wr W → ∀ N' L', SpIn W newS N' L' → _) := fun W hb => CF2k.out W (bel_tr HX5.out.2.2 hb)
     have CF3 : Hid (∀ a' : Option Addr, (d ≠ 0 → a' = some ⟨eb, 0 + Q * 7, none⟩) → ∀ c' W, Below wr.heap.size wr W → ∀ N' L', SpIn W bS N' L' → _) := fun a' ha c' W hb => CF3k.out a' ha c' W (bel_tr HX5.out.2.2 hb)
     have HFr : Hid (Fo w q wr s N L ma (Q + d) (Q + r) vs) := HFk.out.below HX5.out.2.2
     clear CF2k CF3k HFk
     go_cut [13, 14] (fun v13 v14 wx => ∃ tq N6 L6, v13 = .pointer (some ⟨tq, 0, none⟩) ∧ v14 = .int .i64 0 ∧ SpC wx tq bS N6 L6 ∧ SpIn wx bS N6 L6 ∧ Below wr.heap.size wr wx)
     case first =>
       refine wp_region_held_drew (S := fun W => Below wr.heap.size wr W) (by kernel_rfl) (bel_drew wr) (fun hS0 => ?_)
       refine wpAnyH_take (i := 1) (v := ?_) rfl (by kernel_rfl) (by kernel_rfl) (by kernel_rfl) (fun _ _ _ h => h) (Or.inl ⟨by rfl, ?_⟩) hS0 ?_
       rotate_left
       · intro W9 hSw; go_simp; first | done | with_reducible rfl | (rw [if_pos (by omega)]; with_reducible rfl)
       refine wpAnyH_take (i := 2) (v := ?_) rfl (by kernel_rfl) (by kernel_rfl) (by kernel_rfl) (fun _ _ _ h => h) (Or.inl ⟨by rfl, ?_⟩) hS0 ?_
       rotate_left
       · intro W9 hSw; go_simp; first | done | with_reducible rfl | (rw [if_pos (by omega)]; with_reducible rfl)
       refine wpAnyH_take (i := 3) (v := ?_) rfl (by kernel_rfl) (by kernel_rfl) (by kernel_rfl) (fun _ _ _ h => h) (Or.inl ⟨by rfl, ?_⟩) hS0 ?_
       rotate_left
       · intro W9 hSw; go_simp; first | done | with_reducible rfl | (rw [if_pos (by omega)]; with_reducible rfl)
       refine wpAnyH_ready (rs := [0, 8]) (by kernel_rfl) (by simp) ?_
       refine AllReadyH.cons rfl (fun K hK => ?_) ?_
       · go_simp
         refine (new_val _).mono ?_
         rintro e w5 ⟨⟨N4, L4, ps4, g4, gl4, bb4, M4, _, rfl, hO4⟩, c5⟩
         have HI4 : Hid (SpIn w5 newS N4 L4) := hO4.spIn
         have C5 : Hid (wr.heap.size + 0 ≤ w5.heap.size) := by have := c5.size; simp at this; show _ ≤ _; omega
         clear hO4
         unfold spV
         try go_simp
         refine hK.out _ _ (bel_tr hS0 c5) (fun hS1 => ?_)
         clear hK K c5
         refine wpAnyH_ready (rs := [4, 8]) (by kernel_rfl) (by simp) ?_
         refine AllReadyH.cons rfl (fun K hK => ?_) ?_
         · go_simp
           refine (CF2.out _ hS1 _ _ HI4.out).mono ?_
           rintro e w6 ⟨⟨N6, L6, ps6, g6, gl6, base6, M6, rfl, hO6, hb6⟩, c6⟩
           have C6 : Hid (w5.heap.size + 0 ≤ w6.heap.size ∧ w5.heap.size + 0 ≤ base6) := ⟨by have := c6.size; (try simp at this); omega, by have := hb6; (try simp at this); omega⟩
           have HO6 : Hid (OwnM base6 M6 w6 bS N6 L6 ps6 g6 gl6) := hO6
           clear hO6 hb6
           unfold spV
           try go_simp
           refine hK.out _ _ (bel_tr hS1 c6) (fun hS2 => ?_)
           clear hK K c6
           refine wpAnyH_take (i := 5) (v := ?_) rfl (by kernel_rfl) (by kernel_rfl) (by kernel_rfl) (fun _ _ _ h => h) (Or.inl ⟨by rfl, ?_⟩) hS2 ?_
           rotate_left
           · intro W9 hSw; go_simp; first | done | with_reducible rfl | (rw [if_pos (by omega)]; with_reducible rfl)
           refine wpAnyH_take (i := 6) (v := ?_) rfl (by kernel_rfl) (by kernel_rfl) (by kernel_rfl) (fun _ _ _ h => h) (Or.inl ⟨by rfl, ?_⟩) hS2 ?_
           rotate_left
           · intro W9 hSw; go_simp; first | done | with_reducible rfl | (rw [if_pos (by omega)]; with_reducible rfl)
           refine wpAnyH_take (i := 7) (v := ?_) rfl (by kernel_rfl) (by kernel_rfl) (by kernel_rfl) (fun _ _ _ h => h) (Or.inl ⟨by rfl, ?_⟩) hS2 ?_
           rotate_left
           · intro W9 hSw; go_simp; first | done | with_reducible rfl | (rw [if_pos (by omega)]; with_reducible rfl)
           refine wpAnyH_ready (rs := [8]) (by kernel_rfl) (by simp) ?_
           refine AllReadyH.cons rfl (fun K hK => ?_) ?_
           · go_simp
             refine hK.out _ _ (bel_tr hS2 (by first | exact bel_al _ _ | exact bel_dal _ _ | exact bel_daal _ _ _)) (fun hS3 => ?_)
             clear hK K
             have FS6 : Hid (SpC (w6.alloc (.cells #[.int .i64 0, .int .i64 0, .int .i64 0, .int .i64 0, .slice none 0 0, .slice none 0 0] 27)) w6.heap.size zeroS noS noS) := SpC.new w6 27 zeroS noS noS
             have HFB : Hid (SpC (put6 (w6.alloc (.cells #[.int .i64 0, .int .i64 0, .int .i64 0, .int .i64 0, .slice none 0 0, .slice none 0 0] 27)) (w6.heap.size) bS N6 L6) (w6.heap.size) bS N6 L6 ∧ SpIn (put6 (w6.alloc (.cells #[.int .i64 0, .int .i64 0, .int .i64 0, .int .i64 0, .slice none 0 0, .slice none 0 0] 27)) (w6.heap.size) bS N6 L6) bS N6 L6 ∧ Below wr.heap.size wr (put6 (w6.alloc (.cells #[.int .i64 0, .int .i64 0, .int .i64 0, .int .i64 0, .slice none 0 0, .slice none 0 0] 27)) (w6.heap.size) bS N6 L6)) := fo_box HO6.out (bel_al _ _) FS6.out (by have u0 := C5.out; obtain ⟨u1, u2⟩ := C6.out; omega) hS3 (by have u0 := C5.out; obtain ⟨u1, u2⟩ := C6.out; omega)
             generalize w6.alloc (.cells #[.int .i64 0, .int .i64 0, .int .i64 0, .int .i64 0, .slice none 0 0, .slice none 0 0] 27) = w7 at *
             refine wpAnyH_ready (rs := [9]) (by kernel_rfl) (by simp) ?_
             refine AllReadyH.cons rfl (fun K hK => ?_) ?_
             · skip
               obtain ⟨z0, z1, z2, z3, z4, z5, zf⟩ := FS6.out
               go_simp
               rw [← put6_def w7 (w6.heap.size) bS N6 L6]
               refine hK.out _ _ HFB.out.2.2 (fun hS4 => ?_)
               clear hK K z0 z1 z2 z3 z4 z5 zf
               generalize put6 w7 (w6.heap.size) bS N6 L6 = w8 at *
               refine wpAnyH_take (i := 10) (v := ?_) rfl (by kernel_rfl) (by kernel_rfl) (by kernel_rfl) (fun _ _ _ h => h) (Or.inl ⟨by rfl, ?_⟩) hS4 ?_
               rotate_left
               · intro W9 hSw; go_simp; first | done | with_reducible rfl | (rw [if_pos (by omega)]; with_reducible rfl)
               refine wpAnyH_done (by kernel_rfl) ?_ _
               go_wp2_with fail
               go_meet
               case rel => exact ⟨w6.heap.size, N6, L6, rfl, rfl, HFB.out.1, HFB.out.2.1, HFB.out.2.2⟩
             exact AllReadyH.nil
           exact AllReadyH.nil
         refine AllReadyH.cons rfl (fun K hK => ?_) ?_
         · go_simp
           refine hK.out _ _ (bel_tr hS1 (by first | exact bel_al _ _ | exact bel_dal _ _ | exact bel_daal _ _ _)) (fun hS2 => ?_)
           clear hK K
           refine wpAnyH_ready (rs := [4]) (by kernel_rfl) (by simp) ?_
           refine AllReadyH.cons rfl (fun K hK => ?_) ?_
           · go_simp
             refine (CF2.out _ hS2 _ _ (HI4.out.below (bel_al _ _))).mono ?_
             rintro e w6 ⟨⟨N6, L6, ps6, g6, gl6, base6, M6, rfl, hO6, hb6⟩, c6⟩
             have C6 : Hid (w5.heap.size + 1 ≤ w6.heap.size ∧ w5.heap.size + 1 ≤ base6) := ⟨by have := c6.size; (try simp at this); omega, by have := hb6; (try simp at this); omega⟩
             have HO6 : Hid (OwnM base6 M6 w6 bS N6 L6 ps6 g6 gl6) := hO6
             have FS6 : Hid (SpC w6 w5.heap.size zeroS noS noS) := (SpC.new w5 27 zeroS noS noS).below c6
             clear hO6 hb6
             unfold spV
             try go_simp
             refine hK.out _ _ (bel_tr hS2 c6) (fun hS3 => ?_)
             clear hK K c6
             have HFB : Hid (SpC (put6 w6 (w5.heap.size) bS N6 L6) (w5.heap.size) bS N6 L6 ∧ SpIn (put6 w6 (w5.heap.size) bS N6 L6) bS N6 L6 ∧ Below wr.heap.size wr (put6 w6 (w5.heap.size) bS N6 L6)) := fo_box HO6.out (Below.refl _ _) FS6.out (by have u0 := C5.out; obtain ⟨u1, u2⟩ := C6.out; omega) hS3 (by have u0 := C5.out; obtain ⟨u1, u2⟩ := C6.out; omega)
             refine wpAnyH_take (i := 5) (v := ?_) rfl (by kernel_rfl) (by kernel_rfl) (by kernel_rfl) (fun _ _ _ h => h) (Or.inl ⟨by rfl, ?_⟩) hS3 ?_
             rotate_left
             · intro W9 hSw; go_simp; first | done | with_reducible rfl | (rw [if_pos (by omega)]; with_reducible rfl)
             refine wpAnyH_take (i := 6) (v := ?_) rfl (by kernel_rfl) (by kernel_rfl) (by kernel_rfl) (fun _ _ _ h => h) (Or.inl ⟨by rfl, ?_⟩) hS3 ?_
             rotate_left
             · intro W9 hSw; go_simp; first | done | with_reducible rfl | (rw [if_pos (by omega)]; with_reducible rfl)
             refine wpAnyH_take (i := 7) (v := ?_) rfl (by kernel_rfl) (by kernel_rfl) (by kernel_rfl) (fun _ _ _ h => h) (Or.inl ⟨by rfl, ?_⟩) hS3 ?_
             rotate_left
             · intro W9 hSw; go_simp; first | done | with_reducible rfl | (rw [if_pos (by omega)]; with_reducible rfl)
             refine wpAnyH_ready (rs := [9]) (by kernel_rfl) (by simp) ?_
             refine AllReadyH.cons rfl (fun K hK => ?_) ?_
             · skip
               obtain ⟨z0, z1, z2, z3, z4, z5, zf⟩ := FS6.out
               go_simp
               rw [← put6_def w6 (w5.heap.size) bS N6 L6]
               refine hK.out _ _ HFB.out.2.2 (fun hS4 => ?_)
               clear hK K z0 z1 z2 z3 z4 z5 zf
               generalize put6 w6 (w5.heap.size) bS N6 L6 = w8 at *
               refine wpAnyH_take (i := 10) (v := ?_) rfl (by kernel_rfl) (by kernel_rfl) (by kernel_rfl) (fun _ _ _ h => h) (Or.inl ⟨by rfl, ?_⟩) hS4 ?_
               rotate_left
               · intro W9 hSw; go_simp; first | done | with_reducible rfl | (rw [if_pos (by omega)]; with_reducible rfl)
               refine wpAnyH_done (by kernel_rfl) ?_ _
               go_wp2_with fail
               go_meet
               case rel => exact ⟨w5.heap.size, N6, L6, rfl, rfl, HFB.out.1, HFB.out.2.1, HFB.out.2.2⟩
             exact AllReadyH.nil
           exact AllReadyH.nil
         exact AllReadyH.nil
       refine AllReadyH.cons rfl (fun K hK => ?_) ?_
       · go_simp
         refine hK.out _ _ (bel_tr hS0 (by first | exact bel_al _ _ | exact bel_dal _ _ | exact bel_daal _ _ _)) (fun hS1 => ?_)
         clear hK K
         refine wpAnyH_ready (rs := [0]) (by kernel_rfl) (by simp) ?_
         refine AllReadyH.cons rfl (fun K hK => ?_) ?_
         · go_simp
           refine (new_val _).mono ?_
           rintro e w5 ⟨⟨N4, L4, ps4, g4, gl4, bb4, M4, _, rfl, hO4⟩, c5⟩
           have HI4 : Hid (SpIn w5 newS N4 L4) := hO4.spIn
           have C5 : Hid (wr.heap.size + 1 ≤ w5.heap.size) := by have := c5.size; simp at this; show _ ≤ _; omega
           have FS5 : Hid (SpC w5 wr.heap.size zeroS noS noS) := sp_one c5
           clear hO4
           unfold spV
           try go_simp
           refine hK.out _ _ (bel_tr hS1 c5) (fun hS2 => ?_)
           clear hK K c5
           refine wpAnyH_ready (rs := [4]) (by kernel_rfl) (by simp) ?_
           refine AllReadyH.cons rfl (fun K hK => ?_) ?_
           · go_simp
             refine (CF2.out _ hS2 _ _ HI4.out).mono ?_
             rintro e w6 ⟨⟨N6, L6, ps6, g6, gl6, base6, M6, rfl, hO6, hb6⟩, c6⟩
             have C6 : Hid (w5.heap.size + 0 ≤ w6.heap.size ∧ w5.heap.size + 0 ≤ base6) := ⟨by have := c6.size; (try simp at this); omega, by have := hb6; (try simp at this); omega⟩
             have HO6 : Hid (OwnM base6 M6 w6 bS N6 L6 ps6 g6 gl6) := hO6
             have FS6 : Hid (SpC w6 wr.heap.size zeroS noS noS) := FS5.out.below c6
             clear hO6 hb6
             unfold spV
             try go_simp
             refine hK.out _ _ (bel_tr hS2 c6) (fun hS3 => ?_)
             clear hK K c6
             have HFB : Hid (SpC (put6 w6 (wr.heap.size) bS N6 L6) (wr.heap.size) bS N6 L6 ∧ SpIn (put6 w6 (wr.heap.size) bS N6 L6) bS N6 L6 ∧ Below wr.heap.size wr (put6 w6 (wr.heap.size) bS N6 L6)) := fo_box HO6.out (Below.refl _ _) FS6.out (by have u0 := C5.out; obtain ⟨u1, u2⟩ := C6.out; omega) hS3 (by have u0 := C5.out; obtain ⟨u1, u2⟩ := C6.out; omega)
             refine wpAnyH_take (i := 5) (v := ?_) rfl (by kernel_rfl) (by kernel_rfl) (by kernel_rfl) (fun _ _ _ h => h) (Or.inl ⟨by rfl, ?_⟩) hS3 ?_
             rotate_left
             · intro W9 hSw; go_simp; first | done | with_reducible rfl | (rw [if_pos (by omega)]; with_reducible rfl)
             refine wpAnyH_take (i := 6) (v := ?_) rfl (by kernel_rfl) (by kernel_rfl) (by kernel_rfl) (fun _ _ _ h => h) (Or.inl ⟨by rfl, ?_⟩) hS3 ?_
             rotate_left
             · intro W9 hSw; go_simp; first | done | with_reducible rfl | (rw [if_pos (by omega)]; with_reducible rfl)
             refine wpAnyH_take (i := 7) (v := ?_) rfl (by kernel_rfl) (by kernel_rfl) (by kernel_rfl) (fun _ _ _ h => h) (Or.inl ⟨by rfl, ?_⟩) hS3 ?_
             rotate_left
             · intro W9 hSw; go_simp; first | done | with_reducible rfl | (rw [if_pos (by omega)]; with_reducible rfl)
             refine wpAnyH_ready (rs := [9]) (by kernel_rfl) (by simp) ?_
             refine AllReadyH.cons rfl (fun K hK => ?_) ?_
             · skip
               obtain ⟨z0, z1, z2, z3, z4, z5, zf⟩ := FS6.out
               go_simp
               rw [← put6_def w6 (wr.heap.size) bS N6 L6]
               refine hK.out _ _ HFB.out.2.2 (fun hS4 => ?_)
               clear hK K z0 z1 z2 z3 z4 z5 zf
               generalize put6 w6 (wr.heap.size) bS N6 L6 = w8 at *
               refine wpAnyH_take (i := 10) (v := ?_) rfl (by kernel_rfl) (by kernel_rfl) (by kernel_rfl) (fun _ _ _ h => h) (Or.inl ⟨by rfl, ?_⟩) hS4 ?_
               rotate_left
               · intro W9 hSw; go_simp; first | done | with_reducible rfl | (rw [if_pos (by omega)]; with_reducible rfl)
               refine wpAnyH_done (by kernel_rfl) ?_ _
               go_wp2_with fail
               go_meet
               case rel => exact ⟨wr.heap.size, N6, L6, rfl, rfl, HFB.out.1, HFB.out.2.1, HFB.out.2.2⟩
             exact AllReadyH.nil
           exact AllReadyH.nil
         exact AllReadyH.nil
       exact AllReadyH.nil
     case rest =>
       rename World => wb
       obtain ⟨tq, N7, L7, rfl, rfl, hS7, hI7, hb7⟩ := hcut
       have HX6 : Hid (SpC wb xq s N5 L5 ∧ SpIn wb s N5 L5 ∧ Fo w q wb s N L ma (Q + d) (Q + r) vs ∧ SpC wb tq bS N7 L7) := ⟨HX5.out.1.below hb7, HX5.out.2.1.below hb7, HFr.out.below hb7, hS7⟩
       have HIB : Hid (SpIn wb bS N7 L7) := hI7
       obtain ⟨bx0, bx1, bx2, bx3, bx4, bx5, _⟩ := hS7
       have CF4 : Hid (∀ a' : Option Addr, (d ≠ 0 → a' = some ⟨eb, 0 + Q * 7, none⟩) → ∀ c' W, Below wb.heap.size wb W → ∀ N' L', SpIn W bS N' L' → _) := fun a' ha c' W hb => CF3.out a' ha c' W (bel_tr hb7 hb)
       clear CF2 CF3 HX5 HFr hI7 hb7
       go_upto_region 16 with fail
       go_cut [15, 16] (fun v13 v14 wx => ∃ tq N6 L6, v13 = .pointer (some ⟨tq, 0, none⟩) ∧ v14 = .int .i64 0 ∧ SpC wx tq s N6 L6 ∧ SpIn wx s N6 L6 ∧ Below wb.heap.size wb wx)
       case first =>
         by_cases hr0 : r = 0
         · obtain rfl : d = 0 := by omega
           subst hr0
           have CF3 : Hid (∀ W, Below wb.heap.size wb W → ∀ N' L', SpIn W bS N' L' → _) := fun W hb => CF4.out ma (fun e => absurd rfl e) 0 W hb
           clear CF4 HGB HMA
           refine wp_region_held_drew (S := fun W => Below wb.heap.size wb W) (by kernel_rfl) (bel_drew wb) (fun hS0 => ?_)
           refine wpAnyH_take (i := 0) (v := ?_) rfl (by kernel_rfl) (by kernel_rfl) (by kernel_rfl) (fun _ _ _ h => h) (Or.inl ⟨by rfl, ?_⟩) hS0 ?_
           rotate_left
           · intro W9 hSw; have d0 := bel_cell hSw bx0; have d1 := bel_cell hSw bx1; have d2 := bel_cell hSw bx2; have d3 := bel_cell hSw bx3; have d4 := bel_cell hSw bx4; have d5 := bel_cell hSw bx5; go_simp; first | done | with_reducible rfl | (rw [if_pos (by omega)]; with_reducible rfl)
           refine wpAnyH_take (i := 1) (v := ?_) rfl (by kernel_rfl) (by kernel_rfl) (by kernel_rfl) (fun _ _ _ h => h) (Or.inl ⟨by rfl, ?_⟩) hS0 ?_
           rotate_left
           · intro W9 hSw; go_simp; first | done | with_reducible rfl | (rw [if_pos (by omega)]; with_reducible rfl)
           refine wpAnyH_take (i := 2) (v := ?_) rfl (by kernel_rfl) (by kernel_rfl) (by kernel_rfl) (fun _ _ _ h => h) (Or.inl ⟨by rfl, ?_⟩) hS0 ?_
           rotate_left
           · intro W9 hSw; go_simp; first | done | with_reducible rfl | (rw [if_pos (by omega)]; with_reducible rfl)
           refine wpAnyH_take (i := 3) (v := ?_) rfl (by kernel_rfl) (by kernel_rfl) (by kernel_rfl) (fun _ _ _ h => h) (Or.inl ⟨by rfl, ?_⟩) hS0 ?_
           rotate_left
           · intro W9 hSw; go_simp; first | done | with_reducible rfl | (rw [if_pos (by omega)]; with_reducible rfl)
           refine wpAnyH_ready (rs := [4, 8]) (by kernel_rfl) (by simp) ?_
           refine AllReadyH.cons rfl (fun K hK => ?_) ?_
           · go_simp
             refine (CF3.out _ hS0 _ _ (HIB.out.below hS0)).mono ?_
             rintro e w6 ⟨⟨N6, L6, ps6, g6, gl6, base6, M6, rfl, hO6, hb6⟩, c6⟩
             have C6 : Hid (wb.heap.size + 0 ≤ w6.heap.size ∧ wb.heap.size + 0 ≤ base6) := ⟨by have := c6.size; (try simp at this); omega, by have := hb6; (try simp at this); omega⟩
             have HO6 : Hid (OwnM base6 M6 w6 s N6 L6 ps6 g6 gl6) := hO6
             clear hO6 hb6
             unfold spV
             try go_simp
             refine hK.out _ _ (bel_tr hS0 c6) (fun hS1 => ?_)
             clear hK K c6
             refine wpAnyH_take (i := 5) (v := ?_) rfl (by kernel_rfl) (by kernel_rfl) (by kernel_rfl) (fun _ _ _ h => h) (Or.inl ⟨by rfl, ?_⟩) hS1 ?_
             rotate_left
             · intro W9 hSw; go_simp; first | done | with_reducible rfl | (rw [if_pos (by omega)]; with_reducible rfl)
             refine wpAnyH_take (i := 6) (v := ?_) rfl (by kernel_rfl) (by kernel_rfl) (by kernel_rfl) (fun _ _ _ h => h) (Or.inl ⟨by rfl, ?_⟩) hS1 ?_
             rotate_left
             · intro W9 hSw; go_simp; first | done | with_reducible rfl | (rw [if_pos (by omega)]; with_reducible rfl)
             refine wpAnyH_take (i := 7) (v := ?_) rfl (by kernel_rfl) (by kernel_rfl) (by kernel_rfl) (fun _ _ _ h => h) (Or.inl ⟨by rfl, ?_⟩) hS1 ?_
             rotate_left
             · intro W9 hSw; go_simp; first | done | with_reducible rfl | (rw [if_pos (by omega)]; with_reducible rfl)
             refine wpAnyH_ready (rs := [8]) (by kernel_rfl) (by simp) ?_
             refine AllReadyH.cons rfl (fun K hK => ?_) ?_
             · go_simp
               refine hK.out _ _ (bel_tr hS1 (by first | exact bel_al _ _ | exact bel_dal _ _ | exact bel_daal _ _ _)) (fun hS2 => ?_)
               clear hK K
               have FS6 : Hid (SpC (w6.alloc (.cells #[.int .i64 0, .int .i64 0, .int .i64 0, .int .i64 0, .slice none 0 0, .slice none 0 0] 27)) w6.heap.size zeroS noS noS) := SpC.new w6 27 zeroS noS noS
               have HFB : Hid (SpC (put6 (w6.alloc (.cells #[.int .i64 0, .int .i64 0, .int .i64 0, .int .i64 0, .slice none 0 0, .slice none 0 0] 27)) (w6.heap.size) s N6 L6) (w6.heap.size) s N6 L6 ∧ SpIn (put6 (w6.alloc (.cells #[.int .i64 0, .int .i64 0, .int .i64 0, .int .i64 0, .slice none 0 0, .slice none 0 0] 27)) (w6.heap.size) s N6 L6) s N6 L6 ∧ Below wb.heap.size wb (put6 (w6.alloc (.cells #[.int .i64 0, .int .i64 0, .int .i64 0, .int .i64 0, .slice none 0 0, .slice none 0 0] 27)) (w6.heap.size) s N6 L6)) := fo_box HO6.out (bel_al _ _) FS6.out (by obtain ⟨u1, u2⟩ := C6.out; omega) hS2 (by obtain ⟨u1, u2⟩ := C6.out; omega)
               generalize w6.alloc (.cells #[.int .i64 0, .int .i64 0, .int .i64 0, .int .i64 0, .slice none 0 0, .slice none 0 0] 27) = w7 at *
               refine wpAnyH_ready (rs := [9]) (by kernel_rfl) (by simp) ?_
               refine AllReadyH.cons rfl (fun K hK => ?_) ?_
               · skip
                 obtain ⟨z0, z1, z2, z3, z4, z5, zf⟩ := FS6.out
                 go_simp
                 rw [← put6_def w7 (w6.heap.size) s N6 L6]
                 refine hK.out _ _ HFB.out.2.2 (fun hS3 => ?_)
                 clear hK K z0 z1 z2 z3 z4 z5 zf
                 generalize put6 w7 (w6.heap.size) s N6 L6 = w8 at *
                 refine wpAnyH_take (i := 10) (v := ?_) rfl (by kernel_rfl) (by kernel_rfl) (by kernel_rfl) (fun _ _ _ h => h) (Or.inl ⟨by rfl, ?_⟩) hS3 ?_
                 rotate_left
                 · intro W9 hSw; go_simp; first | done | with_reducible rfl | (rw [if_pos (by omega)]; with_reducible rfl)
                 refine wpAnyH_done (by kernel_rfl) ?_ _
                 go_wp2_with fail
                 go_meet
                 case rel => exact ⟨w6.heap.size, N6, L6, rfl, rfl, HFB.out.1, HFB.out.2.1, HFB.out.2.2⟩
               exact AllReadyH.nil
             exact AllReadyH.nil
           refine AllReadyH.cons rfl (fun K hK => ?_) ?_
           · go_simp
             refine hK.out _ _ (bel_tr hS0 (by first | exact bel_al _ _ | exact bel_dal _ _ | exact bel_daal _ _ _)) (fun hS1 => ?_)
             clear hK K
             refine wpAnyH_ready (rs := [4]) (by kernel_rfl) (by simp) ?_
             refine AllReadyH.cons rfl (fun K hK => ?_) ?_
             · go_simp
               refine (CF3.out _ hS1 _ _ (HIB.out.below hS1)).mono ?_
               rintro e w6 ⟨⟨N6, L6, ps6, g6, gl6, base6, M6, rfl, hO6, hb6⟩, c6⟩
               have C6 : Hid (wb.heap.size + 1 ≤ w6.heap.size ∧ wb.heap.size + 1 ≤ base6) := ⟨by have := c6.size; (try simp at this); omega, by have := hb6; (try simp at this); omega⟩
               have HO6 : Hid (OwnM base6 M6 w6 s N6 L6 ps6 g6 gl6) := hO6
               have FS6 : Hid (SpC w6 wb.heap.size zeroS noS noS) := sp_one c6
               clear hO6 hb6
               unfold spV
               try go_simp
               refine hK.out _ _ (bel_tr hS1 c6) (fun hS2 => ?_)
               clear hK K c6
               have HFB : Hid (SpC (put6 w6 (wb.heap.size) s N6 L6) (wb.heap.size) s N6 L6 ∧ SpIn (put6 w6 (wb.heap.size) s N6 L6) s N6 L6 ∧ Below wb.heap.size wb (put6 w6 (wb.heap.size) s N6 L6)) := fo_box HO6.out (Below.refl _ _) FS6.out (by obtain ⟨u1, u2⟩ := C6.out; omega) hS2 (by obtain ⟨u1, u2⟩ := C6.out; omega)
               refine wpAnyH_take (i := 5) (v := ?_) rfl (by kernel_rfl) (by kernel_rfl) (by kernel_rfl) (fun _ _ _ h => h) (Or.inl ⟨by rfl, ?_⟩) hS2 ?_
               rotate_left
               · intro W9 hSw; go_simp; first | done | with_reducible rfl | (rw [if_pos (by omega)]; with_reducible rfl)
               refine wpAnyH_take (i := 6) (v := ?_) rfl (by kernel_rfl) (by kernel_rfl) (by kernel_rfl) (fun _ _ _ h => h) (Or.inl ⟨by rfl, ?_⟩) hS2 ?_
               rotate_left
               · intro W9 hSw; go_simp; first | done | with_reducible rfl | (rw [if_pos (by omega)]; with_reducible rfl)
               refine wpAnyH_take (i := 7) (v := ?_) rfl (by kernel_rfl) (by kernel_rfl) (by kernel_rfl) (fun _ _ _ h => h) (Or.inl ⟨by rfl, ?_⟩) hS2 ?_
               rotate_left
               · intro W9 hSw; go_simp; first | done | with_reducible rfl | (rw [if_pos (by omega)]; with_reducible rfl)
               refine wpAnyH_ready (rs := [9]) (by kernel_rfl) (by simp) ?_
               refine AllReadyH.cons rfl (fun K hK => ?_) ?_
               · skip
                 obtain ⟨z0, z1, z2, z3, z4, z5, zf⟩ := FS6.out
                 go_simp
                 rw [← put6_def w6 (wb.heap.size) s N6 L6]
                 refine hK.out _ _ HFB.out.2.2 (fun hS3 => ?_)
                 clear hK K z0 z1 z2 z3 z4 z5 zf
                 generalize put6 w6 (wb.heap.size) s N6 L6 = w8 at *
                 refine wpAnyH_take (i := 10) (v := ?_) rfl (by kernel_rfl) (by kernel_rfl) (by kernel_rfl) (fun _ _ _ h => h) (Or.inl ⟨by rfl, ?_⟩) hS3 ?_
                 rotate_left
                 · intro W9 hSw; go_simp; first | done | with_reducible rfl | (rw [if_pos (by omega)]; with_reducible rfl)
                 refine wpAnyH_done (by kernel_rfl) ?_ _
                 go_wp2_with fail
                 go_meet
                 case rel => exact ⟨wb.heap.size, N6, L6, rfl, rfl, HFB.out.1, HFB.out.2.1, HFB.out.2.2⟩
               exact AllReadyH.nil
             exact AllReadyH.nil
           exact AllReadyH.nil
         · obtain ⟨g, hma, hgm⟩ := HMA.out hr0
           obtain ⟨ad, had⟩ : ∃ ad : Addr, ad = ⟨g, 0, none⟩ := ⟨_, rfl⟩
           rw [← had] at hma
           subst hma
           have CF3 : Hid (∀ W, Below wb.heap.size wb W → ∀ N' L', SpIn W bS N' L' → _) := fun W hb => CF4.out (some (ad.add (Q * 7))) (fun e => by
             have h1 := HGB.out e
             rw [hgm] at h1
             cases h1
             rw [had, Addr.add_lit]) r W hb
           have hcq : ¬ Q + r = Q := by omega
           have hcq2 : ¬ (Q : Int) + r = Q := by omega
           clear CF4 HGB HMA had hgm
           refine wp_region_held_drew (S := fun W => Below wb.heap.size wb W) (by kernel_rfl) (bel_drew wb) (fun hS0 => ?_)
           refine wpAnyH_take (i := 0) (v := ?_) rfl (by kernel_rfl) (by kernel_rfl) (by kernel_rfl) (fun _ _ _ h => h) (Or.inl ⟨by rfl, ?_⟩) hS0 ?_
           rotate_left
           · intro W9 hSw; have d0 := bel_cell hSw bx0; have d1 := bel_cell hSw bx1; have d2 := bel_cell hSw bx2; have d3 := bel_cell hSw bx3; have d4 := bel_cell hSw bx4; have d5 := bel_cell hSw bx5; go_simp; first | done | with_reducible rfl | (rw [if_pos (by omega)]; with_reducible rfl)
           refine wpAnyH_take (i := 1) (v := ?_) rfl (by kernel_rfl) (by kernel_rfl) (by kernel_rfl) (fun _ _ _ h => h) (Or.inl ⟨by rfl, ?_⟩) hS0 ?_
           rotate_left
           · intro W9 hSw; go_simp; first | done | with_reducible rfl | (rw [if_pos (by omega)]; with_reducible rfl)
           refine wpAnyH_take (i := 2) (v := ?_) rfl (by kernel_rfl) (by kernel_rfl) (by kernel_rfl) (fun _ _ _ h => h) (Or.inl ⟨by rfl, ?_⟩) hS0 ?_
           rotate_left
           · intro W9 hSw; go_simp; first | done | with_reducible rfl | (rw [if_pos (by omega)]; with_reducible rfl)
           refine wpAnyH_take (i := 3) (v := ?_) rfl (by kernel_rfl) (by kernel_rfl) (by kernel_rfl) (fun _ _ _ h => h) (Or.inl ⟨by rfl, ?_⟩) hS0 ?_
           rotate_left
           · intro W9 hSw; go_simp; first | done | with_reducible rfl | (rw [if_pos (by omega)]; with_reducible rfl)
           refine wpAnyH_ready (rs := [4, 8]) (by kernel_rfl) (by simp) ?_
           refine AllReadyH.cons rfl (fun K hK => ?_) ?_
           · go_simp
             refine (CF3.out _ hS0 _ _ (HIB.out.below hS0)).mono ?_
             rintro e w6 ⟨⟨N6, L6, ps6, g6, gl6, base6, M6, rfl, hO6, hb6⟩, c6⟩
             have C6 : Hid (wb.heap.size + 0 ≤ w6.heap.size ∧ wb.heap.size + 0 ≤ base6) := ⟨by have := c6.size; (try simp at this); omega, by have := hb6; (try simp at this); omega⟩
             have HO6 : Hid (OwnM base6 M6 w6 s N6 L6 ps6 g6 gl6) := hO6
             clear hO6 hb6
             unfold spV
             try go_simp
             refine hK.out _ _ (bel_tr hS0 c6) (fun hS1 => ?_)
             clear hK K c6
             refine wpAnyH_take (i := 5) (v := ?_) rfl (by kernel_rfl) (by kernel_rfl) (by kernel_rfl) (fun _ _ _ h => h) (Or.inl ⟨by rfl, ?_⟩) hS1 ?_
             rotate_left
             · intro W9 hSw; go_simp; first | done | with_reducible rfl | (rw [if_pos (by omega)]; with_reducible rfl)
             refine wpAnyH_take (i := 6) (v := ?_) rfl (by kernel_rfl) (by kernel_rfl) (by kernel_rfl) (fun _ _ _ h => h) (Or.inl ⟨by rfl, ?_⟩) hS1 ?_
             rotate_left
             · intro W9 hSw; go_simp; first | done | with_reducible rfl | (rw [if_pos (by omega)]; with_reducible rfl)
             refine wpAnyH_take (i := 7) (v := ?_) rfl (by kernel_rfl) (by kernel_rfl) (by kernel_rfl) (fun _ _ _ h => h) (Or.inl ⟨by rfl, ?_⟩) hS1 ?_
             rotate_left
             · intro W9 hSw; go_simp; first | done | with_reducible rfl | (rw [if_pos (by omega)]; with_reducible rfl)
             refine wpAnyH_ready (rs := [8]) (by kernel_rfl) (by simp) ?_
             refine AllReadyH.cons rfl (fun K hK => ?_) ?_
             · go_simp
               refine hK.out _ _ (bel_tr hS1 (by first | exact bel_al _ _ | exact bel_dal _ _ | exact bel_daal _ _ _)) (fun hS2 => ?_)
               clear hK K
               have FS6 : Hid (SpC (w6.alloc (.cells #[.int .i64 0, .int .i64 0, .int .i64 0, .int .i64 0, .slice none 0 0, .slice none 0 0] 27)) w6.heap.size zeroS noS noS) := SpC.new w6 27 zeroS noS noS
               have HFB : Hid (SpC (put6 (w6.alloc (.cells #[.int .i64 0, .int .i64 0, .int .i64 0, .int .i64 0, .slice none 0 0, .slice none 0 0] 27)) (w6.heap.size) s N6 L6) (w6.heap.size) s N6 L6 ∧ SpIn (put6 (w6.alloc (.cells #[.int .i64 0, .int .i64 0, .int .i64 0, .int .i64 0, .slice none 0 0, .slice none 0 0] 27)) (w6.heap.size) s N6 L6) s N6 L6 ∧ Below wb.heap.size wb (put6 (w6.alloc (.cells #[.int .i64 0, .int .i64 0, .int .i64 0, .int .i64 0, .slice none 0 0, .slice none 0 0] 27)) (w6.heap.size) s N6 L6)) := fo_box HO6.out (bel_al _ _) FS6.out (by obtain ⟨u1, u2⟩ := C6.out; omega) hS2 (by obtain ⟨u1, u2⟩ := C6.out; omega)
               generalize w6.alloc (.cells #[.int .i64 0, .int .i64 0, .int .i64 0, .int .i64 0, .slice none 0 0, .slice none 0 0] 27) = w7 at *
               refine wpAnyH_ready (rs := [9]) (by kernel_rfl) (by simp) ?_
               refine AllReadyH.cons rfl (fun K hK => ?_) ?_
               · skip
                 obtain ⟨z0, z1, z2, z3, z4, z5, zf⟩ := FS6.out
                 go_simp
                 rw [← put6_def w7 (w6.heap.size) s N6 L6]
                 refine hK.out _ _ HFB.out.2.2 (fun hS3 => ?_)
                 clear hK K z0 z1 z2 z3 z4 z5 zf
                 generalize put6 w7 (w6.heap.size) s N6 L6 = w8 at *
                 refine wpAnyH_take (i := 10) (v := ?_) rfl (by kernel_rfl) (by kernel_rfl) (by kernel_rfl) (fun _ _ _ h => h) (Or.inl ⟨by rfl, ?_⟩) hS3 ?_
                 rotate_left
                 · intro W9 hSw; go_simp; first | done | with_reducible rfl | (rw [if_pos (by omega)]; with_reducible rfl)
                 refine wpAnyH_done (by kernel_rfl) ?_ _
                 go_wp2_with fail
                 go_meet
                 case rel => exact ⟨w6.heap.size, N6, L6, rfl, rfl, HFB.out.1, HFB.out.2.1, HFB.out.2.2⟩
               exact AllReadyH.nil
             exact AllReadyH.nil
           refine AllReadyH.cons rfl (fun K hK => ?_) ?_
           · go_simp
             refine hK.out _ _ (bel_tr hS0 (by first | exact bel_al _ _ | exact bel_dal _ _ | exact bel_daal _ _ _)) (fun hS1 => ?_)
             clear hK K
             refine wpAnyH_ready (rs := [4]) (by kernel_rfl) (by simp) ?_
             refine AllReadyH.cons rfl (fun K hK => ?_) ?_
             · go_simp
               refine (CF3.out _ hS1 _ _ (HIB.out.below hS1)).mono ?_
               rintro e w6 ⟨⟨N6, L6, ps6, g6, gl6, base6, M6, rfl, hO6, hb6⟩, c6⟩
               have C6 : Hid (wb.heap.size + 1 ≤ w6.heap.size ∧ wb.heap.size + 1 ≤ base6) := ⟨by have := c6.size; (try simp at this); omega, by have := hb6; (try simp at this); omega⟩
               have HO6 : Hid (OwnM base6 M6 w6 s N6 L6 ps6 g6 gl6) := hO6
               have FS6 : Hid (SpC w6 wb.heap.size zeroS noS noS) := sp_one c6
               clear hO6 hb6
               unfold spV
               try go_simp
               refine hK.out _ _ (bel_tr hS1 c6) (fun hS2 => ?_)
               clear hK K c6
               have HFB : Hid (SpC (put6 w6 (wb.heap.size) s N6 L6) (wb.heap.size) s N6 L6 ∧ SpIn (put6 w6 (wb.heap.size) s N6 L6) s N6 L6 ∧ Below wb.heap.size wb (put6 w6 (wb.heap.size) s N6 L6)) := fo_box HO6.out (Below.refl _ _) FS6.out (by obtain ⟨u1, u2⟩ := C6.out; omega) hS2 (by obtain ⟨u1, u2⟩ := C6.out; omega)
               refine wpAnyH_take (i := 5) (v := ?_) rfl (by kernel_rfl) (by kernel_rfl) (by kernel_rfl) (fun _ _ _ h => h) (Or.inl ⟨by rfl, ?_⟩) hS2 ?_
               rotate_left
               · intro W9 hSw; go_simp; first | done | with_reducible rfl | (rw [if_pos (by omega)]; with_reducible rfl)
               refine wpAnyH_take (i := 6) (v := ?_) rfl (by kernel_rfl) (by kernel_rfl) (by kernel_rfl) (fun _ _ _ h => h) (Or.inl ⟨by rfl, ?_⟩) hS2 ?_
               rotate_left
               · intro W9 hSw; go_simp; first | done | with_reducible rfl | (rw [if_pos (by omega)]; with_reducible rfl)
               refine wpAnyH_take (i := 7) (v := ?_) rfl (by kernel_rfl) (by kernel_rfl) (by kernel_rfl) (fun _ _ _ h => h) (Or.inl ⟨by rfl, ?_⟩) hS2 ?_
               rotate_left
               · intro W9 hSw; go_simp; first | done | with_reducible rfl | (rw [if_pos (by omega)]; with_reducible rfl)
               refine wpAnyH_ready (rs := [9]) (by kernel_rfl) (by simp) ?_
               refine AllReadyH.cons rfl (fun K hK => ?_) ?_
               · skip
                 obtain ⟨z0, z1, z2, z3, z4, z5, zf⟩ := FS6.out
                 go_simp
                 rw [← put6_def w6 (wb.heap.size) s N6 L6]
                 refine hK.out _ _ HFB.out.2.2 (fun hS3 => ?_)
                 clear hK K z0 z1 z2 z3 z4 z5 zf
                 generalize put6 w6 (wb.heap.size) s N6 L6 = w8 at *
                 refine wpAnyH_take (i := 10) (v := ?_) rfl (by kernel_rfl) (by kernel_rfl) (by kernel_rfl) (fun _ _ _ h => h) (Or.inl ⟨by rfl, ?_⟩) hS3 ?_
                 rotate_left
                 · intro W9 hSw; go_simp; first | done | with_reducible rfl | (rw [if_pos (by omega)]; with_reducible rfl)
                 refine wpAnyH_done (by kernel_rfl) ?_ _
                 go_wp2_with fail
                 go_meet
                 case rel => exact ⟨wb.heap.size, N6, L6, rfl, rfl, HFB.out.1, HFB.out.2.1, HFB.out.2.2⟩
               exact AllReadyH.nil
             exact AllReadyH.nil
           exact AllReadyH.nil
       case rest =>
         rename World => wz
         obtain ⟨zq, N8, L8, rfl, rfl, hS8, hI8, hb8⟩ := hcut
         obtain ⟨xb, hIs, hFo, htb⟩ := HX6.out
         have HIX : Hid (SpIn wz s N5 L5 ∧ SpIn wz s N8 L8 ∧ SpIn wz s N L) := ⟨hIs.below hb8, hI8, (hFo.below hb8).now.spIn⟩
         have CSA : Hid (∀ W, Below wz.heap.size wz W → Calls Tryz.prog 9 #[spV s N5 L5, spV s N L] W fun e w' => e = .returned (.bool true) ∧ Below W.heap.size W w') := fun W hb => same_val (HIX.out.1.below hb) (HIX.out.2.2.below hb)
         have CSB : Hid (∀ W, Below wz.heap.size wz W → Calls Tryz.prog 9 #[spV s N8 L8, spV s N L] W fun e w' => e = .returned (.bool true) ∧ Below W.heap.size W w') := fun W hb => same_val (HIX.out.2.1.below hb) (HIX.out.2.2.below hb)
         have HBW : Hid (Below w.heap.size w wz) := (hFo.below hb8).bel
         obtain ⟨q0, q1, q2, q3, q4, q5, _⟩ := hFo.box.below hb8
         obtain ⟨y0, y1, y2, y3, y4, y5, _⟩ := xb.below hb8
         obtain ⟨z0, z1, z2, z3, z4, z5, _⟩ := hS8
         have t0 := bel_cell hb8 bx0
         rw [HTX.out] at t0
         unfold spV at CSA CSB
         clear xb hIs hFo htb hI8 hb8 HX6 HIX bx0 bx1 bx2 bx3 bx4 bx5 HIB CF4 HMA HGB
         go_wp2_with fail
         refine (CSA.out _ (Below.refl _ _)).mono ?_
         rintro e w9 ⟨rfl, c9⟩
         have B9 : Hid (Below wz.heap.size wz w9) := c9
         have r0 := bel_cell c9 q0
         have r1 := bel_cell c9 q1
         have r2 := bel_cell c9 q2
         have r3 := bel_cell c9 q3
         have r4 := bel_cell c9 q4
         have r5 := bel_cell c9 q5
         have s0 := bel_cell c9 z0
         have s1 := bel_cell c9 z1
         have s2 := bel_cell c9 z2
         have s3 := bel_cell c9 z3
         have s4 := bel_cell c9 z4
         have s5 := bel_cell c9 z5
         have t1 := bel_cell c9 t0
         clear c9 q0 q1 q2 q3 q4 q5 y0 y1 y2 y3 y4 y5 z0 z1 z2 z3 z4 z5 t0 CSA
         go_wp2_with fail
         refine (CSB.out _ B9.out).mono ?_
         rintro e w10 ⟨rfl, c10⟩
         have B10 : Hid (Below w.heap.size w w10) := bel_tr HBW.out (bel_tr B9.out c10)
         have t2 := bel_cell c10 t1
         clear c10 r0 r1 r2 r3 r4 r5 s0 s1 s2 s3 s4 s5 t1 CSB B9
         go_wp2
         go_ret
         exact ⟨by first | rfl | simp, B10.out⟩

theorem walk (a0 : Option Addr) (b0 off0 cap0 : Nat) (us : List ER) (a1 : Int) (w : World) (w0 : Eds w a0 b0 off0 us ∧ us.length ≤ cap0) (w1 : (Lit.int .i64 a1).wf = true) :
    Calls Tryz.prog 3 #[.slice a0 us.length cap0, .int .i64 a1] w fun e w' => e = .returned (.bool true) ∧ Below w.heap.size w w' :=
  walk_b a0 b0 off0 cap0 _ us a1 w rfl w0.1 (bounds_i64 w1)

set_option maxRecDepth 100000 in
theorem lifted (os : Os) (started : os.Started) (H : Type) (enc : TypeId × Value → H) :
    ReturnsInHanded {} Tryz.checked os 3 .any (Rows.spaceFoldsSpec.pre6 enc Tryz.prog Tryz.f3 Rows.spaceFoldsRow.domain false) (Rows.spaceFoldsSpec.post enc Tryz.prog Tryz.f3 false true false false) := by
  refine returnsInHanded_of_change (C := Tryz.checked) own started (by kernel_rfl) Tryz.func3
    (ChangeSpec.witness6 (enc := enc) (C := Tryz.checked) false ⟨#[], #[.slice none 0 0, .int .i64 0], []⟩ 8 (by kernel_rfl) (by kernel_rfl) (by kernel_rfl) (by kernel_rfl)) ?_
  intro W base args ds gs before hval0 hW hcnd _
  have hval : ∀ (j : Nat) t v, Tryz.f3.params[j]? = some t → args[j]? = some v → Value.okWide Tryz.prog W .any base t v := hval0
  have hW' := hW
  obtain ⟨p, q, hA0, hV, rfl, hfz, hnd⟩ := hW
  have hA : DataW.TrodAll enc Tryz.prog W 0 (fun _ => true) true Tryz.f3.params.toList args.toList ds p := hA0
  rw [Tryz.params3] at hA hval
  obtain ⟨v0, vs0, d0, ds0, p0, q0, hargs, rfl, rfl, h0, r0⟩ := trodAll_cons hA
  obtain ⟨v1, vs1, d1, ds1, p1, q1, rfl, rfl, rfl, h1, r1⟩ := trodAll_cons r0
  obtain ⟨rfl, rfl, rfl⟩ := trodAll_nil r1
  obtain rfl : args = #[v0, v1] := by cases args; simp_all
  obtain ⟨rfl, rfl⟩ := trodVars_none hV
  obtain ⟨a0, len0, cap0, rfl⟩ := okWide_slice Tryz.underlying22 (hval 0 22 v0 rfl rfl)
  have k0 := h0
  have lt0 : ∀ x ∈ p0, x.block < W.heap.size := by obtain ⟨m, hm⟩ := k0; exact DataW.trod_lt m _ _ _ hm
  obtain ⟨b0, off0, ss0, rfl, w0⟩ := Spa.open_edits h0
  obtain ⟨a1, rfl, rfl, rfl, w1⟩ := open_int Tryz.underlying3 (hval 1 3 v1 rfl rfl) h1
  clear hA0 hval0
  refine (walk a0 b0 off0 cap0 ss0 a1 W w0 w1).mono fun e W' ⟨he, bel⟩ => ?_
  subst he
  exact ⟨_, rfl, _, _, _, [], _, [], hW', trodAll_mk1 (shut_bool Tryz.underlying4 _), (trodAll_cons_mk (Below.trod laidOut (by kernel_rfl) (of_decide_eq_true (by kernel_rfl)) k0 bel lt0) (trodAll_cons_mk (shut_int Tryz.underlying3 w1) trodAll_mk0)), rfl, bel.frame _, fun h => by cases h⟩

theorem over : Rows.spaceFoldsRow.holds Tryz.pinned (OpenSpec.ofChange Rows.spaceFoldsSpec) :=
  OpenClaim.holds_of_wide 3 Tryz.f3 rfl rfl rfl rfl rfl rfl rfl ⟨rfl, rfl, rfl, rfl, rfl⟩ rfl rfl rfl rfl rfl (by kernel_rfl) Tryz.func3 (by kernel_rfl)
    (of_decide_eq_true (by kernel_rfl)) (by unfold Func.isWrapper; first | (rw [if_pos (by decide +kernel)]; kernel_rfl) | (rw [if_neg (by decide +kernel)]; exact ⟨rfl, rfl⟩))
    (fun os started H enc _ => lifted os started H enc)
end Go.Proofs.YticiihjkgiookaaGreat.spaceFolds

namespace Go.Proofs.YticiihjkgiookaaGreat
/-- The statement. -/
theorem spaceFolds_holds : Rows.SpaceFoldsSaid := spaceFolds.over
#print axioms spaceFolds_holds
end Go.Proofs.YticiihjkgiookaaGreat
