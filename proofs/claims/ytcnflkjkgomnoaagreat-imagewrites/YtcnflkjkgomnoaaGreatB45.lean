/- Part 45 of the proof: SpaceR1. -/
import Derived.Test.YtcnflkjkgomnoaaGreatB24
import Derived.Test.YtcnflkjkgomnoaaGreatB28
import Derived.Test.YtcnflkjkgomnoaaGreatB43
import Derived.Test.YtcnflkjkgomnoaaGreatB44
import Derived.Deep.LoopGhost
set_option maxRecDepth 100000
set_option maxHeartbeats 8000000
namespace Go.Proofs.YtcnflkjkgomnoaaGreat.Spa
open Go.RowKit Go.Proofs.YtcnflkjkgomnoaaGreat
open Go.Proofs.YtcnflkjkgomnoaaGreat.Lea (LS Ls LL untilX)
def idB (bs : List Blk) : List Int := bs.map (·.id)
structure SoFar (s : Sp) (sl : List Blk) : Prop where
  pw : sl.Pairwise (fun a b => a.id ≠ b.id)
  lo : ∀ b ∈ sl, b.id < s.nb ∧ b.gen < s.ng
theorem stay_cellR {O : Nat → Prop} {w w' : World} (h : Stay O w w') {a : Addr} {v : Value} (hc : w.cell? a = some v) (hO : ¬ O a.block) : w'.cell? a = some v :=
  (World.cell?_of_block (a := a) (h.block a.block (World.block_lt_of_cell? _ _ hc) hO)).trans hc
theorem SoFar.next {s : Sp} {sl : List Blk} (h : SoFar s sl) {b : Blk} (hid : ∀ x ∈ sl, x.id ≠ b.id) (h1 : b.id < s.nb) (h2 : b.gen < s.ng) : SoFar s (sl ++ [b]) :=
  ⟨List.pairwise_append.2 ⟨h.pw, List.pairwise_singleton _ _, fun x hx y hy => by rw [List.mem_singleton.1 hy]; exact hid x hx⟩, fun x hx => (List.mem_append.1 hx).elim (h.lo x) (fun e => by rw [List.mem_singleton.1 e]; exact ⟨h1, h2⟩)⟩
theorem SoFar.of {s : Sp} {sl : List Blk} (h : BksOk s) (hp : sl <+: blksL s.ns) : SoFar s sl := by
  obtain ⟨r, hr⟩ := hp
  refine ⟨?_, fun b hb => h.2 b (by rw [← hr]; exact List.mem_append_left _ hb)⟩
  have := h.1
  rw [← hr] at this
  exact (List.pairwise_append.1 this).1
theorem blks_next {ns : NS} {i : Nat} (hi : i < ns.length) : blksL (ns.take (i + 1)) = blksL (ns.take i) ++ ns[i].bs := by
  unfold blksL; rw [List.take_succ_eq_append_getElem hi, List.flatMap_append]
  simp only [List.flatMap_cons, List.flatMap_nil, List.append_nil]
theorem blks_pre {ns : NS} {i : Nat} (hi : i < ns.length) (k : Nat) : (blksL (ns.take i) ++ ns[i].bs.take k) <+: blksL ns := by
  refine ⟨ns[i].bs.drop k ++ blksL (ns.drop (i + 1)), ?_⟩
  have h1 : blksL ns = blksL (ns.take (i + 1)) ++ blksL (ns.drop (i + 1)) := by
    unfold blksL; rw [← List.flatMap_append, List.take_append_drop]
  rw [h1, blks_next hi, List.append_assoc, List.append_assoc, ← List.append_assoc (ns[i].bs.take k), List.take_append_drop]
theorem refRightS_val {s : Sp} {N L : RS} {w : World} (h : SpIn w s N L) (u : Bool) (hu : u = true ↔ RtS s) :
    Calls Tryz.prog 30 #[spV s N L] w fun e w' => e = .returned (.bool u) ∧ Below w.heap.size w w' := by
  obtain ⟨ti, hi1, hi2, hi3, hi4⟩ := Lea.intRow
  have HNLs : Hid (NL w N.a N.n s.ns) := h.nl
  have HLL : Hid (LL w L.a L.n L.c s.ls) := h.ll
  have HU : Hid (u = true ↔ RtS s) := hu
  obtain ⟨vt, hvt⟩ : ∃ v : Bool, v = true ↔ Right s.ns := by
    by_cases e : Right s.ns
    · exact ⟨true, fun _ => e, fun _ => rfl⟩
    · exact ⟨false, fun h => (by cases h), fun h => absurd h e⟩
  obtain ⟨vl, hvl⟩ : ∃ v : Bool, v = true ↔ Lea.Rt s.ls := by
    by_cases e : Lea.Rt s.ls
    · exact ⟨true, fun _ => e, fun _ => rfl⟩
    · exact ⟨false, fun h => (by cases h), fun h => absurd h e⟩
  have HVT : Hid (vt = true ↔ Right s.ns) := hvt
  have HVL : Hid (vl = true ↔ Lea.Rt s.ls) := hvl
  have CT : Hid (∀ W, Below w.heap.size w W → Calls Tryz.prog 66 #[.slice N.a N.n N.c] W fun e w' => e = .returned (.bool vt) ∧ Below W.heap.size W w') := fun W hb => refRight_val (HNLs.out.below hb) vt HVT.out
  have CL : Hid (∀ W, Below w.heap.size w W → Calls Tryz.prog 67 #[.slice L.a L.n L.c] W fun e w' => e = .returned (.bool vl) ∧ Below W.heap.size W w') := fun W hb => Lea.refRight_val (HLL.out.below hb) vl HVL.out
  have HNOT : Hid (¬ RtS s → u = false) := fun hn => by
    cases u with
    | false => rfl
    | true => exact absurd (HU.out.1 rfl) hn
  clear h hu hvt hvl; obtain ⟨tx, nb, ng, now, ns, ls⟩ := s
  obtain ⟨na, nn, nc⟩ := N
  obtain ⟨la, ln, lc⟩ := L
  unfold spV; simp only at HNLs HLL HVT HVL CT CL
  simp only
  have hst := run_store_str
  have hst2 := sto2
  go_enter Tryz.func30, Tryz.ntmps30; go_wp2_with fail
  refine (CT.out _ (bel_al _ _)).mono ?_
  rintro e w1 ⟨rfl, b1⟩; have B1 : Hid (Below w.heap.size w w1) := bel_tr (bel_al _ _) b1
  have S1 : Hid (SpC w1 w.heap.size ⟨tx, nb, ng, now, ns, ls⟩ ⟨na, nn, nc⟩ ⟨la, ln, lc⟩) := (SpC.new w 27 ⟨tx, nb, ng, now, ns, ls⟩ ⟨na, nn, nc⟩ ⟨la, ln, lc⟩).below b1
  have y5 := S1.out.c5
  simp only at y5
  have hw1 : w.heap.size < w1.heap.size := by have := b1.size; simp at this; omega
  clear b1 CT; go_wp2_with fail
  refine (CL.out _ B1.out).mono ?_
  rintro e w2 ⟨rfl, b2⟩; have B2 : Hid (Below w.heap.size w w2) := bel_tr B1.out b2
  have S2 : Hid (SpC w2 w.heap.size ⟨tx, nb, ng, now, ns, ls⟩ ⟨na, nn, nc⟩ ⟨la, ln, lc⟩) := S1.out.below b2
  have hw2 : w.heap.size < w2.heap.size := by have := b2.size; omega
  clear b2 CL B1 S1 y5 hw1; obtain ⟨x0, x1, x2, x3, x4, x5, _⟩ := S2.out
  simp only at x0 x1 x2 x3 x4 x5
  by_cases q0 : tx < 0
  · have t0 : decide (tx < 0) = true := decide_eq_true q0
    have hu0 : u = false := HNOT.out (fun h => by have := h.tx; simp only at this; omega)
    subst hu0; go_wp2; go_ret; exact ⟨rfl, B2.out⟩
  · have t0 : decide (tx < 0) = false := decide_eq_false q0
    by_cases q1 : 300 < tx
    · have t1 : decide (300 < tx) = true := decide_eq_true q1
      have hu0 : u = false := HNOT.out (fun h => by have := h.tx; simp only at this; omega)
      subst hu0; go_wp2; go_ret; exact ⟨rfl, B2.out⟩
    · have t1 : decide (300 < tx) = false := decide_eq_false q1
      by_cases q2 : nb < 1
      · have t2 : decide (nb < 1) = true := decide_eq_true q2
        have hu0 : u = false := HNOT.out (fun h => by have := h.nb; simp only at this; omega)
        subst hu0; go_wp2; go_ret; exact ⟨rfl, B2.out⟩
      · have t2 : decide (nb < 1) = false := decide_eq_false q2
        by_cases q3 : 9007199254740991 < nb
        · have t3 : decide (9007199254740991 < nb) = true := decide_eq_true q3
          have hu0 : u = false := HNOT.out (fun h => by have := h.nb; simp only at this; omega)
          subst hu0; go_wp2; go_ret; exact ⟨rfl, B2.out⟩
        · have t3 : decide (9007199254740991 < nb) = false := decide_eq_false q3
          by_cases q4 : ng < 1
          · have t4 : decide (ng < 1) = true := decide_eq_true q4
            have hu0 : u = false := HNOT.out (fun h => by have := h.ng; simp only at this; omega)
            subst hu0; go_wp2; go_ret; exact ⟨rfl, B2.out⟩
          · have t4 : decide (ng < 1) = false := decide_eq_false q4
            by_cases q5 : 9007199254740991 < ng
            · have t5 : decide (9007199254740991 < ng) = true := decide_eq_true q5
              have hu0 : u = false := HNOT.out (fun h => by have := h.ng; simp only at this; omega)
              subst hu0; go_wp2; go_ret; exact ⟨rfl, B2.out⟩
            · have t5 : decide (9007199254740991 < ng) = false := decide_eq_false q5
              by_cases q6 : now < 0
              · have t6 : decide (now < 0) = true := decide_eq_true q6
                have hu0 : u = false := HNOT.out (fun h => by have := h.now; simp only at this; omega)
                subst hu0; go_wp2; go_ret; exact ⟨rfl, B2.out⟩
              · have t6 : decide (now < 0) = false := decide_eq_false q6
                by_cases q7 : 9007199254740981 < now
                · have t7 : decide (9007199254740981 < now) = true := decide_eq_true q7
                  have hu0 : u = false := HNOT.out (fun h => by have := h.now; simp only at this; omega)
                  subst hu0; go_wp2; go_ret; exact ⟨rfl, B2.out⟩
                · have t7 : decide (9007199254740981 < now) = false := decide_eq_false q7
                  cases vt with
                  | false =>
                    have hu0 : u = false := HNOT.out (fun h => by have := HVT.out.2 h.tree; cases this)
                    subst hu0; go_wp2; go_ret; exact ⟨rfl, B2.out⟩
                  | true =>
                    cases vl with
                    | false =>
                      have hu0 : u = false := HNOT.out (fun h => by have := HVL.out.2 h.ls; cases this)
                      subst hu0; go_wp2; go_ret; exact ⟨rfl, B2.out⟩
                    | true =>
                      have HRG : Hid (Right ns) := HVT.out.1 rfl
                      have HRL : Hid (Lea.Rt ls) := HVL.out.1 rfl
                      have HRNG : Hid ((0 ≤ tx ∧ tx ≤ 300) ∧ (1 ≤ nb ∧ nb ≤ 9007199254740991) ∧ (1 ≤ ng ∧ ng ≤ 9007199254740991) ∧ (0 ≤ now ∧ now ≤ 9007199254740981)) := ⟨by omega, by omega, by omega, by omega⟩
                      have CO : Hid (∀ W m, (overL ns).length = m → Below w.heap.size w W → Calls Tryz.prog 68 #[.slice na nn nc] W fun e w' => TextsR W.heap.size (overL ns) m e w' ∧ Below W.heap.size W w') := fun W m hm hb => refOver_val (HNLs.out.below hb) true HVT.out (overL ns) rfl m hm
                      clear HVT HVL; obtain ⟨om, hom⟩ : ∃ m, (overL ns).length = m := ⟨_, rfl⟩
                      have HOM : Hid ((overL ns).length = om) := hom
                      clear hom; go_wp2_with fail
                      refine (CO.out _ om HOM.out B2.out).mono ?_
                      rintro e w3 ⟨hTR, b3⟩; obtain ⟨oa, oc, og, rfl, _⟩ := hTR.ex
                      have B3 : Hid (Below w.heap.size w w3) := bel_tr B2.out b3
                      have S3 : Hid (SpC w3 w.heap.size ⟨tx, nb, ng, now, ns, ls⟩ ⟨na, nn, nc⟩ ⟨la, ln, lc⟩) := S2.out.below b3
                      have hw3 : w.heap.size < w3.heap.size := by have := b3.size; omega
                      clear b3 hTR CO B2 S2 x0 x1 x2 x3 x4 x5 hw2; by_cases hom0 : om = 0
                      · subst hom0
                        have HOV : Hid (overL ns = []) := List.length_eq_zero_iff.1 HOM.out
                        obtain ⟨nbk, noff, ps, hm, hl, hNd⟩ := HNLs.out.ex
                        have HND : Hid (Nds w na nbk noff ps) := hNd
                        have HM : Hid (ps.map (·.1) = ns) := hm
                        have HPL : Hid (ps.length = nn) := by rw [← hl, ← hm, List.length_map]; exact rfl
                        have HNN : Hid (ns.length = nn) := hl
                        have h60 : nn ≤ 60 := by rw [← hl]; exact HRG.out.few
                        clear hNd hm hl HOM HNLs; have x4 := S3.out.c4
                        simp only at x4
                        go_wp2; clear x4; go_loopg [5, 6] nn (fun g v5 v6 wi => ∃ (i : Nat) (fa : Option Addr) (m fc : Nat) (gg : Option Nat), i + g = nn ∧ v6 = .int .i64 i ∧ v5 = .slice fa m fc ∧ m ≤ 8 * i ∧ Lea.NO w3.heap.size wi fa m fc (idB (blksL (ns.take i))) gg ∧ SoFar ⟨tx, nb, ng, now, ns, ls⟩ (blksL (ns.take i)) ∧ (∀ x ∈ ns.take i, x.wr ≠ -1 → (untilX ls x.wr).2 = true) ∧ Below w3.heap.size w3 wi)
                        case atStart => exact ⟨0, none, 0, 0, none, by omega, rfl, rfl, by omega, Lea.NO.none _ _, ⟨List.Pairwise.nil, fun b hb => (by cases hb)⟩, fun x hx => (by cases hx), Below.refl _ _⟩
                        case round =>
                          obtain ⟨i, fa, m, fc, gg, hig, rfl, rfl, hm8, hNO, hSF, hLS, hb⟩ := hrel
                          have HNO : Hid (Lea.NO w3.heap.size wr fa m fc (idB (blksL (ns.take i))) gg) := hNO
                          have HSF : Hid (SoFar ⟨tx, nb, ng, now, ns, ls⟩ (blksL (ns.take i))) := hSF
                          have HLS : Hid (∀ x ∈ ns.take i, x.wr ≠ -1 → (untilX ls x.wr).2 = true) := hLS
                          have HB : Hid (Below w3.heap.size w3 wr) := hb
                          have hSr := S3.out.below hb
                          have x4 := hSr.c4
                          have x5 := hSr.c5
                          simp only at x4 x5
                          clear hNO hSF hLS; by_cases hlt : i < nn
                          · have hip : i < ps.length := by rw [HPL.out]; exact hlt
                            have hix : i < ns.length := by rw [HNN.out]; exact hlt
                            have exi : ns[i] = ps[i].1 := by
                              have h1 : ns[i]? = some ps[i].1 := by rw [← HM.out, List.getElem?_map, List.getElem?_eq_getElem hip]; rfl
                              rw [List.getElem?_eq_getElem hix] at h1
                              exact Option.some.inj h1
                            have hK3 := HND.out.below B3.out
                            have hK := hK3.below hb
                            obtain ⟨e0, e1, e2, e3, e4⟩ := hK.at hip
                            obtain rfl := hK.addr (by omega)
                            have HBK : Hid (Blks w3 ps[i].2 ps[i].1.bs) := (hK3.ok _ (List.getElem_mem hip)).bs
                            have HFI : Hid (fitsB ps[i].1 = true) := by rw [← exi]; exact HRG.out.fit _ (List.getElem_mem hix)
                            have HTK : Hid (ns.take (i + 1) = ns.take i ++ [ps[i].1]) := by rw [← exi]; exact List.take_succ_eq_append_getElem hix
                            have HBN : Hid (blksL (ns.take (i + 1)) = blksL (ns.take i) ++ ps[i].1.bs) := by rw [← exi]; exact blks_next hix
                            have HPRE : Hid (∀ k, (blksL (ns.take i) ++ ps[i].1.bs.take k) <+: blksL ns) := fun k => by rw [← exi]; exact blks_pre hix k
                            have HMEM : Hid (ps[i].1 ∈ ns) := by rw [← exi]; exact List.getElem_mem hix
                            clear hK hK3 exi; generalize ps[i] = xx at *
                            obtain ⟨⟨p, d, q, bs, wb⟩, ⟨sa, sn, sc⟩⟩ := xx
                            simp only at e0 e1 e2 e3 e4 HBK HFI HTK HBN HPRE HMEM
                            have hwb : -1 ≤ wb := by
                              have h9 := HFI.out
                              unfold fitsB at h9; have h8 := (Bool.and_eq_true _ _ ▸ h9 : _ ∧ _).2
                              cases d with
                              | true => simp only [if_true, dirB, Bool.and_eq_true, decide_eq_true_eq] at h8; omega
                              | false => simp only [Bool.false_eq_true, if_false, fileB, headB, Bool.and_eq_true, decide_eq_true_eq] at h8; omega
                            have hbs8 : bs.length ≤ 8 := fits_few HFI.out
                            have hbsn : bs.length = sn := HBK.out.len
                            have HSN : Hid (bs.length = sn) := hbsn
                            have hsn8 : sn ≤ 8 := by omega
                            obtain ⟨⟨u0, v0⟩, huv⟩ : ∃ x, untilX ls wb = x := ⟨_, rfl⟩
                            have HUV : Hid (untilX ls wb = (u0, v0)) := huv
                            have CU : Hid (∀ W, Below w.heap.size w W → Calls Tryz.prog 69 #[.slice la ln lc, .int .i64 wb] W fun e w' => e = .returned (.tuple #[.int .i64 u0, .bool v0]) ∧ Below W.heap.size W w') := fun W hb => Lea.refUntil_val (HLL.out.below hb) wb u0 v0 HUV.out
                            have hx5a := cell_al x5
                            have f0 := cell_al e0
                            clear hip hix hbsn huv hbs8 hSr hb; go_wp2_with fail
                            refine (CU.out _ (bel_tr (bel_tr B3.out HB.out) (bel_al _ _))).mono ?_
                            rintro e w5 ⟨rfl, b5⟩; have X3 : Hid (w5.cell? ⟨wr.heap.size, 3, none⟩ = some (.slice sa sn sc)) := bel_cell b5 (World.cell?_alloc_new wr _ _ 3)
                            have x4b := bel_cell b5 (World.cell?_alloc_new wr _ _ 4)
                            have hQ5 : wr.heap.size < w5.heap.size := by have := b5.size; simp at this; omega
                            have B5 : Hid (Below w3.heap.size w3 w5) := HB.out.trans ((bel_tr (bel_al _ _) b5).mono HB.out.size)
                            have NO5 : Hid (Lea.NO w3.heap.size w5 fa m fc (idB (blksL (ns.take i))) gg) := (HNO.out.below (bel_al _ _)).below b5
                            have HGQ : Hid (∀ z, gg = some z → z ≠ wr.heap.size) := fun z hz => by have := (HNO.out.own z hz).1; omega
                            have hQ3 : w3.heap.size ≤ wr.heap.size := HB.out.size
                            clear b5 CU e0 e1 e2 e3 e4 x4 x5 hx5a f0 HNO HB; generalize wr.heap.size = Q at *
                            have hcase : (¬ 0 ≤ wb) ∨ (0 ≤ wb ∧ v0 = true) ∨ (0 ≤ wb ∧ v0 = false) := by
                              by_cases hc : 0 ≤ wb
                              · cases v0
                                · exact .inr (.inr ⟨hc, rfl⟩)
                                · exact .inr (.inl ⟨hc, rfl⟩)
                              · exact .inl hc
                            have HLN : Hid ((¬ 0 ≤ wb) ∨ (0 ≤ wb ∧ v0 = true) → ∀ x ∈ ns.take (i + 1), x.wr ≠ -1 → (untilX ls x.wr).2 = true) := fun hc x hx hw => by
                              rw [HTK.out] at hx
                              rcases List.mem_append.1 hx with hx | hx
                              · exact HLS.out x hx hw
                              · rw [List.mem_singleton.1 hx] at hw ⊢
                                simp only at hw ⊢
                                rcases hc with hc | hc
                                · omega
                                · rw [HUV.out]; exact hc.2
                            rcases hcase with hc | hc | hc
                            rotate_left 2
                            · have tc : decide (0 ≤ wb) = true := decide_eq_true hc.1
                              obtain ⟨hc0, rfl⟩ := hc
                              have hu0 : u = false := HNOT.out (fun h => by
                                have h9 := (rts_iff.1 h).2.2.2.2.2.2.2.2 _ HMEM.out (by simp only; omega)
                                simp only at h9
                                rw [HUV.out] at h9
                                cases h9)
                              subst hu0; go_wp2; go_ret; exact ⟨rfl, bel_tr B3.out B5.out⟩
                            all_goals
                              first
                                | (have tc : decide (0 ≤ wb) = false := decide_eq_false hc
                                   have HLX : Hid (∀ x ∈ ns.take (i + 1), x.wr ≠ -1 → (untilX ls x.wr).2 = true) := HLN.out (.inl hc))
                                | (have tc : decide (0 ≤ wb) = true := decide_eq_true hc.1
                                   have HLX : Hid (∀ x ∈ ns.take (i + 1), x.wr ≠ -1 → (untilX ls x.wr).2 = true) := HLN.out (.inr hc)
                                   have hv0 : v0 = true := hc.2
                                   subst hv0)
                              clear hc HLN; go_wp2; clear x4b; go_loopg [5, 10] sn (fun g v5 v10 wi => ∃ (k : Nat) (fa : Option Addr) (m fc : Nat) (gg : Option Nat), k + g = sn ∧ v10 = .int .i64 k ∧ v5 = .slice fa m fc ∧ m ≤ 8 * i + k ∧ Lea.NO w3.heap.size wi fa m fc (idB (blksL (ns.take i) ++ bs.take k)) gg ∧ (∀ z, gg = some z → z ≠ Q) ∧ SoFar ⟨tx, nb, ng, now, ns, ls⟩ (blksL (ns.take i) ++ bs.take k) ∧ wi.cell? ⟨Q, 3, none⟩ = some (.slice sa sn sc) ∧ Below w3.heap.size w3 wi)
                              case atStart => exact ⟨0, fa, m, fc, gg, by omega, rfl, rfl, by omega, by simpa using NO5.out, HGQ.out, by simpa using HSF.out, X3.out, B5.out⟩
                              case round =>
                                obtain ⟨k, fa, m, fc, gg, hkg, rfl, rfl, hmk, hNO, hgQ, hSF, hx3, hb⟩ := hrel
                                have HNO : Hid (Lea.NO w3.heap.size wr fa m fc (idB (blksL (ns.take i) ++ bs.take k)) gg) := hNO
                                have HGQ2 : Hid (∀ z, gg = some z → z ≠ Q) := hgQ
                                have HSF2 : Hid (SoFar ⟨tx, nb, ng, now, ns, ls⟩ (blksL (ns.take i) ++ bs.take k)) := hSF
                                have HX3 : Hid (wr.cell? ⟨Q, 3, none⟩ = some (.slice sa sn sc)) := hx3
                                have HB : Hid (Below w3.heap.size w3 wr) := hb
                                clear hNO hgQ hSF; by_cases hk : k < sn
                                · have hkb : k < bs.length := by rw [HSN.out]; exact hk
                                  obtain ⟨bb, bo, hba, hbc⟩ := (HBK.out.below hb).cells (by show 0 < sn; omega)
                                  simp only at hba
                                  subst hba; have c0 : wr.cell? ⟨bb, bo + k * 3, none⟩ = some (.int .i64 bs[k].id) := hbc k hkb 0 _ rfl
                                  have c1 : wr.cell? ⟨bb, bo + k * 3 + 1, none⟩ = some (.int .i64 bs[k].gen) := hbc k hkb 1 _ rfl
                                  have c2 : wr.cell? ⟨bb, bo + k * 3 + 2, none⟩ = some (.int .i64 bs[k].len) := hbc k hkb 2 _ rfl
                                  have HTB : Hid (bs.take (k + 1) = bs.take k ++ [bs[k]]) := List.take_succ_eq_append_getElem hkb
                                  generalize bs[k] = bk at *
                                  obtain ⟨bi, bg, bl⟩ := bk
                                  simp only at c0 c1 c2
                                  clear hbc hkb hb; go_wp2; clear hx3 c0 c1 c2; generalize hW6 : wr.alloc (.cells #[.int .i64 bi, .int .i64 bg, .int .i64 bl] 31) = W6 at *
                                  have P0 : Hid (W6.cell? ⟨wr.heap.size, 0, none⟩ = some (.int .i64 bi)) := hW6 ▸ World.cell?_alloc_new wr _ _ 0
                                  have P1 : Hid (W6.cell? ⟨wr.heap.size, 1, none⟩ = some (.int .i64 bg)) := hW6 ▸ World.cell?_alloc_new wr _ _ 1
                                  have BA : Hid (Below wr.heap.size wr W6) := hW6 ▸ bel_al _ _
                                  have hP6 : wr.heap.size < W6.heap.size := World.block_lt_of_cell? _ _ P0.out
                                  have NO6 : Hid (Lea.NO w3.heap.size W6 fa m fc (idB (blksL (ns.take i) ++ bs.take k)) gg) := HNO.out.below BA.out
                                  have HGP : Hid (∀ z, gg = some z → z ≠ wr.heap.size) := fun z hz => by have := (HNO.out.own z hz).1; omega
                                  have X36 : Hid (W6.cell? ⟨Q, 3, none⟩ = some (.slice (some ⟨bb, bo, none⟩) sn sc)) := bel_cell BA.out HX3.out
                                  have B6 : Hid (Below w3.heap.size w3 W6) := HB.out.trans (BA.out.mono HB.out.size)
                                  obtain ⟨ib, hib⟩ := NO6.out.ints
                                  have HIB : Hid (Ints W6 .i64 fa ib 0 (idB (blksL (ns.take i) ++ bs.take k))) := hib
                                  have HIL : Hid ((idB (blksL (ns.take i) ++ bs.take k)).length = m) := NO6.out.len
                                  have hm480 : m ≤ 500 := by omega
                                  clear hW6 hib BA HNO HX3; generalize wr.heap.size = P at *
                                  go_loopg [12] m (fun g v12 wj => ∃ j : Nat, j + g = m ∧ v12 = .int .i64 j ∧ (∀ z (hz : z < (idB (blksL (ns.take i) ++ bs.take k)).length), z < j → (idB (blksL (ns.take i) ++ bs.take k))[z] ≠ bi) ∧ Below W6.heap.size W6 wj)
                                  case atStart => exact ⟨0, by omega, rfl, fun z hz h0 => by omega, Below.refl _ _⟩
                                  case round =>
                                    obtain ⟨j, hjg, rfl, hall, hbj⟩ := hrel
                                    have HALL : Hid (∀ z (hz : z < (idB (blksL (ns.take i) ++ bs.take k)).length), z < j → (idB (blksL (ns.take i) ++ bs.take k))[z] ≠ bi) := hall
                                    have HBJ : Hid (Below W6.heap.size W6 wr) := hbj
                                    have p0 := bel_cell hbj P0.out
                                    clear hall; by_cases hj : j < m
                                    · have hjl : j < (idB (blksL (ns.take i) ++ bs.take k)).length := by rw [HIL.out]; exact hj
                                      have hIj := HIB.out.below hbj
                                      have hjc : wr.cell? ⟨ib, j, none⟩ = some (.int .i64 (idB (blksL (ns.take i) ++ bs.take k))[j]) := by
                                        have := hIj.cell j hjl
                                        rwa [Nat.zero_add] at this
                                      obtain rfl := hIj.addr (by omega)
                                      have HEQ : Hid ((idB (blksL (ns.take i) ++ bs.take k))[j] = bi → u = false) := fun he => HNOT.out (fun h => by
                                        have h9 := SoFar.of (rts_iff.1 h).2.2.2.2.2.2.1 (HPRE.out (k + 1))
                                        rw [HTB.out, ← List.append_assoc] at h9
                                        have h8 := (List.pairwise_append.1 h9.pw).2.2
                                        unfold idB at he hjl; rw [List.getElem_map] at he
                                        rw [List.length_map] at hjl
                                        exact h8 _ (List.getElem_mem hjl) _ (List.mem_singleton.2 rfl) he)
                                      have HNXT : Hid ((idB (blksL (ns.take i) ++ bs.take k))[j] ≠ bi → ∀ z (hz : z < (idB (blksL (ns.take i) ++ bs.take k)).length), z < j + 1 → (idB (blksL (ns.take i) ++ bs.take k))[z] ≠ bi) := fun hn z hz hzj => by
                                        by_cases hzz : z = j
                                        · subst hzz; exact hn
                                        · exact HALL.out z hz (by omega)
                                      generalize (idB (blksL (ns.take i) ++ bs.take k))[j] = iz at *
                                      clear hbj hIj hjl; by_cases hiz : iz = bi
                                      · have hizb : (iz == bi) = true := by simpa using hiz
                                        have hu0 : u = false := HEQ.out hiz
                                        subst hu0; clear hiz; go_wp2; go_quiet (fail)
                                        go_wp2; go_ret; exact ⟨rfl, bel_tr B3.out (bel_tr B6.out (bel_tr HBJ.out (bel_drewN _ _)))⟩
                                      · have hizb : (iz == bi) = false := by simpa using hiz
                                        have HNY : Hid _ := HNXT.out hiz
                                        clear hiz; go_wp2; go_quiet (fail)
                                        go_wp2; go_roundg (m - (j + 1))
                                        case measure => omega
                                        case rel => exact ⟨j + 1, by omega, by go_num, HNY.out, bel_tr HBJ.out (bel_drewN _ _)⟩
                                    · obtain rfl : j = m := by omega
                                      have hgd : decide ((j : Int) < (j : Int)) = false := decide_eq_false (by omega)
                                      have HDIS : Hid (∀ x ∈ blksL (ns.take i) ++ bs.take k, x.id ≠ bi) := fun x hx => by
                                        obtain ⟨z, hz, rfl⟩ := List.getElem_of_mem hx
                                        have h9 := HALL.out z (by unfold idB; rw [List.length_map]; exact hz) (by rw [← HIL.out]; unfold idB; rw [List.length_map]; exact hz)
                                        unfold idB at h9; rw [List.getElem_map] at h9
                                        exact h9
                                      have NOj : Hid (Lea.NO w3.heap.size wr fa j fc (idB (blksL (ns.take i) ++ bs.take k)) gg) := NO6.out.below hbj
                                      have p1 := bel_cell hbj P1.out
                                      have q3 := bel_cell hbj X36.out
                                      have BJ3 : Hid (Below w3.heap.size w3 wr) := B6.out.trans (hbj.mono B6.out.size)
                                      have hPj : P < wr.heap.size := World.block_lt_of_cell? _ _ p0
                                      have hQj : Q < wr.heap.size := World.block_lt_of_cell? _ _ q3
                                      have p0a := cell_al p0
                                      have HAP : Hid (∀ o a8 c8 w8 g8, Cel (Grow (fun k => w3.heap.size ≤ k) (wr.alloc o) w8) w8 1 (.slice a8 (j + 1) c8) (j + 1) (rowC Lea.intC (idB (blksL (ns.take i) ++ bs.take k)) ++ rowC Lea.intC [bi]) g8 → Stay (fun k => gg = some k) (wr.alloc o) w8 → (∀ z, g8 = some z → gg = some z ∨ (wr.alloc o).heap.size ≤ z) → Lea.NO w3.heap.size w8 a8 (j + 1) c8 (idB (blksL (ns.take i) ++ bs.take (k + 1))) g8 ∧ Below w3.heap.size w3 w8 ∧ (∀ z, g8 = some z → z ≠ Q) ∧ w8.cell? ⟨Q, 3, none⟩ = some (.slice (some ⟨bb, bo, none⟩) sn sc) ∧ w8.cell? ⟨P, 0, none⟩ = some (.int .i64 bi) ∧ w8.cell? ⟨P, 1, none⟩ = some (.int .i64 bg)) := fun o a8 c8 w8 g8 h1 h2 h3 => by
                                        have hsz : w3.heap.size ≤ (wr.alloc o).heap.size := Nat.le_trans BJ3.out.size (bel_al wr o).size
                                        have hN := (NOj.out.below (bel_al wr o)).app (ys := [bi]) rfl h1 hsz
                                        have hB := (NOj.out.below (bel_al wr o)).appBelow h2 hsz
                                        refine ⟨?_, (BJ3.out.trans ((bel_al wr o).mono BJ3.out.size)).trans hB, fun z hz => ?_, stay_cellR h2 (bel_cell (bel_al wr o) q3) (fun e => HGQ2.out _ e rfl), stay_cellR h2 (bel_cell (bel_al wr o) p0) (fun e => HGP.out _ e rfl), stay_cellR h2 (bel_cell (bel_al wr o) p1) (fun e => HGP.out _ e rfl)⟩
                                        · have e9 : idB (blksL (ns.take i) ++ bs.take (k + 1)) = idB (blksL (ns.take i) ++ bs.take k) ++ [bi] := by
                                            rw [HTB.out, ← List.append_assoc]
                                            simp [idB]
                                          rw [e9]
                                          exact hN
                                        · rcases h3 z hz with e | e
                                          · exact HGQ2.out z e
                                          · have := (bel_al wr o).size; omega
                                      clear hbj p1 q3; by_cases r1 : nb ≤ bi
                                      · have t1 : decide (nb ≤ bi) = true := decide_eq_true r1
                                        have hu0 : u = false := HNOT.out (fun h => by
                                          have h9 := SoFar.of (rts_iff.1 h).2.2.2.2.2.2.1 (HPRE.out (k + 1))
                                          rw [HTB.out, ← List.append_assoc] at h9
                                          have := (h9.lo ⟨bi, bg, bl⟩ (List.mem_append_right _ (List.mem_singleton.2 rfl))).1
                                          simp only at this
                                          omega)
                                        subst hu0; go_wp2_with (at_builtin; refine wpList_append_cel _ rfl _ _ 40 40 rfl 3 ti _ 1 8 Tryz.underlying40 hi1 hi2 hi3 hi4 rfl (O := fun k => w3.heap.size ≤ k) _ j _ gg rfl ((NOj.out.below (bel_al _ _)).cel) _ 1 (rowC Lea.intC [bi]) rfl (Lea.src_int wr bi) (by unfold maxLen; omega) (by omega) ?_; intro a8 c8 w8 g8 hC8 hS8 hf8; have A8 : Hid _ := HAP.out _ a8 c8 w8 g8 hC8 hS8 hf8; have z0 := A8.out.2.2.2.2.1; have z1 := A8.out.2.2.2.2.2; have s1 := (S3.out.below A8.out.2.1).c1; have s2 := (S3.out.below A8.out.2.1).c2; simp only at s1 s2; clear hC8 hS8 hf8)
                                        go_ret; exact ⟨rfl, bel_tr B3.out A8.out.2.1⟩
                                      · have t1 : decide (nb ≤ bi) = false := decide_eq_false r1
                                        by_cases r2 : ng ≤ bg
                                        · have t2 : decide (ng ≤ bg) = true := decide_eq_true r2
                                          have hu0 : u = false := HNOT.out (fun h => by
                                            have h9 := SoFar.of (rts_iff.1 h).2.2.2.2.2.2.1 (HPRE.out (k + 1))
                                            rw [HTB.out, ← List.append_assoc] at h9
                                            have := (h9.lo ⟨bi, bg, bl⟩ (List.mem_append_right _ (List.mem_singleton.2 rfl))).2
                                            simp only at this
                                            omega)
                                          subst hu0; go_wp2_with (at_builtin; refine wpList_append_cel _ rfl _ _ 40 40 rfl 3 ti _ 1 8 Tryz.underlying40 hi1 hi2 hi3 hi4 rfl (O := fun k => w3.heap.size ≤ k) _ j _ gg rfl ((NOj.out.below (bel_al _ _)).cel) _ 1 (rowC Lea.intC [bi]) rfl (Lea.src_int wr bi) (by unfold maxLen; omega) (by omega) ?_; intro a8 c8 w8 g8 hC8 hS8 hf8; have A8 : Hid _ := HAP.out _ a8 c8 w8 g8 hC8 hS8 hf8; have z0 := A8.out.2.2.2.2.1; have z1 := A8.out.2.2.2.2.2; have s1 := (S3.out.below A8.out.2.1).c1; have s2 := (S3.out.below A8.out.2.1).c2; simp only at s1 s2; clear hC8 hS8 hf8)
                                          go_ret; exact ⟨rfl, bel_tr B3.out A8.out.2.1⟩
                                        · have t2 : decide (ng ≤ bg) = false := decide_eq_false r2
                                          have HSN2 : Hid (SoFar ⟨tx, nb, ng, now, ns, ls⟩ (blksL (ns.take i) ++ bs.take (k + 1))) := by
                                            have h9 := HSF2.out.next (b := ⟨bi, bg, bl⟩) HDIS.out (by simp only; omega) (by simp only; omega)
                                            rw [List.append_assoc, ← HTB.out] at h9
                                            exact h9
                                          go_wp2_with (at_builtin; refine wpList_append_cel _ rfl _ _ 40 40 rfl 3 ti _ 1 8 Tryz.underlying40 hi1 hi2 hi3 hi4 rfl (O := fun k => w3.heap.size ≤ k) _ j _ gg rfl ((NOj.out.below (bel_al _ _)).cel) _ 1 (rowC Lea.intC [bi]) rfl (Lea.src_int wr bi) (by unfold maxLen; omega) (by omega) ?_; intro a8 c8 w8 g8 hC8 hS8 hf8; have A8 : Hid _ := HAP.out _ a8 c8 w8 g8 hC8 hS8 hf8; have z0 := A8.out.2.2.2.2.1; have z1 := A8.out.2.2.2.2.2; have s1 := (S3.out.below A8.out.2.1).c1; have s2 := (S3.out.below A8.out.2.1).c2; simp only at s1 s2; clear hC8 hS8 hf8)
                                          go_roundg (sn - (k + 1))
                                          case measure => omega
                                          case rel => exact ⟨k + 1, a8, j + 1, c8, g8, by omega, by go_num, rfl, by omega, A8.out.1, A8.out.2.2.1, HSN2.out, A8.out.2.2.2.1, A8.out.2.1⟩
                                · obtain rfl : k = sn := by omega
                                  have hgd : decide ((k : Int) < (k : Int)) = false := decide_eq_false (by omega)
                                  have hbt : bs.take k = bs := List.take_of_length_le (by rw [HSN.out]; omega)
                                  rw [hbt, ← HBN.out] at HNO HSF2
                                  clear hb hbt; go_wp2; go_roundg (nn - (i + 1))
                                  case measure => omega
                                  case rel => exact ⟨i + 1, fa, m, fc, gg, by omega, by go_num, rfl, by omega, HNO.out, HSF2.out, HLX.out, HB.out⟩
                          · obtain rfl : i = nn := by omega
                            have hgd : decide ((i : Int) < (i : Int)) = false := decide_eq_false (by omega)
                            have hu1 : u = true := by
                              refine HU.out.2 (rts_iff.2 ⟨HRNG.out.1, HRNG.out.2.1, HRNG.out.2.2.1, HRNG.out.2.2.2, HRG.out, HOV.out, ?_, HRL.out, ?_⟩)
                              · have h9 := HSF.out
                                rw [List.take_of_length_le (by rw [HNN.out]; omega)] at h9
                                exact ⟨h9.pw, h9.lo⟩
                              · have h9 := HLS.out
                                rw [List.take_of_length_le (by rw [HNN.out]; omega)] at h9
                                exact h9
                            subst hu1; clear hb hlt hSr; go_wp2; go_ret; exact ⟨rfl, bel_tr B3.out HB.out⟩
                      · have hgt : decide (0 < om) = true := decide_eq_true (by omega)
                        have hgt2 : decide ((0 : Int) < (om : Int)) = true := decide_eq_true (by omega)
                        have hu0 : u = false := HNOT.out (fun h => hom0 (by rw [← HOM.out, h.over]; rfl))
                        subst hu0; go_wp2; go_ret; exact ⟨rfl, B3.out⟩
end Go.Proofs.YtcnflkjkgomnoaaGreat.Spa
