/- Part 53 of the proof: SpaceL5, ImageS. -/
import Derived.Test.YtdilfbfkeiaafaaGreatB40
import Derived.BigQuiet
import Derived.Deep.LoopGhost
set_option maxRecDepth 100000
set_option maxHeartbeats 8000000
namespace Go.Proofs.YtdilfbfkeiaafaaGreat.Spa
open Go.RowKit Go.Proofs.YtdilfbfkeiaafaaGreat
open Go.Proofs.YtdilfbfkeiaafaaGreat.Lea (LS Ls LL)
theorem sameN_val {r r2 : RS} {xs : NS} {w : World} (h : NL w r.a r.n xs) (h2 : NL w r2.a r2.n xs) :
    Calls Tryz.prog 42 #[.slice r.a r.n r.c, .slice r2.a r2.n r2.c] w fun e w' => e = .returned (.bool true) ∧ Below w.heap.size w w' := by
  obtain ⟨b, off, ps, hm, hl, hN⟩ := h.ex
  obtain ⟨b2, off2, ps2, hm2, hl2, hN2⟩ := h2.ex
  have hlid := h.lid
  unfold maxLen at hlid; obtain ⟨a, n, c⟩ := r
  obtain ⟨a2, n2, c2⟩ := r2
  simp only at hl hl2 hN hN2 hlid
  obtain rfl : n2 = n := by omega
  have HN : Hid (Nds w a b off ps) := hN
  have HN2 : Hid (Nds w a2 b2 off2 ps2) := hN2
  have HP : Hid (ps.length = n2) := by rw [← hl, ← hm, List.length_map]; exact rfl
  have HP2 : Hid (ps2.length = n2) := by rw [← hl2, ← hm2, List.length_map]; exact rfl
  have HE : Hid (∀ i (hi : i < ps.length) (hi2 : i < ps2.length), ps2[i].1 = ps[i].1) := fun i hi hi2 => by
    have h1 : xs[i]? = some ps[i].1 := by rw [← hm, List.getElem?_map, List.getElem?_eq_getElem hi]; rfl
    have h3 : xs[i]? = some ps2[i].1 := by rw [← hm2, List.getElem?_map, List.getElem?_eq_getElem hi2]; rfl
    rw [h1] at h3
    exact (Option.some.inj h3).symm
  clear h h2 hm hm2 hl hl2 hN hN2; have hst := run_store_str
  have hst2 := sto2
  go_enter Tryz.func42, Tryz.ntmps42; go_wp2; go_loopg [5] n2 (fun g v wi => ∃ i : Nat, i + g = n2 ∧ v = .int .i64 i ∧ Below w.heap.size w wi)
  case atStart => exact ⟨0, by omega, rfl, Below.refl _ _⟩
  case round =>
    obtain ⟨i, hig, rfl, hb⟩ := hrel
    have HB : Hid (Below w.heap.size w wr) := hb
    by_cases hlt : i < n2
    · have hip : i < ps.length := by rw [HP.out]; exact hlt
      have hip2 : i < ps2.length := by rw [HP2.out]; exact hlt
      have hK := HN.out.below hb
      have hK2 := HN2.out.below hb
      have hok := hK.ok _ (List.getElem_mem hip)
      have hok2 := hK2.ok _ (List.getElem_mem hip2)
      obtain ⟨e0, e1, e2, e3, e4⟩ := hK.at hip
      obtain ⟨d0, d1, d2, d3, d4⟩ := hK2.at hip2
      obtain rfl := hK.addr (by omega)
      obtain rfl := hK2.addr (by omega)
      have hsame := HE.out i hip hip2
      rw [hsame] at d0 d1 d2 d4
      have hok2b : Blks wr ps2[i].2 ps[i].1.bs := hsame ▸ hok2.bs
      have HK1 : Hid (Blks wr ps[i].2 ps[i].1.bs) := hok.bs
      have HK2 : Hid (Blks wr ps2[i].2 ps[i].1.bs) := hok2b
      clear hsame hok hok2 hok2b hK hK2 hb; generalize ps2[i].2 = y at *
      generalize ps[i] = x at *
      obtain ⟨⟨p, d, q, bs, wb⟩, ⟨sa, sn, sc⟩⟩ := x
      obtain ⟨ya, yn, yc⟩ := y
      simp only at e0 e1 e2 e3 e4 d0 d1 d2 d3 d4 HK1 HK2
      have hs := HK1.out.len
      have hy := HK2.out.len
      have hsl := HK1.out.lid
      unfold maxLen at hsl; simp only at hs hy hsl
      obtain rfl : yn = sn := by omega
      have HS : Hid (bs.length = yn) := hs
      have f0 := cell_al d0
      have f1 := cell_al d1
      have f2 := cell_al d2
      have f3 := cell_al d3
      have f4 := cell_al d4
      clear hs hy d0 d1 d2 d3 d4 hip hip2; go_wp2; generalize hW : (wr.alloc (.cells #[.string p, .bool d, .int .i64 q, .slice sa yn sc, .int .i64 wb] 35)).alloc (.cells #[.string p, .bool d, .int .i64 q, .slice ya yn yc, .int .i64 wb] 35) = W at *
      obtain ⟨k1, k2, k3, k4, k5, k6⟩ := two_boxes (w2 := W) (by rw [← hW]; exact Below.refl _ _)
      have X3 : Hid (W.cell? ⟨wr.heap.size, 3, none⟩ = some (.slice sa yn sc)) := k1 3 _ rfl
      have Y3 : Hid (W.cell? ⟨wr.heap.size + 1, 3, none⟩ = some (.slice ya yn yc)) := k3 3 _ rfl
      have BW : Hid (Below wr.heap.size wr W) := k5
      clear k1 k2 k3 k4 k5 k6 hW f0 f1 f2 f3 f4 e0 e1 e2 e3 e4; rename World => wo; go_loopg [8] yn (fun g v wi => ∃ j : Nat, j + g = yn ∧ v = .int .i64 j ∧ Below wo.heap.size wo wi)
      case atStart => exact ⟨0, by omega, rfl, Below.refl _ _⟩
      case round =>
        obtain ⟨j, hjg, rfl, hbj⟩ := hrel
        have HBJ : Hid (Below wo.heap.size wo wr) := hbj
        have x3 := bel_cell hbj X3.out
        have y3 := bel_cell hbj Y3.out
        by_cases hj : j < yn
        · have hjb : j < bs.length := by rw [HS.out]; exact hj
          obtain ⟨c1, o1, ha1, hc1⟩ := (HK1.out.below (bel_tr BW.out hbj)).cells (by show 0 < yn; omega)
          obtain ⟨c2, o2, ha2, hc2⟩ := (HK2.out.below (bel_tr BW.out hbj)).cells (by show 0 < yn; omega)
          simp only at ha1 ha2
          subst ha1 ha2; have b0 : wr.cell? ⟨c1, o1 + j * 3, none⟩ = some (.int .i64 bs[j].id) := hc1 j hjb 0 _ rfl
          have b1 := hc1 j hjb 1 _ rfl
          have b2 := hc1 j hjb 2 _ rfl
          have d0 : wr.cell? ⟨c2, o2 + j * 3, none⟩ = some (.int .i64 bs[j].id) := hc2 j hjb 0 _ rfl
          have d1 := hc2 j hjb 1 _ rfl
          have d2 := hc2 j hjb 2 _ rfl
          clear hc1 hc2 hbj; generalize bs[j].id = m0 at *
          generalize bs[j].gen = m1 at *
          generalize bs[j].len = m2 at *
          clear hjb; go_wp2; go_quiet (fail)
          go_wp2; go_roundg (yn - (j + 1))
          case measure => omega
          case rel => exact ⟨j + 1, by omega, by go_num, bel_tr HBJ.out (bel_drewN _ _)⟩
        · obtain rfl : j = yn := by omega
          have hgd : decide ((j : Int) < (j : Int)) = false := decide_eq_false (by omega)
          clear hbj; go_wp2; go_roundg (n2 - (i + 1))
          case measure => omega
          case rel => exact ⟨i + 1, by omega, by go_num, bel_tr HB.out (bel_tr BW.out HBJ.out)⟩
    · obtain rfl : i = n2 := by omega
      have hgd : decide ((i : Int) < (i : Int)) = false := decide_eq_false (by omega)
      clear hb hlt; go_wp2; go_ret; exact ⟨rfl, HB.out⟩
theorem sameS_val {s : Sp} {N L N2 L2 : RS} {w : World} (h : SpIn w s N L) (h2 : SpIn w s N2 L2) :
    Calls Tryz.prog 19 #[spV s N L, spV s N2 L2] w fun e w' => e = .returned (.bool true) ∧ Below w.heap.size w w' := by
  have CN : Hid (∀ W, Below w.heap.size w W → Calls Tryz.prog 42 #[.slice N.a N.n N.c, .slice N2.a N2.n N2.c] W fun e w' => e = .returned (.bool true) ∧ Below W.heap.size W w') := fun W hb => sameN_val (h.nl.below hb) (h2.nl.below hb)
  have HL : Hid (LL w L.a L.n L.c s.ls) := h.ll
  have HL2 : Hid (LL w L2.a L2.n L2.c s.ls) := h2.ll
  have e1 := h.ll.len
  have e2 := h2.ll.len
  have hlid : L.n ≤ 9223372036854775807 := by have h3 := h.ll.room; have h4 := h.ll.lid; unfold maxLen at h4; omega
  clear h h2; obtain ⟨tx, nb, ng, now, ns, ls⟩ := s
  obtain ⟨na, nn, nc⟩ := N
  obtain ⟨na2, nn2, nc2⟩ := N2
  obtain ⟨la, ln, lc⟩ := L
  obtain ⟨la2, ln2, lc2⟩ := L2
  simp only at e1 e2 hlid HL HL2 CN
  obtain rfl : ln2 = ln := by omega
  have HS : Hid (ls.length = ln2) := e1
  clear e1 e2; unfold spV; simp only
  have hst2 := sto2
  go_enter Tryz.func19, Tryz.ntmps19; go_wp2; generalize hW : (w.alloc (.cells #[.int .i64 tx, .int .i64 nb, .int .i64 ng, .int .i64 now, .slice na nn nc, .slice la ln2 lc] 27)).alloc (.cells #[.int .i64 tx, .int .i64 nb, .int .i64 ng, .int .i64 now, .slice na2 nn2 nc2, .slice la2 ln2 lc2] 27) = W at *
  obtain ⟨k1, k2, k3, k4, k5, k6⟩ := two_boxes (w2 := W) (by rw [← hW]; exact Below.refl _ _)
  have X4 : Hid (W.cell? ⟨w.heap.size, 4, none⟩ = some (.slice na nn nc)) := k1 4 _ rfl
  have X5 : Hid (W.cell? ⟨w.heap.size, 5, none⟩ = some (.slice la ln2 lc)) := k1 5 _ rfl
  have Y4 : Hid (W.cell? ⟨w.heap.size + 1, 4, none⟩ = some (.slice na2 nn2 nc2)) := k3 4 _ rfl
  have Y5 : Hid (W.cell? ⟨w.heap.size + 1, 5, none⟩ = some (.slice la2 ln2 lc2)) := k3 5 _ rfl
  have BW : Hid (Below w.heap.size w W) := k5
  clear k1 k2 k3 k4 k5 k6 hW; go_loopg [5] ln2 (fun g v wi => ∃ j : Nat, j + g = ln2 ∧ v = .int .i64 j ∧ Below W.heap.size W wi)
  case atStart => exact ⟨0, by omega, rfl, Below.refl _ _⟩
  case round =>
    obtain ⟨j, hjg, rfl, hbj⟩ := hrel
    have HBJ : Hid (Below W.heap.size W wr) := hbj
    have x4 := bel_cell hbj X4.out
    have x5 := bel_cell hbj X5.out
    have y4 := bel_cell hbj Y4.out
    have y5 := bel_cell hbj Y5.out
    by_cases hj : j < ln2
    · have hjb : j < ls.length := by rw [HS.out]; exact hj
      obtain ⟨c1, o1, ha1, hc1⟩ := (HL.out.below (bel_tr BW.out hbj)).at (by omega)
      obtain ⟨c2, o2, ha2, hc2⟩ := (HL2.out.below (bel_tr BW.out hbj)).at (by omega)
      subst ha1 ha2; obtain ⟨b0, b1⟩ := hc1 j hjb
      obtain ⟨d0, d1⟩ := hc2 j hjb
      clear hc1 hc2 hbj; generalize ls[j].c = m0 at *
      generalize ls[j].u = m1 at *
      clear hjb; go_wp2; go_quiet (fail)
      go_wp2; go_roundg (ln2 - (j + 1))
      case measure => omega
      case rel => exact ⟨j + 1, by omega, by go_num, bel_tr HBJ.out (bel_drewN _ _)⟩
    · obtain rfl : j = ln2 := by omega
      have hgd : decide ((j : Int) < (j : Int)) = false := decide_eq_false (by omega)
      clear hbj; go_wp2_with fail
      refine (CN.out _ (bel_tr BW.out HBJ.out)).mono ?_
      rintro e w6 ⟨rfl, c6⟩; have B6 : Hid _ := c6
      clear c6; go_wp2; go_ret; exact ⟨rfl, bel_tr BW.out (bel_tr HBJ.out B6.out)⟩
theorem bytes_no {a b : ByteArray} (h : ¬ a = b) : (a.toList == b.toList) = false := by
  rw [ByteArray.toList_eq, ByteArray.toList_eq, beq_eq_false_iff_ne]
  intro e
  exact h (Go.WideShapes.bytes_inj e)
theorem take_one {α : Type} {xs ys : List α} {i : Nat} (hi : i < xs.length) (hi2 : i < ys.length) (h : xs.take i = ys.take i) (e : xs[i] = ys[i]) : xs.take (i + 1) = ys.take (i + 1) := by
  rw [List.take_succ_eq_append_getElem hi, List.take_succ_eq_append_getElem hi2, h, e]
theorem take_same {α : Type} {xs ys : List α} {n : Nat} (h1 : xs.length = n) (h2 : ys.length = n) (h : xs.take n = ys.take n) : xs = ys := by
  rw [List.take_of_length_le (by omega), List.take_of_length_le (by omega)] at h
  exact h
theorem at_of {xs : NS} {ps : List NR} (hm : ps.map (·.1) = xs) {i : Nat} (hi : i < ps.length) (hx : i < xs.length) : xs[i] = ps[i].1 := by
  subst hm; simp
theorem sameN_no {r r2 : RS} {xs ys : NS} {w : World} (h : NL w r.a r.n xs) (h2 : NL w r2.a r2.n ys) (hne : xs ≠ ys) :
    Calls Tryz.prog 42 #[.slice r.a r.n r.c, .slice r2.a r2.n r2.c] w fun e w' => e = .returned (.bool false) ∧ Below w.heap.size w w' := by
  obtain ⟨b, off, ps, hm, hl, hN⟩ := h.ex
  obtain ⟨b2, off2, ps2, hm2, hl2, hN2⟩ := h2.ex
  have hlid := h.lid
  have hlid2 := h2.lid
  unfold maxLen at hlid hlid2; obtain ⟨a, n, c⟩ := r
  obtain ⟨a2, n2, c2⟩ := r2
  simp only at hl hl2 hN hN2 hlid hlid2
  have hst := run_store_str
  have hst2 := sto2
  by_cases hnn : n = n2
  · subst hnn
    have HN : Hid (Nds w a b off ps) := hN
    have HN2 : Hid (Nds w a2 b2 off2 ps2) := hN2
    have HP : Hid (ps.length = n) := by rw [← hl, ← hm, List.length_map]; exact rfl
    have HP2 : Hid (ps2.length = n) := by rw [← hl2, ← hm2, List.length_map]; exact rfl
    have HX : Hid (xs.length = n) := hl
    have HY : Hid (ys.length = n) := hl2
    have HM : Hid (ps.map (·.1) = xs) := hm
    have HM2 : Hid (ps2.map (·.1) = ys) := hm2
    have HNE : Hid (xs ≠ ys) := hne
    clear h h2 hm hm2 hl hl2 hN hN2 hne; go_enter Tryz.func42, Tryz.ntmps42; go_wp2; go_loopg [5] n (fun g v wi => ∃ i : Nat, i + g = n ∧ v = .int .i64 i ∧ xs.take i = ys.take i ∧ Below w.heap.size w wi)
    case atStart => exact ⟨0, by omega, rfl, by simp, Below.refl _ _⟩
    case round =>
      obtain ⟨i, hig, rfl, htk, hb⟩ := hrel
      have HB : Hid (Below w.heap.size w wr) := hb
      have HT : Hid (xs.take i = ys.take i) := htk
      clear htk; by_cases hlt : i < n
      · have hip : i < ps.length := by rw [HP.out]; exact hlt
        have hip2 : i < ps2.length := by rw [HP2.out]; exact hlt
        have hix : i < xs.length := by rw [HX.out]; exact hlt
        have hiy : i < ys.length := by rw [HY.out]; exact hlt
        have hK := HN.out.below hb
        have hK2 := HN2.out.below hb
        have hok := hK.ok _ (List.getElem_mem hip)
        have hok2 := hK2.ok _ (List.getElem_mem hip2)
        obtain ⟨e0, e1, e2, e3, e4⟩ := hK.at hip
        obtain ⟨d0, d1, d2, d3, d4⟩ := hK2.at hip2
        obtain rfl := hK.addr (by omega)
        obtain rfl := hK2.addr (by omega)
        have HNX : Hid (ps[i].1 = ps2[i].1 → xs.take (i + 1) = ys.take (i + 1)) := fun e => take_one hix hiy HT.out (by rw [at_of HM.out hip hix, at_of HM2.out hip2 hiy]; exact e)
        have HK1 : Hid (Blks wr ps[i].2 ps[i].1.bs) := hok.bs
        have HK2 : Hid (Blks wr ps2[i].2 ps2[i].1.bs) := hok2.bs
        clear hok hok2 hK hK2 hb; generalize ps2[i] = y at *
        generalize ps[i] = x at *
        obtain ⟨⟨p, d, q, bs, wb⟩, ⟨sa, sn, sc⟩⟩ := x
        obtain ⟨⟨p2, d2, q2, bs2, wb2⟩, ⟨ya, yn, yc⟩⟩ := y
        simp only at e0 e1 e2 e3 e4 d0 d1 d2 d3 d4 HK1 HK2 HNX
        have hs := HK1.out.len
        have hy := HK2.out.len
        have hsl := HK1.out.lid
        have hyl := HK2.out.lid
        unfold maxLen at hsl hyl; simp only at hs hy hsl hyl
        have f0 := cell_al d0
        have f1 := cell_al d1
        have f2 := cell_al d2
        have f3 := cell_al d3
        have f4 := cell_al d4
        clear d0 d1 d2 d3 d4 hip hip2 hix hiy; by_cases c1 : p = p2
        · subst c1
          by_cases c2 : d = d2
          · subst c2
            by_cases c3 : q = q2
            · subst c3
              by_cases c4 : wb = wb2
              · subst c4
                by_cases c5 : sn = yn
                · subst c5
                  have HS : Hid (bs.length = sn) := hs
                  have HS2 : Hid (bs2.length = sn) := hy
                  clear hs hy; go_wp2; generalize hW : (wr.alloc (.cells #[.string p, .bool d, .int .i64 q, .slice sa sn sc, .int .i64 wb] 35)).alloc (.cells #[.string p, .bool d, .int .i64 q, .slice ya sn yc, .int .i64 wb] 35) = W at *
                  obtain ⟨k1, k2, k3, k4, k5, k6⟩ := two_boxes (w2 := W) (by rw [← hW]; exact Below.refl _ _)
                  have X3 : Hid (W.cell? ⟨wr.heap.size, 3, none⟩ = some (.slice sa sn sc)) := k1 3 _ rfl
                  have Y3 : Hid (W.cell? ⟨wr.heap.size + 1, 3, none⟩ = some (.slice ya sn yc)) := k3 3 _ rfl
                  have BW : Hid (Below wr.heap.size wr W) := k5
                  clear k1 k2 k3 k4 k5 k6 hW f0 f1 f2 f3 f4 e0 e1 e2 e3 e4; rename World => wo; go_loopg [8] sn (fun g v wi => ∃ j : Nat, j + g = sn ∧ v = .int .i64 j ∧ bs.take j = bs2.take j ∧ Below wo.heap.size wo wi)
                  case atStart => exact ⟨0, by omega, rfl, by simp, Below.refl _ _⟩
                  case round =>
                    obtain ⟨j, hjg, rfl, htj, hbj⟩ := hrel
                    have HBJ : Hid (Below wo.heap.size wo wr) := hbj
                    have HTJ : Hid (bs.take j = bs2.take j) := htj
                    have x3 := bel_cell hbj X3.out
                    have y3 := bel_cell hbj Y3.out
                    clear htj; by_cases hj : j < sn
                    · have hjb : j < bs.length := by rw [HS.out]; exact hj
                      have hjb2 : j < bs2.length := by rw [HS2.out]; exact hj
                      obtain ⟨g1, o1, ha1, hc1⟩ := (HK1.out.below (bel_tr BW.out hbj)).cells (by show 0 < sn; omega)
                      obtain ⟨g2, o2, ha2, hc2⟩ := (HK2.out.below (bel_tr BW.out hbj)).cells (by show 0 < sn; omega)
                      simp only at ha1 ha2
                      subst ha1 ha2; have b0 : wr.cell? ⟨g1, o1 + j * 3, none⟩ = some (.int .i64 bs[j].id) := hc1 j hjb 0 _ rfl
                      have b1 := hc1 j hjb 1 _ rfl
                      have b2 := hc1 j hjb 2 _ rfl
                      have d0 : wr.cell? ⟨g2, o2 + j * 3, none⟩ = some (.int .i64 bs2[j].id) := hc2 j hjb2 0 _ rfl
                      have d1 := hc2 j hjb2 1 _ rfl
                      have d2 := hc2 j hjb2 2 _ rfl
                      have HJX : Hid (bs[j] = bs2[j] → bs.take (j + 1) = bs2.take (j + 1)) := fun e => take_one hjb hjb2 HTJ.out e
                      clear hc1 hc2 hbj; generalize bs[j] = u at *
                      generalize bs2[j] = v at *
                      obtain ⟨m0, m1, m2⟩ := u
                      obtain ⟨k0, k1, k2⟩ := v
                      simp only at b0 b1 b2 d0 d1 d2
                      clear hjb hjb2; by_cases hbb : m0 = k0 ∧ m1 = k1 ∧ m2 = k2
                      · obtain ⟨rfl, rfl, rfl⟩ := hbb
                        have HJY : Hid (bs.take (j + 1) = bs2.take (j + 1)) := HJX.out rfl
                        clear HJX; go_wp2; go_quiet (fail)
                        go_wp2; go_roundg (sn - (j + 1))
                        case measure => omega
                        case rel => exact ⟨j + 1, by omega, by go_num, HJY.out, bel_tr HBJ.out (bel_drewN _ _)⟩
                      · by_cases z0 : m0 = k0
                        · subst z0
                          by_cases z1 : m1 = k1
                          · subst z1
                            have z2 : ¬ m2 = k2 := fun e => hbb ⟨rfl, rfl, e⟩
                            have hz : (m2 == k2) = false := by simpa using z2
                            clear HJX hbb; go_wp2; go_quiet (fail)
                            go_wp2; go_ret; exact ⟨rfl, bel_tr HB.out (bel_tr BW.out (bel_tr HBJ.out (bel_drewN _ _)))⟩
                          · have hz : (m1 == k1) = false := by simpa using z1
                            clear HJX hbb; go_wp2; go_quiet (fail)
                            go_wp2; go_ret; exact ⟨rfl, bel_tr HB.out (bel_tr BW.out (bel_tr HBJ.out (bel_drewN _ _)))⟩
                        · have hz : (m0 == k0) = false := by simpa using z0
                          clear HJX hbb; go_wp2; go_quiet (fail)
                          go_wp2; go_ret; exact ⟨rfl, bel_tr HB.out (bel_tr BW.out (bel_tr HBJ.out (bel_drewN _ _)))⟩
                    · obtain rfl : j = sn := by omega
                      have hgd : decide ((j : Int) < (j : Int)) = false := decide_eq_false (by omega)
                      have hbq : bs = bs2 := take_same HS.out HS2.out HTJ.out
                      have HNY : Hid (xs.take (i + 1) = ys.take (i + 1)) := HNX.out (by rw [hbq])
                      clear hbj hbq; go_wp2; go_roundg (n - (i + 1))
                      case measure => omega
                      case rel => exact ⟨i + 1, by omega, by go_num, HNY.out, bel_tr HB.out (bel_tr BW.out HBJ.out)⟩
                · have c5b : ((sn : Int) != (yn : Int)) = true := by rw [bne_iff_ne]; omega
                  have c5c : (sn == yn) = false := by simpa using c5
                  go_wp2; go_ret; exact ⟨rfl, bel_tr HB.out (bel_tr (bel_al _ _) (bel_al _ _))⟩
              · have c4b : (wb != wb2) = true := by simpa using c4
                go_wp2; go_ret; exact ⟨rfl, bel_tr HB.out (bel_tr (bel_al _ _) (bel_al _ _))⟩
            · have c3b : (q != q2) = true := by simpa using c3
              go_wp2; go_ret; exact ⟨rfl, bel_tr HB.out (bel_tr (bel_al _ _) (bel_al _ _))⟩
          · have c2b : (d != d2) = true := by simpa using c2
            go_wp2; go_ret; exact ⟨rfl, bel_tr HB.out (bel_tr (bel_al _ _) (bel_al _ _))⟩
        · have c1b := bytes_no c1
          go_wp2; go_ret; exact ⟨rfl, bel_tr HB.out (bel_tr (bel_al _ _) (bel_al _ _))⟩
      · exact absurd (take_same HX.out HY.out (by have h9 := HT.out; rw [show i = n by omega] at h9; exact h9)) HNE.out
  · have hnb : ((n : Int) != (n2 : Int)) = true := by rw [bne_iff_ne]; omega
    have hnc : (n == n2) = false := by simpa using hnn
    clear h h2 hm hm2 hl hl2 hN hN2 hne; go_enter Tryz.func42, Tryz.ntmps42; go_wp2; go_ret; exact ⟨rfl, Below.refl _ _⟩
theorem sameS_no {s t : Sp} {N L N2 L2 : RS} {w : World} (h : SpIn w s N L) (h2 : SpIn w t N2 L2) (hne : s ≠ t) :
    Calls Tryz.prog 19 #[spV s N L, spV t N2 L2] w fun e w' => e = .returned (.bool false) ∧ Below w.heap.size w w' := by
  have CN : Hid (∀ W, s.ns ≠ t.ns → Below w.heap.size w W → Calls Tryz.prog 42 #[.slice N.a N.n N.c, .slice N2.a N2.n N2.c] W fun e w' => e = .returned (.bool false) ∧ Below W.heap.size W w') := fun W hn hb => sameN_no (h.nl.below hb) (h2.nl.below hb) hn
  have HL : Hid (LL w L.a L.n L.c s.ls) := h.ll
  have HL2 : Hid (LL w L2.a L2.n L2.c t.ls) := h2.ll
  have e1 := h.ll.len
  have e2 := h2.ll.len
  have hlid : L.n ≤ 9223372036854775807 := by have h3 := h.ll.room; have h4 := h.ll.lid; unfold maxLen at h4; omega
  have hlid2 : L2.n ≤ 9223372036854775807 := by have h3 := h2.ll.room; have h4 := h2.ll.lid; unfold maxLen at h4; omega
  clear h h2; obtain ⟨tx, nb, ng, now, ns, ls⟩ := s
  obtain ⟨tx2, nb2, ng2, now2, ns2, ls2⟩ := t
  obtain ⟨na, nn, nc⟩ := N
  obtain ⟨na2, nn2, nc2⟩ := N2
  obtain ⟨la, ln, lc⟩ := L
  obtain ⟨la2, ln2, lc2⟩ := L2
  simp only at e1 e2 hlid hlid2 HL HL2 CN
  unfold spV; simp only
  have hst2 := sto2
  go_enter Tryz.func19, Tryz.ntmps19; by_cases c1 : tx = tx2
  · subst c1
    by_cases c2 : nb = nb2
    · subst c2
      by_cases c3 : ng = ng2
      · subst c3
        by_cases c4 : now = now2
        · subst c4
          by_cases c5 : ln = ln2
          · subst c5
            have HS : Hid (ls.length = ln) := e1
            have HS2 : Hid (ls2.length = ln) := e2
            have HNE : Hid (ls = ls2 → ns ≠ ns2) := fun e1 e2 => hne (by rw [e1, e2])
            clear e1 e2 hne; go_wp2; generalize hW : (w.alloc (.cells #[.int .i64 tx, .int .i64 nb, .int .i64 ng, .int .i64 now, .slice na nn nc, .slice la ln lc] 27)).alloc (.cells #[.int .i64 tx, .int .i64 nb, .int .i64 ng, .int .i64 now, .slice na2 nn2 nc2, .slice la2 ln lc2] 27) = W at *
            obtain ⟨k1, k2, k3, k4, k5, k6⟩ := two_boxes (w2 := W) (by rw [← hW]; exact Below.refl _ _)
            have X4 : Hid (W.cell? ⟨w.heap.size, 4, none⟩ = some (.slice na nn nc)) := k1 4 _ rfl
            have X5 : Hid (W.cell? ⟨w.heap.size, 5, none⟩ = some (.slice la ln lc)) := k1 5 _ rfl
            have Y4 : Hid (W.cell? ⟨w.heap.size + 1, 4, none⟩ = some (.slice na2 nn2 nc2)) := k3 4 _ rfl
            have Y5 : Hid (W.cell? ⟨w.heap.size + 1, 5, none⟩ = some (.slice la2 ln lc2)) := k3 5 _ rfl
            have BW : Hid (Below w.heap.size w W) := k5
            clear k1 k2 k3 k4 k5 k6 hW; go_loopg [5] ln (fun g v wi => ∃ j : Nat, j + g = ln ∧ v = .int .i64 j ∧ ls.take j = ls2.take j ∧ Below W.heap.size W wi)
            case atStart => exact ⟨0, by omega, rfl, by simp, Below.refl _ _⟩
            case round =>
              obtain ⟨j, hjg, rfl, htj, hbj⟩ := hrel
              have HBJ : Hid (Below W.heap.size W wr) := hbj
              have HTJ : Hid (ls.take j = ls2.take j) := htj
              have x4 := bel_cell hbj X4.out
              have x5 := bel_cell hbj X5.out
              have y4 := bel_cell hbj Y4.out
              have y5 := bel_cell hbj Y5.out
              clear htj; by_cases hj : j < ln
              · have hjb : j < ls.length := by rw [HS.out]; exact hj
                have hjb2 : j < ls2.length := by rw [HS2.out]; exact hj
                obtain ⟨g1, o1, ha1, hc1⟩ := (HL.out.below (bel_tr BW.out hbj)).at (by omega)
                obtain ⟨g2, o2, ha2, hc2⟩ := (HL2.out.below (bel_tr BW.out hbj)).at (by omega)
                subst ha1 ha2; obtain ⟨b0, b1⟩ := hc1 j hjb
                obtain ⟨d0, d1⟩ := hc2 j hjb2
                have HJX : Hid (ls[j] = ls2[j] → ls.take (j + 1) = ls2.take (j + 1)) := fun e => take_one hjb hjb2 HTJ.out e
                clear hc1 hc2 hbj; generalize ls[j] = u at *
                generalize ls2[j] = v at *
                obtain ⟨m0, m1⟩ := u
                obtain ⟨k0, k1⟩ := v
                simp only at b0 b1 d0 d1
                clear hjb hjb2; by_cases z0 : m0 = k0
                · subst z0
                  by_cases z1 : m1 = k1
                  · subst z1
                    have HJY : Hid (ls.take (j + 1) = ls2.take (j + 1)) := HJX.out rfl
                    clear HJX; go_wp2; go_quiet (fail)
                    go_wp2; go_roundg (ln - (j + 1))
                    case measure => omega
                    case rel => exact ⟨j + 1, by omega, by go_num, HJY.out, bel_tr HBJ.out (bel_drewN _ _)⟩
                  · have hz : (m1 == k1) = false := by simpa using z1
                    clear HJX; go_wp2; go_quiet (fail)
                    go_wp2; go_ret; exact ⟨rfl, bel_tr BW.out (bel_tr HBJ.out (bel_drewN _ _))⟩
                · have hz : (m0 == k0) = false := by simpa using z0
                  clear HJX; go_wp2; go_quiet (fail)
                  go_wp2; go_ret; exact ⟨rfl, bel_tr BW.out (bel_tr HBJ.out (bel_drewN _ _))⟩
              · obtain rfl : j = ln := by omega
                have hgd : decide ((j : Int) < (j : Int)) = false := decide_eq_false (by omega)
                have HNN : Hid (ns ≠ ns2) := HNE.out (take_same HS.out HS2.out HTJ.out)
                clear hbj; go_wp2_with fail
                refine (CN.out _ HNN.out (bel_tr BW.out HBJ.out)).mono ?_
                rintro e w6 ⟨rfl, c6⟩; have B6 : Hid _ := c6
                clear c6; go_wp2; go_ret; exact ⟨rfl, bel_tr BW.out (bel_tr HBJ.out B6.out)⟩
          · have c5b : ((ln : Int) != (ln2 : Int)) = true := by rw [bne_iff_ne]; omega
            have c5c : (ln == ln2) = false := by simpa using c5
            go_wp2; go_ret; exact ⟨rfl, bel_tr (bel_al _ _) (bel_al _ _)⟩
        · have c4b : (now != now2) = true := by simpa using c4
          go_wp2; go_ret; exact ⟨rfl, bel_tr (bel_al _ _) (bel_al _ _)⟩
      · have c3b : (ng != ng2) = true := by simpa using c3
        go_wp2; go_ret; exact ⟨rfl, bel_tr (bel_al _ _) (bel_al _ _)⟩
    · have c2b : (nb != nb2) = true := by simpa using c2
      go_wp2; go_ret; exact ⟨rfl, bel_tr (bel_al _ _) (bel_al _ _)⟩
  · have c1b : (tx != tx2) = true := by simpa using c1
    go_wp2; go_ret; exact ⟨rfl, bel_tr (bel_al _ _) (bel_al _ _)⟩
end Go.Proofs.YtdilfbfkeiaafaaGreat.Spa
