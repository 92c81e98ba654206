/- LogPlays: for every room and every list of deeds: the statement's function returns true; nothing that was there is changed. No condition. -/
import Derived.Test.YtefncpgemdgbbaaGreatB19
import Derived.Test.YtefncpgemdgbbaaGreatB25
import Derived.Test.YtefncpgemdgbbaaGreatB27
import Derived.Test.YtefncpgemdgbbaaGreatB24
import Derived.Test.YtefncpgemdgbbaaGreatB26
namespace Go.Proofs.YtefncpgemdgbbaaGreat.logPlays
open Go.ChangeShapes Go.WideShapes Go.ChangeAt Go.RowKit Go.Proofs.YtefncpgemdgbbaaGreat Go.Proofs.YtefncpgemdgbbaaGreat.Lgg
open Go.ChangeMaps (open_string shut_string)
set_option linter.unusedVariables false

theorem own : ownKnob Tryz.prog.godebug = none := by kernel_rfl

set_option maxRecDepth 100000 in
set_option maxHeartbeats 8000000 in
theorem walk_b (a0 : Int) (a1 : Option Addr) (cap1 n1 : Nat) (us : List LDd) (w : World) (hr : -9223372036854775808 ≤ a0 ∧ a0 ≤ 9223372036854775807) (hn1 : us.length = n1) (hU : LDds w a1 us) :
    Calls Tryz.prog 3 #[.int .i64 a0, .slice a1 n1 cap1] w fun e w' => e = .returned (.bool true) ∧ Below w.heap.size w w' := by
  have hx1 : n1 ≤ 9223372036854775807 := by have := hU.lie.lid; unfold maxLen at this; omega
  have HN : Hid (us.length = n1) := hn1
  have HU : Hid (LDds w a1 us) := hU
  clear hn1 hU
  have hst2 : ∀ (w : World) (a : Addr) (x : Option Addr) (n c : Nat) (m : Mode), (store a (.slice x n c) m).run Tryz.prog w = stored Tryz.prog w a (.slice x n c) m := fun w a x n c m => run_store (P := Tryz.prog) w a _ m rfl
  have hst := fun (w : World) (a : Addr) (x : ByteArray) (m : Mode) => run_store (P := Tryz.prog) w a (.string x) m rfl
  go_enter Tryz.func3, Tryz.ntmps3
  go_wp2_with fail
  refine (examples14_val _).mono ?_
  rintro e w1 ⟨rfl, bb1⟩
  have B1 : Hid (Below w.heap.size w w1) := bb1
  clear bb1
  go_wp2_with fail
  refine (new_val a0 _ _ (by omega) rfl).mono ?_
  rintro e w2 ⟨pd, rfl, hd2, bb2⟩
  have D2 : Hid (DAt (fun k => w1.heap.size ≤ k ∧ k < w2.heap.size) w2 pd ⟨max a0 0, 0, false, []⟩ ∧ Below w1.heap.size w1 w2) := ⟨hd2, bb2⟩
  clear hd2 bb2
  go_wp2_with fail
  refine (refNew_val a0 _ _ (by omega) rfl).mono ?_
  rintro e w3 ⟨px, rfl, hx3, bb3⟩
  have HH : Hid (Half w none none w3 pd px ⟨max a0 0, 0, false, []⟩ ⟨max a0 0, 0, false, []⟩) := by
    obtain ⟨D2o, B2o⟩ := D2.out
    have B1o : Below w.heap.size w w1 := B1.out
    have s1 := B1o.size
    have s2 := B2o.size
    exact ⟨_, _, D2o.below bb3, ⟨none, 0, none, hx3⟩, fit_of D2o, fun k hk e => by omega, fun k hk => by omega, fun k hk => by omega, bel_tr (bel_tr B1o B2o) bb3, fun k hk => by cases hk⟩
  clear hx3 bb3 D2 B1
  go_wp2
  go_loopw [8] (fun vi wr => ∃ (k : Nat) (ds : DS) (pf : Option Nat) (B : Option Obj), k ≤ n1 ∧ k ≤ 30 ∧ vi = .int .i64 k ∧ Half w pf B wr pd px ds ds) (fun vi _ => 30 - (intOf vi).toNat)
  case atStart => exact ⟨0, _, none, none, by omega, by omega, rfl, HH.out⟩
  case round =>
    obtain ⟨k, ds, pf, B, hkn, hk30, rfl, hO⟩ := hrel
    have HO : Hid (Half w pf B wr pd px ds ds) := hO
    clear hO HH
    by_cases hlt : k < n1 ∧ k < 30
    · obtain ⟨hlt0, hlt1⟩ := hlt
      have hk0 : k < us.length := by rw [HN.out]; exact hlt0
      obtain ⟨ub, uo, hua, hcell⟩ := HU.out.lie.at wideLD hk0
      have hok := HU.out.each _ (List.getElem_mem hk0)
      generalize us[k] = u at *
      subst hua
      obtain ⟨kd, nm, ep, ea, ec, es, ⟨tx, xd⟩, un, ka, kb, ko, kc, ks⟩ := u
      have hbel := HO.out.bel
      have g0 := bel_cell hbel (hcell 0 _ rfl)
      have g1 := bel_cell hbel (hcell 1 _ rfl)
      have g2 := bel_cell hbel (hcell 2 _ rfl)
      have g3 := bel_cell hbel (hcell 3 _ rfl)
      have g4 := bel_cell hbel (hcell 4 _ rfl)
      have g5 := bel_cell hbel (hcell 5 _ rfl)
      have g6 := bel_cell hbel (hcell 6 _ rfl)
      have g7 := bel_cell hbel (hcell 7 _ rfl)
      simp only [← Nat.add_assoc, Nat.add_zero] at g0 g1 g2 g3 g4 g5 g6 g7
      obtain ⟨m, hm⟩ : ∃ m, es.length = m := ⟨_, rfl⟩
      obtain ⟨mk, hmk⟩ : ∃ m, ks.length = m := ⟨_, rfl⟩
      rw [hm] at g3
      rw [hmk] at g7
      obtain ⟨q1, q2, q3, q4, q5, q6, q7, q8⟩ := hok
      simp only at q1 q2 q3 q4 q5 q6 q7 q8
      have HQ : Hid (nm.size ≤ maxLen ∧ LgIn w ea es ∧ xd.size ≤ maxLen ∧ Ints w .i64 ka kb ko ks ∧ ks.length ≤ maxLen ∧ (∀ k ∈ ks, -9223372036854775808 ≤ k ∧ k ≤ 9223372036854775807)) := ⟨q2, q3, q4, q6, q7, q8⟩
      have HM : Hid (es.length = m ∧ ks.length = mk) := ⟨hm, hmk⟩
      obtain ⟨P, hP⟩ : ∃ P, keepN kd % 6 = P := ⟨_, rfl⟩
      have hP6 : P < 6 := by rw [← hP]; exact Nat.mod_lt _ (by omega)
      have CP : Hid (∀ W, Calls Tryz.prog 7 #[.int .i64 kd, .int .i64 6] W fun e w' => e = .returned (.int .i64 P) ∧ W = w') := fun W => (Lgg.pick_val kd 6 P W q1 ⟨by omega, by omega⟩ hP).mono fun e w' ⟨x1, x2⟩ => ⟨x1, x2.symm⟩
      have H4 : Hid (Half w (some wr.heap.size) ((wr.alloc (.cells #[.int .i64 kd, .string nm, .int .i64 ep, .slice ea m ec, .int .i64 tx, .string xd, .int .i64 un, .slice ka mk kc] 35)).heap[wr.heap.size]?) (wr.alloc (.cells #[.int .i64 kd, .string nm, .int .i64 ep, .slice ea m ec, .int .i64 tx, .string xd, .int .i64 un, .slice ka mk kc] 35)) pd px ds ds) := HO.out.box _
      clear hcell hbel hm hmk q1 q2 q3 q4 q6 q7 q8 hP hk0
      go_wp2_with fail
      refine (CP.out _).mono ?_
      rintro e w4 ⟨rfl, hw4⟩
      have f1 := World.cell?_alloc_new wr #[.int .i64 kd, .string nm, .int .i64 ep, .slice ea m ec, .int .i64 tx, .string xd, .int .i64 un, .slice ka mk kc] 35 1
      have f2 := World.cell?_alloc_new wr #[.int .i64 kd, .string nm, .int .i64 ep, .slice ea m ec, .int .i64 tx, .string xd, .int .i64 un, .slice ka mk kc] 35 2
      have f3 := World.cell?_alloc_new wr #[.int .i64 kd, .string nm, .int .i64 ep, .slice ea m ec, .int .i64 tx, .string xd, .int .i64 un, .slice ka mk kc] 35 3
      have f4 := World.cell?_alloc_new wr #[.int .i64 kd, .string nm, .int .i64 ep, .slice ea m ec, .int .i64 tx, .string xd, .int .i64 un, .slice ka mk kc] 35 4
      have f5 := World.cell?_alloc_new wr #[.int .i64 kd, .string nm, .int .i64 ep, .slice ea m ec, .int .i64 tx, .string xd, .int .i64 un, .slice ka mk kc] 35 5
      have f6 := World.cell?_alloc_new wr #[.int .i64 kd, .string nm, .int .i64 ep, .slice ea m ec, .int .i64 tx, .string xd, .int .i64 un, .slice ka mk kc] 35 6
      have f7 := World.cell?_alloc_new wr #[.int .i64 kd, .string nm, .int .i64 ep, .slice ea m ec, .int .i64 tx, .string xd, .int .i64 un, .slice ka mk kc] 35 7
      simp only [List.getElem?_toArray, List.getElem?_cons_zero, List.getElem?_cons_succ] at f1 f2 f3 f4 f5 f6 f7
      rw [hw4] at H4 f1 f2 f3 f4 f5 f6 f7
      clear hw4 g0 g1 g2 g3 g4 g5 g6 g7 CP HO
      generalize wr.heap.size = UB at *
      obtain ⟨BB, hBB⟩ : ∃ x, w4.heap[UB]? = x := ⟨_, rfl⟩
      rw [hBB] at H4
      have HBB : Hid (w4.heap[UB]? = BB) := hBB
      clear hBB
      have hPc : P = 0 ∨ P = 1 ∨ P = 2 ∨ P = 3 ∨ P = 4 ∨ P = 5 := by omega
      clear hP6
      rcases hPc with rfl | rfl | rfl | rfl | rfl | rfl
      · obtain ⟨q, d6, hS⟩ := sto_ex ds nm ⟨ep, es⟩
        have hqq : (q == q) = true := beq_self_eq_true q

        go_wp2_with fail
        refine (half_d H4.out (fun K hK => store_any hK nm HQ.out.1 (HQ.out.2.1.row.below H4.out.bel) HQ.out.2.1.small ep m ec HM.out.1 q hS)).mono ?_
        rintro e w5 ⟨rfl, h5⟩
        have z1 := (h5.cell HBB.out 1).trans f1
        have z2 := (h5.cell HBB.out 2).trans f2
        have z3 := (h5.cell HBB.out 3).trans f3
        have z4 := (h5.cell HBB.out 4).trans f4
        have z5 := (h5.cell HBB.out 5).trans f5
        have z6 := (h5.cell HBB.out 6).trans f6
        have z7 := (h5.cell HBB.out 7).trans f7
        have H5 : Hid (Half w (some UB) BB w5 pd px d6 ds) := h5
        clear h5
        go_wp2_with fail
        refine (half_x H5.out (fun K hK => refStore_any hK nm HQ.out.1 (HQ.out.2.1.row.below H5.out.bel) HQ.out.2.1.small ep m ec HM.out.1 q hS)).mono ?_
        rintro e w6 ⟨rfl, h6⟩
        have H6 : Hid (Half w (some UB) BB w6 pd px d6 d6) := h6
        clear h6 z1 z2 z3 z4 z5 z6 z7 H5

        have k1 := (H6.out.cell HBB.out 1).trans f1
        obtain ⟨l, wh, er, hl⟩ : ∃ l wh er, loadS (rdT d6 nm.data.toList) (rdE d6 nm.data.toList) = (l, wh, er) := ⟨_, _, _, rfl⟩
        have CL : Hid (Calls Tryz.prog 16 #[.pointer (some ⟨pd, 0, none⟩), .string nm] w6 fun e w' => LdR w6.heap.size l wh er e w' ∧ Below w6.heap.size w6 w') := half_load H6.out nm HQ.out.1 l wh er hl
        have CM : Hid (∀ W, Below w6.heap.size w6 W → Calls Tryz.prog 17 #[.pointer (some ⟨px, 0, none⟩), .string nm] W fun e w' => LdR W.heap.size l wh er e w' ∧ Below W.heap.size W w') := fun W hb => half_refLoad (H6.out.below hb) nm l wh er hl
        have CDI : Hid (∀ W, Below w6.heap.size w6 W → Calls Tryz.prog 19 #[.pointer (some ⟨pd, 0, none⟩), .pointer (some ⟨px, 0, none⟩)] W fun e w' => e = .returned (.bool true) ∧ Below W.heap.size W w') := fun W hb => disks_val (H6.out.below hb)
        clear hl f1 f2 f3 f4 f5 f6 f7 H4
        go_wp2_with fail
        refine CL.out.mono ?_
        rintro e w7 ⟨⟨a, c, rfl, hL⟩, b7⟩
        have H7 : Hid ((w7.alloc (.cells #[.int .i64 l.ep, .slice a l.es.length c] 30)).cell? ⟨w7.heap.size, 0, none⟩ = some (.int .i64 l.ep) ∧ (w7.alloc (.cells #[.int .i64 l.ep, .slice a l.es.length c] 30)).cell? ⟨w7.heap.size, 1, none⟩ = some (.slice a l.es.length c) ∧ Lie enC (fun k => w6.heap.size ≤ k) (w7.alloc (.cells #[.int .i64 l.ep, .slice a l.es.length c] 30)) a l.es ∧ Below w6.heap.size w6 (w7.alloc (.cells #[.int .i64 l.ep, .slice a l.es.length c] 30)) ∧ (w7.alloc (.cells #[.int .i64 l.ep, .slice a l.es.length c] 30)).cell? ⟨UB, 1, none⟩ = some (.string nm)) := by
          have bb9 := bel_tr b7 (bel_al w7 (.cells #[.int .i64 l.ep, .slice a l.es.length c] 30))
          obtain ⟨x1, x2, _, _⟩ := cells2 w7 (.int .i64 l.ep) (.slice a l.es.length c) 30
          exact ⟨x1, x2, hL.below (bel_al _ _), bb9, bel_cell bb9 k1⟩
        clear hL b7 CL k1
        go_upto_region 28 with fail
        generalize w7.alloc (.cells #[.int .i64 l.ep, .slice a l.es.length c] 30) = W7 at *
        generalize w7.heap.size = AB at *
        obtain ⟨y0, y1, hL1, hB7, k1⟩ := H7.out
        have HL1 : Hid (Lie enC (fun k => w6.heap.size ≤ k) W7 a l.es) := hL1
        have HB7 : Hid (Below w6.heap.size w6 W7) := hB7
        clear hL1 hB7
        go_wp2_with fail
        refine (CM.out _ HB7.out).mono ?_
        rintro e w8 ⟨⟨a', c', rfl, hL⟩, b8⟩
        have H8 : Hid ((w8.alloc (.cells #[.int .i64 l.ep, .slice a' l.es.length c'] 30)).cell? ⟨AB, 0, none⟩ = some (.int .i64 l.ep) ∧ (w8.alloc (.cells #[.int .i64 l.ep, .slice a' l.es.length c'] 30)).cell? ⟨AB, 1, none⟩ = some (.slice a l.es.length c) ∧ Lie enC (fun k => w6.heap.size ≤ k) (w8.alloc (.cells #[.int .i64 l.ep, .slice a' l.es.length c'] 30)) a l.es ∧ Lie enC (fun k => W7.heap.size ≤ k) (w8.alloc (.cells #[.int .i64 l.ep, .slice a' l.es.length c'] 30)) a' l.es ∧ (w8.alloc (.cells #[.int .i64 l.ep, .slice a' l.es.length c'] 30)).cell? ⟨w8.heap.size, 0, none⟩ = some (.int .i64 l.ep) ∧ (w8.alloc (.cells #[.int .i64 l.ep, .slice a' l.es.length c'] 30)).cell? ⟨w8.heap.size, 1, none⟩ = some (.slice a' l.es.length c') ∧ Below w6.heap.size w6 (w8.alloc (.cells #[.int .i64 l.ep, .slice a' l.es.length c'] 30))) := by
          have bb9 := bel_tr b8 (bel_al w8 (.cells #[.int .i64 l.ep, .slice a' l.es.length c'] 30))
          obtain ⟨x1, x2, _, _⟩ := cells2 w8 (.int .i64 l.ep) (.slice a' l.es.length c') 30
          exact ⟨bel_cell bb9 y0, bel_cell bb9 y1, HL1.out.below bb9, hL.below (bel_al _ _), x1, x2, bel_tr HB7.out bb9⟩
        clear hL b8 CM y0 y1 k1 HL1 HB7 H7
        go_upto_region 29 with fail
        generalize w8.alloc (.cells #[.int .i64 l.ep, .slice a' l.es.length c'] 30) = W8 at *
        generalize w8.heap.size = MB at *
        obtain ⟨x0, x1, hl1, hl2, y0, y1, hB8⟩ := H8.out
        have HL1 : Hid (Lie enC (fun k => w6.heap.size ≤ k) W8 a l.es) := hl1
        have HL2 : Hid (Lie enC (fun k => W7.heap.size ≤ k) W8 a' l.es) := hl2
        have HB8 : Hid (Below w6.heap.size w6 W8) := hB8
        clear hl1 hl2 hB8 H8
        go_wp2_with fail
        refine (same_val HL1.out HL2.out _ _ _ _ rfl rfl _ _ true ⟨fun _ => rfl, fun _ => rfl⟩).mono ?_
        rintro e w9 ⟨rfl, b9⟩
        have B9 : Hid (Below w6.heap.size w6 w9) := bel_tr HB8.out b9
        clear x0 x1 y0 y1 b9 HL1 HL2 HB8
        go_wp2_with fail
        refine (CDI.out _ B9.out).mono ?_
        rintro e w10 ⟨rfl, b10⟩
        have H10 : Hid (Half w (some UB) BB w10 pd px d6 d6) := H6.out.below (bel_tr B9.out b10)
        clear b10 B9 CDI H6
        have hwb : (wh == wh) = true := by cases wh <;> rfl
        go_wp2
        go_roundw
        case rel => exact ⟨k + 1, d6, some UB, BB, by omega, by omega, by go_num, H10.out⟩
        case measure => simp [intOf]; omega
      · obtain ⟨q, d6, hS⟩ := add_ex ds nm ⟨tx, xd⟩
        have hqq : (q == q) = true := beq_self_eq_true q

        go_wp2_with fail
        refine (half_d H4.out (fun K hK => add_any hK nm HQ.out.1 ⟨tx, xd⟩ HQ.out.2.2.1 q hS)).mono ?_
        rintro e w5 ⟨rfl, h5⟩
        have z1 := (h5.cell HBB.out 1).trans f1
        have z2 := (h5.cell HBB.out 2).trans f2
        have z3 := (h5.cell HBB.out 3).trans f3
        have z4 := (h5.cell HBB.out 4).trans f4
        have z5 := (h5.cell HBB.out 5).trans f5
        have z6 := (h5.cell HBB.out 6).trans f6
        have z7 := (h5.cell HBB.out 7).trans f7
        have H5 : Hid (Half w (some UB) BB w5 pd px d6 ds) := h5
        clear h5
        go_wp2_with fail
        refine (half_x H5.out (fun K hK => refAdd_any hK nm HQ.out.1 ⟨tx, xd⟩ HQ.out.2.2.1 q hS)).mono ?_
        rintro e w6 ⟨rfl, h6⟩
        have H6 : Hid (Half w (some UB) BB w6 pd px d6 d6) := h6
        clear h6 z1 z2 z3 z4 z5 z6 z7 H5

        have k1 := (H6.out.cell HBB.out 1).trans f1
        obtain ⟨l, wh, er, hl⟩ : ∃ l wh er, loadS (rdT d6 nm.data.toList) (rdE d6 nm.data.toList) = (l, wh, er) := ⟨_, _, _, rfl⟩
        have CL : Hid (Calls Tryz.prog 16 #[.pointer (some ⟨pd, 0, none⟩), .string nm] w6 fun e w' => LdR w6.heap.size l wh er e w' ∧ Below w6.heap.size w6 w') := half_load H6.out nm HQ.out.1 l wh er hl
        have CM : Hid (∀ W, Below w6.heap.size w6 W → Calls Tryz.prog 17 #[.pointer (some ⟨px, 0, none⟩), .string nm] W fun e w' => LdR W.heap.size l wh er e w' ∧ Below W.heap.size W w') := fun W hb => half_refLoad (H6.out.below hb) nm l wh er hl
        have CDI : Hid (∀ W, Below w6.heap.size w6 W → Calls Tryz.prog 19 #[.pointer (some ⟨pd, 0, none⟩), .pointer (some ⟨px, 0, none⟩)] W fun e w' => e = .returned (.bool true) ∧ Below W.heap.size W w') := fun W hb => disks_val (H6.out.below hb)
        clear hl f1 f2 f3 f4 f5 f6 f7 H4
        go_wp2_with fail
        refine CL.out.mono ?_
        rintro e w7 ⟨⟨a, c, rfl, hL⟩, b7⟩
        have H7 : Hid ((w7.alloc (.cells #[.int .i64 l.ep, .slice a l.es.length c] 30)).cell? ⟨w7.heap.size, 0, none⟩ = some (.int .i64 l.ep) ∧ (w7.alloc (.cells #[.int .i64 l.ep, .slice a l.es.length c] 30)).cell? ⟨w7.heap.size, 1, none⟩ = some (.slice a l.es.length c) ∧ Lie enC (fun k => w6.heap.size ≤ k) (w7.alloc (.cells #[.int .i64 l.ep, .slice a l.es.length c] 30)) a l.es ∧ Below w6.heap.size w6 (w7.alloc (.cells #[.int .i64 l.ep, .slice a l.es.length c] 30)) ∧ (w7.alloc (.cells #[.int .i64 l.ep, .slice a l.es.length c] 30)).cell? ⟨UB, 1, none⟩ = some (.string nm)) := by
          have bb9 := bel_tr b7 (bel_al w7 (.cells #[.int .i64 l.ep, .slice a l.es.length c] 30))
          obtain ⟨x1, x2, _, _⟩ := cells2 w7 (.int .i64 l.ep) (.slice a l.es.length c) 30
          exact ⟨x1, x2, hL.below (bel_al _ _), bb9, bel_cell bb9 k1⟩
        clear hL b7 CL k1
        go_upto_region 28 with fail
        generalize w7.alloc (.cells #[.int .i64 l.ep, .slice a l.es.length c] 30) = W7 at *
        generalize w7.heap.size = AB at *
        obtain ⟨y0, y1, hL1, hB7, k1⟩ := H7.out
        have HL1 : Hid (Lie enC (fun k => w6.heap.size ≤ k) W7 a l.es) := hL1
        have HB7 : Hid (Below w6.heap.size w6 W7) := hB7
        clear hL1 hB7
        go_wp2_with fail
        refine (CM.out _ HB7.out).mono ?_
        rintro e w8 ⟨⟨a', c', rfl, hL⟩, b8⟩
        have H8 : Hid ((w8.alloc (.cells #[.int .i64 l.ep, .slice a' l.es.length c'] 30)).cell? ⟨AB, 0, none⟩ = some (.int .i64 l.ep) ∧ (w8.alloc (.cells #[.int .i64 l.ep, .slice a' l.es.length c'] 30)).cell? ⟨AB, 1, none⟩ = some (.slice a l.es.length c) ∧ Lie enC (fun k => w6.heap.size ≤ k) (w8.alloc (.cells #[.int .i64 l.ep, .slice a' l.es.length c'] 30)) a l.es ∧ Lie enC (fun k => W7.heap.size ≤ k) (w8.alloc (.cells #[.int .i64 l.ep, .slice a' l.es.length c'] 30)) a' l.es ∧ (w8.alloc (.cells #[.int .i64 l.ep, .slice a' l.es.length c'] 30)).cell? ⟨w8.heap.size, 0, none⟩ = some (.int .i64 l.ep) ∧ (w8.alloc (.cells #[.int .i64 l.ep, .slice a' l.es.length c'] 30)).cell? ⟨w8.heap.size, 1, none⟩ = some (.slice a' l.es.length c') ∧ Below w6.heap.size w6 (w8.alloc (.cells #[.int .i64 l.ep, .slice a' l.es.length c'] 30))) := by
          have bb9 := bel_tr b8 (bel_al w8 (.cells #[.int .i64 l.ep, .slice a' l.es.length c'] 30))
          obtain ⟨x1, x2, _, _⟩ := cells2 w8 (.int .i64 l.ep) (.slice a' l.es.length c') 30
          exact ⟨bel_cell bb9 y0, bel_cell bb9 y1, HL1.out.below bb9, hL.below (bel_al _ _), x1, x2, bel_tr HB7.out bb9⟩
        clear hL b8 CM y0 y1 k1 HL1 HB7 H7
        go_upto_region 29 with fail
        generalize w8.alloc (.cells #[.int .i64 l.ep, .slice a' l.es.length c'] 30) = W8 at *
        generalize w8.heap.size = MB at *
        obtain ⟨x0, x1, hl1, hl2, y0, y1, hB8⟩ := H8.out
        have HL1 : Hid (Lie enC (fun k => w6.heap.size ≤ k) W8 a l.es) := hl1
        have HL2 : Hid (Lie enC (fun k => W7.heap.size ≤ k) W8 a' l.es) := hl2
        have HB8 : Hid (Below w6.heap.size w6 W8) := hB8
        clear hl1 hl2 hB8 H8
        go_wp2_with fail
        refine (same_val HL1.out HL2.out _ _ _ _ rfl rfl _ _ true ⟨fun _ => rfl, fun _ => rfl⟩).mono ?_
        rintro e w9 ⟨rfl, b9⟩
        have B9 : Hid (Below w6.heap.size w6 w9) := bel_tr HB8.out b9
        clear x0 x1 y0 y1 b9 HL1 HL2 HB8
        go_wp2_with fail
        refine (CDI.out _ B9.out).mono ?_
        rintro e w10 ⟨rfl, b10⟩
        have H10 : Hid (Half w (some UB) BB w10 pd px d6 d6) := H6.out.below (bel_tr B9.out b10)
        clear b10 B9 CDI H6
        have hwb : (wh == wh) = true := by cases wh <;> rfl
        go_wp2
        go_roundw
        case rel => exact ⟨k + 1, d6, some UB, BB, by omega, by omega, by go_num, H10.out⟩
        case measure => simp [intOf]; omega
      · obtain ⟨q, d6, hS⟩ := add_ex ds nm ⟨tx, xd⟩
        have hqq : (q == q) = true := beq_self_eq_true q

        go_wp2_with fail
        refine (half_d H4.out (fun K hK => add_any hK nm HQ.out.1 ⟨tx, xd⟩ HQ.out.2.2.1 q hS)).mono ?_
        rintro e w5 ⟨rfl, h5⟩
        have z1 := (h5.cell HBB.out 1).trans f1
        have z2 := (h5.cell HBB.out 2).trans f2
        have z3 := (h5.cell HBB.out 3).trans f3
        have z4 := (h5.cell HBB.out 4).trans f4
        have z5 := (h5.cell HBB.out 5).trans f5
        have z6 := (h5.cell HBB.out 6).trans f6
        have z7 := (h5.cell HBB.out 7).trans f7
        have H5 : Hid (Half w (some UB) BB w5 pd px d6 ds) := h5
        clear h5
        go_wp2_with fail
        refine (half_x H5.out (fun K hK => refAdd_any hK nm HQ.out.1 ⟨tx, xd⟩ HQ.out.2.2.1 q hS)).mono ?_
        rintro e w6 ⟨rfl, h6⟩
        have H6 : Hid (Half w (some UB) BB w6 pd px d6 d6) := h6
        clear h6 z1 z2 z3 z4 z5 z6 z7 H5

        have k1 := (H6.out.cell HBB.out 1).trans f1
        obtain ⟨l, wh, er, hl⟩ : ∃ l wh er, loadS (rdT d6 nm.data.toList) (rdE d6 nm.data.toList) = (l, wh, er) := ⟨_, _, _, rfl⟩
        have CL : Hid (Calls Tryz.prog 16 #[.pointer (some ⟨pd, 0, none⟩), .string nm] w6 fun e w' => LdR w6.heap.size l wh er e w' ∧ Below w6.heap.size w6 w') := half_load H6.out nm HQ.out.1 l wh er hl
        have CM : Hid (∀ W, Below w6.heap.size w6 W → Calls Tryz.prog 17 #[.pointer (some ⟨px, 0, none⟩), .string nm] W fun e w' => LdR W.heap.size l wh er e w' ∧ Below W.heap.size W w') := fun W hb => half_refLoad (H6.out.below hb) nm l wh er hl
        have CDI : Hid (∀ W, Below w6.heap.size w6 W → Calls Tryz.prog 19 #[.pointer (some ⟨pd, 0, none⟩), .pointer (some ⟨px, 0, none⟩)] W fun e w' => e = .returned (.bool true) ∧ Below W.heap.size W w') := fun W hb => disks_val (H6.out.below hb)
        clear hl f1 f2 f3 f4 f5 f6 f7 H4
        go_wp2_with fail
        refine CL.out.mono ?_
        rintro e w7 ⟨⟨a, c, rfl, hL⟩, b7⟩
        have H7 : Hid ((w7.alloc (.cells #[.int .i64 l.ep, .slice a l.es.length c] 30)).cell? ⟨w7.heap.size, 0, none⟩ = some (.int .i64 l.ep) ∧ (w7.alloc (.cells #[.int .i64 l.ep, .slice a l.es.length c] 30)).cell? ⟨w7.heap.size, 1, none⟩ = some (.slice a l.es.length c) ∧ Lie enC (fun k => w6.heap.size ≤ k) (w7.alloc (.cells #[.int .i64 l.ep, .slice a l.es.length c] 30)) a l.es ∧ Below w6.heap.size w6 (w7.alloc (.cells #[.int .i64 l.ep, .slice a l.es.length c] 30)) ∧ (w7.alloc (.cells #[.int .i64 l.ep, .slice a l.es.length c] 30)).cell? ⟨UB, 1, none⟩ = some (.string nm)) := by
          have bb9 := bel_tr b7 (bel_al w7 (.cells #[.int .i64 l.ep, .slice a l.es.length c] 30))
          obtain ⟨x1, x2, _, _⟩ := cells2 w7 (.int .i64 l.ep) (.slice a l.es.length c) 30
          exact ⟨x1, x2, hL.below (bel_al _ _), bb9, bel_cell bb9 k1⟩
        clear hL b7 CL k1
        go_upto_region 28 with fail
        generalize w7.alloc (.cells #[.int .i64 l.ep, .slice a l.es.length c] 30) = W7 at *
        generalize w7.heap.size = AB at *
        obtain ⟨y0, y1, hL1, hB7, k1⟩ := H7.out
        have HL1 : Hid (Lie enC (fun k => w6.heap.size ≤ k) W7 a l.es) := hL1
        have HB7 : Hid (Below w6.heap.size w6 W7) := hB7
        clear hL1 hB7
        go_wp2_with fail
        refine (CM.out _ HB7.out).mono ?_
        rintro e w8 ⟨⟨a', c', rfl, hL⟩, b8⟩
        have H8 : Hid ((w8.alloc (.cells #[.int .i64 l.ep, .slice a' l.es.length c'] 30)).cell? ⟨AB, 0, none⟩ = some (.int .i64 l.ep) ∧ (w8.alloc (.cells #[.int .i64 l.ep, .slice a' l.es.length c'] 30)).cell? ⟨AB, 1, none⟩ = some (.slice a l.es.length c) ∧ Lie enC (fun k => w6.heap.size ≤ k) (w8.alloc (.cells #[.int .i64 l.ep, .slice a' l.es.length c'] 30)) a l.es ∧ Lie enC (fun k => W7.heap.size ≤ k) (w8.alloc (.cells #[.int .i64 l.ep, .slice a' l.es.length c'] 30)) a' l.es ∧ (w8.alloc (.cells #[.int .i64 l.ep, .slice a' l.es.length c'] 30)).cell? ⟨w8.heap.size, 0, none⟩ = some (.int .i64 l.ep) ∧ (w8.alloc (.cells #[.int .i64 l.ep, .slice a' l.es.length c'] 30)).cell? ⟨w8.heap.size, 1, none⟩ = some (.slice a' l.es.length c') ∧ Below w6.heap.size w6 (w8.alloc (.cells #[.int .i64 l.ep, .slice a' l.es.length c'] 30))) := by
          have bb9 := bel_tr b8 (bel_al w8 (.cells #[.int .i64 l.ep, .slice a' l.es.length c'] 30))
          obtain ⟨x1, x2, _, _⟩ := cells2 w8 (.int .i64 l.ep) (.slice a' l.es.length c') 30
          exact ⟨bel_cell bb9 y0, bel_cell bb9 y1, HL1.out.below bb9, hL.below (bel_al _ _), x1, x2, bel_tr HB7.out bb9⟩
        clear hL b8 CM y0 y1 k1 HL1 HB7 H7
        go_upto_region 29 with fail
        generalize w8.alloc (.cells #[.int .i64 l.ep, .slice a' l.es.length c'] 30) = W8 at *
        generalize w8.heap.size = MB at *
        obtain ⟨x0, x1, hl1, hl2, y0, y1, hB8⟩ := H8.out
        have HL1 : Hid (Lie enC (fun k => w6.heap.size ≤ k) W8 a l.es) := hl1
        have HL2 : Hid (Lie enC (fun k => W7.heap.size ≤ k) W8 a' l.es) := hl2
        have HB8 : Hid (Below w6.heap.size w6 W8) := hB8
        clear hl1 hl2 hB8 H8
        go_wp2_with fail
        refine (same_val HL1.out HL2.out _ _ _ _ rfl rfl _ _ true ⟨fun _ => rfl, fun _ => rfl⟩).mono ?_
        rintro e w9 ⟨rfl, b9⟩
        have B9 : Hid (Below w6.heap.size w6 w9) := bel_tr HB8.out b9
        clear x0 x1 y0 y1 b9 HL1 HL2 HB8
        go_wp2_with fail
        refine (CDI.out _ B9.out).mono ?_
        rintro e w10 ⟨rfl, b10⟩
        have H10 : Hid (Half w (some UB) BB w10 pd px d6 d6) := H6.out.below (bel_tr B9.out b10)
        clear b10 B9 CDI H6
        have hwb : (wh == wh) = true := by cases wh <;> rfl
        go_wp2
        go_roundw
        case rel => exact ⟨k + 1, d6, some UB, BB, by omega, by omega, by go_num, H10.out⟩
        case measure => simp [intOf]; omega
      · obtain ⟨d6, hd6⟩ : ∃ d6, ({ ds with fuse := max un 0 } : DS) = d6 := ⟨_, rfl⟩

        go_wp2_with fail
        refine ((hd6 ▸ d_fuse H4.out un _ (by omega) rfl : Calls Tryz.prog 12 #[.pointer (some ⟨pd, 0, none⟩), .int .i64 un] w4 fun e w' => e = .returned (.tuple #[]) ∧ Half w (some UB) BB w' pd px d6 ds)).mono ?_
        rintro e w5 ⟨rfl, h5⟩
        have z1 := (h5.cell HBB.out 1).trans f1
        have z2 := (h5.cell HBB.out 2).trans f2
        have z3 := (h5.cell HBB.out 3).trans f3
        have z4 := (h5.cell HBB.out 4).trans f4
        have z5 := (h5.cell HBB.out 5).trans f5
        have z6 := (h5.cell HBB.out 6).trans f6
        have z7 := (h5.cell HBB.out 7).trans f7
        have H5 : Hid (Half w (some UB) BB w5 pd px d6 ds) := h5
        clear h5
        go_wp2_with fail
        refine (hd6 ▸ x_fuse (f := max un 0) (hd6 ▸ H5.out) un (by omega) rfl).mono ?_
        rintro e w6 ⟨rfl, h6⟩
        have H6 : Hid (Half w (some UB) BB w6 pd px d6 d6) := h6
        clear h6 z1 z2 z3 z4 z5 z6 z7 H5

        have k1 := (H6.out.cell HBB.out 1).trans f1
        obtain ⟨l, wh, er, hl⟩ : ∃ l wh er, loadS (rdT d6 nm.data.toList) (rdE d6 nm.data.toList) = (l, wh, er) := ⟨_, _, _, rfl⟩
        have CL : Hid (Calls Tryz.prog 16 #[.pointer (some ⟨pd, 0, none⟩), .string nm] w6 fun e w' => LdR w6.heap.size l wh er e w' ∧ Below w6.heap.size w6 w') := half_load H6.out nm HQ.out.1 l wh er hl
        have CM : Hid (∀ W, Below w6.heap.size w6 W → Calls Tryz.prog 17 #[.pointer (some ⟨px, 0, none⟩), .string nm] W fun e w' => LdR W.heap.size l wh er e w' ∧ Below W.heap.size W w') := fun W hb => half_refLoad (H6.out.below hb) nm l wh er hl
        have CDI : Hid (∀ W, Below w6.heap.size w6 W → Calls Tryz.prog 19 #[.pointer (some ⟨pd, 0, none⟩), .pointer (some ⟨px, 0, none⟩)] W fun e w' => e = .returned (.bool true) ∧ Below W.heap.size W w') := fun W hb => disks_val (H6.out.below hb)
        clear hl f1 f2 f3 f4 f5 f6 f7 H4
        go_wp2_with fail
        refine CL.out.mono ?_
        rintro e w7 ⟨⟨a, c, rfl, hL⟩, b7⟩
        have H7 : Hid ((w7.alloc (.cells #[.int .i64 l.ep, .slice a l.es.length c] 30)).cell? ⟨w7.heap.size, 0, none⟩ = some (.int .i64 l.ep) ∧ (w7.alloc (.cells #[.int .i64 l.ep, .slice a l.es.length c] 30)).cell? ⟨w7.heap.size, 1, none⟩ = some (.slice a l.es.length c) ∧ Lie enC (fun k => w6.heap.size ≤ k) (w7.alloc (.cells #[.int .i64 l.ep, .slice a l.es.length c] 30)) a l.es ∧ Below w6.heap.size w6 (w7.alloc (.cells #[.int .i64 l.ep, .slice a l.es.length c] 30)) ∧ (w7.alloc (.cells #[.int .i64 l.ep, .slice a l.es.length c] 30)).cell? ⟨UB, 1, none⟩ = some (.string nm)) := by
          have bb9 := bel_tr b7 (bel_al w7 (.cells #[.int .i64 l.ep, .slice a l.es.length c] 30))
          obtain ⟨x1, x2, _, _⟩ := cells2 w7 (.int .i64 l.ep) (.slice a l.es.length c) 30
          exact ⟨x1, x2, hL.below (bel_al _ _), bb9, bel_cell bb9 k1⟩
        clear hL b7 CL k1
        go_upto_region 28 with fail
        generalize w7.alloc (.cells #[.int .i64 l.ep, .slice a l.es.length c] 30) = W7 at *
        generalize w7.heap.size = AB at *
        obtain ⟨y0, y1, hL1, hB7, k1⟩ := H7.out
        have HL1 : Hid (Lie enC (fun k => w6.heap.size ≤ k) W7 a l.es) := hL1
        have HB7 : Hid (Below w6.heap.size w6 W7) := hB7
        clear hL1 hB7
        go_wp2_with fail
        refine (CM.out _ HB7.out).mono ?_
        rintro e w8 ⟨⟨a', c', rfl, hL⟩, b8⟩
        have H8 : Hid ((w8.alloc (.cells #[.int .i64 l.ep, .slice a' l.es.length c'] 30)).cell? ⟨AB, 0, none⟩ = some (.int .i64 l.ep) ∧ (w8.alloc (.cells #[.int .i64 l.ep, .slice a' l.es.length c'] 30)).cell? ⟨AB, 1, none⟩ = some (.slice a l.es.length c) ∧ Lie enC (fun k => w6.heap.size ≤ k) (w8.alloc (.cells #[.int .i64 l.ep, .slice a' l.es.length c'] 30)) a l.es ∧ Lie enC (fun k => W7.heap.size ≤ k) (w8.alloc (.cells #[.int .i64 l.ep, .slice a' l.es.length c'] 30)) a' l.es ∧ (w8.alloc (.cells #[.int .i64 l.ep, .slice a' l.es.length c'] 30)).cell? ⟨w8.heap.size, 0, none⟩ = some (.int .i64 l.ep) ∧ (w8.alloc (.cells #[.int .i64 l.ep, .slice a' l.es.length c'] 30)).cell? ⟨w8.heap.size, 1, none⟩ = some (.slice a' l.es.length c') ∧ Below w6.heap.size w6 (w8.alloc (.cells #[.int .i64 l.ep, .slice a' l.es.length c'] 30))) := by
          have bb9 := bel_tr b8 (bel_al w8 (.cells #[.int .i64 l.ep, .slice a' l.es.length c'] 30))
          obtain ⟨x1, x2, _, _⟩ := cells2 w8 (.int .i64 l.ep) (.slice a' l.es.length c') 30
          exact ⟨bel_cell bb9 y0, bel_cell bb9 y1, HL1.out.below bb9, hL.below (bel_al _ _), x1, x2, bel_tr HB7.out bb9⟩
        clear hL b8 CM y0 y1 k1 HL1 HB7 H7
        go_upto_region 29 with fail
        generalize w8.alloc (.cells #[.int .i64 l.ep, .slice a' l.es.length c'] 30) = W8 at *
        generalize w8.heap.size = MB at *
        obtain ⟨x0, x1, hl1, hl2, y0, y1, hB8⟩ := H8.out
        have HL1 : Hid (Lie enC (fun k => w6.heap.size ≤ k) W8 a l.es) := hl1
        have HL2 : Hid (Lie enC (fun k => W7.heap.size ≤ k) W8 a' l.es) := hl2
        have HB8 : Hid (Below w6.heap.size w6 W8) := hB8
        clear hl1 hl2 hB8 H8
        go_wp2_with fail
        refine (same_val HL1.out HL2.out _ _ _ _ rfl rfl _ _ true ⟨fun _ => rfl, fun _ => rfl⟩).mono ?_
        rintro e w9 ⟨rfl, b9⟩
        have B9 : Hid (Below w6.heap.size w6 w9) := bel_tr HB8.out b9
        clear x0 x1 y0 y1 b9 HL1 HL2 HB8
        go_wp2_with fail
        refine (CDI.out _ B9.out).mono ?_
        rintro e w10 ⟨rfl, b10⟩
        have H10 : Hid (Half w (some UB) BB w10 pd px d6 d6) := H6.out.below (bel_tr B9.out b10)
        clear b10 B9 CDI H6
        have hwb : (wh == wh) = true := by cases wh <;> rfl
        go_wp2
        go_roundw
        case rel => exact ⟨k + 1, d6, some UB, BB, by omega, by omega, by go_num, H10.out⟩
        case measure => simp [intOf]; omega
      · obtain ⟨d6, hd6⟩ : ∃ d6, (⟨ds.room, 0, false, crashL ks ds.S⟩ : DS) = d6 := ⟨_, rfl⟩

        go_wp2_with fail
        refine ((hd6 ▸ d_crash H4.out ka kb ko kc mk ks HM.out.2 (by rw [← HM.out.2]; exact HQ.out.2.2.2.2.1) HQ.out.2.2.2.1 HQ.out.2.2.2.2.2 : Calls Tryz.prog 14 #[.pointer (some ⟨pd, 0, none⟩), .slice ka mk kc] w4 fun e w' => e = .returned (.tuple #[]) ∧ Half w (some UB) BB w' pd px d6 ds)).mono ?_
        rintro e w5 ⟨rfl, h5⟩
        have z1 := (h5.cell HBB.out 1).trans f1
        have z2 := (h5.cell HBB.out 2).trans f2
        have z3 := (h5.cell HBB.out 3).trans f3
        have z4 := (h5.cell HBB.out 4).trans f4
        have z5 := (h5.cell HBB.out 5).trans f5
        have z6 := (h5.cell HBB.out 6).trans f6
        have z7 := (h5.cell HBB.out 7).trans f7
        have H5 : Hid (Half w (some UB) BB w5 pd px d6 ds) := h5
        clear h5
        go_wp2_with fail
        refine (hd6 ▸ x_crash ka kb ko kc mk ks (hd6 ▸ H5.out) HM.out.2 (by rw [← HM.out.2]; exact HQ.out.2.2.2.2.1) HQ.out.2.2.2.1 HQ.out.2.2.2.2.2).mono ?_
        rintro e w6 ⟨rfl, h6⟩
        have H6 : Hid (Half w (some UB) BB w6 pd px d6 d6) := h6
        clear h6 z1 z2 z3 z4 z5 z6 z7 H5

        have k1 := (H6.out.cell HBB.out 1).trans f1
        obtain ⟨l, wh, er, hl⟩ : ∃ l wh er, loadS (rdT d6 nm.data.toList) (rdE d6 nm.data.toList) = (l, wh, er) := ⟨_, _, _, rfl⟩
        have CL : Hid (Calls Tryz.prog 16 #[.pointer (some ⟨pd, 0, none⟩), .string nm] w6 fun e w' => LdR w6.heap.size l wh er e w' ∧ Below w6.heap.size w6 w') := half_load H6.out nm HQ.out.1 l wh er hl
        have CM : Hid (∀ W, Below w6.heap.size w6 W → Calls Tryz.prog 17 #[.pointer (some ⟨px, 0, none⟩), .string nm] W fun e w' => LdR W.heap.size l wh er e w' ∧ Below W.heap.size W w') := fun W hb => half_refLoad (H6.out.below hb) nm l wh er hl
        have CDI : Hid (∀ W, Below w6.heap.size w6 W → Calls Tryz.prog 19 #[.pointer (some ⟨pd, 0, none⟩), .pointer (some ⟨px, 0, none⟩)] W fun e w' => e = .returned (.bool true) ∧ Below W.heap.size W w') := fun W hb => disks_val (H6.out.below hb)
        clear hl f1 f2 f3 f4 f5 f6 f7 H4
        go_wp2_with fail
        refine CL.out.mono ?_
        rintro e w7 ⟨⟨a, c, rfl, hL⟩, b7⟩
        have H7 : Hid ((w7.alloc (.cells #[.int .i64 l.ep, .slice a l.es.length c] 30)).cell? ⟨w7.heap.size, 0, none⟩ = some (.int .i64 l.ep) ∧ (w7.alloc (.cells #[.int .i64 l.ep, .slice a l.es.length c] 30)).cell? ⟨w7.heap.size, 1, none⟩ = some (.slice a l.es.length c) ∧ Lie enC (fun k => w6.heap.size ≤ k) (w7.alloc (.cells #[.int .i64 l.ep, .slice a l.es.length c] 30)) a l.es ∧ Below w6.heap.size w6 (w7.alloc (.cells #[.int .i64 l.ep, .slice a l.es.length c] 30)) ∧ (w7.alloc (.cells #[.int .i64 l.ep, .slice a l.es.length c] 30)).cell? ⟨UB, 1, none⟩ = some (.string nm)) := by
          have bb9 := bel_tr b7 (bel_al w7 (.cells #[.int .i64 l.ep, .slice a l.es.length c] 30))
          obtain ⟨x1, x2, _, _⟩ := cells2 w7 (.int .i64 l.ep) (.slice a l.es.length c) 30
          exact ⟨x1, x2, hL.below (bel_al _ _), bb9, bel_cell bb9 k1⟩
        clear hL b7 CL k1
        go_upto_region 28 with fail
        generalize w7.alloc (.cells #[.int .i64 l.ep, .slice a l.es.length c] 30) = W7 at *
        generalize w7.heap.size = AB at *
        obtain ⟨y0, y1, hL1, hB7, k1⟩ := H7.out
        have HL1 : Hid (Lie enC (fun k => w6.heap.size ≤ k) W7 a l.es) := hL1
        have HB7 : Hid (Below w6.heap.size w6 W7) := hB7
        clear hL1 hB7
        go_wp2_with fail
        refine (CM.out _ HB7.out).mono ?_
        rintro e w8 ⟨⟨a', c', rfl, hL⟩, b8⟩
        have H8 : Hid ((w8.alloc (.cells #[.int .i64 l.ep, .slice a' l.es.length c'] 30)).cell? ⟨AB, 0, none⟩ = some (.int .i64 l.ep) ∧ (w8.alloc (.cells #[.int .i64 l.ep, .slice a' l.es.length c'] 30)).cell? ⟨AB, 1, none⟩ = some (.slice a l.es.length c) ∧ Lie enC (fun k => w6.heap.size ≤ k) (w8.alloc (.cells #[.int .i64 l.ep, .slice a' l.es.length c'] 30)) a l.es ∧ Lie enC (fun k => W7.heap.size ≤ k) (w8.alloc (.cells #[.int .i64 l.ep, .slice a' l.es.length c'] 30)) a' l.es ∧ (w8.alloc (.cells #[.int .i64 l.ep, .slice a' l.es.length c'] 30)).cell? ⟨w8.heap.size, 0, none⟩ = some (.int .i64 l.ep) ∧ (w8.alloc (.cells #[.int .i64 l.ep, .slice a' l.es.length c'] 30)).cell? ⟨w8.heap.size, 1, none⟩ = some (.slice a' l.es.length c') ∧ Below w6.heap.size w6 (w8.alloc (.cells #[.int .i64 l.ep, .slice a' l.es.length c'] 30))) := by
          have bb9 := bel_tr b8 (bel_al w8 (.cells #[.int .i64 l.ep, .slice a' l.es.length c'] 30))
          obtain ⟨x1, x2, _, _⟩ := cells2 w8 (.int .i64 l.ep) (.slice a' l.es.length c') 30
          exact ⟨bel_cell bb9 y0, bel_cell bb9 y1, HL1.out.below bb9, hL.below (bel_al _ _), x1, x2, bel_tr HB7.out bb9⟩
        clear hL b8 CM y0 y1 k1 HL1 HB7 H7
        go_upto_region 29 with fail
        generalize w8.alloc (.cells #[.int .i64 l.ep, .slice a' l.es.length c'] 30) = W8 at *
        generalize w8.heap.size = MB at *
        obtain ⟨x0, x1, hl1, hl2, y0, y1, hB8⟩ := H8.out
        have HL1 : Hid (Lie enC (fun k => w6.heap.size ≤ k) W8 a l.es) := hl1
        have HL2 : Hid (Lie enC (fun k => W7.heap.size ≤ k) W8 a' l.es) := hl2
        have HB8 : Hid (Below w6.heap.size w6 W8) := hB8
        clear hl1 hl2 hB8 H8
        go_wp2_with fail
        refine (same_val HL1.out HL2.out _ _ _ _ rfl rfl _ _ true ⟨fun _ => rfl, fun _ => rfl⟩).mono ?_
        rintro e w9 ⟨rfl, b9⟩
        have B9 : Hid (Below w6.heap.size w6 w9) := bel_tr HB8.out b9
        clear x0 x1 y0 y1 b9 HL1 HL2 HB8
        go_wp2_with fail
        refine (CDI.out _ B9.out).mono ?_
        rintro e w10 ⟨rfl, b10⟩
        have H10 : Hid (Half w (some UB) BB w10 pd px d6 d6) := H6.out.below (bel_tr B9.out b10)
        clear b10 B9 CDI H6
        have hwb : (wh == wh) = true := by cases wh <;> rfl
        go_wp2
        go_roundw
        case rel => exact ⟨k + 1, d6, some UB, BB, by omega, by omega, by go_num, H10.out⟩
        case measure => simp [intOf]; omega
      · have H6 : Hid (Half w (some UB) BB w4 pd px ds ds) := H4.out
        clear H4

        have k1 := (H6.out.cell HBB.out 1).trans f1
        obtain ⟨l, wh, er, hl⟩ : ∃ l wh er, loadS (rdT ds nm.data.toList) (rdE ds nm.data.toList) = (l, wh, er) := ⟨_, _, _, rfl⟩
        have CL : Hid (Calls Tryz.prog 16 #[.pointer (some ⟨pd, 0, none⟩), .string nm] w4 fun e w' => LdR w4.heap.size l wh er e w' ∧ Below w4.heap.size w4 w') := half_load H6.out nm HQ.out.1 l wh er hl
        have CM : Hid (∀ W, Below w4.heap.size w4 W → Calls Tryz.prog 17 #[.pointer (some ⟨px, 0, none⟩), .string nm] W fun e w' => LdR W.heap.size l wh er e w' ∧ Below W.heap.size W w') := fun W hb => half_refLoad (H6.out.below hb) nm l wh er hl
        have CDI : Hid (∀ W, Below w4.heap.size w4 W → Calls Tryz.prog 19 #[.pointer (some ⟨pd, 0, none⟩), .pointer (some ⟨px, 0, none⟩)] W fun e w' => e = .returned (.bool true) ∧ Below W.heap.size W w') := fun W hb => disks_val (H6.out.below hb)
        clear hl f1 f2 f3 f4 f5 f6 f7
        go_wp2_with fail
        refine CL.out.mono ?_
        rintro e w7 ⟨⟨a, c, rfl, hL⟩, b7⟩
        have H7 : Hid ((w7.alloc (.cells #[.int .i64 l.ep, .slice a l.es.length c] 30)).cell? ⟨w7.heap.size, 0, none⟩ = some (.int .i64 l.ep) ∧ (w7.alloc (.cells #[.int .i64 l.ep, .slice a l.es.length c] 30)).cell? ⟨w7.heap.size, 1, none⟩ = some (.slice a l.es.length c) ∧ Lie enC (fun k => w4.heap.size ≤ k) (w7.alloc (.cells #[.int .i64 l.ep, .slice a l.es.length c] 30)) a l.es ∧ Below w4.heap.size w4 (w7.alloc (.cells #[.int .i64 l.ep, .slice a l.es.length c] 30)) ∧ (w7.alloc (.cells #[.int .i64 l.ep, .slice a l.es.length c] 30)).cell? ⟨UB, 1, none⟩ = some (.string nm)) := by
          have bb9 := bel_tr b7 (bel_al w7 (.cells #[.int .i64 l.ep, .slice a l.es.length c] 30))
          obtain ⟨x1, x2, _, _⟩ := cells2 w7 (.int .i64 l.ep) (.slice a l.es.length c) 30
          exact ⟨x1, x2, hL.below (bel_al _ _), bb9, bel_cell bb9 k1⟩
        clear hL b7 CL k1
        go_upto_region 28 with fail
        generalize w7.alloc (.cells #[.int .i64 l.ep, .slice a l.es.length c] 30) = W7 at *
        generalize w7.heap.size = AB at *
        obtain ⟨y0, y1, hL1, hB7, k1⟩ := H7.out
        have HL1 : Hid (Lie enC (fun k => w4.heap.size ≤ k) W7 a l.es) := hL1
        have HB7 : Hid (Below w4.heap.size w4 W7) := hB7
        clear hL1 hB7
        go_wp2_with fail
        refine (CM.out _ HB7.out).mono ?_
        rintro e w8 ⟨⟨a', c', rfl, hL⟩, b8⟩
        have H8 : Hid ((w8.alloc (.cells #[.int .i64 l.ep, .slice a' l.es.length c'] 30)).cell? ⟨AB, 0, none⟩ = some (.int .i64 l.ep) ∧ (w8.alloc (.cells #[.int .i64 l.ep, .slice a' l.es.length c'] 30)).cell? ⟨AB, 1, none⟩ = some (.slice a l.es.length c) ∧ Lie enC (fun k => w4.heap.size ≤ k) (w8.alloc (.cells #[.int .i64 l.ep, .slice a' l.es.length c'] 30)) a l.es ∧ Lie enC (fun k => W7.heap.size ≤ k) (w8.alloc (.cells #[.int .i64 l.ep, .slice a' l.es.length c'] 30)) a' l.es ∧ (w8.alloc (.cells #[.int .i64 l.ep, .slice a' l.es.length c'] 30)).cell? ⟨w8.heap.size, 0, none⟩ = some (.int .i64 l.ep) ∧ (w8.alloc (.cells #[.int .i64 l.ep, .slice a' l.es.length c'] 30)).cell? ⟨w8.heap.size, 1, none⟩ = some (.slice a' l.es.length c') ∧ Below w4.heap.size w4 (w8.alloc (.cells #[.int .i64 l.ep, .slice a' l.es.length c'] 30))) := by
          have bb9 := bel_tr b8 (bel_al w8 (.cells #[.int .i64 l.ep, .slice a' l.es.length c'] 30))
          obtain ⟨x1, x2, _, _⟩ := cells2 w8 (.int .i64 l.ep) (.slice a' l.es.length c') 30
          exact ⟨bel_cell bb9 y0, bel_cell bb9 y1, HL1.out.below bb9, hL.below (bel_al _ _), x1, x2, bel_tr HB7.out bb9⟩
        clear hL b8 CM y0 y1 k1 HL1 HB7 H7
        go_upto_region 29 with fail
        generalize w8.alloc (.cells #[.int .i64 l.ep, .slice a' l.es.length c'] 30) = W8 at *
        generalize w8.heap.size = MB at *
        obtain ⟨x0, x1, hl1, hl2, y0, y1, hB8⟩ := H8.out
        have HL1 : Hid (Lie enC (fun k => w4.heap.size ≤ k) W8 a l.es) := hl1
        have HL2 : Hid (Lie enC (fun k => W7.heap.size ≤ k) W8 a' l.es) := hl2
        have HB8 : Hid (Below w4.heap.size w4 W8) := hB8
        clear hl1 hl2 hB8 H8
        go_wp2_with fail
        refine (same_val HL1.out HL2.out _ _ _ _ rfl rfl _ _ true ⟨fun _ => rfl, fun _ => rfl⟩).mono ?_
        rintro e w9 ⟨rfl, b9⟩
        have B9 : Hid (Below w4.heap.size w4 w9) := bel_tr HB8.out b9
        clear x0 x1 y0 y1 b9 HL1 HL2 HB8
        go_wp2_with fail
        refine (CDI.out _ B9.out).mono ?_
        rintro e w10 ⟨rfl, b10⟩
        have H10 : Hid (Half w (some UB) BB w10 pd px ds ds) := H6.out.below (bel_tr B9.out b10)
        clear b10 B9 CDI H6
        have hwb : (wh == wh) = true := by cases wh <;> rfl
        go_wp2
        go_roundw
        case rel => exact ⟨k + 1, ds, some UB, BB, by omega, by omega, by go_num, H10.out⟩
        case measure => simp [intOf]; omega
    · have hex : n1 ≤ k ∨ (k < n1 ∧ 30 ≤ k) := by omega
      clear hlt
      rcases hex with c1 | ⟨c1, c2⟩
      all_goals
        go_wp2
        go_ret
        exact ⟨rfl, HO.out.bel⟩

theorem walk (a0 : Int) (a1 : Option Addr) (cap1 : Nat) (us1 : List LDd) (w : World) (w0 : (Lit.int .i64 a0).wf = true) (w1 : LDds w a1 us1) :
    Calls Tryz.prog 3 #[.int .i64 a0, .slice a1 us1.length cap1] w fun e w' => e = .returned (.bool true) ∧ Below w.heap.size w w' :=
  walk_b a0 a1 cap1 _ us1 w (bounds_i64 w0) rfl w1

set_option maxRecDepth 100000 in
theorem lifted (os : Os) (started : os.Started) (H : Type) (enc : TypeId × Value → H) :
    ReturnsInHanded {} Tryz.checked os 3 .any (Rows.logPlaysSpec.pre6 enc Tryz.prog Tryz.f3 Rows.logPlaysRow.domain false) (Rows.logPlaysSpec.post enc Tryz.prog Tryz.f3 false true false false) := by
  refine returnsInHanded_of_change (C := Tryz.checked) own started (by kernel_rfl) Tryz.func3
    (ChangeSpec.witness6 (enc := enc) (C := Tryz.checked) false ⟨#[], #[.int .i64 0, .slice none 0 0], []⟩ 8 (by kernel_rfl) (by kernel_rfl) (by kernel_rfl) (by kernel_rfl)) ?_
  intro W base args ds gs before hval0 hW hcnd _
  have hval : ∀ (j : Nat) t v, Tryz.f3.params[j]? = some t → args[j]? = some v → Value.okWide Tryz.prog W .any base t v := hval0
  have hW' := hW
  obtain ⟨p, q, hA0, hV, rfl, hfz, hnd⟩ := hW
  have hA : DataW.TrodAll enc Tryz.prog W 0 (fun _ => true) true Tryz.f3.params.toList args.toList ds p := hA0
  rw [Tryz.params3] at hA hval
  obtain ⟨v0, vs0, d0, ds0, p0, q0, hargs, rfl, rfl, h0, r0⟩ := trodAll_cons hA
  obtain ⟨v1, vs1, d1, ds1, p1, q1, rfl, rfl, rfl, h1, r1⟩ := trodAll_cons r0
  obtain ⟨rfl, rfl, rfl⟩ := trodAll_nil r1
  obtain rfl : args = #[v0, v1] := by cases args; simp_all
  obtain ⟨rfl, rfl⟩ := trodVars_none hV
  obtain ⟨a0, rfl, rfl, rfl, w0⟩ := open_int Tryz.underlying3 (hval 0 3 v0 rfl rfl) h0
  obtain ⟨a1, len1, cap1, rfl⟩ := okWide_slice Tryz.underlying22 (hval 1 22 v1 rfl rfl)
  have k1 := h1
  have lt1 : ∀ x ∈ p1, x.block < W.heap.size := by obtain ⟨m, hm⟩ := k1; exact DataW.trod_lt m _ _ _ hm
  obtain ⟨ss1, y1, w1⟩ := Lgg.open_ldeeds h1
  subst y1
  clear hA0 hval0
  refine (walk a0 a1 cap1 ss1 W w0 w1).mono fun e W' ⟨he, bel⟩ => ?_
  subst he
  exact ⟨_, rfl, _, _, _, [], _, [], hW', trodAll_mk1 (shut_bool Tryz.underlying4 _), (trodAll_cons_mk (shut_int Tryz.underlying3 w0) (trodAll_cons_mk (Below.trod laidOut (by kernel_rfl) (of_decide_eq_true (by kernel_rfl)) k1 bel lt1) trodAll_mk0)), rfl, bel.frame _, fun h => by cases h⟩

theorem over : Rows.logPlaysRow.holds Tryz.pinned (OpenSpec.ofChange Rows.logPlaysSpec) :=
  OpenClaim.holds_of_wide 3 Tryz.f3 rfl rfl rfl rfl rfl rfl rfl ⟨rfl, rfl, rfl, rfl, rfl⟩ rfl rfl rfl rfl rfl (by kernel_rfl) Tryz.func3 (by kernel_rfl)
    (of_decide_eq_true (by kernel_rfl)) (by unfold Func.isWrapper; first | (rw [if_pos (by decide +kernel)]; kernel_rfl) | (rw [if_neg (by decide +kernel)]; exact ⟨rfl, rfl⟩))
    (fun os started H enc _ => lifted os started H enc)
end Go.Proofs.YtefncpgemdgbbaaGreat.logPlays

namespace Go.Proofs.YtefncpgemdgbbaaGreat
/-- The statement. -/
theorem logPlays_holds : Rows.LogPlaysSaid := logPlays.over
#print axioms logPlays_holds
end Go.Proofs.YtefncpgemdgbbaaGreat
