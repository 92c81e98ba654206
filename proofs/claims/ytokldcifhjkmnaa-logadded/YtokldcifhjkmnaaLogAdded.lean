/- LogAdded: for every list of texts, every text, every number and every list of numbers: the statement's function returns true; nothing that was there is changed. No condition. -/
import Derived.Test.YtokldcifhjkmnaaLogA
import Derived.Test.YtokldcifhjkmnaaOpenAll
import Derived.Deep.Cut
import Derived.BigRegion
namespace Go.Proofs.Ytokldcifhjkmnaa.logAdded
open Go.ChangeShapes Go.WideShapes Go.ChangeAt Go.RowKit Go.Proofs.Ytokldcifhjkmnaa Go.Proofs.Ytokldcifhjkmnaa.Lgg
open Go.ChangeMaps (open_string shut_string)
set_option linter.unusedVariables false

theorem own : ownKnob Try.prog.godebug = none := by kernel_rfl

set_option maxRecDepth 100000 in
set_option maxHeartbeats 8000000 in
theorem core (da : Option Addr) (db doff dc m : Nat) (ss : List ByteArray) (mo : ByteArray) (n : Int) (ka : Option Addr) (kb koff kc z : Nat) (ks : List Int) (w : World) (hm : ss.length = m) (hz : ks.length = z) (h0 : Strs w da db doff ss) (hmo : mo.size ≤ maxLen) (hn : -9223372036854775808 ≤ n ∧ n ≤ 9223372036854775807) (hzm : z ≤ maxLen) (h3 : Ints w .i64 ka kb koff ks) (hks : ∀ k ∈ ks, -9223372036854775808 ≤ k ∧ k ≤ 9223372036854775807) :
    Calls Try.prog 7 #[.slice da m dc, .string mo, .int .i64 n, .slice ka z kc] w fun e w' => e = .returned (.bool true) ∧ Below w.heap.size w w' := by
  obtain ⟨ti, hi1, hi2, hi3, hi4⟩ := info_e
  obtain ⟨N, hN⟩ : ∃ N, keepN n % 3 = N := ⟨_, rfl⟩
  have hN3 : N < 3 := by rw [← hN]; exact Nat.mod_lt _ (by omega)
  have HPK : Hid (∀ W, Calls Try.prog 25 #[.int .i64 n, .int .i64 3] W fun e w' => e = .returned (.int .i64 (N : Int)) ∧ w' = W) := fun W => pick_val n 3 N W hn (by omega) hN
  obtain ⟨LA, hLA⟩ : ∃ l, ofL 1 ss = l := ⟨_, rfl⟩
  have hRA : RtL LA := by rw [← hLA]; exact ofL_right 1 (by omega) ss
  have hsA : (encL LA).size ≤ 20000 := by rw [← hLA]; exact enc_small 1 (by omega) ss
  have hlA : LA.es.length ≤ 30 := by rw [← hLA, ofL_len]; exact Nat.min_le_right _ _
  obtain ⟨L, hL⟩ : ∃ L, LA.es.length = L := ⟨_, rfl⟩
  obtain ⟨M, hM1, hM2, hM3, hM4⟩ : ∃ M : Nat, min (mo.size : Int) 100 = (M : Int) ∧ M ≤ mo.size ∧ M ≤ 100 ∧ M ≤ 100 := ⟨min mo.size 100, by omega, Nat.min_le_left _ _, Nat.min_le_right _ _, Nat.min_le_right _ _⟩
  obtain ⟨X, hX⟩ : ∃ X, mo.extract 0 M = X := ⟨_, rfl⟩
  have hXs : X.size ≤ 100 := by rw [← hX, ByteArray.size_extract]; omega
  have hRB : RtL ⟨LA.ep, LA.es ++ [⟨(L : Int) + 1, X⟩]⟩ := by
    have h9 := RtL.snoc (ep := LA.ep) (es := LA.es) hRA (by omega) X (by omega)
    rw [hL] at h9
    exact h9
  have hEs := encE_size (x := ⟨(L : Int) + 1, X⟩) (by show _ ≤ (L : Int) + 1; omega) (by show (L : Int) + 1 ≤ _; omega) (by show X.size ≤ 600; omega)
  have hne : LA ≠ ⟨LA.ep, LA.es ++ [⟨(L : Int) + 1, X⟩]⟩ := fun e => by
    have h9 : LA.es.length = (LA.es ++ ([⟨(L : Int) + 1, X⟩] : List En)).length := congrArg (fun l : Lg => l.es.length) e
    simp at h9
  have HOA : Hid (∀ W, Below w.heap.size w W → Calls Try.prog 20 #[.int .i64 1, .slice da m dc] W fun e w' => OfR W.heap.size LA e w' ∧ Below W.heap.size W w') := fun W hb => by rw [← hLA]; exact of_val 1 1 (by omega) rfl (h0.below hb) m dc hm
  have hl0 : (encL LA).data.toList.length = (encL LA).size := Wir.size_list _
  have HS1 := sto_new (s := jN) (b := encL LA) (room := 400000) j_ok (by omega) (by omega)
  rw [← hl0] at HS1
  obtain ⟨e2, ds2, HS2, hroom, hout⟩ := added_out LA ⟨(L : Int) + 1, X⟩ hRA hRB hsA (by omega) N hN3
  obtain ⟨Z, RR, sy, bz, hcs, hcr, hpz, hbz⟩ := hout ks
  have CS1 : Hid (∀ K W pd a c, Dk w K W pd ⟨400000, 0, false, []⟩ → Lie enC K W a LA.es → Calls Try.prog 21 #[.pointer (some ⟨pd, 0, none⟩), .string ⟨#[106]⟩, .agg #[.int .i64 LA.ep, .slice a L c]] W fun e w' => e = .returned (.int .i64 0) ∧ Dk w K w' pd ⟨400000, 0, false, [(jN.data.toList, (encL LA).data.toList, (encL LA).data.toList.length)]⟩ ∧ Stay (fun k => ¬ K k) W w') := fun K W pd a c h hl => store_val h jN j_ok hl LA.ep L c hL hRA 0 HS1
  have CA : Hid (∀ K W pd, Dk w K W pd ⟨400000, 1 + (N : Int), false, [(jN.data.toList, (encL LA).data.toList, (encL LA).data.toList.length)]⟩ → Calls Try.prog 22 #[.pointer (some ⟨pd, 0, none⟩), .string ⟨#[106]⟩, .agg #[.int .i64 ((L : Int) + 1), .string X]] W fun e w' => e = .returned (.int .i64 e2) ∧ Dk w K w' pd ds2 ∧ Stay (fun k => ¬ K k) W w') := fun K W pd h => add_val h jN j_ok ⟨(L : Int) + 1, X⟩ (by show 1 ≤ (L : Int) + 1; omega) (by show (L : Int) + 1 ≤ 300; omega) (by show X.size ≤ 600; omega) e2 HS2
  have CF : Hid (∀ K W pd, Dk w K W pd ⟨400000, 0, false, [(jN.data.toList, (encL LA).data.toList, (encL LA).data.toList.length)]⟩ → Calls Try.prog 24 #[.pointer (some ⟨pd, 0, none⟩), .int .i64 (1 + (N : Int))] W fun e w' => e = .returned (.tuple #[]) ∧ Dk w K w' pd ⟨400000, 1 + (N : Int), false, [(jN.data.toList, (encL LA).data.toList, (encL LA).data.toList.length)]⟩ ∧ Stay (fun k => ¬ K k) W w') := fun K W pd h => dk_fuse h (1 + (N : Int)) (1 + (N : Int)) (by omega) (by omega)
  have CC : Hid (∀ K W pd, Dk w K W pd ds2 → Calls Try.prog 23 #[.pointer (some ⟨pd, 0, none⟩), .slice ka z kc] W fun e w' => e = .returned (.tuple #[]) ∧ Dk w K w' pd ⟨400000, 0, false, [(jN.data.toList, bz.data.toList, sy)]⟩ ∧ Stay (fun k => ¬ K k) W w') := fun K W pd h => by
    have h9 := dk_crash h ka kb koff kc z ks hz hzm h3 hks
    rw [hroom, hcr] at h9
    exact h9
  obtain ⟨wh, hwh⟩ : ∃ v : Bool, decide (RR.size = 0) = v := ⟨_, rfl⟩
  have CL : Hid (∀ K W pd, Dk w K W pd ⟨400000, 0, false, [(jN.data.toList, bz.data.toList, sy)]⟩ → Calls Try.prog 17 #[.pointer (some ⟨pd, 0, none⟩), .string ⟨#[106]⟩] W fun e w' => LoadR W.heap.size Z wh e w' ∧ Below W.heap.size W w') := fun K W pd h => by
    obtain ⟨r1, r2⟩ := rd_head (room := 400000) (f := 0) (n := jN.data.toList) (A := bz.data.toList) (a := sy) (r := [])
    rw [mk_list] at r2
    exact load_yes h jN j_small bz (by unfold maxLen; omega) r2 r1 Z RR hpz wh hwh
  have HCS : Hid ((Z = LA ∧ e2 = 12) ∨ (Z = ⟨LA.ep, LA.es ++ [⟨(L : Int) + 1, X⟩]⟩ ∧ (e2 = 0 ∨ e2 = 12))) := hcs
  have HNE : Hid (LA ≠ ⟨LA.ep, LA.es ++ [⟨(L : Int) + 1, X⟩]⟩) := hne
  have HL : Hid (LA.es.length = L) := hL
  have hL30 : L ≤ 30 := by omega
  unfold maxLen at hmo
  clear hN hm hz h0 hn hzm h3 hks hLA hRA hsA hlA hRB hEs hne hl0 HS1 HS2 hroom hout hcs hcr hpz hbz hwh hXs hM4 hL
  generalize (⟨400000, 0, false, [(jN.data.toList, bz.data.toList, sy)]⟩ : DS) = D4 at CC CL
  generalize (⟨400000, 0, false, [(jN.data.toList, (encL LA).data.toList, (encL LA).data.toList.length)]⟩ : DS) = D1 at CS1 CF
  generalize (⟨400000, 1 + (N : Int), false, [(jN.data.toList, (encL LA).data.toList, (encL LA).data.toList.length)]⟩ : DS) = D2 at CF CA
  have hst := fun (w : World) (a : Addr) (x : ByteArray) (m : Mode) => run_store (P := Try.prog) w a (.string x) m rfl
  have hst2 : ∀ (w : World) (a : Addr) (x : Option Addr) (n c : Nat) (m : Mode), (store a (.slice x n c) m).run Try.prog w = stored Try.prog w a (.slice x n c) m := fun w a x n c m => run_store (P := Try.prog) w a _ m rfl
  go_enter Try.func7, Try.ntmps7
  go_wp2_with fail
  refine (examples14_val w).mono ?_
  rintro e w1 ⟨rfl, b1⟩
  have B1 : Hid (Below w.heap.size w w1) := b1
  clear b1
  go_wp2_with fail
  refine (dk_new (w0 := w) B1.out 400000 400000 (by omega) (by omega)).mono ?_
  rintro e w2 ⟨pd, rfl, h2, b2⟩
  have H2 : Hid (Dk w (fun _ => False) w2 pd ⟨400000, 0, false, []⟩) := h2.less (fun _ e => e.elim)
  clear h2 b2 B1
  go_wp2_with fail
  refine (HOA.out _ H2.out.bel).mono ?_
  rintro e w3 ⟨⟨a, c, g, rfl, hC⟩, b3⟩
  rw [HL.out] at hC ⊢
  have A3 : Hid (Bl (fun k => w2.heap.size ≤ k ∧ k < w3.heap.size + 1) (w3.alloc (.cells #[.int .i64 LA.ep, .slice a L c] 24)) w3.heap.size LA a c) := by
    have h9 : Cel (fun k => w2.heap.size ≤ k) w3 2 (.slice a LA.es.length c) LA.es.length (rowC enC LA.es) g := by rw [HL.out]; exact hC
    have h8 := Bl.of h9 24 b3.size
    rw [HL.out] at h8
    exact h8
  have B3 : Hid (Below w2.heap.size w2 (w3.alloc (.cells #[.int .i64 LA.ep, .slice a L c] 24))) := bel_tr b3 (bel_al _ _)
  have HZ3 : Hid ((w3.alloc (.cells #[.int .i64 LA.ep, .slice a L c] 24)).heap.size = w3.heap.size + 1 ∧ w2.heap.size ≤ w3.heap.size) := ⟨by simp, b3.size⟩
  clear hC b3
  go_wp2_with fail
  generalize w3.alloc (.cells #[.int .i64 LA.ep, .slice a L c] 24) = W3 at *
  generalize w3.heap.size = AB at *
  refine (HOA.out _ (bel_tr H2.out.bel B3.out)).mono ?_
  rintro e w4 ⟨⟨a', c', g', rfl, hC⟩, b4⟩
  rw [HL.out] at hC ⊢
  go_upto_region 7 with fail
  have x1 : (w4.alloc (.cells #[.int .i64 LA.ep, .slice a' L c'] 24)).cell? ⟨AB, 1, none⟩ = some (.slice a L c) := by
    have h9 := (A3.out.below (bel_tr b4 (bel_al w4 (.cells #[.int .i64 LA.ep, .slice a' L c'] 24)))).c1
    rw [HL.out] at h9
    exact h9
  have HC4 : Hid (Cel (fun k => W3.heap.size ≤ k ∧ k < w4.heap.size) (w4.alloc (.cells #[.int .i64 LA.ep, .slice a' L c'] 24)) 2 (.slice a' L c') L (rowC enC LA.es) g') := (cel_lt hC).below (bel_al _ _)
  have B4 : Hid (Below W3.heap.size W3 (w4.alloc (.cells #[.int .i64 LA.ep, .slice a' L c'] 24)) ∧ W3.heap.size ≤ w4.heap.size ∧ (w4.alloc (.cells #[.int .i64 LA.ep, .slice a' L c'] 24)).heap.size = w4.heap.size + 1) := ⟨bel_tr b4 (bel_al _ _), b4.size, by simp⟩
  have HQ4 : Hid ((∀ j, (w4.alloc (.cells #[.int .i64 LA.ep, .slice a' L c'] 24)).frozen? ⟨w4.heap.size, j, none⟩ = false) ∧ (w4.alloc (.cells #[.int .i64 LA.ep, .slice a' L c'] 24)).cell? ⟨w4.heap.size, 0, none⟩ = some (.int .i64 LA.ep) ∧ (w4.alloc (.cells #[.int .i64 LA.ep, .slice a' L c'] 24)).cell? ⟨w4.heap.size, 1, none⟩ = some (.slice a' L c')) := ⟨fun j => World.frozen?_alloc_new w4 _ _ j, World.cell?_alloc_new w4 _ _ 0, World.cell?_alloc_new w4 _ _ 1⟩
  clear hC b4
  generalize w4.alloc (.cells #[.int .i64 LA.ep, .slice a' L c'] 24) = W4 at *
  generalize w4.heap.size = BB at *
  have x1a := cell_al x1
  go_region
  have H5 : Hid (Below W4.heap.size W4 (W4.alloc (.cells #[.int .i64 ((L : Int) + 1), .string X] 49)).drew ∧ (W4.alloc (.cells #[.int .i64 ((L : Int) + 1), .string X] 49)).drew.cell? ⟨W4.heap.size, 0, none⟩ = some (.int .i64 ((L : Int) + 1)) ∧ (W4.alloc (.cells #[.int .i64 ((L : Int) + 1), .string X] 49)).drew.cell? ⟨W4.heap.size, 1, none⟩ = some (.string X) ∧ W4.heap.size < (W4.alloc (.cells #[.int .i64 ((L : Int) + 1), .string X] 49)).drew.heap.size) := ⟨(bel_al _ _).drew, World.cell?_alloc_new W4 _ _ 0, World.cell?_alloc_new W4 _ _ 1, by show W4.heap.size < (W4.alloc _).heap.size; simp⟩
  generalize (W4.alloc (.cells #[.int .i64 ((L : Int) + 1), .string X] 49)).drew = W5 at *
  have y0 := H5.out.2.1
  have y1 := H5.out.2.2.1
  have z1 := bel_cell H5.out.1 HQ4.out.2.2
  have CW : Hid (Cel (fun k => W3.heap.size ≤ k ∧ k < BB) (W5.alloc (.cells #[.int .i64 ((L : Int) + 1), .string X] 49)) 2 (.slice a' L c') L (rowC enC LA.es) g') := (HC4.out.below H5.out.1).below (bel_al _ _)
  have SW : Hid (Src Try.prog 2 22 (.slice (some ⟨W5.heap.size, 0, none⟩) 1 1) 1 [.int .i64 ((L : Int) + 1), .string X] (W5.alloc (.cells #[.int .i64 ((L : Int) + 1), .string X] 49))) := src_entry W5 _ X
  clear x1 x1a
  generalize hXB : W4.heap.size = XB at *
  have HXB : Hid (W4.heap.size = XB) := hXB
  clear hXB
  go_upto_region 9 with (at_builtin; refine wpList_append_cel _ rfl _ _ 22 22 rfl 49 ti _ 2 24 Try.underlying22 hi1 hi2 hi3 hi4 rfl (O := fun k => W3.heap.size ≤ k ∧ k < BB) (.slice a' L c') L _ g' rfl CW.out _ 1 [.int .i64 ((L : Int) + 1), .string X] rfl SW.out (by unfold maxLen; omega) (by omega) ?_; intro a7 c7 w7 g7 hC7 hS7 hg7; obtain ⟨u1, f1, hApp⟩ := app_b (W5 := W5) HC4.out B4.out.1 ⟨B4.out.2.1, by have h9 := B4.out.2.2; have h10 := HXB.out; omega⟩ HQ4.out.2.1 HQ4.out.2.2 HQ4.out.1 (by rw [HXB.out]; exact H5.out.1) HL.out hC7 hS7; have HAPP : Hid (App W3 W4 W5 (w7.setCell ⟨BB, 1, none⟩ (.slice a7 (L + 1) c7)) BB LA.ep a7 (L + 1) c7 (LA.es ++ [⟨(L : Int) + 1, X⟩])) := hApp; clear hC7 hS7 hg7 hApp y0 y1 z1)
  have HT : Hid (Bl (fun k => w2.heap.size ≤ k ∧ k < (w7.setCell ⟨BB, 1, none⟩ (.slice a7 (L + 1) c7)).heap.size) (w7.setCell ⟨BB, 1, none⟩ (.slice a7 (L + 1) c7)) AB LA a c ∧ Bl (fun k => w2.heap.size ≤ k ∧ k < (w7.setCell ⟨BB, 1, none⟩ (.slice a7 (L + 1) c7)).heap.size) (w7.setCell ⟨BB, 1, none⟩ (.slice a7 (L + 1) c7)) BB ⟨LA.ep, LA.es ++ [⟨(L : Int) + 1, X⟩]⟩ a7 c7 ∧ Dk w (fun k => w2.heap.size ≤ k ∧ k < (w7.setCell ⟨BB, 1, none⟩ (.slice a7 (L + 1) c7)).heap.size) (w7.setCell ⟨BB, 1, none⟩ (.slice a7 (L + 1) c7)) pd ⟨400000, 0, false, []⟩ ∧ (w7.setCell ⟨BB, 1, none⟩ (.slice a7 (L + 1) c7)).cell? ⟨XB, 0, none⟩ = some (.int .i64 ((L : Int) + 1)) ∧ (w7.setCell ⟨BB, 1, none⟩ (.slice a7 (L + 1) c7)).cell? ⟨XB, 1, none⟩ = some (.string X) ∧ w2.heap.size ≤ XB) := by
    have hA := HAPP.out
    have hz := HZ3.out
    have h10 := HXB.out
    have h11 := B4.out
    have h12 := hA.size
    have h13 := H5.out.2.2.2
    have hl7 : (LA.es ++ ([⟨(L : Int) + 1, X⟩] : List En)).length = L + 1 := by simp [HL.out]
    refine ⟨(A3.out.below hA.bel).mono (fun k hk hl => ⟨hk.1, hl⟩), ⟨hA.c0, by rw [show (⟨LA.ep, LA.es ++ [⟨(L : Int) + 1, X⟩]⟩ : Lg).es.length = L + 1 from hl7]; exact hA.c1, ⟨by omega, World.block_lt_of_cell? _ _ hA.c0⟩, hA.row.mono (fun k hk hl => ⟨by omega, hl⟩)⟩, H2.out.add (bel_tr B3.out hA.bel) (fun k hk => .inr hk), hA.keep _ _ _ (by omega) H5.out.2.1, hA.keep _ _ _ (by omega) H5.out.2.2.1, by omega⟩
  clear HAPP HZ3 HXB B4 H5 A3 B3 H2 HC4 HQ4 CW SW HOA u1 f1
  generalize w7.setCell ⟨BB, 1, none⟩ (.slice a7 (L + 1) c7) = W7 at *
  obtain ⟨LB, hLB⟩ : ∃ l : Lg, (⟨LA.ep, LA.es ++ [⟨(L : Int) + 1, X⟩]⟩ : Lg) = l := ⟨_, rfl⟩
  rw [hLB] at HT HNE HCS
  have hlB : LB.es.length = L + 1 := by rw [← hLB]; simp [HL.out]
  have HLB : Hid (LB.es.length = L + 1 ∧ LB.ep = LA.ep) := ⟨hlB, by rw [← hLB]⟩
  clear hLB hlB
  have x0 := HT.out.1.c0
  have x1 := HT.out.1.c1
  rw [HL.out] at x1
  go_wp2_with fail
  refine (CS1.out _ _ _ _ _ HT.out.2.2.1 HT.out.1.row).mono ?_
  rintro e w8 ⟨rfl, h8, s8⟩
  have H8 : Hid (Bl (fun k => w2.heap.size ≤ k ∧ k < W7.heap.size) w8 AB LA a c ∧ Bl (fun k => w2.heap.size ≤ k ∧ k < W7.heap.size) w8 BB LB a7 c7 ∧ Dk w (fun k => w2.heap.size ≤ k ∧ k < W7.heap.size) w8 pd D1 ∧ w8.cell? ⟨XB, 0, none⟩ = some (.int .i64 ((L : Int) + 1)) ∧ w8.cell? ⟨XB, 1, none⟩ = some (.string X) ∧ w2.heap.size ≤ XB ∧ XB < W7.heap.size) := by
    obtain ⟨k1, k2, k3, k4, k5, k6⟩ := HT.out
    have hlt : XB < W7.heap.size := World.block_lt_of_cell? _ _ k4
    have kb := s8.block XB hlt (fun h => h ⟨k6, hlt⟩)
    exact ⟨k1.kept s8, k2.kept s8, h8, (World.cell?_of_block (a := ⟨XB, 0, none⟩) kb).trans k4, (World.cell?_of_block (a := ⟨XB, 1, none⟩) kb).trans k5, k6, hlt⟩
  clear x0 x1 HT h8 s8 CS1
  go_wp2_with (first
    | (go_at_call 25; refine (HPK.out _).mono ?_; rintro e wp ⟨rfl, rfl⟩)
    | fail)
  refine (CF.out _ _ _ H8.out.2.2.1).mono ?_
  rintro e w9 ⟨rfl, h9, s9⟩
  have H9 : Hid (Bl (fun k => w2.heap.size ≤ k ∧ k < W7.heap.size) w9 AB LA a c ∧ Bl (fun k => w2.heap.size ≤ k ∧ k < W7.heap.size) w9 BB LB a7 c7 ∧ Dk w (fun k => w2.heap.size ≤ k ∧ k < W7.heap.size) w9 pd D2 ∧ w9.cell? ⟨XB, 0, none⟩ = some (.int .i64 ((L : Int) + 1)) ∧ w9.cell? ⟨XB, 1, none⟩ = some (.string X)) := by
    obtain ⟨k1, k2, k3, k4, k5, k6, k7⟩ := H8.out
    have kb := s9.block XB (World.block_lt_of_cell? _ _ k4) (fun h => h ⟨k6, k7⟩)
    exact ⟨k1.kept s9, k2.kept s9, h9, (World.cell?_of_block (a := ⟨XB, 0, none⟩) kb).trans k4, (World.cell?_of_block (a := ⟨XB, 1, none⟩) kb).trans k5⟩
  clear H8 h9 s9 CF HPK
  have x0 := H9.out.2.2.2.1
  have x1 := H9.out.2.2.2.2
  go_wp2_with fail
  refine (CA.out _ _ _ H9.out.2.2.1).mono ?_
  rintro e w10 ⟨rfl, h10, s10⟩
  have H10 : Hid (Bl (fun k => w2.heap.size ≤ k ∧ k < W7.heap.size) w10 AB LA a c ∧ Bl (fun k => w2.heap.size ≤ k ∧ k < W7.heap.size) w10 BB LB a7 c7 ∧ Dk w (fun k => w2.heap.size ≤ k ∧ k < W7.heap.size) w10 pd ds2) := ⟨H9.out.1.kept s10, H9.out.2.1.kept s10, h10⟩
  clear H9 h10 s10 CA x0 x1
  go_wp2_with fail
  refine (CC.out _ _ _ H10.out.2.2).mono ?_
  rintro e w11 ⟨rfl, h11, s11⟩
  have H11 : Hid (Bl (fun k => w2.heap.size ≤ k ∧ k < W7.heap.size) w11 AB LA a c ∧ Bl (fun k => w2.heap.size ≤ k ∧ k < W7.heap.size) w11 BB LB a7 c7 ∧ Dk w (fun k => w2.heap.size ≤ k ∧ k < W7.heap.size) w11 pd D4) := ⟨H10.out.1.kept s11, H10.out.2.1.kept s11, h11⟩
  clear H10 h11 s11 CC
  go_wp2_with fail
  refine (CL.out _ _ _ H11.out.2.2).mono ?_
  rintro e w12 ⟨⟨a9, c9, g9, rfl, hC9⟩, b9⟩
  have L9 : Hid (Bl (fun k => w11.heap.size ≤ k ∧ k < w12.heap.size + 1) (w12.alloc (.cells #[.int .i64 Z.ep, .slice a9 Z.es.length c9] 24)) w12.heap.size Z a9 c9) := Bl.of hC9 _ b9.size
  have b10 := bel_tr b9 (bel_al w12 (.cells #[.int .i64 Z.ep, .slice a9 Z.es.length c9] 24))
  have H12 : Hid (Bl (fun k => w2.heap.size ≤ k ∧ k < W7.heap.size) (w12.alloc (.cells #[.int .i64 Z.ep, .slice a9 Z.es.length c9] 24)) AB LA a c ∧ Bl (fun k => w2.heap.size ≤ k ∧ k < W7.heap.size) (w12.alloc (.cells #[.int .i64 Z.ep, .slice a9 Z.es.length c9] 24)) BB LB a7 c7 ∧ Below w.heap.size w (w12.alloc (.cells #[.int .i64 Z.ep, .slice a9 Z.es.length c9] 24))) := ⟨H11.out.1.below b10, H11.out.2.1.below b10, bel_tr H11.out.2.2.bel b10⟩
  clear hC9 b9 b10 H11 CL
  go_upto_region 15 with fail
  generalize w12.alloc (.cells #[.int .i64 Z.ep, .slice a9 Z.es.length c9] 24) = W9 at *
  generalize w12.heap.size = MB at *
  obtain ⟨v1, hv1⟩ : ∃ v : Bool, v = true ↔ Z = LA := by classical exact ⟨decide (Z = LA), decide_eq_true_iff⟩
  obtain ⟨v2, hv2⟩ : ∃ v : Bool, v = true ↔ Z = LB := by classical exact ⟨decide (Z = LB), decide_eq_true_iff⟩
  have HV : Hid ((v1 = true ∧ v2 = false ∧ e2 = 12) ∨ (v1 = false ∧ v2 = true ∧ e2 = 0) ∨ (v1 = false ∧ v2 = true ∧ e2 = 12)) := by
    have hne := HNE.out
    rcases HCS.out with ⟨rfl, h2⟩ | ⟨rfl, h2⟩
    · refine .inl ⟨hv1.2 rfl, ?_, h2⟩
      cases v2 with
      | false => rfl
      | true => exact absurd (hv2.1 rfl) hne
    · have h3 : v1 = false := by
        cases v1 with
        | false => rfl
        | true => exact absurd (hv1.1 rfl).symm hne
      rcases h2 with h2 | h2
      · exact .inr (.inl ⟨h3, hv2.2 rfl, h2⟩)
      · exact .inr (.inr ⟨h3, hv2.2 rfl, h2⟩)
  have HV1 : Hid (v1 = true ↔ Z = LA) := hv1
  have HV2 : Hid (v2 = true ↔ Z = LB) := hv2
  clear hv1 hv2 HCS HNE
  have x0 := L9.out.c0
  have x1 := L9.out.c1
  have y0 := H12.out.1.c0
  have y1 := H12.out.1.c1
  go_wp2_with fail
  refine (same_val L9.out.row H12.out.1.row _ _ _ _ rfl rfl _ _ v1 HV1.out).mono ?_
  rintro e w13 ⟨rfl, b13⟩
  have H13 : Hid (Bl (fun k => w2.heap.size ≤ k ∧ k < W7.heap.size) w13 BB LB a7 c7 ∧ Bl (fun k => w11.heap.size ≤ k ∧ k < MB + 1) w13 MB Z a9 c9 ∧ Below w.heap.size w w13) := ⟨H12.out.2.1.below b13, L9.out.below b13, bel_tr H12.out.2.2 b13⟩
  clear x0 x1 y0 y1 b13 H12 L9
  have x0 := H13.out.2.1.c0
  have x1 := H13.out.2.1.c1
  have y0 := H13.out.1.c0
  have y1 := H13.out.1.c1
  go_wp2_with fail
  refine (same_val H13.out.2.1.row H13.out.1.row _ _ _ _ rfl rfl _ _ v2 HV2.out).mono ?_
  rintro e w14 ⟨rfl, b14⟩
  have B14 : Hid (Below w.heap.size w w14) := bel_tr H13.out.2.2 b14
  clear x0 x1 y0 y1 b14 H13 HV1 HV2
  rcases HV.out with ⟨rfl, rfl, rfl⟩ | ⟨rfl, rfl, rfl⟩ | ⟨rfl, rfl, rfl⟩
  all_goals
    go_wp2
    go_ret
    exact ⟨rfl, B14.out⟩

theorem walk (a0 : Option Addr) (b0 off0 cap0 : Nat) (ss0 : List ByteArray) (a1 : ByteArray) (a2 : Int) (a3 : Option Addr) (b3 off3 cap3 : Nat) (ss3 : List Int) (w : World) (w0 : Strs w a0 b0 off0 ss0) (w1 : a1.size ≤ maxLen) (w2 : (Lit.int .i64 a2).wf = true) (w3 : Ints w .i64 a3 b3 off3 ss3 ∧ ss3.length ≤ maxLen ∧ ∀ n ∈ ss3, (Lit.int .i64 n).wf = true) :
    Calls Try.prog 7 #[.slice a0 ss0.length cap0, .string a1, .int .i64 a2, .slice a3 ss3.length cap3] w fun e w' => e = .returned (.bool true) ∧ Below w.heap.size w w' :=
  core a0 b0 off0 cap0 _ ss0 a1 a2 a3 b3 off3 cap3 _ ss3 w rfl rfl w0 w1 (bounds_i64 w2) w3.2.1 w3.1 (fun k hk => bounds_i64 (w3.2.2 k hk))

set_option maxRecDepth 100000 in
theorem lifted (os : Os) (started : os.Started) (H : Type) (enc : TypeId × Value → H) :
    ReturnsInHanded {} Try.checked os 7 .any (Rows.logAddedSpec.pre6 enc Try.prog Try.f7 Rows.logAddedRow.domain false) (Rows.logAddedSpec.post enc Try.prog Try.f7 false true false false) := by
  refine returnsInHanded_of_change (C := Try.checked) own started (by kernel_rfl) Try.func7
    (ChangeSpec.witness6 (enc := enc) (C := Try.checked) false ⟨#[], #[.slice none 0 0, .string ByteArray.empty, .int .i64 0, .slice none 0 0], []⟩ 8 (by kernel_rfl) (by kernel_rfl) (by kernel_rfl) (by kernel_rfl)) ?_
  intro W base args ds gs before hval0 hW hcnd _
  have hval : ∀ (j : Nat) t v, Try.f7.params[j]? = some t → args[j]? = some v → Value.okWide Try.prog W .any base t v := hval0
  have hW' := hW
  obtain ⟨p, q, hA0, hV, rfl, hfz, hnd⟩ := hW
  have hA : DataW.TrodAll enc Try.prog W 0 (fun _ => true) true Try.f7.params.toList args.toList ds p := hA0
  rw [Try.params7] at hA hval
  obtain ⟨v0, vs0, d0, ds0, p0, q0, hargs, rfl, rfl, h0, r0⟩ := trodAll_cons hA
  obtain ⟨v1, vs1, d1, ds1, p1, q1, rfl, rfl, rfl, h1, r1⟩ := trodAll_cons r0
  obtain ⟨v2, vs2, d2, ds2, p2, q2, rfl, rfl, rfl, h2, r2⟩ := trodAll_cons r1
  obtain ⟨v3, vs3, d3, ds3, p3, q3, rfl, rfl, rfl, h3, r3⟩ := trodAll_cons r2
  obtain ⟨rfl, rfl, rfl⟩ := trodAll_nil r3
  obtain rfl : args = #[v0, v1, v2, v3] := by cases args; simp_all
  obtain ⟨rfl, rfl⟩ := trodVars_none hV
  obtain ⟨a0, len0, cap0, rfl⟩ := okWide_slice Try.underlying44 (hval 0 44 v0 rfl rfl)
  have k0 := h0
  have lt0 : ∀ x ∈ p0, x.block < W.heap.size := by obtain ⟨m, hm⟩ := k0; exact DataW.trod_lt m _ _ _ hm
  obtain ⟨b0, off0, ss0, rfl, w0⟩ := open_strs Try.underlying44 Try.underlying9 (by kernel_rfl) h0
  obtain ⟨a1, rfl, rfl, rfl, w1⟩ := open_string Try.underlying9 (hval 1 9 v1 rfl rfl) h1
  obtain ⟨a2, rfl, rfl, rfl, w2⟩ := open_int Try.underlying3 (hval 2 3 v2 rfl rfl) h2
  obtain ⟨a3, len3, cap3, rfl⟩ := okWide_slice Try.underlying45 (hval 3 45 v3 rfl rfl)
  have k3 := h3
  have lt3 : ∀ x ∈ p3, x.block < W.heap.size := by obtain ⟨m, hm⟩ := k3; exact DataW.trod_lt m _ _ _ hm
  obtain ⟨b3, off3, ss3, rfl, w3⟩ := open_nums Try.underlying45 Try.underlying3 (by kernel_rfl) h3
  clear hA0 hval0
  refine (walk a0 b0 off0 cap0 ss0 a1 a2 a3 b3 off3 cap3 ss3 W w0 w1 w2 w3).mono fun e W' ⟨he, bel⟩ => ?_
  subst he
  exact ⟨_, rfl, _, _, _, [], _, [], hW', trodAll_mk1 (shut_bool Try.underlying4 _), (trodAll_cons_mk (Below.trod laidOut (by kernel_rfl) (of_decide_eq_true (by kernel_rfl)) k0 bel lt0) (trodAll_cons_mk (shut_string Try.underlying9 w1) (trodAll_cons_mk (shut_int Try.underlying3 w2) (trodAll_cons_mk (Below.trod laidOut (by kernel_rfl) (of_decide_eq_true (by kernel_rfl)) k3 bel lt3) trodAll_mk0)))), rfl, bel.frame _, fun h => by cases h⟩

theorem over : Rows.logAddedRow.holds Try.pinned (OpenSpec.ofChange Rows.logAddedSpec) :=
  OpenClaim.holds_of_wide 7 Try.f7 rfl rfl rfl rfl rfl rfl rfl ⟨rfl, rfl, rfl, rfl, rfl⟩ rfl rfl rfl rfl rfl (by kernel_rfl) Try.func7 (by kernel_rfl)
    (of_decide_eq_true (by kernel_rfl)) (by unfold Func.isWrapper; first | (rw [if_pos (by decide +kernel)]; kernel_rfl) | (rw [if_neg (by decide +kernel)]; exact ⟨rfl, rfl⟩))
    (fun os started H enc _ => lifted os started H enc)
end Go.Proofs.Ytokldcifhjkmnaa.logAdded

namespace Go.Proofs.Ytokldcifhjkmnaa
/-- The statement. -/
theorem logAdded_holds : Rows.LogAddedSaid := logAdded.over
#print axioms logAdded_holds
end Go.Proofs.Ytokldcifhjkmnaa
