/- LogStored: for every two lists of texts, every number and every list of numbers: the statement's function returns true; nothing that was there is changed. No condition. -/
import Derived.Test.YtokldcifhjkmnaaLogT
import Derived.Test.YtokldcifhjkmnaaOpenAll
import Derived.Deep.Cut
namespace Go.Proofs.Ytokldcifhjkmnaa.logStored
open Go.ChangeShapes Go.WideShapes Go.ChangeAt Go.RowKit Go.Proofs.Ytokldcifhjkmnaa Go.Proofs.Ytokldcifhjkmnaa.Lgg
set_option linter.unusedVariables false

theorem own : ownKnob Try.prog.godebug = none := by kernel_rfl

set_option maxRecDepth 100000 in
set_option maxHeartbeats 8000000 in
theorem core (da : Option Addr) (db doff dc m : Nat) (ss : List ByteArray) (ea : Option Addr) (eb eoff ec p : Nat) (ts : List ByteArray) (n : Int) (ka : Option Addr) (kb koff kc z : Nat) (ks : List Int) (w : World) (hm : ss.length = m) (hp : ts.length = p) (hz : ks.length = z) (h0 : Strs w da db doff ss) (h1 : Strs w ea eb eoff ts) (hn : -9223372036854775808 ≤ n ∧ n ≤ 9223372036854775807) (hzm : z ≤ maxLen) (h3 : Ints w .i64 ka kb koff ks) (hks : ∀ k ∈ ks, -9223372036854775808 ≤ k ∧ k ≤ 9223372036854775807) :
    Calls Try.prog 6 #[.slice da m dc, .slice ea p ec, .int .i64 n, .slice ka z kc] w fun e w' => e = .returned (.bool true) ∧ Below w.heap.size w w' := by
  obtain ⟨N, hN⟩ : ∃ N, keepN n % 6 = N := ⟨_, rfl⟩
  have hN6 : N < 6 := by rw [← hN]; exact Nat.mod_lt _ (by omega)
  have HPK : Hid (∀ W, Calls Try.prog 25 #[.int .i64 n, .int .i64 6] W fun e w' => e = .returned (.int .i64 (N : Int)) ∧ w' = W) := fun W => pick_val n 6 N W hn (by omega) hN
  obtain ⟨LA, hLA⟩ : ∃ l, ofL 1 ss = l := ⟨_, rfl⟩
  obtain ⟨LB, hLB⟩ : ∃ l, ofL 2 ts = l := ⟨_, rfl⟩
  have hRA : RtL LA := by rw [← hLA]; exact ofL_right 1 (by omega) ss
  have hRB : RtL LB := by rw [← hLB]; exact ofL_right 2 (by omega) ts
  have hsA : (encL LA).size ≤ 20000 := by rw [← hLA]; exact enc_small 1 (by omega) ss
  have hsB : (encL LB).size ≤ 20000 := by rw [← hLB]; exact enc_small 2 (by omega) ts
  have hne : LA ≠ LB := fun e => by
    have : LA.ep = LB.ep := by rw [e]
    rw [← hLA, ← hLB] at this
    simp [ofL] at this
  have HOA : Hid (∀ W, Below w.heap.size w W → Calls Try.prog 20 #[.int .i64 1, .slice da m dc] W fun e w' => OfR W.heap.size LA e w' ∧ Below W.heap.size W w') := fun W hb => by rw [← hLA]; exact of_val 1 1 (by omega) rfl (h0.below hb) m dc hm
  have HOB : Hid (∀ W, Below w.heap.size w W → Calls Try.prog 20 #[.int .i64 2, .slice ea p ec] W fun e w' => OfR W.heap.size LB e w' ∧ Below W.heap.size W w') := fun W hb => by rw [← hLB]; exact of_val 2 2 (by omega) rfl (h1.below hb) p ec hp
  have hl0 : (encL LA).data.toList.length = (encL LA).size := Wir.size_list _
  have HS1 := sto_new (s := jN) (b := encL LA) (room := 400000) j_ok (by omega) (by omega)
  rw [← hl0] at HS1
  obtain ⟨e2, ds2, HS2, hroom, hout⟩ := stored_out (encL LA) (encL LB) hsA hsB (enc_ne LA) (enc_ne LB) N hN6
  have CS1 : Hid (∀ K W pd a c, Dk w K W pd ⟨400000, 0, false, []⟩ → Lie enC K W a LA.es → Calls Try.prog 21 #[.pointer (some ⟨pd, 0, none⟩), .string ⟨#[106]⟩, .agg #[.int .i64 LA.ep, .slice a LA.es.length c]] W fun e w' => e = .returned (.int .i64 0) ∧ Dk w K w' pd ⟨400000, 0, false, [(jN.data.toList, (encL LA).data.toList, (encL LA).data.toList.length)]⟩ ∧ Stay (fun k => ¬ K k) W w') := fun K W pd a c h hl => store_val h jN j_ok hl LA.ep LA.es.length c rfl hRA 0 HS1
  have CS2 : Hid (∀ K W pd a c, Dk w K W pd ⟨400000, 1 + (N : Int), false, [(jN.data.toList, (encL LA).data.toList, (encL LA).data.toList.length)]⟩ → Lie enC K W a LB.es → Calls Try.prog 21 #[.pointer (some ⟨pd, 0, none⟩), .string ⟨#[106]⟩, .agg #[.int .i64 LB.ep, .slice a LB.es.length c]] W fun e w' => e = .returned (.int .i64 e2) ∧ Dk w K w' pd ds2 ∧ Stay (fun k => ¬ K k) W w') := fun K W pd a c h hl => store_val h jN j_ok hl LB.ep LB.es.length c rfl hRB e2 HS2
  have CF : Hid (∀ K W pd, Dk w K W pd ⟨400000, 0, false, [(jN.data.toList, (encL LA).data.toList, (encL LA).data.toList.length)]⟩ → Calls Try.prog 24 #[.pointer (some ⟨pd, 0, none⟩), .int .i64 (1 + (N : Int))] W fun e w' => e = .returned (.tuple #[]) ∧ Dk w K w' pd ⟨400000, 1 + (N : Int), false, [(jN.data.toList, (encL LA).data.toList, (encL LA).data.toList.length)]⟩ ∧ Stay (fun k => ¬ K k) W w') := fun K W pd h => dk_fuse h (1 + (N : Int)) (1 + (N : Int)) (by omega) (by omega)
  have CC : Hid (∀ K W pd, Dk w K W pd ds2 → Calls Try.prog 23 #[.pointer (some ⟨pd, 0, none⟩), .slice ka z kc] W fun e w' => e = .returned (.tuple #[]) ∧ Dk w K w' pd ⟨400000, 0, false, crashL ks ds2.S⟩ ∧ Stay (fun k => ¬ K k) W w') := fun K W pd h => by
    have h9 := dk_crash h ka kb koff kc z ks hz hzm h3 hks
    rw [hroom] at h9
    exact h9
  have CL : Hid (∀ Z, RtL Z → (encL Z).size ≤ 20000 → (∃ r', crashL ks ds2.S = (jN.data.toList, (encL Z).data.toList, (encL Z).data.toList.length) :: r') → ∀ K W pd, Dk w K W pd ⟨400000, 0, false, crashL ks ds2.S⟩ → Calls Try.prog 17 #[.pointer (some ⟨pd, 0, none⟩), .string ⟨#[106]⟩] W fun e w' => LoadR W.heap.size Z true e w' ∧ Below W.heap.size W w') := fun Z hZ hs ⟨r', hr'⟩ K W pd h => by
    rw [hr'] at h
    obtain ⟨r1, r2⟩ := rd_head (room := 400000) (f := 0) (n := jN.data.toList) (A := (encL Z).data.toList) (a := (encL Z).data.toList.length) (r := r')
    rw [mk_list] at r2
    exact load_yes h jN j_small (encL Z) (by unfold maxLen; omega) r2 r1 Z ⟨#[]⟩ (parse_whole hZ) true rfl
  have HIX : Hid ((e2 = 12 ∧ ∃ r', crashL ks ds2.S = (jN.data.toList, (encL LA).data.toList, (encL LA).data.toList.length) :: r') ∨ (e2 = 0 ∧ ∃ r', crashL ks ds2.S = (jN.data.toList, (encL LB).data.toList, (encL LB).data.toList.length) :: r')) := hout.elim (fun h => .inl ⟨h.1, h.2 ks⟩) (fun h => .inr ⟨h.1, h.2 ks⟩)
  have HRA : Hid (RtL LA ∧ RtL LB ∧ (encL LA).size ≤ 20000 ∧ (encL LB).size ≤ 20000 ∧ LA ≠ LB) := ⟨hRA, hRB, hsA, hsB, hne⟩
  clear hN hm hp hz h0 h1 hn hzm h3 hks hLA hLB hRA hRB hsA hsB hne hl0 HS1 HS2 hroom hout
  generalize (⟨400000, 0, false, crashL ks ds2.S⟩ : DS) = D4 at CC CL
  generalize (⟨400000, 0, false, [(jN.data.toList, (encL LA).data.toList, (encL LA).data.toList.length)]⟩ : DS) = D1 at CS1 CF
  generalize (⟨400000, 1 + (N : Int), false, [(jN.data.toList, (encL LA).data.toList, (encL LA).data.toList.length)]⟩ : DS) = D2 at CF CS2
  have hst2 : ∀ (w : World) (a : Addr) (x : Option Addr) (n c : Nat) (m : Mode), (store a (.slice x n c) m).run Try.prog w = stored Try.prog w a (.slice x n c) m := fun w a x n c m => run_store (P := Try.prog) w a _ m rfl
  go_enter Try.func6, Try.ntmps6
  go_wp2_with fail
  refine (examples14_val w).mono ?_
  rintro e w1 ⟨rfl, b1⟩
  have B1 : Hid (Below w.heap.size w w1) := b1
  clear b1
  go_wp2_with fail
  refine (dk_new (w0 := w) B1.out 400000 400000 (by omega) (by omega)).mono ?_
  rintro e w2 ⟨pd, rfl, h2, b2⟩
  have H2 : Hid (Dk w (fun _ => False) w2 pd ⟨400000, 0, false, []⟩) := h2.less (fun _ e => e.elim)
  clear h2 b2 B1
  go_wp2_with fail
  refine (HOA.out _ H2.out.bel).mono ?_
  rintro e w3 ⟨⟨a, c, g, rfl, hC⟩, b3⟩
  have A3 : Hid (Bl (fun k => w2.heap.size ≤ k ∧ k < w3.heap.size + 1) (w3.alloc (.cells #[.int .i64 LA.ep, .slice a LA.es.length c] 24)) w3.heap.size LA a c) := Bl.of hC _ b3.size
  have B3 : Hid (Below w2.heap.size w2 (w3.alloc (.cells #[.int .i64 LA.ep, .slice a LA.es.length c] 24))) := bel_tr b3 (bel_al _ _)
  have hz3 : (w3.alloc (.cells #[.int .i64 LA.ep, .slice a LA.es.length c] 24)).heap.size = w3.heap.size + 1 := by simp
  have HZ3 : Hid ((w3.alloc (.cells #[.int .i64 LA.ep, .slice a LA.es.length c] 24)).heap.size = w3.heap.size + 1 ∧ w2.heap.size ≤ w3.heap.size) := ⟨hz3, b3.size⟩
  clear hC b3 hz3
  go_wp2_with fail
  generalize w3.alloc (.cells #[.int .i64 LA.ep, .slice a LA.es.length c] 24) = W3 at *
  generalize w3.heap.size = AB at *
  refine (HOB.out _ (bel_tr H2.out.bel B3.out)).mono ?_
  rintro e w4 ⟨⟨a', c', g', rfl, hC⟩, b4⟩
  have HT : Hid (Bl (fun k => w2.heap.size ≤ k ∧ k < w4.heap.size + 1) (w4.alloc (.cells #[.int .i64 LB.ep, .slice a' LB.es.length c'] 24)) AB LA a c ∧ Bl (fun k => w2.heap.size ≤ k ∧ k < w4.heap.size + 1) (w4.alloc (.cells #[.int .i64 LB.ep, .slice a' LB.es.length c'] 24)) w4.heap.size LB a' c' ∧ Dk w (fun k => w2.heap.size ≤ k ∧ k < w4.heap.size + 1) (w4.alloc (.cells #[.int .i64 LB.ep, .slice a' LB.es.length c'] 24)) pd ⟨400000, 0, false, []⟩) := by
    have hal := bel_tr b4 (bel_al w4 (.cells #[.int .i64 LB.ep, .slice a' LB.es.length c'] 24))
    have hs := b4.size
    have hz := HZ3.out
    have hzz : (w4.alloc (.cells #[.int .i64 LB.ep, .slice a' LB.es.length c'] 24)).heap.size = w4.heap.size + 1 := by simp
    refine ⟨(A3.out.below hal).mono (fun k hk hl => ⟨hk.1, by omega⟩), (Bl.of hC _ hs).mono (fun k hk hl => ⟨by omega, hk.2⟩), H2.out.add (bel_tr B3.out hal) (fun k hk => .inr ⟨hk.1, by omega⟩)⟩
  clear hC b4 A3 B3 HZ3 H2 HOA HOB
  go_upto_region 7 with fail
  generalize w4.alloc (.cells #[.int .i64 LB.ep, .slice a' LB.es.length c'] 24) = W4 at *
  generalize w4.heap.size = BB at *
  have x0 := HT.out.1.c0
  have x1 := HT.out.1.c1
  go_wp2_with fail
  refine (CS1.out _ _ _ _ _ HT.out.2.2 HT.out.1.row).mono ?_
  rintro e w5 ⟨rfl, h5, s5⟩
  have H5 : Hid (Bl (fun k => w2.heap.size ≤ k ∧ k < BB + 1) w5 AB LA a c ∧ Bl (fun k => w2.heap.size ≤ k ∧ k < BB + 1) w5 BB LB a' c' ∧ Dk w (fun k => w2.heap.size ≤ k ∧ k < BB + 1) w5 pd D1) := ⟨HT.out.1.kept s5, HT.out.2.1.kept s5, h5⟩
  clear x0 x1 HT h5 s5 CS1
  go_wp2_with (first
    | (go_at_call 25; refine (HPK.out _).mono ?_; rintro e wp ⟨rfl, rfl⟩)
    | fail)
  refine (CF.out _ _ _ H5.out.2.2).mono ?_
  rintro e w6 ⟨rfl, h6, s6⟩
  have H6 : Hid (Bl (fun k => w2.heap.size ≤ k ∧ k < BB + 1) w6 AB LA a c ∧ Bl (fun k => w2.heap.size ≤ k ∧ k < BB + 1) w6 BB LB a' c' ∧ Dk w (fun k => w2.heap.size ≤ k ∧ k < BB + 1) w6 pd D2) := ⟨H5.out.1.kept s6, H5.out.2.1.kept s6, h6⟩
  clear H5 h6 s6 CF HPK
  have x0 := H6.out.2.1.c0
  have x1 := H6.out.2.1.c1
  go_wp2_with fail
  refine (CS2.out _ _ _ _ _ H6.out.2.2 H6.out.2.1.row).mono ?_
  rintro e w7 ⟨rfl, h7, s7⟩
  have H7 : Hid (Bl (fun k => w2.heap.size ≤ k ∧ k < BB + 1) w7 AB LA a c ∧ Bl (fun k => w2.heap.size ≤ k ∧ k < BB + 1) w7 BB LB a' c' ∧ Dk w (fun k => w2.heap.size ≤ k ∧ k < BB + 1) w7 pd ds2) := ⟨H6.out.1.kept s7, H6.out.2.1.kept s7, h7⟩
  clear x0 x1 H6 h7 s7 CS2
  go_wp2_with fail
  refine (CC.out _ _ _ H7.out.2.2).mono ?_
  rintro e w8 ⟨rfl, h8, s8⟩
  have H8 : Hid (Bl (fun k => w2.heap.size ≤ k ∧ k < BB + 1) w8 AB LA a c ∧ Bl (fun k => w2.heap.size ≤ k ∧ k < BB + 1) w8 BB LB a' c' ∧ Dk w (fun k => w2.heap.size ≤ k ∧ k < BB + 1) w8 pd D4) := ⟨H7.out.1.kept s8, H7.out.2.1.kept s8, h8⟩
  clear H7 h8 s8 CC
  obtain ⟨hRA, hRB, hsA, hsB, hne⟩ := HRA.out
  rcases HIX.out with ⟨rfl, hix⟩ | ⟨rfl, hix⟩
  · have CL2 : Hid (Calls Try.prog 17 #[.pointer (some ⟨pd, 0, none⟩), .string ⟨#[106]⟩] w8 fun e w' => LoadR w8.heap.size LA true e w' ∧ Below w8.heap.size w8 w') := CL.out LA hRA hsA hix _ _ _ H8.out.2.2
    have HNE : Hid (LA ≠ LB) := hne
    clear CL hRA hRB hsA hsB hne hix HRA HIX
    go_wp2_with fail
    refine CL2.out.mono ?_
    rintro e w9 ⟨⟨a9, c9, g9, rfl, hC9⟩, b9⟩
    have L9 : Hid (Bl (fun k => w8.heap.size ≤ k ∧ k < w9.heap.size + 1) (w9.alloc (.cells #[.int .i64 LA.ep, .slice a9 LA.es.length c9] 24)) w9.heap.size LA a9 c9) := Bl.of hC9 _ b9.size
    have b10 := bel_tr b9 (bel_al w9 (.cells #[.int .i64 LA.ep, .slice a9 LA.es.length c9] 24))
    have H9 : Hid (Bl (fun k => w2.heap.size ≤ k ∧ k < BB + 1) (w9.alloc (.cells #[.int .i64 LA.ep, .slice a9 LA.es.length c9] 24)) AB LA a c ∧ Bl (fun k => w2.heap.size ≤ k ∧ k < BB + 1) (w9.alloc (.cells #[.int .i64 LA.ep, .slice a9 LA.es.length c9] 24)) BB LB a' c' ∧ Below w.heap.size w (w9.alloc (.cells #[.int .i64 LA.ep, .slice a9 LA.es.length c9] 24))) := ⟨H8.out.1.below b10, H8.out.2.1.below b10, bel_tr H8.out.2.2.bel b10⟩
    clear hC9 b9 b10 H8 CL2
    go_upto_region 13 with fail
    generalize w9.alloc (.cells #[.int .i64 LA.ep, .slice a9 LA.es.length c9] 24) = W9 at *
    generalize w9.heap.size = MB at *
    have x0 := L9.out.c0
    have x1 := L9.out.c1
    have y0 := H9.out.1.c0
    have y1 := H9.out.1.c1
    go_wp2_with fail
    refine (same_val L9.out.row H9.out.1.row _ _ _ _ rfl rfl _ _ true ⟨fun _ => rfl, fun _ => rfl⟩).mono ?_
    rintro e w10 ⟨rfl, b10⟩
    have H10 : Hid (Bl (fun k => w2.heap.size ≤ k ∧ k < BB + 1) w10 BB LB a' c' ∧ Bl (fun k => w8.heap.size ≤ k ∧ k < MB + 1) w10 MB LA a9 c9 ∧ Below w.heap.size w w10) := ⟨H9.out.2.1.below b10, L9.out.below b10, bel_tr H9.out.2.2 b10⟩
    clear x0 x1 y0 y1 b10 H9 L9
    have x0 := H10.out.2.1.c0
    have x1 := H10.out.2.1.c1
    have y0 := H10.out.1.c0
    have y1 := H10.out.1.c1
    go_wp2_with fail
    refine (same_val H10.out.2.1.row H10.out.1.row _ _ _ _ rfl rfl _ _ false ⟨(fun e => by cases e), fun e => absurd e HNE.out⟩).mono ?_
    rintro e w11 ⟨rfl, b11⟩
    have B11 : Hid (Below w.heap.size w w11) := bel_tr H10.out.2.2 b11
    clear x0 x1 y0 y1 b11 H10 HNE
    go_wp2
    go_ret
    exact ⟨rfl, B11.out⟩
  · have CL2 : Hid (Calls Try.prog 17 #[.pointer (some ⟨pd, 0, none⟩), .string ⟨#[106]⟩] w8 fun e w' => LoadR w8.heap.size LB true e w' ∧ Below w8.heap.size w8 w') := CL.out LB hRB hsB hix _ _ _ H8.out.2.2
    have HNE : Hid (LA ≠ LB) := hne
    clear CL hRA hRB hsA hsB hne hix HRA HIX
    go_wp2_with fail
    refine CL2.out.mono ?_
    rintro e w9 ⟨⟨a9, c9, g9, rfl, hC9⟩, b9⟩
    have L9 : Hid (Bl (fun k => w8.heap.size ≤ k ∧ k < w9.heap.size + 1) (w9.alloc (.cells #[.int .i64 LB.ep, .slice a9 LB.es.length c9] 24)) w9.heap.size LB a9 c9) := Bl.of hC9 _ b9.size
    have b10 := bel_tr b9 (bel_al w9 (.cells #[.int .i64 LB.ep, .slice a9 LB.es.length c9] 24))
    have H9 : Hid (Bl (fun k => w2.heap.size ≤ k ∧ k < BB + 1) (w9.alloc (.cells #[.int .i64 LB.ep, .slice a9 LB.es.length c9] 24)) AB LA a c ∧ Bl (fun k => w2.heap.size ≤ k ∧ k < BB + 1) (w9.alloc (.cells #[.int .i64 LB.ep, .slice a9 LB.es.length c9] 24)) BB LB a' c' ∧ Below w.heap.size w (w9.alloc (.cells #[.int .i64 LB.ep, .slice a9 LB.es.length c9] 24))) := ⟨H8.out.1.below b10, H8.out.2.1.below b10, bel_tr H8.out.2.2.bel b10⟩
    clear hC9 b9 b10 H8 CL2
    go_upto_region 13 with fail
    generalize w9.alloc (.cells #[.int .i64 LB.ep, .slice a9 LB.es.length c9] 24) = W9 at *
    generalize w9.heap.size = MB at *
    have x0 := L9.out.c0
    have x1 := L9.out.c1
    have y0 := H9.out.1.c0
    have y1 := H9.out.1.c1
    go_wp2_with fail
    refine (same_val L9.out.row H9.out.1.row _ _ _ _ rfl rfl _ _ false ⟨(fun e => by cases e), fun e => absurd e.symm HNE.out⟩).mono ?_
    rintro e w10 ⟨rfl, b10⟩
    have H10 : Hid (Bl (fun k => w2.heap.size ≤ k ∧ k < BB + 1) w10 BB LB a' c' ∧ Bl (fun k => w8.heap.size ≤ k ∧ k < MB + 1) w10 MB LB a9 c9 ∧ Below w.heap.size w w10) := ⟨H9.out.2.1.below b10, L9.out.below b10, bel_tr H9.out.2.2 b10⟩
    clear x0 x1 y0 y1 b10 H9 L9
    have x0 := H10.out.2.1.c0
    have x1 := H10.out.2.1.c1
    have y0 := H10.out.1.c0
    have y1 := H10.out.1.c1
    go_wp2_with fail
    refine (same_val H10.out.2.1.row H10.out.1.row _ _ _ _ rfl rfl _ _ true ⟨fun _ => rfl, fun _ => rfl⟩).mono ?_
    rintro e w11 ⟨rfl, b11⟩
    have B11 : Hid (Below w.heap.size w w11) := bel_tr H10.out.2.2 b11
    clear x0 x1 y0 y1 b11 H10 HNE
    go_wp2
    go_ret
    exact ⟨rfl, B11.out⟩

theorem walk (a0 : Option Addr) (b0 off0 cap0 : Nat) (ss0 : List ByteArray) (a1 : Option Addr) (b1 off1 cap1 : Nat) (ss1 : List ByteArray) (a2 : Int) (a3 : Option Addr) (b3 off3 cap3 : Nat) (ss3 : List Int) (w : World) (w0 : Strs w a0 b0 off0 ss0) (w1 : Strs w a1 b1 off1 ss1) (w2 : (Lit.int .i64 a2).wf = true) (w3 : Ints w .i64 a3 b3 off3 ss3 ∧ ss3.length ≤ maxLen ∧ ∀ n ∈ ss3, (Lit.int .i64 n).wf = true) :
    Calls Try.prog 6 #[.slice a0 ss0.length cap0, .slice a1 ss1.length cap1, .int .i64 a2, .slice a3 ss3.length cap3] w fun e w' => e = .returned (.bool true) ∧ Below w.heap.size w w' :=
  core a0 b0 off0 cap0 _ ss0 a1 b1 off1 cap1 _ ss1 a2 a3 b3 off3 cap3 _ ss3 w rfl rfl rfl w0 w1 (bounds_i64 w2) w3.2.1 w3.1 (fun k hk => bounds_i64 (w3.2.2 k hk))

set_option maxRecDepth 100000 in
theorem lifted (os : Os) (started : os.Started) (H : Type) (enc : TypeId × Value → H) :
    ReturnsInHanded {} Try.checked os 6 .any (Rows.logStoredSpec.pre6 enc Try.prog Try.f6 Rows.logStoredRow.domain false) (Rows.logStoredSpec.post enc Try.prog Try.f6 false true false false) := by
  refine returnsInHanded_of_change (C := Try.checked) own started (by kernel_rfl) Try.func6
    (ChangeSpec.witness6 (enc := enc) (C := Try.checked) false ⟨#[], #[.slice none 0 0, .slice none 0 0, .int .i64 0, .slice none 0 0], []⟩ 8 (by kernel_rfl) (by kernel_rfl) (by kernel_rfl) (by kernel_rfl)) ?_
  intro W base args ds gs before hval0 hW hcnd _
  have hval : ∀ (j : Nat) t v, Try.f6.params[j]? = some t → args[j]? = some v → Value.okWide Try.prog W .any base t v := hval0
  have hW' := hW
  obtain ⟨p, q, hA0, hV, rfl, hfz, hnd⟩ := hW
  have hA : DataW.TrodAll enc Try.prog W 0 (fun _ => true) true Try.f6.params.toList args.toList ds p := hA0
  rw [Try.params6] at hA hval
  obtain ⟨v0, vs0, d0, ds0, p0, q0, hargs, rfl, rfl, h0, r0⟩ := trodAll_cons hA
  obtain ⟨v1, vs1, d1, ds1, p1, q1, rfl, rfl, rfl, h1, r1⟩ := trodAll_cons r0
  obtain ⟨v2, vs2, d2, ds2, p2, q2, rfl, rfl, rfl, h2, r2⟩ := trodAll_cons r1
  obtain ⟨v3, vs3, d3, ds3, p3, q3, rfl, rfl, rfl, h3, r3⟩ := trodAll_cons r2
  obtain ⟨rfl, rfl, rfl⟩ := trodAll_nil r3
  obtain rfl : args = #[v0, v1, v2, v3] := by cases args; simp_all
  obtain ⟨rfl, rfl⟩ := trodVars_none hV
  obtain ⟨a0, len0, cap0, rfl⟩ := okWide_slice Try.underlying44 (hval 0 44 v0 rfl rfl)
  have k0 := h0
  have lt0 : ∀ x ∈ p0, x.block < W.heap.size := by obtain ⟨m, hm⟩ := k0; exact DataW.trod_lt m _ _ _ hm
  obtain ⟨b0, off0, ss0, rfl, w0⟩ := open_strs Try.underlying44 Try.underlying9 (by kernel_rfl) h0
  obtain ⟨a1, len1, cap1, rfl⟩ := okWide_slice Try.underlying44 (hval 1 44 v1 rfl rfl)
  have k1 := h1
  have lt1 : ∀ x ∈ p1, x.block < W.heap.size := by obtain ⟨m, hm⟩ := k1; exact DataW.trod_lt m _ _ _ hm
  obtain ⟨b1, off1, ss1, rfl, w1⟩ := open_strs Try.underlying44 Try.underlying9 (by kernel_rfl) h1
  obtain ⟨a2, rfl, rfl, rfl, w2⟩ := open_int Try.underlying3 (hval 2 3 v2 rfl rfl) h2
  obtain ⟨a3, len3, cap3, rfl⟩ := okWide_slice Try.underlying45 (hval 3 45 v3 rfl rfl)
  have k3 := h3
  have lt3 : ∀ x ∈ p3, x.block < W.heap.size := by obtain ⟨m, hm⟩ := k3; exact DataW.trod_lt m _ _ _ hm
  obtain ⟨b3, off3, ss3, rfl, w3⟩ := open_nums Try.underlying45 Try.underlying3 (by kernel_rfl) h3
  clear hA0 hval0
  refine (walk a0 b0 off0 cap0 ss0 a1 b1 off1 cap1 ss1 a2 a3 b3 off3 cap3 ss3 W w0 w1 w2 w3).mono fun e W' ⟨he, bel⟩ => ?_
  subst he
  exact ⟨_, rfl, _, _, _, [], _, [], hW', trodAll_mk1 (shut_bool Try.underlying4 _), (trodAll_cons_mk (Below.trod laidOut (by kernel_rfl) (of_decide_eq_true (by kernel_rfl)) k0 bel lt0) (trodAll_cons_mk (Below.trod laidOut (by kernel_rfl) (of_decide_eq_true (by kernel_rfl)) k1 bel lt1) (trodAll_cons_mk (shut_int Try.underlying3 w2) (trodAll_cons_mk (Below.trod laidOut (by kernel_rfl) (of_decide_eq_true (by kernel_rfl)) k3 bel lt3) trodAll_mk0)))), rfl, bel.frame _, fun h => by cases h⟩

theorem over : Rows.logStoredRow.holds Try.pinned (OpenSpec.ofChange Rows.logStoredSpec) :=
  OpenClaim.holds_of_wide 6 Try.f6 rfl rfl rfl rfl rfl rfl rfl ⟨rfl, rfl, rfl, rfl, rfl⟩ rfl rfl rfl rfl rfl (by kernel_rfl) Try.func6 (by kernel_rfl)
    (of_decide_eq_true (by kernel_rfl)) (by unfold Func.isWrapper; first | (rw [if_pos (by decide +kernel)]; kernel_rfl) | (rw [if_neg (by decide +kernel)]; exact ⟨rfl, rfl⟩))
    (fun os started H enc _ => lifted os started H enc)
end Go.Proofs.Ytokldcifhjkmnaa.logStored

namespace Go.Proofs.Ytokldcifhjkmnaa
/-- The statement. -/
theorem logStored_holds : Rows.LogStoredSaid := logStored.over
#print axioms logStored_holds
end Go.Proofs.Ytokldcifhjkmnaa
