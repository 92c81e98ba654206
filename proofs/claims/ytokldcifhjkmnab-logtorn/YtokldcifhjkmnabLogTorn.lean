/- LogTorn: for every number, every list of texts, every text and every number: the statement's function returns true; nothing that was there is changed. No condition. -/
import Derived.Test.YtokldcifhjkmnabLogU
import Derived.Test.YtokldcifhjkmnabOpenAll
import Derived.Deep.Cut
import Derived.Deep.RegionHeld3
namespace Go.Proofs.Ytokldcifhjkmnab.logTorn
open Go.ChangeShapes Go.WideShapes Go.ChangeAt Go.RowKit Go.Proofs.Ytokldcifhjkmnab Go.Proofs.Ytokldcifhjkmnab.Lgg
open Go.ChangeMaps (open_string shut_string)
set_option linter.unusedVariables false

theorem own : ownKnob Try.prog.godebug = none := by kernel_rfl
theorem swap {w0 w : World} {p1 p2 : Nat} {d1 d2 : DS} (h : Two w0 w p1 d1 p2 d2) : Two w0 w p2 d2 p1 d1 := by
  obtain ⟨O1, O2, h1, h2, h3, h4, h5, h6⟩ := h
  exact ⟨O2, O1, h2, h1, fun k a b => h3 k b a, h5, h4, h6⟩
theorem to_dk {w0 w : World} {p1 p2 : Nat} {d1 d2 : DS} (h : Two w0 w p1 d1 p2 d2) : Dk w0 (fun _ => False) w p1 d1 := by
  obtain ⟨O1, O2, h1, h2, h3, h4, h5, h6⟩ := h
  exact ⟨O1, h1, fun k hk => ⟨h4 k hk, id⟩, h6, fun k e => e.elim⟩
theorem two_below {w0 w w' : World} {p1 p2 : Nat} {d1 d2 : DS} (h : Two w0 w p1 d1 p2 d2) (hb : Below w.heap.size w w') : Two w0 w' p1 d1 p2 d2 := by
  obtain ⟨O1, O2, h1, h2, h3, h4, h5, h6⟩ := h
  exact ⟨O1, O2, h1.below hb, h2.below hb, h3, h4, h5, bel_tr h6 hb⟩
theorem Lie.take {O : Nat → Prop} {w : World} {a : Option Addr} {xs : List En} (h : Lie enC O w a xs) (k : Nat) : Lie enC O w a (xs.take k) := by
  refine ⟨Nat.le_trans (by rw [List.length_take]; omega) h.lid, fun hp => ?_⟩
  rw [List.length_take] at hp
  obtain ⟨b, off, h1, h2, h3, h4⟩ := h.cells (by omega)
  refine ⟨b, off, h1, h2, h3, fun j u hu => h4 j u ?_⟩
  have e : rowC enC xs = rowC enC (xs.take k) ++ rowC enC (xs.drop k) := by rw [← rowC_app, List.take_append_drop]
  rw [e, List.getElem?_append_left (List.getElem?_eq_some_iff.1 hu).1]
  exact hu
theorem app_new (b : ByteArray) (h : b.size ≤ 400000) : begE ⟨1000000, 0, false, []⟩ (refA ⟨1000000, 0, false, []⟩ jN.data.toList b.data.toList) = 0 ∧ doD ⟨1000000, 0, false, []⟩ (refA ⟨1000000, 0, false, []⟩ jN.data.toList b.data.toList) (fapp jN.data.toList b.data.toList) = ⟨1000000, 0, false, [(jN.data.toList, b.data.toList, 0)]⟩ := by
  have hl2 : b.data.toList.length = b.size := Wir.size_list b
  have e : refA ⟨1000000, 0, false, []⟩ jN.data.toList b.data.toList = 0 := refA_ok (by decide) (by show 0 + _ ≤ _; omega) (.inr (by simp)) (by rw [hl2]; show ((0 + b.size : Nat) : Int) ≤ 1000000; omega)
  obtain ⟨k1, k2⟩ := beg_ok 1000000 0 [] (fapp jN.data.toList b.data.toList) (.inl rfl)
  rw [e]
  exact ⟨k1, k2⟩

set_option maxRecDepth 100000 in
set_option maxHeartbeats 8000000 in
theorem core (ep : Int) (da : Option Addr) (db doff dc m : Nat) (ss : List ByteArray) (ju : ByteArray) (cu : Int) (w : World) (hm : ss.length = m) (h0 : Strs w da db doff ss) (hju : ju.size ≤ maxLen) (hep : -9223372036854775808 ≤ ep ∧ ep ≤ 9223372036854775807) (hcu : -9223372036854775808 ≤ cu ∧ cu ≤ 9223372036854775807) :
    Calls Try.prog 3 #[.int .i64 ep, .slice da m dc, .string ju, .int .i64 cu] w fun e w' => e = .returned (.bool true) ∧ Below w.heap.size w w' := by
  obtain ⟨C, hC⟩ : ∃ N, keepN cu % 5 = N := ⟨_, rfl⟩
  have hC5 : C < 5 := by rw [← hC]; exact Nat.mod_lt _ (by omega)
  have HPK : Hid (∀ W, Calls Try.prog 10 #[.int .i64 cu, .int .i64 5] W fun e w' => e = .returned (.int .i64 (C : Int)) ∧ W = w') := fun W => (pick_val cu 5 C W hcu (by omega) hC).mono fun e w' ⟨k1, k2⟩ => ⟨k1, k2.symm⟩
  obtain ⟨q, hq⟩ : ∃ q, keepN ep % 1000 = q := ⟨_, rfl⟩
  have hq1 : q < 1000 := by rw [← hq]; exact Nat.mod_lt _ (by omega)
  obtain ⟨LA, hLA⟩ : ∃ l, ofL q ss = l := ⟨_, rfl⟩
  have hRA : RtL LA := by rw [← hLA]; exact ofL_right q (by omega) ss
  have hsA : (encL LA).size ≤ 20000 := by rw [← hLA]; exact enc_small q (by omega) ss
  have hn30 : LA.es.length ≤ 30 := by rw [← hLA, ofL_len]; exact Nat.min_le_right _ _
  have hbig : 5 < (encL LA).size := by
    unfold encL
    rw [Wir.app_size]
    have := head_five LA.ep
    omega
  have HOA : Hid (∀ W, Below w.heap.size w W → Calls Try.prog 6 #[.int .i64 ep, .slice da m dc] W fun e w' => OfR W.heap.size LA e w' ∧ Below W.heap.size W w') := fun W hb => by rw [← hLA]; exact of_val ep q hep hq (h0.below hb) m dc hm
  obtain ⟨M, hM1, hM2, hM3⟩ : ∃ M : Nat, min (ju.size : Int) 1000 = (M : Int) ∧ M ≤ ju.size ∧ M ≤ 1000 := ⟨min ju.size 1000, by omega, Nat.min_le_left _ _, Nat.min_le_right _ _⟩
  obtain ⟨J0, hJ0⟩ : ∃ X, ju.extract 0 M = X := ⟨_, rfl⟩
  have hJs : J0.size ≤ 1000 := by rw [← hJ0, ByteArray.size_extract]; omega
  obtain ⟨J, hJ⟩ : ∃ X, (⟨#[1]⟩ : ByteArray) ++ J0 = X := ⟨_, rfl⟩
  have hJz : J.size = J0.size + 1 := by rw [← hJ, Wir.app_size]; show 1 + _ = _; omega
  obtain ⟨EL, hEL⟩ : ∃ b, encL LA = b := ⟨_, rfl⟩
  have hpj := parse_junk hRA J0
  have hto := torn_out hRA C hC5
  rw [hJ, hEL] at hpj
  rw [hEL] at hto hsA hbig
  have ha1 := fun (w : World) => run_string_add_sum (P := Try.prog) w (⟨#[1]⟩ : ByteArray) J0 (by show 1 + J0.size ≤ _; omega)
  have ha2 := fun (w : World) => run_string_add_sum (P := Try.prog) w EL J (by omega)
  rw [hJ] at ha1
  obtain ⟨EJ, hEJ⟩ : ∃ b, EL ++ J = b := ⟨_, rfl⟩
  have hEJs : EJ.size ≤ 30000 := by rw [← hEJ, Wir.app_size]; omega
  rw [hEJ] at ha2 hpj
  obtain ⟨Zc, hZc⟩ : ∃ Z, EL.size - C = Z := ⟨_, rfl⟩
  rw [hZc] at hto
  have hsub : (EL.size : Int) - (C : Int) = (Zc : Int) := by omega
  obtain ⟨EC, hEC⟩ : ∃ b, EL.extract 0 Zc = b := ⟨_, rfl⟩
  have hECs : EC.size ≤ 20000 := by rw [← hEC, ByteArray.size_extract]; omega
  rw [hEC] at hto
  have HB : Hid (∀ K W a c, Lie enC K W a LA.es → Calls Try.prog 7 #[.agg #[.int .i64 LA.ep, .slice a LA.es.length c]] W fun e w' => e = .returned (.tuple #[.string EL, .int .i64 0]) ∧ Below W.heap.size W w') := fun K W a c hl => bytes_yes hl LA.ep LA.es.length c rfl hRA EL hEL
  have CA1 : Hid (∀ w0 W p1 p2, Two w0 W p1 ⟨1000000, 0, false, []⟩ p2 ⟨1000000, 0, false, []⟩ → Calls Try.prog 9 #[.pointer (some ⟨p1, 0, none⟩), .string ⟨#[106]⟩, .string EJ] W fun e w' => e = .returned (.int .i64 0) ∧ Two w0 w' p1 ⟨1000000, 0, false, [(jN.data.toList, EJ.data.toList, 0)]⟩ p2 ⟨1000000, 0, false, []⟩) := fun w0 W p1 p2 h => two_append h jN EJ j_small (by omega) 0 (app_new EJ (by omega)).1 (app_new EJ (by omega)).2
  have CA2 : Hid (∀ w0 W p1 p2, Two w0 W p1 ⟨1000000, 0, false, [(jN.data.toList, EJ.data.toList, 0)]⟩ p2 ⟨1000000, 0, false, []⟩ → Calls Try.prog 9 #[.pointer (some ⟨p2, 0, none⟩), .string ⟨#[106]⟩, .string EC] W fun e w' => e = .returned (.int .i64 0) ∧ Two w0 w' p1 ⟨1000000, 0, false, [(jN.data.toList, EJ.data.toList, 0)]⟩ p2 ⟨1000000, 0, false, [(jN.data.toList, EC.data.toList, 0)]⟩) := fun w0 W p1 p2 h => (two_append (swap h) jN EC j_small (by omega) 0 (app_new EC (by omega)).1 (app_new EC (by omega)).2).mono fun e w' ⟨k1, k2⟩ => ⟨k1, swap k2⟩
  have CL1 : Hid (∀ w0 W p1 p2, Two w0 W p1 ⟨1000000, 0, false, [(jN.data.toList, EJ.data.toList, 0)]⟩ p2 ⟨1000000, 0, false, [(jN.data.toList, EC.data.toList, 0)]⟩ → Calls Try.prog 11 #[.pointer (some ⟨p1, 0, none⟩), .string ⟨#[106]⟩] W fun e w' => LoadR W.heap.size LA false e w' ∧ Below W.heap.size W w') := fun w0 W p1 p2 h => by
    obtain ⟨r1, r2⟩ := rd_head (room := 1000000) (f := 0) (n := jN.data.toList) (A := EJ.data.toList) (a := 0) (r := [])
    rw [mk_list] at r2
    exact load_yes (to_dk h) jN j_small EJ (by unfold maxLen; omega) r2 r1 LA J hpj false (decide_eq_false (by omega))
  have CL2 : ∃ (zep : Int) (zes : List En) (wh : Bool) (gg : Int), ((C = 0 ∧ zes = LA.es ∧ wh = true ∧ gg = 0) ∨ (0 < C ∧ LA.es = [] ∧ gg = 2) ∨ (0 < C ∧ 0 < LA.es.length ∧ zes = LA.es.take (LA.es.length - 1) ∧ wh = false ∧ gg = 0)) ∧
      ∀ w0 W p1 p2, Two w0 W p1 ⟨1000000, 0, false, [(jN.data.toList, EJ.data.toList, 0)]⟩ p2 ⟨1000000, 0, false, [(jN.data.toList, EC.data.toList, 0)]⟩ → Calls Try.prog 11 #[.pointer (some ⟨p2, 0, none⟩), .string ⟨#[106]⟩] W fun e w' => (∃ a9 c9, e = .returned (.tuple #[.agg #[.int .i64 zep, .slice a9 zes.length c9], .bool wh, .int .i64 gg]) ∧ Lie enC (fun k => W.heap.size ≤ k) w' a9 zes) ∧ Below W.heap.size W w' := by
    have hlo : ∀ (Z : Lg) (R : ByteArray) (wh : Bool), parseL EC = some (Z, R) → decide (R.size = 0) = wh → ∀ w0 W p1 p2, Two w0 W p1 ⟨1000000, 0, false, [(jN.data.toList, EJ.data.toList, 0)]⟩ p2 ⟨1000000, 0, false, [(jN.data.toList, EC.data.toList, 0)]⟩ → Calls Try.prog 11 #[.pointer (some ⟨p2, 0, none⟩), .string ⟨#[106]⟩] W fun e w' => (∃ a9 c9, e = .returned (.tuple #[.agg #[.int .i64 Z.ep, .slice a9 Z.es.length c9], .bool wh, .int .i64 0]) ∧ Lie enC (fun k => W.heap.size ≤ k) w' a9 Z.es) ∧ Below W.heap.size W w' := fun Z R wh hZ hw w0 W p1 p2 h => by
      obtain ⟨r1, r2⟩ := rd_head (room := 1000000) (f := 0) (n := jN.data.toList) (A := EC.data.toList) (a := 0) (r := [])
      rw [mk_list] at r2
      refine (load_yes (to_dk (swap h)) jN j_small EC (by unfold maxLen; omega) r2 r1 Z R hZ wh hw).mono ?_
      rintro e w' ⟨⟨a9, c9, g9, k1, k2⟩, k3⟩
      exact ⟨⟨a9, c9, k1, Lie.of_cel wideN k2⟩, k3⟩
    rcases hto with ⟨k1, k2⟩ | ⟨k1, k2, k3⟩ | ⟨k1, k2, R, k3, k4⟩
    · exact ⟨LA.ep, LA.es, true, 0, .inl ⟨k1, rfl, rfl, rfl⟩, hlo LA ⟨#[]⟩ true k2 rfl⟩
    · refine ⟨0, [], false, 2, .inr (.inl ⟨k1, k2, rfl⟩), fun w0 W p1 p2 h => ?_⟩
      obtain ⟨r1, r2⟩ := rd_head (room := 1000000) (f := 0) (n := jN.data.toList) (A := EC.data.toList) (a := 0) (r := [])
      rw [mk_list] at r2
      refine (load_form (to_dk (swap h)) jN j_small EC (by unfold maxLen; omega) r2 r1 k3).mono ?_
      rintro e w' ⟨k4, k5⟩
      exact ⟨⟨none, 0, k4, Lie.nil _ _ _ _⟩, k5⟩
    · exact ⟨LA.ep, LA.es.take (LA.es.length - 1), false, 0, .inr (.inr ⟨k1, k2, rfl, rfl, rfl⟩), hlo ⟨LA.ep, LA.es.take (LA.es.length - 1)⟩ R false k3 (decide_eq_false (by omega))⟩
  obtain ⟨zep, zes, wh, gg, hcs, hL2⟩ := CL2
  have CL2 : Hid (∀ w0 W p1 p2, Two w0 W p1 ⟨1000000, 0, false, [(jN.data.toList, EJ.data.toList, 0)]⟩ p2 ⟨1000000, 0, false, [(jN.data.toList, EC.data.toList, 0)]⟩ → Calls Try.prog 11 #[.pointer (some ⟨p2, 0, none⟩), .string ⟨#[106]⟩] W fun e w' => (∃ a9 c9, e = .returned (.tuple #[.agg #[.int .i64 zep, .slice a9 zes.length c9], .bool wh, .int .i64 gg]) ∧ Lie enC (fun k => W.heap.size ≤ k) w' a9 zes) ∧ Below W.heap.size W w') := hL2
  have HCS : Hid ((C = 0 ∧ zes = LA.es ∧ wh = true ∧ gg = 0) ∨ (0 < C ∧ LA.es = [] ∧ gg = 2) ∨ (0 < C ∧ 0 < LA.es.length ∧ zes = LA.es.take (LA.es.length - 1) ∧ wh = false ∧ gg = 0)) := hcs
  obtain ⟨n, hn⟩ : ∃ n, LA.es.length = n := ⟨_, rfl⟩
  have HN : Hid (LA.es.length = n) := hn
  rw [hn] at hn30
  unfold maxLen at hju
  have hZl : Zc ≤ EL.size := by omega
  clear hC hq hq1 hLA hRA hep hcu h0 hm hJs hJ hJz hpj hto hbig hL2 hcs hEJ hEJs hECs hn hEL hZc
  generalize hD1 : (⟨1000000, 0, false, [(jN.data.toList, EJ.data.toList, 0)]⟩ : DS) = D1 at CA1 CA2 CL1 CL2
  generalize hD2 : (⟨1000000, 0, false, [(jN.data.toList, EC.data.toList, 0)]⟩ : DS) = D2 at CA2 CL1 CL2
  clear hD1 hD2
  have hst2 : ∀ (w : World) (a : Addr) (x : Option Addr) (n c : Nat) (m : Mode), (store a (.slice x n c) m).run Try.prog w = stored Try.prog w a (.slice x n c) m := fun w a x n c m => run_store (P := Try.prog) w a _ m rfl
  go_enter Try.func3, Try.ntmps3
  go_wp2_with fail
  refine (examples14_val w).mono ?_
  rintro e w1 ⟨rfl, b1⟩
  have B1 : Hid (Below w.heap.size w w1) := b1
  clear b1
  go_wp2_with fail
  refine (HOA.out _ B1.out).mono ?_
  rintro e w2 ⟨⟨a, c, g, rfl, hC⟩, b2⟩
  have hcap := hC.cap2
  have A2 : Hid (Bl (fun k => w1.heap.size ≤ k ∧ k < w2.heap.size + 1) (w2.alloc (.cells #[.int .i64 LA.ep, .slice a LA.es.length c] 26)) w2.heap.size LA a c) := Bl.of hC _ b2.size
  have B2 : Hid (Below w.heap.size w (w2.alloc (.cells #[.int .i64 LA.ep, .slice a LA.es.length c] 26))) := bel_tr (bel_tr B1.out b2) (bel_al _ _)
  rw [HN.out] at hcap
  have hc1 : n ≤ c := hcap.1
  have hc2 : c ≤ 9223372036854775807 := by have h9 := hcap.2.1; unfold maxLen at h9; omega
  clear hC b2 hcap B1 HOA
  go_upto_region 3 with fail
  generalize w2.alloc (.cells #[.int .i64 LA.ep, .slice a LA.es.length c] 26) = W2 at *
  generalize w2.heap.size = AB at *
  have x0 := A2.out.c0
  have x1 := A2.out.c1
  go_wp2_with fail
  refine (HB.out _ _ _ _ A2.out.row).mono ?_
  rintro e w3 ⟨rfl, b3⟩
  have H3 : Hid (Bl (fun k => w1.heap.size ≤ k ∧ k < AB + 1) w3 AB LA a c ∧ Below w.heap.size w w3) := ⟨A2.out.below b3, bel_tr B2.out b3⟩
  clear x0 x1 b3 A2 B2 HB
  go_wp2_with fail
  refine (one_new (w0 := w3) (Below.refl _ _) 1000000 1000000 (by omega) (by omega)).mono ?_
  rintro e w4 ⟨p1, rfl, h4⟩
  have H4 : Hid (One w3 w4 p1 ⟨1000000, 0, false, []⟩) := h4
  clear h4
  go_wp2_with fail
  refine (two_new H4.out 1000000 1000000 (by omega) (by omega)).mono ?_
  rintro e w5 ⟨p2, rfl, h5⟩
  have H5 : Hid (Two w3 w5 p1 ⟨1000000, 0, false, []⟩ p2 ⟨1000000, 0, false, []⟩) := h5
  clear h5 H4
  go_wp2_with (first
    | (go_at_call 10; refine (HPK.out _).mono ?_; rintro e wp ⟨rfl, rfl⟩)
    | (go_at_call 9; refine (CA1.out _ _ _ _ H5.out).mono ?_; rintro e w6 ⟨rfl, h6⟩; have H6 : Hid (Two w3 w6 p1 D1 p2 ⟨1000000, 0, false, []⟩) := h6; clear h6 H5 CA1)
    | (go_at_call 9; refine (CA2.out _ _ _ _ H6.out).mono ?_; rintro e w7 ⟨rfl, h7⟩; have H7 : Hid (Two w3 w7 p1 D1 p2 D2) := h7; clear h7 H6 CA2)
    | fail)
  refine (CL1.out _ _ _ _ H7.out).mono ?_
  rintro e w8 ⟨⟨a9, c9, g9, rfl, hC9⟩, b9⟩
  have L9 : Hid (Bl (fun k => w7.heap.size ≤ k ∧ k < w8.heap.size + 1) (w8.alloc (.cells #[.int .i64 LA.ep, .slice a9 LA.es.length c9] 26)) w8.heap.size LA a9 c9) := Bl.of hC9 _ b9.size
  have H8 : Hid (Two w3 (w8.alloc (.cells #[.int .i64 LA.ep, .slice a9 LA.es.length c9] 26)) p1 D1 p2 D2) := two_below H7.out (bel_tr b9 (bel_al _ _))
  clear hC9 b9 H7 CL1
  go_upto_region 12 with fail
  generalize w8.alloc (.cells #[.int .i64 LA.ep, .slice a9 LA.es.length c9] 26) = W8 at *
  generalize w8.heap.size = MB at *
  go_wp2_with fail
  refine (CL2.out _ _ _ _ H8.out).mono ?_
  rintro e w9 ⟨⟨az, cz, rfl, hLz⟩, b10⟩
  obtain ⟨zn, hzn⟩ : ∃ z, zes.length = z := ⟨_, rfl⟩
  rw [hzn]
  have HZN : Hid (zes.length = zn) := hzn
  clear hzn
  have H9 : Hid ((w9.alloc (.cells #[.int .i64 zep, .slice az zn cz] 26)).cell? ⟨w9.heap.size, 1, none⟩ = some (.slice az zn cz) ∧ Lie enC (fun k => W8.heap.size ≤ k) (w9.alloc (.cells #[.int .i64 zep, .slice az zn cz] 26)) az zes ∧ Bl (fun k => w7.heap.size ≤ k ∧ k < MB + 1) (w9.alloc (.cells #[.int .i64 zep, .slice az zn cz] 26)) MB LA a9 c9 ∧ Bl (fun k => w1.heap.size ≤ k ∧ k < AB + 1) (w9.alloc (.cells #[.int .i64 zep, .slice az zn cz] 26)) AB LA a c ∧ Below w.heap.size w (w9.alloc (.cells #[.int .i64 zep, .slice az zn cz] 26))) := by
    have b11 := bel_tr b10 (bel_al w9 (.cells #[.int .i64 zep, .slice az zn cz] 26))
    obtain ⟨O1, O2, _, _, _, _, _, hb3⟩ := H8.out
    have b12 := bel_tr hb3 b11
    exact ⟨World.cell?_alloc_new w9 _ _ 1, hLz.below (bel_al _ _), L9.out.below b11, H3.out.1.below b12, bel_tr H3.out.2 b12⟩
  clear hLz b10 H8 CL2 L9 H3
  go_upto_region 13 with fail
  generalize w9.alloc (.cells #[.int .i64 zep, .slice az zn cz] 26) = W9 at *
  generalize w9.heap.size = ZB at *
  have x0 := H9.out.2.2.2.1.c0
  have x1 := H9.out.2.2.2.1.c1
  have y0 := H9.out.2.2.1.c0
  have y1 := H9.out.2.2.1.c1
  go_wp2_with fail
  refine (same_val H9.out.2.2.2.1.row H9.out.2.2.1.row _ _ _ _ rfl rfl _ _ true ⟨fun _ => rfl, fun _ => rfl⟩).mono ?_
  rintro e w10 ⟨rfl, b10⟩
  have H10 : Hid (w10.cell? ⟨ZB, 1, none⟩ = some (.slice az zn cz) ∧ Lie enC (fun k => W8.heap.size ≤ k) w10 az zes ∧ w10.cell? ⟨AB, 1, none⟩ = some (.slice a n c) ∧ Lie enC (fun k => w1.heap.size ≤ k ∧ k < AB + 1) w10 a LA.es ∧ Below w.heap.size w w10) := by
    have h9 := H9.out.2.2.2.1.below b10
    exact ⟨bel_cell b10 H9.out.1, H9.out.2.1.below b10, by have h8 := h9.c1; rw [HN.out] at h8; exact h8, h9.row, bel_tr H9.out.2.2.2.2 b10⟩
  clear x0 x1 y0 y1 b10 H9
  have x1 := H10.out.2.2.1
  by_cases hn0 : n = 0
  · have HG : Hid ((C = 0 ∧ gg = 0) ∨ (0 < C ∧ gg = 2)) := by
      rcases HCS.out with ⟨k1, _, _, k2⟩ | ⟨k1, _, k2⟩ | ⟨_, k2, _⟩
      · exact .inl ⟨k1, k2⟩
      · exact .inr ⟨k1, k2⟩
      · have := HN.out; omega
    subst hn0
    rcases HG.out with ⟨rfl, rfl⟩ | ⟨hCp, rfl⟩
    · go_wp2_with (go_at_call 10; refine (HPK.out _).mono ?_; rintro e wp ⟨rfl, rfl⟩)
      go_ret
      exact ⟨by first | rfl | simp, H10.out.2.2.2.2⟩
    · have hC0 : ¬ (C : Int) = 0 := by omega
      have hCb : ((C : Int) == 0) = false := beq_eq_false_iff_ne.2 hC0
      go_wp2_with (go_at_call 10; refine (HPK.out _).mono ?_; rintro e wp ⟨rfl, rfl⟩)
      go_ret
      exact ⟨by first | rfl | simp, H10.out.2.2.2.2⟩
  · have HG : Hid (gg = 0 ∧ ((C = 0 ∧ zes = LA.es.take n ∧ wh = true) ∨ (0 < C ∧ zes = LA.es.take (n - 1) ∧ wh = false))) := by
      have h9 := HN.out
      rcases HCS.out with ⟨k1, k3, k4, k2⟩ | ⟨k1, k3, k2⟩ | ⟨k1, _, k3, k4, k2⟩
      · exact ⟨k2, .inl ⟨k1, by rw [k3, ← h9, List.take_length], k4⟩⟩
      · rw [k3] at h9; simp at h9; omega
      · exact ⟨k2, .inr ⟨k1, by rw [k3, h9], k4⟩⟩
    have hnI : ¬ (n : Int) = 0 := by omega
    have hnb : ((n : Int) == 0) = false := beq_eq_false_iff_ne.2 hnI
    obtain ⟨rfl, hG2⟩ := HG.out
    have z1 := H10.out.1
    rcases hG2 with ⟨rfl, hzs, rfl⟩ | ⟨hCp, hzs, rfl⟩
    · have CE : Hid (∀ W, Below w10.heap.size w10 W → Calls Try.prog 13 #[.slice az zn cz, .slice a n c] W fun e w' => e = .returned (.bool true) ∧ Below W.heap.size W w') := fun W hb => entries_val (H10.out.2.1.below hb) (Lie.take (H10.out.2.2.2.1.below hb) n) zn n cz c HZN.out (by rw [List.length_take, HN.out]; omega) true ⟨fun _ => hzs, fun _ => rfl⟩
      clear hzs
      go_wp2_with (go_at_call 10; refine (HPK.out _).mono ?_; rintro e wp ⟨rfl, rfl⟩)
      go_region_held3 (fun W => W.cell? ⟨ZB, 1, none⟩ = some (.slice az zn cz) ∧ W.cell? ⟨AB, 1, none⟩ = some (.slice a n c))
        (first | exact ⟨z1, x1⟩ | (refine ⟨bel_cell KB.out z1, bel_cell KB.out x1⟩; done) | go_keep)
        (first
          | (go_at_call 13; refine (CE.out _ (by first | exact Below.refl _ _ | exact (Below.refl _ _).drew)).mono ?_; rintro x w11 ⟨rfl, b11⟩; have KB : Hid (Below w10.heap.size w10 w11) := (by first | exact b11 | exact kb1 b11); clear b11))
      all_goals
        go_wp2_with (go_at_call 10; refine (HPK.out _).mono ?_; rintro e wp ⟨rfl, rfl⟩)
        go_ret
        exact ⟨by first | rfl | simp, bel_tr H10.out.2.2.2.2 KB.out⟩
    · obtain ⟨k9, hk9⟩ : ∃ k, n - 1 = k := ⟨_, rfl⟩
      have hk9i : (n : Int) - 1 = (k9 : Int) := by omega
      have hk9l : k9 ≤ c := by omega
      have CE : Hid (∀ W, Below w10.heap.size w10 W → Calls Try.prog 13 #[.slice az zn cz, .slice a k9 c] W fun e w' => e = .returned (.bool true) ∧ Below W.heap.size W w') := fun W hb => entries_val (H10.out.2.1.below hb) (Lie.take (H10.out.2.2.2.1.below hb) k9) zn k9 cz c HZN.out (by rw [List.length_take, HN.out]; omega) true ⟨fun _ => by rw [← hk9]; exact hzs, fun _ => rfl⟩
      have hC0 : ¬ (C : Int) = 0 := by omega
      have hCb : ((C : Int) == 0) = false := beq_eq_false_iff_ne.2 hC0
      have HK9 : Hid (n - 1 = k9) := hk9
      clear hzs hk9
      go_wp2_with (go_at_call 10; refine (HPK.out _).mono ?_; rintro e wp ⟨rfl, rfl⟩)
      go_region_held3 (fun W => W.cell? ⟨ZB, 1, none⟩ = some (.slice az zn cz) ∧ W.cell? ⟨AB, 1, none⟩ = some (.slice a n c))
        (first | exact ⟨z1, x1⟩ | (refine ⟨bel_cell KB.out z1, bel_cell KB.out x1⟩; done) | go_keep)
        (first
          | (go_at_call 13; refine (CE.out _ (by first | exact Below.refl _ _ | exact (Below.refl _ _).drew)).mono ?_; rintro x w11 ⟨rfl, b11⟩; have KB : Hid (Below w10.heap.size w10 w11) := (by first | exact b11 | exact kb1 b11); clear b11))
      all_goals
        go_wp2_with (go_at_call 10; refine (HPK.out _).mono ?_; rintro e wp ⟨rfl, rfl⟩)
        go_ret
        exact ⟨by first | rfl | simp, bel_tr H10.out.2.2.2.2 KB.out⟩

theorem walk (a0 : Int) (a1 : Option Addr) (b1 off1 cap1 : Nat) (ss1 : List ByteArray) (a2 : ByteArray) (a3 : Int) (w : World) (w0 : (Lit.int .i64 a0).wf = true) (w1 : Strs w a1 b1 off1 ss1) (w2 : a2.size ≤ maxLen) (w3 : (Lit.int .i64 a3).wf = true) :
    Calls Try.prog 3 #[.int .i64 a0, .slice a1 ss1.length cap1, .string a2, .int .i64 a3] w fun e w' => e = .returned (.bool true) ∧ Below w.heap.size w w' :=
  core a0 a1 b1 off1 cap1 _ ss1 a2 a3 w rfl w1 w2 (bounds_i64 w0) (bounds_i64 w3)

set_option maxRecDepth 100000 in
theorem lifted (os : Os) (started : os.Started) (H : Type) (enc : TypeId × Value → H) :
    ReturnsInHanded {} Try.checked os 3 .any (Rows.logTornSpec.pre6 enc Try.prog Try.f3 Rows.logTornRow.domain false) (Rows.logTornSpec.post enc Try.prog Try.f3 false true false false) := by
  refine returnsInHanded_of_change (C := Try.checked) own started (by kernel_rfl) Try.func3
    (ChangeSpec.witness6 (enc := enc) (C := Try.checked) false ⟨#[], #[.int .i64 0, .slice none 0 0, .string ByteArray.empty, .int .i64 0], []⟩ 8 (by kernel_rfl) (by kernel_rfl) (by kernel_rfl) (by kernel_rfl)) ?_
  intro W base args ds gs before hval0 hW hcnd _
  have hval : ∀ (j : Nat) t v, Try.f3.params[j]? = some t → args[j]? = some v → Value.okWide Try.prog W .any base t v := hval0
  have hW' := hW
  obtain ⟨p, q, hA0, hV, rfl, hfz, hnd⟩ := hW
  have hA : DataW.TrodAll enc Try.prog W 0 (fun _ => true) true Try.f3.params.toList args.toList ds p := hA0
  rw [Try.params3] at hA hval
  obtain ⟨v0, vs0, d0, ds0, p0, q0, hargs, rfl, rfl, h0, r0⟩ := trodAll_cons hA
  obtain ⟨v1, vs1, d1, ds1, p1, q1, rfl, rfl, rfl, h1, r1⟩ := trodAll_cons r0
  obtain ⟨v2, vs2, d2, ds2, p2, q2, rfl, rfl, rfl, h2, r2⟩ := trodAll_cons r1
  obtain ⟨v3, vs3, d3, ds3, p3, q3, rfl, rfl, rfl, h3, r3⟩ := trodAll_cons r2
  obtain ⟨rfl, rfl, rfl⟩ := trodAll_nil r3
  obtain rfl : args = #[v0, v1, v2, v3] := by cases args; simp_all
  obtain ⟨rfl, rfl⟩ := trodVars_none hV
  obtain ⟨a0, rfl, rfl, rfl, w0⟩ := open_int Try.underlying3 (hval 0 3 v0 rfl rfl) h0
  obtain ⟨a1, len1, cap1, rfl⟩ := okWide_slice Try.underlying22 (hval 1 22 v1 rfl rfl)
  have k1 := h1
  have lt1 : ∀ x ∈ p1, x.block < W.heap.size := by obtain ⟨m, hm⟩ := k1; exact DataW.trod_lt m _ _ _ hm
  obtain ⟨b1, off1, ss1, rfl, w1⟩ := open_strs Try.underlying22 Try.underlying9 (by kernel_rfl) h1
  obtain ⟨a2, rfl, rfl, rfl, w2⟩ := open_string Try.underlying9 (hval 2 9 v2 rfl rfl) h2
  obtain ⟨a3, rfl, rfl, rfl, w3⟩ := open_int Try.underlying3 (hval 3 3 v3 rfl rfl) h3
  clear hA0 hval0
  refine (walk a0 a1 b1 off1 cap1 ss1 a2 a3 W w0 w1 w2 w3).mono fun e W' ⟨he, bel⟩ => ?_
  subst he
  exact ⟨_, rfl, _, _, _, [], _, [], hW', trodAll_mk1 (shut_bool Try.underlying4 _), (trodAll_cons_mk (shut_int Try.underlying3 w0) (trodAll_cons_mk (Below.trod laidOut (by kernel_rfl) (of_decide_eq_true (by kernel_rfl)) k1 bel lt1) (trodAll_cons_mk (shut_string Try.underlying9 w2) (trodAll_cons_mk (shut_int Try.underlying3 w3) trodAll_mk0)))), rfl, bel.frame _, fun h => by cases h⟩

theorem over : Rows.logTornRow.holds Try.pinned (OpenSpec.ofChange Rows.logTornSpec) :=
  OpenClaim.holds_of_wide 3 Try.f3 rfl rfl rfl rfl rfl rfl rfl ⟨rfl, rfl, rfl, rfl, rfl⟩ rfl rfl rfl rfl rfl (by kernel_rfl) Try.func3 (by kernel_rfl)
    (of_decide_eq_true (by kernel_rfl)) (by unfold Func.isWrapper; first | (rw [if_pos (by decide +kernel)]; kernel_rfl) | (rw [if_neg (by decide +kernel)]; exact ⟨rfl, rfl⟩))
    (fun os started H enc _ => lifted os started H enc)
end Go.Proofs.Ytokldcifhjkmnab.logTorn

namespace Go.Proofs.Ytokldcifhjkmnab
/-- The statement. -/
theorem logTorn_holds : Rows.LogTornSaid := logTorn.over
#print axioms logTorn_holds
end Go.Proofs.Ytokldcifhjkmnab
