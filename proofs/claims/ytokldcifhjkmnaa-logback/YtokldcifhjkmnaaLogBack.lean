/- LogBack: for every number, every two lists of texts and every list of numbers: the statement's function returns true; nothing that was there is changed. No condition. -/
import Derived.Test.YtokldcifhjkmnaaLogB
import Derived.Test.YtokldcifhjkmnaaOpenAll
import Derived.Deep.Cut
import Derived.BigRegion
namespace Go.Proofs.Ytokldcifhjkmnaa.logBack
open Go.ChangeShapes Go.WideShapes Go.ChangeAt Go.RowKit Go.Proofs.Ytokldcifhjkmnaa Go.Proofs.Ytokldcifhjkmnaa.Lgg
set_option linter.unusedVariables false

theorem own : ownKnob Try.prog.godebug = none := by kernel_rfl

set_option maxRecDepth 100000 in
set_option maxHeartbeats 8000000 in
theorem core (ep : Int) (da : Option Addr) (db doff dc m : Nat) (ss : List ByteArray) (ea : Option Addr) (eb eoff ec p : Nat) (ts : List ByteArray) (ka : Option Addr) (kb koff kc z : Nat) (ks : List Int) (w : World) (hm : ss.length = m) (hp : ts.length = p) (hz : ks.length = z) (h0 : Strs w da db doff ss) (h1 : Strs w ea eb eoff ts) (hep : -9223372036854775808 ≤ ep ∧ ep ≤ 9223372036854775807) (hzm : z ≤ maxLen) (h3 : Ints w .i64 ka kb koff ks) (hks : ∀ k ∈ ks, -9223372036854775808 ≤ k ∧ k ≤ 9223372036854775807) :
    Calls Try.prog 5 #[.int .i64 ep, .slice da m dc, .slice ea p ec, .slice ka z kc] w fun e w' => e = .returned (.bool true) ∧ Below w.heap.size w w' := by
  obtain ⟨ti, hi1, hi2, hi3, hi4⟩ := info_e
  obtain ⟨q, hq⟩ : ∃ q, keepN ep % 1000 = q := ⟨_, rfl⟩
  have hq1 : q < 1000 := by rw [← hq]; exact Nat.mod_lt _ (by omega)
  have hplen := h1.len
  rw [hp] at hplen
  unfold maxLen at hplen
  obtain ⟨LA, hLA⟩ : ∃ l, ofL q ss = l := ⟨_, rfl⟩
  have hRA : RtL LA := by rw [← hLA]; exact ofL_right q (by omega) ss
  have hsA : (encL LA).size ≤ 20000 := by rw [← hLA]; exact enc_small q (by omega) ss
  have hlA : LA.es.length ≤ 30 := by rw [← hLA, ofL_len]; exact Nat.min_le_right _ _
  have HOA : Hid (∀ W, Below w.heap.size w W → Calls Try.prog 20 #[.int .i64 ep, .slice da m dc] W fun e w' => OfR W.heap.size LA e w' ∧ Below W.heap.size W w') := fun W hb => by rw [← hLA]; exact of_val ep q hep hq (h0.below hb) m dc hm
  have hl0 : (encL LA).data.toList.length = (encL LA).size := Wir.size_list _
  have HS1 := sto_new (s := jN) (b := encL LA) (room := 400000) j_ok (by omega) (by omega)
  rw [← hl0] at HS1
  have CS1 : Hid (∀ K W pd a c, Dk w K W pd ⟨400000, 0, false, []⟩ → Lie enC K W a LA.es → Calls Try.prog 21 #[.pointer (some ⟨pd, 0, none⟩), .string ⟨#[106]⟩, .agg #[.int .i64 LA.ep, .slice a LA.es.length c]] W fun e w' => e = .returned (.int .i64 0) ∧ Dk w K w' pd (dsk LA) ∧ Stay (fun k => ¬ K k) W w') := fun K W pd a c h hl => store_val h jN j_ok hl LA.ep LA.es.length c rfl hRA 0 HS1
  have CA : Hid (∀ (l : Lg) (s : ByteArray) K W pd, RtL l → l.es.length ≤ 50 → Dk w K W pd (dsk l) → Calls Try.prog 22 #[.pointer (some ⟨pd, 0, none⟩), .string ⟨#[106]⟩, .agg #[.int .i64 ((l.es.length + 1 : Nat) : Int), .string (cut100 s)]] W fun e w' => e = .returned (.int .i64 0) ∧ Dk w K w' pd (dsk (moreL l s)) ∧ Stay (fun k => ¬ K k) W w') := fun l s K W pd hR hl h => by
    have hc := cut100_size s
    have hE := encE_size (x := ⟨((l.es.length + 1 : Nat) : Int), cut100 s⟩) (by show _ ≤ ((l.es.length + 1 : Nat) : Int); omega) (by show ((l.es.length + 1 : Nat) : Int) ≤ _; omega) (by show (cut100 s).size ≤ 600; omega)
    have hL := encL_size (ep := l.ep) (es := l.es) hR
    have hL2 : (encL l).size ≤ 24 + l.es.length * 624 := hL
    have hl9 : (encL l).data.toList.length = (encL l).size := Wir.size_list _
    have hA := add_on (s := jN) (A := (encL l).data.toList) (a := (encL l).data.toList.length) (b := encE ⟨((l.es.length + 1 : Nat) : Int), cut100 s⟩) (room := 400000) (f := 0) j_ok (by omega) (by omega) (.inl rfl)
    have hcat : (encL l).data.toList ++ (encE ⟨((l.es.length + 1 : Nat) : Int), cut100 s⟩).data.toList = (encL (moreL l s)).data.toList := by
      unfold moreL
      rw [encL_snoc, Wir.app_list]
    rw [hcat] at hA
    exact add_val h jN j_ok ⟨((l.es.length + 1 : Nat) : Int), cut100 s⟩ (by show 1 ≤ ((l.es.length + 1 : Nat) : Int); omega) (by show ((l.es.length + 1 : Nat) : Int) ≤ 300; omega) (by show (cut100 s).size ≤ 600; omega) 0 hA
  have CC : Hid (∀ (l : Lg) K W pd, Dk w K W pd (dsk l) → Calls Try.prog 23 #[.pointer (some ⟨pd, 0, none⟩), .slice ka z kc] W fun e w' => e = .returned (.tuple #[]) ∧ (∃ r', Dk w K w' pd ⟨400000, 0, false, (jN.data.toList, (encL l).data.toList, (encL l).data.toList.length) :: r'⟩) ∧ Stay (fun k => ¬ K k) W w') := fun l K W pd h => by
    obtain ⟨r', hr⟩ := crash_head (n := jN.data.toList) (enc_ne l) ks []
    refine (dk_crash h ka kb koff kc z ks hz hzm h3 hks).mono ?_
    rintro e w' ⟨k1, k2, k3⟩
    refine ⟨k1, ⟨r', ?_⟩, k3⟩
    have hr2 : crashL ks (dsk l).S = _ := hr
    rw [hr2] at k2
    exact k2
  have CL : Hid (∀ (l : Lg) r' K W pd, RtL l → l.es.length ≤ 50 → Dk w K W pd ⟨400000, 0, false, (jN.data.toList, (encL l).data.toList, (encL l).data.toList.length) :: r'⟩ → Calls Try.prog 17 #[.pointer (some ⟨pd, 0, none⟩), .string ⟨#[106]⟩] W fun e w' => LoadR W.heap.size l true e w' ∧ Below W.heap.size W w') := fun l r' K W pd hR hl h => by
    obtain ⟨r1, r2⟩ := rd_head (room := 400000) (f := 0) (n := jN.data.toList) (A := (encL l).data.toList) (a := (encL l).data.toList.length) (r := r')
    rw [mk_list] at r2
    have hL := encL_size (ep := l.ep) (es := l.es) hR
    have hL2 : (encL l).size ≤ 24 + l.es.length * 624 := hL
    exact load_yes h jN j_small (encL l) (by unfold maxLen; omega) r2 r1 l ⟨#[]⟩ (parse_whole hR) true rfl
  have HH1 : Hid (Strs w ea eb eoff ts) := h1
  have HP : Hid (ts.length = p) := hp
  have HRA : Hid (RtL LA ∧ LA.es.length ≤ 30) := ⟨hRA, hlA⟩
  clear hm hp hz h0 h1 hep hzm h3 hks hq hq1 hLA hRA hsA hlA hl0 HS1
  have hst := fun (w : World) (a : Addr) (x : ByteArray) (m : Mode) => run_store (P := Try.prog) w a (.string x) m rfl
  have hst2 : ∀ (w : World) (a : Addr) (x : Option Addr) (n c : Nat) (m : Mode), (store a (.slice x n c) m).run Try.prog w = stored Try.prog w a (.slice x n c) m := fun w a x n c m => run_store (P := Try.prog) w a _ m rfl
  go_enter Try.func5, Try.ntmps5
  go_wp2_with fail
  refine (examples14_val w).mono ?_
  rintro e w1 ⟨rfl, b1⟩
  have B1 : Hid (Below w.heap.size w w1) := b1
  clear b1
  go_wp2_with fail
  refine (dk_new (w0 := w) B1.out 400000 400000 (by omega) (by omega)).mono ?_
  rintro e w2 ⟨pd, rfl, h2, b2⟩
  have H2 : Hid (Dk w (fun _ => False) w2 pd ⟨400000, 0, false, []⟩) := h2.less (fun _ e => e.elim)
  clear h2 b2 B1
  go_wp2_with fail
  refine (HOA.out _ H2.out.bel).mono ?_
  rintro e w3 ⟨⟨a, c, g, rfl, hC⟩, b3⟩
  have H3 : Hid (Cel (fun z => w.heap.size ≤ z ∧ z ≠ w3.heap.size) (w3.alloc (.cells #[.int .i64 LA.ep, .slice a LA.es.length c] 24)) 2 (.slice a LA.es.length c) LA.es.length (rowC enC LA.es) g ∧ (∀ z, g = some z → w2.heap.size ≤ z ∧ z < w3.heap.size) ∧ Dk w (fun z => z = w3.heap.size ∨ g = some z) (w3.alloc (.cells #[.int .i64 LA.ep, .slice a LA.es.length c] 24)) pd ⟨400000, 0, false, []⟩ ∧ w.heap.size ≤ w3.heap.size) := by
    have hs := H2.out.bel.size
    have hs3 := b3.size
    have hg : ∀ z, g = some z → w2.heap.size ≤ z ∧ z < w3.heap.size := fun z hz => by rw [hz] at hC; exact ⟨hC.lt.2, hC.lt.1⟩
    refine ⟨((cel_lt hC).below (bel_al _ _)).stay (Nat.le_refl _) (fun _ _ => rfl) (fun z hz => ⟨by have h9 : w2.heap.size ≤ z := hz.1; omega, by have h9 := hz.2; omega⟩), hg, H2.out.add (bel_tr b3 (bel_al _ _)) (fun k hk => .inr ?_), by omega⟩
    have hzz : (w3.alloc (.cells #[.int .i64 LA.ep, .slice a LA.es.length c] 24)).heap.size = w3.heap.size + 1 := by simp
    rcases hk with h | h
    · omega
    · have := hg k h; omega
  have Q3 : Hid ((w3.alloc (.cells #[.int .i64 LA.ep, .slice a LA.es.length c] 24)).cell? ⟨w3.heap.size, 0, none⟩ = some (.int .i64 LA.ep) ∧ (w3.alloc (.cells #[.int .i64 LA.ep, .slice a LA.es.length c] 24)).cell? ⟨w3.heap.size, 1, none⟩ = some (.slice a LA.es.length c) ∧ ∀ j, (w3.alloc (.cells #[.int .i64 LA.ep, .slice a LA.es.length c] 24)).frozen? ⟨w3.heap.size, j, none⟩ = false) := ⟨World.cell?_alloc_new w3 _ _ 0, World.cell?_alloc_new w3 _ _ 1, fun j => World.frozen?_alloc_new w3 _ _ j⟩
  clear hC b3 HOA H2
  go_upto_region 6 with fail
  generalize w3.alloc (.cells #[.int .i64 LA.ep, .slice a LA.es.length c] 24) = W3 at *
  generalize w3.heap.size = LB at *
  have x0 := Q3.out.1
  have x1 := Q3.out.2.1
  go_wp2_with fail
  refine (CS1.out _ _ _ _ _ H3.out.2.2.1 (Lie.of_g wideN H3.out.1 _)).mono ?_
  rintro e w4 ⟨rfl, h4, s4⟩
  have L0 : Hid (Lk w w4 pd LB LA a c g) := by
    obtain ⟨k1, k2, k3, k4⟩ := H3.out
    obtain ⟨q0, q1, qf⟩ := Q3.out
    have kb := s4.block LB (World.block_lt_of_cell? _ _ q0) (fun h => h (.inl rfl))
    exact ⟨(World.cell?_of_block (a := ⟨LB, 0, none⟩) kb).trans q0, (World.cell?_of_block (a := ⟨LB, 1, none⟩) kb).trans q1, fun j => (World.frozen?_of_block (a := ⟨LB, j, none⟩) kb).trans (qf j), k1.stay s4.size (fun z hz => s4.block z (by rw [hz] at k1; exact k1.lt.1) (fun h => h (.inr hz))) (fun _ e => e), h4, HRA.out.1, k4⟩
  clear h4 s4 H3 Q3 x0 x1 CS1
  go_wp2
  go_loopw [12] (fun v wr => ∃ (k : Nat) (l : Lg) (a : Option Addr) (c : Nat) (g : Option Nat), k ≤ p ∧ k ≤ 20 ∧ v = .int .i64 k ∧ Hid (Lk w wr pd LB l a c g ∧ l.es.length ≤ 30 + k)) (fun v _ => 20 - (intOf v).toNat)
  case atStart => exact ⟨0, LA, a, c, g, by omega, by omega, rfl, ⟨L0.out, HRA.out.2⟩⟩
  case round =>
    clear L0
    obtain ⟨k, l, a, c, g, hk1, hk2, rfl, hI⟩ := hrel
    have HI : Hid (Lk w wr pd LB l a c g ∧ l.es.length ≤ 30 + k) := hI
    clear hI
    obtain ⟨n, hn⟩ : ∃ n, l.es.length = n := ⟨_, rfl⟩
    have HN : Hid (l.es.length = n) := hn
    have c1 := HI.out.1.c1
    have hn50 : n ≤ 50 := by have := HI.out.2; omega
    rw [hn] at c1
    clear hn
    by_cases hlt : k < p ∧ k < 20
    · obtain ⟨hlt0, hlt1⟩ := hlt
      have hks : k < ts.length := by rw [HP.out]; exact hlt0
      obtain rfl := HH1.out.addr (by omega)
      have d0 := bel_cell HI.out.1.dk.bel (HH1.out.cell k hks)
      have hsm := HH1.out.small _ (List.getElem_mem hks)
      generalize ts[k] = s at *
      obtain ⟨M, hM1, hM2, hM3, hM4⟩ : ∃ M : Nat, min (s.size : Int) 100 = (M : Int) ∧ M ≤ s.size ∧ M ≤ 100 ∧ s.extract 0 M = cut100 s := ⟨min s.size 100, by omega, Nat.min_le_left _ _, Nat.min_le_right _ _, rfl⟩
      obtain ⟨X, hX⟩ : ∃ X, s.extract 0 M = X := ⟨_, rfl⟩
      have HX : Hid (cut100 s = X) := by rw [← hM4]; exact hX
      unfold maxLen at hsm
      have d0a := cell_al d0
      have c1a := cell_al c1
      clear hM4 hks
      go_wp2
      go_region
      have H5 : Hid (Below wr.heap.size wr (wr.alloc (.cells #[.int .i64 ((n : Int) + 1), .string X] 49)).drew ∧ (wr.alloc (.cells #[.int .i64 ((n : Int) + 1), .string X] 49)).drew.cell? ⟨wr.heap.size, 0, none⟩ = some (.int .i64 ((n : Int) + 1)) ∧ (wr.alloc (.cells #[.int .i64 ((n : Int) + 1), .string X] 49)).drew.cell? ⟨wr.heap.size, 1, none⟩ = some (.string X) ∧ wr.heap.size < (wr.alloc (.cells #[.int .i64 ((n : Int) + 1), .string X] 49)).drew.heap.size) := ⟨(bel_al _ _).drew, World.cell?_alloc_new wr _ _ 0, World.cell?_alloc_new wr _ _ 1, by show wr.heap.size < (wr.alloc _).heap.size; simp⟩
      generalize (wr.alloc (.cells #[.int .i64 ((n : Int) + 1), .string X] 49)).drew = W5 at *
      have y0 := H5.out.2.1
      have y1 := H5.out.2.2.1
      have CA2 : Hid (Calls Try.prog 22 #[.pointer (some ⟨pd, 0, none⟩), .string ⟨#[106]⟩, .agg #[.int .i64 ((n : Int) + 1), .string X]] W5 fun e w' => e = .returned (.int .i64 0) ∧ Dk w (fun z => (z = LB ∨ g = some z) ∨ z = wr.heap.size) w' pd (dsk (moreL l s)) ∧ Stay (fun k => ¬ ((k = LB ∨ g = some k) ∨ k = wr.heap.size)) W5 w') := by
        have hd := HI.out.1.dk.add (K' := fun z => (z = LB ∨ g = some z) ∨ z = wr.heap.size) H5.out.1 (fun z hz => hz.elim .inl (fun e => .inr ⟨by omega, by have := H5.out.2.2.2; omega⟩))
        have h9 := CA.out l s _ _ _ HI.out.1.rt (by have := HI.out.2; omega) hd
        rw [HN.out, HX.out, show ((n + 1 : Nat) : Int) = (n : Int) + 1 by omega] at h9
        exact h9
      clear d0 d0a c1 c1a
      go_wp2_with fail
      refine CA2.out.mono ?_
      rintro e w6 ⟨rfl, h6, s6⟩
      have H6 := HI.out.1.added H5.out.1 H5.out.2.1 H5.out.2.2.1 h6 s6
      rw [HN.out] at H6
      obtain ⟨u0, u1, uf, v0, v1, hC6⟩ := H6
      have D6 : Hid (Dk w (fun z => (z = LB ∨ g = some z) ∨ z = wr.heap.size) w6 pd (dsk (moreL l s))) := h6
      have HC6 : Hid (Cel (fun z => w.heap.size ≤ z ∧ z ≠ LB) w6 2 (.slice a n c) n (rowC enC l.es) g) := hC6
      have HU : Hid (w6.cell? ⟨LB, 0, none⟩ = some (.int .i64 l.ep) ∧ w6.cell? ⟨LB, 1, none⟩ = some (.slice a n c) ∧ ∀ j, w6.frozen? ⟨LB, j, none⟩ = false) := ⟨u0, u1, uf⟩
      have HWR : Hid (w.heap.size ≤ wr.heap.size) := HI.out.1.dk.bel.size
      have CW : Hid (Cel (fun z => w.heap.size ≤ z ∧ z ≠ LB) (w6.alloc (.cells #[.int .i64 ((n : Int) + 1), .string X] 49)) 2 (.slice a n c) n (rowC enC l.es) g) := hC6.below (bel_al _ _)
      have SW : Hid (Src Try.prog 2 22 (.slice (some ⟨w6.heap.size, 0, none⟩) 1 1) 1 [.int .i64 ((n : Int) + 1), .string X] (w6.alloc (.cells #[.int .i64 ((n : Int) + 1), .string X] 49))) := src_entry w6 _ X
      clear h6 s6 hC6 CA2 H5 y0 y1 u0 uf
      have f1 := HU.out.2.2 1
      go_wp2_with (at_builtin; refine wpList_append_cel _ rfl _ _ 22 22 rfl 49 ti _ 2 24 Try.underlying22 hi1 hi2 hi3 hi4 rfl (O := fun z => w.heap.size ≤ z ∧ z ≠ LB) (.slice a n c) n _ g rfl CW.out _ 1 [.int .i64 ((n : Int) + 1), .string X] rfl SW.out (by unfold maxLen; omega) (by omega) ?_; intro a7 c7 w7 g7 hC7 hS7 hg7; have H7 : Hid (w7.cell? ⟨LB, 1, none⟩ = some (.slice a n c) ∧ w7.frozen? ⟨LB, 1, none⟩ = false ∧ Lk w (w7.setCell ⟨LB, 1, none⟩ (.slice a7 (n + 1) c7)) pd LB (moreL l s) a7 c7 g7) := back_next HI.out.1 HN.out HX.out (by omega) HWR.out HU.out HC6.out D6.out hC7 hS7 hg7; clear hC7 hS7 hg7 u1 v0 v1 f1; have u1 := H7.out.1; have f1 := H7.out.2.1)
      go_roundw
      case rel => exact ⟨k + 1, moreL l s, a7, c7, g7, by omega, by omega, by go_num, ⟨H7.out.2.2, by rw [more_len]; have := HI.out.2; omega⟩⟩
      case measure => simp [intOf]; omega
    · have HCC : Hid (Calls Try.prog 23 #[.pointer (some ⟨pd, 0, none⟩), .slice ka z kc] wr fun e w' => e = .returned (.tuple #[]) ∧ (∃ r', Dk w (fun z => z = LB ∨ g = some z) w' pd ⟨400000, 0, false, (jN.data.toList, (encL l).data.toList, (encL l).data.toList.length) :: r'⟩) ∧ Stay (fun k => ¬ (k = LB ∨ g = some k)) wr w') := CC.out l _ _ _ HI.out.1.dk
      have hor : ¬ k < p ∨ ¬ k < 20 := by
        rcases Nat.lt_or_ge k p with h | h
        · exact .inr (fun h2 => hlt ⟨h, h2⟩)
        · exact .inl (by omega)
      clear hlt CA CC c1
      have HOR : Hid (¬ k < p ∨ ¬ k < 20) := hor
      clear hor
      by_cases hkp : k < p
      · have hk20 : ¬ k < 20 := HOR.out.elim (fun h => absurd hkp h) id
        go_wp2_with fail
        refine HCC.out.mono ?_
        rintro e w8 ⟨rfl, ⟨r', h8⟩, s8⟩
        have H8 : Hid (w8.cell? ⟨LB, 0, none⟩ = some (.int .i64 l.ep) ∧ w8.cell? ⟨LB, 1, none⟩ = some (.slice a n c) ∧ Lie enC (fun z => False ∨ g = some z) w8 a l.es ∧ Dk w (fun z => z = LB ∨ g = some z) w8 pd ⟨400000, 0, false, (jN.data.toList, (encL l).data.toList, (encL l).data.toList.length) :: r'⟩) := by
          have hl := HI.out.1
          have kb := s8.block LB (World.block_lt_of_cell? _ _ hl.c0) (fun h => h (.inl rfl))
          refine ⟨(World.cell?_of_block (a := ⟨LB, 0, none⟩) kb).trans hl.c0, ?_, (Lie.of_g wideN hl.cel (fun _ => False)).stay s8 (fun z hz e => e (hz.elim (fun h => h.elim) .inr)), h8⟩
          rw [← HN.out]
          exact (World.cell?_of_block (a := ⟨LB, 1, none⟩) kb).trans hl.c1
        have CL2 : Hid (Calls Try.prog 17 #[.pointer (some ⟨pd, 0, none⟩), .string ⟨#[106]⟩] w8 fun e w' => LoadR w8.heap.size l true e w' ∧ Below w8.heap.size w8 w') := CL.out l r' _ _ _ HI.out.1.rt (by have := HI.out.2; omega) h8
        clear h8 s8 HCC CL
        go_wp2_with fail
        refine CL2.out.mono ?_
        rintro e w9 ⟨⟨a9, c9, g9, rfl, hC9⟩, b9⟩
        have L9 : Hid (Bl (fun k => w8.heap.size ≤ k ∧ k < w9.heap.size + 1) (w9.alloc (.cells #[.int .i64 l.ep, .slice a9 l.es.length c9] 24)) w9.heap.size l a9 c9) := Bl.of hC9 _ b9.size
        have b10 := bel_tr b9 (bel_al w9 (.cells #[.int .i64 l.ep, .slice a9 l.es.length c9] 24))
        have H9 : Hid ((w9.alloc (.cells #[.int .i64 l.ep, .slice a9 l.es.length c9] 24)).cell? ⟨LB, 0, none⟩ = some (.int .i64 l.ep) ∧ (w9.alloc (.cells #[.int .i64 l.ep, .slice a9 l.es.length c9] 24)).cell? ⟨LB, 1, none⟩ = some (.slice a n c) ∧ Lie enC (fun z => False ∨ g = some z) (w9.alloc (.cells #[.int .i64 l.ep, .slice a9 l.es.length c9] 24)) a l.es ∧ Below w.heap.size w (w9.alloc (.cells #[.int .i64 l.ep, .slice a9 l.es.length c9] 24))) := ⟨bel_cell b10 H8.out.1, bel_cell b10 H8.out.2.1, H8.out.2.2.1.below b10, bel_tr H8.out.2.2.2.bel b10⟩
        clear hC9 b9 b10 H8 CL2
        go_upto_region 17 with fail
        generalize w9.alloc (.cells #[.int .i64 l.ep, .slice a9 l.es.length c9] 24) = W9 at *
        generalize w9.heap.size = MB at *
        have x0 := L9.out.c0
        have x1 := L9.out.c1
        have y0 := H9.out.1
        have y1 := H9.out.2.1
        go_wp2_with fail
        refine (same_val H9.out.2.2.1 L9.out.row _ _ _ _ HN.out rfl _ _ true ⟨fun _ => rfl, fun _ => rfl⟩).mono ?_
        rintro e w10 ⟨rfl, b10⟩
        have B10 : Hid (Below w.heap.size w w10) := bel_tr H9.out.2.2.2 b10
        clear x0 x1 y0 y1 b10 H9 L9
        go_wp2
        go_ret
        exact ⟨rfl, B10.out⟩
      · go_wp2_with fail
        refine HCC.out.mono ?_
        rintro e w8 ⟨rfl, ⟨r', h8⟩, s8⟩
        have H8 : Hid (w8.cell? ⟨LB, 0, none⟩ = some (.int .i64 l.ep) ∧ w8.cell? ⟨LB, 1, none⟩ = some (.slice a n c) ∧ Lie enC (fun z => False ∨ g = some z) w8 a l.es ∧ Dk w (fun z => z = LB ∨ g = some z) w8 pd ⟨400000, 0, false, (jN.data.toList, (encL l).data.toList, (encL l).data.toList.length) :: r'⟩) := by
          have hl := HI.out.1
          have kb := s8.block LB (World.block_lt_of_cell? _ _ hl.c0) (fun h => h (.inl rfl))
          refine ⟨(World.cell?_of_block (a := ⟨LB, 0, none⟩) kb).trans hl.c0, ?_, (Lie.of_g wideN hl.cel (fun _ => False)).stay s8 (fun z hz e => e (hz.elim (fun h => h.elim) .inr)), h8⟩
          rw [← HN.out]
          exact (World.cell?_of_block (a := ⟨LB, 1, none⟩) kb).trans hl.c1
        have CL2 : Hid (Calls Try.prog 17 #[.pointer (some ⟨pd, 0, none⟩), .string ⟨#[106]⟩] w8 fun e w' => LoadR w8.heap.size l true e w' ∧ Below w8.heap.size w8 w') := CL.out l r' _ _ _ HI.out.1.rt (by have := HI.out.2; omega) h8
        clear h8 s8 HCC CL
        go_wp2_with fail
        refine CL2.out.mono ?_
        rintro e w9 ⟨⟨a9, c9, g9, rfl, hC9⟩, b9⟩
        have L9 : Hid (Bl (fun k => w8.heap.size ≤ k ∧ k < w9.heap.size + 1) (w9.alloc (.cells #[.int .i64 l.ep, .slice a9 l.es.length c9] 24)) w9.heap.size l a9 c9) := Bl.of hC9 _ b9.size
        have b10 := bel_tr b9 (bel_al w9 (.cells #[.int .i64 l.ep, .slice a9 l.es.length c9] 24))
        have H9 : Hid ((w9.alloc (.cells #[.int .i64 l.ep, .slice a9 l.es.length c9] 24)).cell? ⟨LB, 0, none⟩ = some (.int .i64 l.ep) ∧ (w9.alloc (.cells #[.int .i64 l.ep, .slice a9 l.es.length c9] 24)).cell? ⟨LB, 1, none⟩ = some (.slice a n c) ∧ Lie enC (fun z => False ∨ g = some z) (w9.alloc (.cells #[.int .i64 l.ep, .slice a9 l.es.length c9] 24)) a l.es ∧ Below w.heap.size w (w9.alloc (.cells #[.int .i64 l.ep, .slice a9 l.es.length c9] 24))) := ⟨bel_cell b10 H8.out.1, bel_cell b10 H8.out.2.1, H8.out.2.2.1.below b10, bel_tr H8.out.2.2.2.bel b10⟩
        clear hC9 b9 b10 H8 CL2
        go_upto_region 17 with fail
        generalize w9.alloc (.cells #[.int .i64 l.ep, .slice a9 l.es.length c9] 24) = W9 at *
        generalize w9.heap.size = MB at *
        have x0 := L9.out.c0
        have x1 := L9.out.c1
        have y0 := H9.out.1
        have y1 := H9.out.2.1
        go_wp2_with fail
        refine (same_val H9.out.2.2.1 L9.out.row _ _ _ _ HN.out rfl _ _ true ⟨fun _ => rfl, fun _ => rfl⟩).mono ?_
        rintro e w10 ⟨rfl, b10⟩
        have B10 : Hid (Below w.heap.size w w10) := bel_tr H9.out.2.2.2 b10
        clear x0 x1 y0 y1 b10 H9 L9
        go_wp2
        go_ret
        exact ⟨rfl, B10.out⟩

theorem walk (a0 : Int) (a1 : Option Addr) (b1 off1 cap1 : Nat) (ss1 : List ByteArray) (a2 : Option Addr) (b2 off2 cap2 : Nat) (ss2 : List ByteArray) (a3 : Option Addr) (b3 off3 cap3 : Nat) (ss3 : List Int) (w : World) (w0 : (Lit.int .i64 a0).wf = true) (w1 : Strs w a1 b1 off1 ss1) (w2 : Strs w a2 b2 off2 ss2) (w3 : Ints w .i64 a3 b3 off3 ss3 ∧ ss3.length ≤ maxLen ∧ ∀ n ∈ ss3, (Lit.int .i64 n).wf = true) :
    Calls Try.prog 5 #[.int .i64 a0, .slice a1 ss1.length cap1, .slice a2 ss2.length cap2, .slice a3 ss3.length cap3] w fun e w' => e = .returned (.bool true) ∧ Below w.heap.size w w' :=
  core a0 a1 b1 off1 cap1 _ ss1 a2 b2 off2 cap2 _ ss2 a3 b3 off3 cap3 _ ss3 w rfl rfl rfl w1 w2 (bounds_i64 w0) w3.2.1 w3.1 (fun k hk => bounds_i64 (w3.2.2 k hk))

set_option maxRecDepth 100000 in
theorem lifted (os : Os) (started : os.Started) (H : Type) (enc : TypeId × Value → H) :
    ReturnsInHanded {} Try.checked os 5 .any (Rows.logBackSpec.pre6 enc Try.prog Try.f5 Rows.logBackRow.domain false) (Rows.logBackSpec.post enc Try.prog Try.f5 false true false false) := by
  refine returnsInHanded_of_change (C := Try.checked) own started (by kernel_rfl) Try.func5
    (ChangeSpec.witness6 (enc := enc) (C := Try.checked) false ⟨#[], #[.int .i64 0, .slice none 0 0, .slice none 0 0, .slice none 0 0], []⟩ 8 (by kernel_rfl) (by kernel_rfl) (by kernel_rfl) (by kernel_rfl)) ?_
  intro W base args ds gs before hval0 hW hcnd _
  have hval : ∀ (j : Nat) t v, Try.f5.params[j]? = some t → args[j]? = some v → Value.okWide Try.prog W .any base t v := hval0
  have hW' := hW
  obtain ⟨p, q, hA0, hV, rfl, hfz, hnd⟩ := hW
  have hA : DataW.TrodAll enc Try.prog W 0 (fun _ => true) true Try.f5.params.toList args.toList ds p := hA0
  rw [Try.params5] at hA hval
  obtain ⟨v0, vs0, d0, ds0, p0, q0, hargs, rfl, rfl, h0, r0⟩ := trodAll_cons hA
  obtain ⟨v1, vs1, d1, ds1, p1, q1, rfl, rfl, rfl, h1, r1⟩ := trodAll_cons r0
  obtain ⟨v2, vs2, d2, ds2, p2, q2, rfl, rfl, rfl, h2, r2⟩ := trodAll_cons r1
  obtain ⟨v3, vs3, d3, ds3, p3, q3, rfl, rfl, rfl, h3, r3⟩ := trodAll_cons r2
  obtain ⟨rfl, rfl, rfl⟩ := trodAll_nil r3
  obtain rfl : args = #[v0, v1, v2, v3] := by cases args; simp_all
  obtain ⟨rfl, rfl⟩ := trodVars_none hV
  obtain ⟨a0, rfl, rfl, rfl, w0⟩ := open_int Try.underlying3 (hval 0 3 v0 rfl rfl) h0
  obtain ⟨a1, len1, cap1, rfl⟩ := okWide_slice Try.underlying44 (hval 1 44 v1 rfl rfl)
  have k1 := h1
  have lt1 : ∀ x ∈ p1, x.block < W.heap.size := by obtain ⟨m, hm⟩ := k1; exact DataW.trod_lt m _ _ _ hm
  obtain ⟨b1, off1, ss1, rfl, w1⟩ := open_strs Try.underlying44 Try.underlying9 (by kernel_rfl) h1
  obtain ⟨a2, len2, cap2, rfl⟩ := okWide_slice Try.underlying44 (hval 2 44 v2 rfl rfl)
  have k2 := h2
  have lt2 : ∀ x ∈ p2, x.block < W.heap.size := by obtain ⟨m, hm⟩ := k2; exact DataW.trod_lt m _ _ _ hm
  obtain ⟨b2, off2, ss2, rfl, w2⟩ := open_strs Try.underlying44 Try.underlying9 (by kernel_rfl) h2
  obtain ⟨a3, len3, cap3, rfl⟩ := okWide_slice Try.underlying45 (hval 3 45 v3 rfl rfl)
  have k3 := h3
  have lt3 : ∀ x ∈ p3, x.block < W.heap.size := by obtain ⟨m, hm⟩ := k3; exact DataW.trod_lt m _ _ _ hm
  obtain ⟨b3, off3, ss3, rfl, w3⟩ := open_nums Try.underlying45 Try.underlying3 (by kernel_rfl) h3
  clear hA0 hval0
  refine (walk a0 a1 b1 off1 cap1 ss1 a2 b2 off2 cap2 ss2 a3 b3 off3 cap3 ss3 W w0 w1 w2 w3).mono fun e W' ⟨he, bel⟩ => ?_
  subst he
  exact ⟨_, rfl, _, _, _, [], _, [], hW', trodAll_mk1 (shut_bool Try.underlying4 _), (trodAll_cons_mk (shut_int Try.underlying3 w0) (trodAll_cons_mk (Below.trod laidOut (by kernel_rfl) (of_decide_eq_true (by kernel_rfl)) k1 bel lt1) (trodAll_cons_mk (Below.trod laidOut (by kernel_rfl) (of_decide_eq_true (by kernel_rfl)) k2 bel lt2) (trodAll_cons_mk (Below.trod laidOut (by kernel_rfl) (of_decide_eq_true (by kernel_rfl)) k3 bel lt3) trodAll_mk0)))), rfl, bel.frame _, fun h => by cases h⟩

theorem over : Rows.logBackRow.holds Try.pinned (OpenSpec.ofChange Rows.logBackSpec) :=
  OpenClaim.holds_of_wide 5 Try.f5 rfl rfl rfl rfl rfl rfl rfl ⟨rfl, rfl, rfl, rfl, rfl⟩ rfl rfl rfl rfl rfl (by kernel_rfl) Try.func5 (by kernel_rfl)
    (of_decide_eq_true (by kernel_rfl)) (by unfold Func.isWrapper; first | (rw [if_pos (by decide +kernel)]; kernel_rfl) | (rw [if_neg (by decide +kernel)]; exact ⟨rfl, rfl⟩))
    (fun os started H enc _ => lifted os started H enc)
end Go.Proofs.Ytokldcifhjkmnaa.logBack

namespace Go.Proofs.Ytokldcifhjkmnaa
/-- The statement. -/
theorem logBack_holds : Rows.LogBackSaid := logBack.over
#print axioms logBack_holds
end Go.Proofs.Ytokldcifhjkmnaa
