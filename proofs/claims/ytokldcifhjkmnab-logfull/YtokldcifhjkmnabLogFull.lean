/- LogFull: for every two lists of texts: the statement's function returns true; nothing that was there is changed. No condition. -/
import Derived.Test.YtokldcifhjkmnabLogT
import Derived.Test.YtokldcifhjkmnabOpenAll
import Derived.Deep.Cut
namespace Go.Proofs.Ytokldcifhjkmnab.logFull
open Go.ChangeShapes Go.WideShapes Go.ChangeAt Go.RowKit Go.Proofs.Ytokldcifhjkmnab Go.Proofs.Ytokldcifhjkmnab.Lgg
set_option linter.unusedVariables false

theorem own : ownKnob Try.prog.godebug = none := by kernel_rfl

set_option maxRecDepth 100000 in
set_option maxHeartbeats 8000000 in
theorem core (da : Option Addr) (db doff dc m : Nat) (ss : List ByteArray) (ea : Option Addr) (eb eoff ec p : Nat) (ts : List ByteArray) (w : World) (hm : ss.length = m) (hp : ts.length = p) (h0 : Strs w da db doff ss) (h1 : Strs w ea eb eoff ts) :
    Calls Try.prog 4 #[.slice da m dc, .slice ea p ec] w fun e w' => e = .returned (.bool true) ∧ Below w.heap.size w w' := by
  obtain ⟨LA, hLA⟩ : ∃ l, ofL 1 ss = l := ⟨_, rfl⟩
  obtain ⟨LB, hLB⟩ : ∃ l, ofL 2 ts = l := ⟨_, rfl⟩
  have hRA : RtL LA := by rw [← hLA]; exact ofL_right 1 (by omega) ss
  have hRB : RtL LB := by rw [← hLB]; exact ofL_right 2 (by omega) ts
  have hsA : (encL LA).size ≤ 20000 := by rw [← hLA]; exact enc_small 1 (by omega) ss
  have hsB : (encL LB).size ≤ 20000 := by rw [← hLB]; exact enc_small 2 (by omega) ts
  have hpB := encL_pos LB
  have HOA : Hid (∀ W, Below w.heap.size w W → Calls Try.prog 6 #[.int .i64 1, .slice da m dc] W fun e w' => OfR W.heap.size LA e w' ∧ Below W.heap.size W w') := fun W hb => by rw [← hLA]; exact of_val 1 1 (by omega) rfl (h0.below hb) m dc hm
  have HOB : Hid (∀ W, Below w.heap.size w W → Calls Try.prog 6 #[.int .i64 2, .slice ea p ec] W fun e w' => OfR W.heap.size LB e w' ∧ Below W.heap.size W w') := fun W hb => by rw [← hLB]; exact of_val 2 2 (by omega) rfl (h1.below hb) p ec hp
  obtain ⟨EA, hEA⟩ : ∃ b, encL LA = b := ⟨_, rfl⟩
  obtain ⟨EB, hEB⟩ : ∃ b, encL LB = b := ⟨_, rfl⟩
  have HBA : Hid (∀ K W a c, Lie enC K W a LA.es → Calls Try.prog 7 #[.agg #[.int .i64 LA.ep, .slice a LA.es.length c]] W fun e w' => e = .returned (.tuple #[.string EA, .int .i64 0]) ∧ Below W.heap.size W w') := fun K W a c hl => bytes_yes hl LA.ep LA.es.length c rfl hRA EA hEA
  have HBB : Hid (∀ K W a c, Lie enC K W a LB.es → Calls Try.prog 7 #[.agg #[.int .i64 LB.ep, .slice a LB.es.length c]] W fun e w' => e = .returned (.tuple #[.string EB, .int .i64 0]) ∧ Below W.heap.size W w') := fun K W a c hl => bytes_yes hl LB.ep LB.es.length c rfl hRB EB hEB
  rw [hEA] at hsA
  rw [hEB] at hsB hpB
  obtain ⟨room, hroom⟩ : ∃ r : Int, (EA.size : Int) + (EB.size : Int) - 1 = r := ⟨_, rfl⟩
  have hl0 : EA.data.toList.length = EA.size := Wir.size_list _
  have HS1 := sto_new (s := jN) (b := encL LA) (room := room) j_ok (by rw [hEA]; omega) (by rw [hEA]; omega)
  have HS2 := sto_full (s := jN) (b := encL LB) (A := EA.data.toList) (a := EA.size) (room := room) j_ok (by rw [hEB]; omega) (by rw [hEB]; omega)
  rw [hEA] at HS1
  have CS1 : Hid (∀ K W pd a c, Dk w K W pd ⟨room, 0, false, []⟩ → Lie enC K W a LA.es → Calls Try.prog 14 #[.pointer (some ⟨pd, 0, none⟩), .string ⟨#[106]⟩, .agg #[.int .i64 LA.ep, .slice a LA.es.length c]] W fun e w' => e = .returned (.int .i64 0) ∧ Dk w K w' pd ⟨room, 0, false, [(jN.data.toList, EA.data.toList, EA.size)]⟩ ∧ Stay (fun k => ¬ K k) W w') := fun K W pd a c h hl => store_val h jN j_ok hl LA.ep LA.es.length c rfl hRA 0 (by rw [hEA]; exact HS1)
  have CS2 : Hid (∀ K W pd a c, Dk w K W pd ⟨room, 0, false, [(jN.data.toList, EA.data.toList, EA.size)]⟩ → Lie enC K W a LB.es → Calls Try.prog 14 #[.pointer (some ⟨pd, 0, none⟩), .string ⟨#[106]⟩, .agg #[.int .i64 LB.ep, .slice a LB.es.length c]] W fun e w' => e = .returned (.int .i64 8) ∧ Dk w K w' pd ⟨room, 0, false, [(jN.data.toList, EA.data.toList, EA.size)]⟩ ∧ Stay (fun k => ¬ K k) W w') := fun K W pd a c h hl => store_val h jN j_ok hl LB.ep LB.es.length c rfl hRB 8 HS2
  have CL : Hid (∀ K W pd, Dk w K W pd ⟨room, 0, false, [(jN.data.toList, EA.data.toList, EA.size)]⟩ → Calls Try.prog 11 #[.pointer (some ⟨pd, 0, none⟩), .string ⟨#[106]⟩] W fun e w' => LoadR W.heap.size LA true e w' ∧ Below W.heap.size W w') := fun K W pd h => by
    obtain ⟨r1, r2⟩ := rd_head (room := room) (f := 0) (n := jN.data.toList) (A := EA.data.toList) (a := EA.size) (r := [])
    rw [mk_list] at r2
    exact load_yes h jN j_small EA (by unfold maxLen; omega) r2 r1 LA ⟨#[]⟩ (by rw [← hEA]; exact parse_whole hRA) true rfl
  have CN : Hid (∀ W, Below w.heap.size w W → Calls Try.prog 8 #[.int .i64 room] W fun e w' => ∃ pd, e = .returned (.pointer (some ⟨pd, 0, none⟩)) ∧ Dk w (fun k => w.heap.size ≤ k ∧ k < W.heap.size) w' pd ⟨room, 0, false, []⟩ ∧ Below W.heap.size W w') := fun W hb => dk_new hb room room (by omega) (by omega)
  clear hm hp h0 h1 hLA hLB hRA hRB HS1 HS2 hl0 hEA hEB
  generalize (⟨room, 0, false, [(jN.data.toList, EA.data.toList, EA.size)]⟩ : DS) = D1 at CS1 CS2 CL
  have hst2 : ∀ (w : World) (a : Addr) (x : Option Addr) (n c : Nat) (m : Mode), (store a (.slice x n c) m).run Try.prog w = stored Try.prog w a (.slice x n c) m := fun w a x n c m => run_store (P := Try.prog) w a _ m rfl
  go_enter Try.func4, Try.ntmps4
  go_wp2_with fail
  refine (examples14_val w).mono ?_
  rintro e w2 ⟨rfl, b1⟩
  have B1 : Hid (Below w.heap.size w w2) := b1
  clear b1
  go_wp2_with fail
  refine (HOA.out _ B1.out).mono ?_
  rintro e w3 ⟨⟨a, c, g, rfl, hC⟩, b3⟩
  have A3 : Hid (Bl (fun k => w2.heap.size ≤ k ∧ k < w3.heap.size + 1) (w3.alloc (.cells #[.int .i64 LA.ep, .slice a LA.es.length c] 26)) w3.heap.size LA a c) := Bl.of hC _ b3.size
  have B3 : Hid (Below w2.heap.size w2 (w3.alloc (.cells #[.int .i64 LA.ep, .slice a LA.es.length c] 26))) := bel_tr b3 (bel_al _ _)
  have HZ3 : Hid ((w3.alloc (.cells #[.int .i64 LA.ep, .slice a LA.es.length c] 26)).heap.size = w3.heap.size + 1 ∧ w2.heap.size ≤ w3.heap.size) := ⟨by simp, b3.size⟩
  clear hC b3
  go_wp2_with fail
  generalize w3.alloc (.cells #[.int .i64 LA.ep, .slice a LA.es.length c] 26) = W3 at *
  generalize w3.heap.size = AB at *
  refine (HOB.out _ (bel_tr B1.out B3.out)).mono ?_
  rintro e w4 ⟨⟨a', c', g', rfl, hC⟩, b4⟩
  have HT : Hid (Bl (fun k => w.heap.size ≤ k) (w4.alloc (.cells #[.int .i64 LB.ep, .slice a' LB.es.length c'] 26)) AB LA a c ∧ Bl (fun k => w.heap.size ≤ k) (w4.alloc (.cells #[.int .i64 LB.ep, .slice a' LB.es.length c'] 26)) w4.heap.size LB a' c' ∧ Below w.heap.size w (w4.alloc (.cells #[.int .i64 LB.ep, .slice a' LB.es.length c'] 26))) := by
    have hal := bel_tr b4 (bel_al w4 (.cells #[.int .i64 LB.ep, .slice a' LB.es.length c'] 26))
    have hs := b4.size
    have hz := HZ3.out
    have hs1 := B1.out.size
    refine ⟨(A3.out.below hal).mono (fun k hk hl => by have := hk.1; omega), (Bl.of hC _ hs).mono (fun k hk hl => by have := hk.1; omega), bel_tr (bel_tr B1.out B3.out) hal⟩
  clear hC b4 A3 B3 HZ3 B1 HOA HOB
  go_upto_region 4 with fail
  generalize w4.alloc (.cells #[.int .i64 LB.ep, .slice a' LB.es.length c'] 26) = W4 at *
  generalize w4.heap.size = BB at *
  have x0 := HT.out.1.c0
  have x1 := HT.out.1.c1
  go_wp2_with fail
  refine (HBA.out _ _ _ _ HT.out.1.row).mono ?_
  rintro e w5 ⟨rfl, b5⟩
  have H5 : Hid (Bl (fun k => w.heap.size ≤ k) w5 AB LA a c ∧ Bl (fun k => w.heap.size ≤ k) w5 BB LB a' c' ∧ Below w.heap.size w w5) := ⟨HT.out.1.below b5, HT.out.2.1.below b5, bel_tr HT.out.2.2 b5⟩
  clear x0 x1 HT b5 HBA
  have x0 := H5.out.2.1.c0
  have x1 := H5.out.2.1.c1
  go_wp2_with fail
  refine (HBB.out _ _ _ _ H5.out.2.1.row).mono ?_
  rintro e w6 ⟨rfl, b6⟩
  have H6 : Hid (Bl (fun k => w.heap.size ≤ k) w6 AB LA a c ∧ Bl (fun k => w.heap.size ≤ k) w6 BB LB a' c' ∧ Below w.heap.size w w6) := ⟨H5.out.1.below b6, H5.out.2.1.below b6, bel_tr H5.out.2.2 b6⟩
  clear x0 x1 H5 b6 HBB
  go_wp2_with fail
  refine (CN.out _ H6.out.2.2).mono ?_
  rintro e w7 ⟨pd, rfl, h7, b7⟩
  have H7 : Hid (Bl (fun k => w.heap.size ≤ k ∧ k < w6.heap.size) w7 AB LA a c ∧ Bl (fun k => w.heap.size ≤ k ∧ k < w6.heap.size) w7 BB LB a' c' ∧ Dk w (fun k => w.heap.size ≤ k ∧ k < w6.heap.size) w7 pd ⟨room, 0, false, []⟩) := ⟨(H6.out.1.mono (fun k hk hl => ⟨hk, hl⟩)).below b7, (H6.out.2.1.mono (fun k hk hl => ⟨hk, hl⟩)).below b7, h7⟩
  clear h7 b7 H6 CN
  by_cases hgt : (EA.size : Int) > (EB.size : Int)
  · go_wp2
    go_ret
    exact ⟨rfl, H7.out.2.2.bel⟩
  · have x0 := H7.out.1.c0
    have x1 := H7.out.1.c1
    go_wp2_with fail
    refine (CS1.out _ _ _ _ _ H7.out.2.2 H7.out.1.row).mono ?_
    rintro e w8 ⟨rfl, h8, s8⟩
    have H8 : Hid (Bl (fun k => w.heap.size ≤ k ∧ k < w6.heap.size) w8 AB LA a c ∧ Bl (fun k => w.heap.size ≤ k ∧ k < w6.heap.size) w8 BB LB a' c' ∧ Dk w (fun k => w.heap.size ≤ k ∧ k < w6.heap.size) w8 pd D1) := ⟨H7.out.1.kept s8, H7.out.2.1.kept s8, h8⟩
    clear x0 x1 H7 h8 s8 CS1
    have x0 := H8.out.2.1.c0
    have x1 := H8.out.2.1.c1
    go_wp2_with fail
    refine (CS2.out _ _ _ _ _ H8.out.2.2 H8.out.2.1.row).mono ?_
    rintro e w9 ⟨rfl, h9, s9⟩
    have H9 : Hid (Bl (fun k => w.heap.size ≤ k ∧ k < w6.heap.size) w9 AB LA a c ∧ Dk w (fun k => w.heap.size ≤ k ∧ k < w6.heap.size) w9 pd D1) := ⟨H8.out.1.kept s9, h9⟩
    clear x0 x1 H8 h9 s9 CS2
    go_wp2_with fail
    refine (CL.out _ _ _ H9.out.2).mono ?_
    rintro e w10 ⟨⟨a9, c9, g9, rfl, hC9⟩, b9⟩
    have L9 : Hid (Bl (fun k => w9.heap.size ≤ k ∧ k < w10.heap.size + 1) (w10.alloc (.cells #[.int .i64 LA.ep, .slice a9 LA.es.length c9] 26)) w10.heap.size LA a9 c9) := Bl.of hC9 _ b9.size
    have b10 := bel_tr b9 (bel_al w10 (.cells #[.int .i64 LA.ep, .slice a9 LA.es.length c9] 26))
    have H10 : Hid (Bl (fun k => w.heap.size ≤ k ∧ k < w6.heap.size) (w10.alloc (.cells #[.int .i64 LA.ep, .slice a9 LA.es.length c9] 26)) AB LA a c ∧ Below w.heap.size w (w10.alloc (.cells #[.int .i64 LA.ep, .slice a9 LA.es.length c9] 26))) := ⟨H9.out.1.below b10, bel_tr H9.out.2.bel b10⟩
    clear hC9 b9 b10 H9 CL
    go_upto_region 12 with fail
    generalize w10.alloc (.cells #[.int .i64 LA.ep, .slice a9 LA.es.length c9] 26) = W9 at *
    generalize w10.heap.size = MB at *
    have x0 := L9.out.c0
    have x1 := L9.out.c1
    have y0 := H10.out.1.c0
    have y1 := H10.out.1.c1
    go_wp2_with fail
    refine (same_val L9.out.row H10.out.1.row _ _ _ _ rfl rfl _ _ true ⟨fun _ => rfl, fun _ => rfl⟩).mono ?_
    rintro e w11 ⟨rfl, b11⟩
    have B11 : Hid (Below w.heap.size w w11) := bel_tr H10.out.2 b11
    clear x0 x1 y0 y1 b11 H10 L9
    go_wp2
    go_ret
    exact ⟨rfl, B11.out⟩

theorem walk (a0 : Option Addr) (b0 off0 cap0 : Nat) (ss0 : List ByteArray) (a1 : Option Addr) (b1 off1 cap1 : Nat) (ss1 : List ByteArray) (w : World) (w0 : Strs w a0 b0 off0 ss0) (w1 : Strs w a1 b1 off1 ss1) :
    Calls Try.prog 4 #[.slice a0 ss0.length cap0, .slice a1 ss1.length cap1] w fun e w' => e = .returned (.bool true) ∧ Below w.heap.size w w' :=
  core a0 b0 off0 cap0 _ ss0 a1 b1 off1 cap1 _ ss1 w rfl rfl w0 w1

set_option maxRecDepth 100000 in
theorem lifted (os : Os) (started : os.Started) (H : Type) (enc : TypeId × Value → H) :
    ReturnsInHanded {} Try.checked os 4 .any (Rows.logFullSpec.pre6 enc Try.prog Try.f4 Rows.logFullRow.domain false) (Rows.logFullSpec.post enc Try.prog Try.f4 false true false false) := by
  refine returnsInHanded_of_change (C := Try.checked) own started (by kernel_rfl) Try.func4
    (ChangeSpec.witness6 (enc := enc) (C := Try.checked) false ⟨#[], #[.slice none 0 0, .slice none 0 0], []⟩ 8 (by kernel_rfl) (by kernel_rfl) (by kernel_rfl) (by kernel_rfl)) ?_
  intro W base args ds gs before hval0 hW hcnd _
  have hval : ∀ (j : Nat) t v, Try.f4.params[j]? = some t → args[j]? = some v → Value.okWide Try.prog W .any base t v := hval0
  have hW' := hW
  obtain ⟨p, q, hA0, hV, rfl, hfz, hnd⟩ := hW
  have hA : DataW.TrodAll enc Try.prog W 0 (fun _ => true) true Try.f4.params.toList args.toList ds p := hA0
  rw [Try.params4] at hA hval
  obtain ⟨v0, vs0, d0, ds0, p0, q0, hargs, rfl, rfl, h0, r0⟩ := trodAll_cons hA
  obtain ⟨v1, vs1, d1, ds1, p1, q1, rfl, rfl, rfl, h1, r1⟩ := trodAll_cons r0
  obtain ⟨rfl, rfl, rfl⟩ := trodAll_nil r1
  obtain rfl : args = #[v0, v1] := by cases args; simp_all
  obtain ⟨rfl, rfl⟩ := trodVars_none hV
  obtain ⟨a0, len0, cap0, rfl⟩ := okWide_slice Try.underlying22 (hval 0 22 v0 rfl rfl)
  have k0 := h0
  have lt0 : ∀ x ∈ p0, x.block < W.heap.size := by obtain ⟨m, hm⟩ := k0; exact DataW.trod_lt m _ _ _ hm
  obtain ⟨b0, off0, ss0, rfl, w0⟩ := open_strs Try.underlying22 Try.underlying9 (by kernel_rfl) h0
  obtain ⟨a1, len1, cap1, rfl⟩ := okWide_slice Try.underlying22 (hval 1 22 v1 rfl rfl)
  have k1 := h1
  have lt1 : ∀ x ∈ p1, x.block < W.heap.size := by obtain ⟨m, hm⟩ := k1; exact DataW.trod_lt m _ _ _ hm
  obtain ⟨b1, off1, ss1, rfl, w1⟩ := open_strs Try.underlying22 Try.underlying9 (by kernel_rfl) h1
  clear hA0 hval0
  refine (walk a0 b0 off0 cap0 ss0 a1 b1 off1 cap1 ss1 W w0 w1).mono fun e W' ⟨he, bel⟩ => ?_
  subst he
  exact ⟨_, rfl, _, _, _, [], _, [], hW', trodAll_mk1 (shut_bool Try.underlying4 _), (trodAll_cons_mk (Below.trod laidOut (by kernel_rfl) (of_decide_eq_true (by kernel_rfl)) k0 bel lt0) (trodAll_cons_mk (Below.trod laidOut (by kernel_rfl) (of_decide_eq_true (by kernel_rfl)) k1 bel lt1) trodAll_mk0)), rfl, bel.frame _, fun h => by cases h⟩

theorem over : Rows.logFullRow.holds Try.pinned (OpenSpec.ofChange Rows.logFullSpec) :=
  OpenClaim.holds_of_wide 4 Try.f4 rfl rfl rfl rfl rfl rfl rfl ⟨rfl, rfl, rfl, rfl, rfl⟩ rfl rfl rfl rfl rfl (by kernel_rfl) Try.func4 (by kernel_rfl)
    (of_decide_eq_true (by kernel_rfl)) (by unfold Func.isWrapper; first | (rw [if_pos (by decide +kernel)]; kernel_rfl) | (rw [if_neg (by decide +kernel)]; exact ⟨rfl, rfl⟩))
    (fun os started H enc _ => lifted os started H enc)
end Go.Proofs.Ytokldcifhjkmnab.logFull

namespace Go.Proofs.Ytokldcifhjkmnab
/-- The statement. -/
theorem logFull_holds : Rows.LogFullSaid := logFull.over
#print axioms logFull_holds
end Go.Proofs.Ytokldcifhjkmnab

