/- DiskPlays: for every room and every list of deeds: the statement's function returns true; nothing that was there is changed. No condition but the reach of what is handed in. -/
import Derived.Test.YtlgfhmedenlbcaaPlayDoes
import Derived.Test.YtlgfhmedenlbcaaDiskSize
import Derived.Laws.Cover2
namespace Go.Proofs.Ytlgfhmedenlbcaa.diskPlays
open Go.ChangeShapes Go.WideShapes Go.ChangeAt Go.RowKit
open Go.ChangeMaps (open_string shut_string)
set_option linter.unusedVariables false

theorem own : ownKnob Try.prog.godebug = none := by kernel_rfl

theorem list_both {w0 w : World} {pf : Option Nat} {B : Option Obj} {pd px : Nat} {ds : DS} (h : Half w0 pf B w pd px ds ds) (L : Nat) (hL : (listN ds).length = L) :
    Calls Try.prog 14 #[.pointer (some ⟨pd, 0, none⟩)] w fun e w' => ∃ a c b, e = .returned (.slice a L c) ∧ (0 < L → a = some ⟨b, 0, none⟩) ∧ (∀ j (hj : j < ((listN ds).map ba).length), w'.cell? ⟨b, j, none⟩ = some (.string ((listN ds).map ba)[j])) ∧ Half w0 pf B w' pd px ds ds := by
  obtain ⟨O1, O2, h1, ⟨a, c, g, h2⟩, hf, h3, h4, h5, h6, hp⟩ := h.out
  refine (list_val h1).mono fun e w' ⟨v, e1, e2, _, e3⟩ => ?_
  obtain ⟨_, a, c, b, hv, hb, hcell⟩ := own_names e2
  refine ⟨a, c, b, by rw [e1, hv, hL], fun hp => (hb (by omega)).1, fun j hj => ?_, h.below e3⟩
  have hj2 : j < (listN ds).length := by simpa using hj
  rw [hcell j hj2]
  simp [ba]

theorem list_ref {w0 w : World} {pf : Option Nat} {B : Option Obj} {pd px : Nat} {ds : DS} (h : Half w0 pf B w pd px ds ds) (L : Nat) (hL : (listN ds).length = L) :
    Calls Try.prog 15 #[.pointer (some ⟨px, 0, none⟩)] w fun e w' => ∃ a c b, e = .returned (.slice a L c) ∧ (0 < L → a = some ⟨b, 0, none⟩) ∧ (∀ j (hj : j < ((listN ds).map ba).length), w'.cell? ⟨b, j, none⟩ = some (.string ((listN ds).map ba)[j])) ∧ Below w.heap.size w w' := by
  obtain ⟨O1, O2, h1, ⟨a, c, g, h2⟩, hf, h3, h4, h5, h6, hp⟩ := h.out
  obtain ⟨room, fuse, down, S⟩ := ds
  have eL : (if down then [] else S).length = L := by rw [← hL]; cases down <;> simp [listN]
  have eN : namCs (if down then [] else S) = ((listN ⟨room, fuse, down, S⟩).map ba).map .string := by cases down <;> simp [listN, namCs]
  refine (refList_val h2 hf L eL).mono fun e w' ⟨oa, oc, og, e1, e2, e3⟩ => ?_
  rw [eN] at e2
  refine ⟨oa, oc, og.getD 0, e1, fun hp => ?_, fun j hj => ?_, e3⟩
  · obtain ⟨k, rfl, rfl⟩ := e2.at hp
    rfl
  · have hjl : 0 < L := by rw [← hL]; have : j < (listN ⟨room, fuse, down, S⟩).length := by simpa using hj
                           omega
    obtain ⟨k, rfl, rfl⟩ := e2.at hjl
    have := e2.cell j (by simpa using hj)
    rw [Option.getD_some, this]
    simp

section
variable {w0 w : World} {pf : Option Nat} {B : Option Obj} {pd px : Nat} {ds : DS}
theorem d_used (h : Half w0 pf B w pd px ds ds) (n : Nat) (hn : usedN ds = n) :
    Calls Try.prog 16 #[.pointer (some ⟨pd, 0, none⟩)] w fun e w' => e = .returned (.int .i64 n) ∧ Below w.heap.size w w' := by
  obtain ⟨O1, O2, h1, ⟨a, c, g, h2⟩, hf, h3, h4, h5, h6, hp⟩ := h.out
  exact used_val h1 n hn
theorem x_used (h : Half w0 pf B w pd px ds ds) (n : Nat) (hn : usedN ds = n) :
    Calls Try.prog 17 #[.pointer (some ⟨px, 0, none⟩)] w fun e w' => e = .returned (.int .i64 n) ∧ Below w.heap.size w w' := by
  obtain ⟨O1, O2, h1, ⟨a, c, g, h2⟩, hf, h3, h4, h5, h6, hp⟩ := h.out
  exact (refUsed_val h2 hf n hn).mono fun e w' ⟨e1, e2⟩ => ⟨e1, by rw [e2]; exact Below.refl _ _⟩
theorem d_down (h : Half w0 pf B w pd px ds ds) (v : Bool) (hv : ds.down = v) :
    Calls Try.prog 18 #[.pointer (some ⟨pd, 0, none⟩)] w fun e w' => e = .returned (.bool v) ∧ Below w.heap.size w w' := by
  obtain ⟨O1, O2, h1, ⟨a, c, g, h2⟩, hf, h3, h4, h5, h6, hp⟩ := h.out
  exact (down_val h1 v hv).mono fun e w' ⟨e1, e2⟩ => ⟨e1, by rw [e2]; exact Below.refl _ _⟩
theorem x_off (h : Half w0 pf B w pd px ds ds) (v : Bool) (hv : ds.down = v) : w.cell? ⟨px, 3, none⟩ = some (.bool v) := by
  obtain ⟨O1, O2, h1, ⟨a, c, g, h2⟩, hf, h3, h4, h5, h6, hp⟩ := h.out
  rw [← hv]; exact h2.c3
end

set_option maxRecDepth 100000 in
set_option maxHeartbeats 4000000 in
theorem walk_b (a0 : Int) (a1 : Option Addr) (b1 off1 cap1 n1 : Nat) (us : List DeedV) (w : World) (hr : -9223372036854775808 ≤ a0 ∧ a0 ≤ 9223372036854775807) (hn1 : us.length = n1) (hU : Deeds w a1 b1 off1 us) (hz : ∀ u ∈ us, u.d.size ≤ 140737488355328) :
    Calls Try.prog 3 #[.int .i64 a0, .slice a1 n1 cap1] w fun e w' => e = .returned (.bool true) ∧ Below w.heap.size w w' := by
  have hx1 : n1 ≤ 9223372036854775807 := by have := hU.len; unfold maxLen at this; omega
  have HN : Hid _ := hn1
  have HU : Hid _ := hU
  have HZ : Hid _ := hz
  clear hn1 hU hz
  go_enter Try.func3, Try.ntmps3
  go_wp2_with fail
  refine (examples_val _).mono ?_
  rintro e w1 ⟨rfl, bb1⟩
  have B1 : Hid _ := bb1
  clear bb1
  go_wp2_with fail
  refine (new_val a0 _ _ (by omega) rfl).mono ?_
  rintro e w2 ⟨pd, rfl, hd2, bb2⟩
  have D2 : Hid _ := hd2
  have B2 : Hid _ := bb2
  clear hd2 bb2
  go_wp2_with fail
  refine (refNew_val a0 _ _ (by omega) rfl).mono ?_
  rintro e w3 ⟨px, rfl, hx3, bb3⟩
  have hH : Half w none none w3 pd px ⟨max a0 0, 0, false, []⟩ ⟨max a0 0, 0, false, []⟩ := by
    have D2o : DAt (fun k => w1.heap.size ≤ k ∧ k < w2.heap.size) w2 pd ⟨max a0 0, 0, false, []⟩ := D2.out
    have B1o : Below w.heap.size w w1 := B1.out
    have B2o : Below w1.heap.size w1 w2 := B2.out
    have s1 := B1o.size
    have s2 := B2o.size
    exact ⟨_, _, D2o.below bb3, ⟨none, 0, none, hx3⟩, fit_of D2o, fun k hk e => by omega, fun k hk => by omega, fun k hk => by omega, bel_tr (bel_tr B1o B2o) bb3, fun k hk => by cases hk⟩
  have HH : Hid (Half w none none w3 pd px ⟨max a0 0, 0, false, []⟩ ⟨max a0 0, 0, false, []⟩) := hH
  clear hH hx3 bb3 D2 B1 B2
  go_wp2
  go_loopw [8] (fun vi wr => ∃ (k : Nat) (ds : DS) (pf : Option Nat) (B : Option Obj), k ≤ n1 ∧ k ≤ 60 ∧ vi = .int .i64 k ∧ Half w pf B wr pd px ds ds) (fun vi _ => 60 - (intOf vi).toNat)
  case atStart => exact ⟨0, _, none, none, by omega, by omega, rfl, HH.out⟩
  case round =>
    obtain ⟨k, ds, pf, B, hkn, hk60, rfl, hO⟩ := hrel
    have HO : Hid (Half w pf B wr pd px ds ds) := hO
    clear hO HH
    by_cases hlt : k < n1 ∧ k < 60
    · obtain ⟨hlt0, hlt1⟩ := hlt
      have hk0 : k < us.length := by rw [HN.out]; exact hlt0
      obtain rfl := HU.out.addr (by omega)
      have hb1 : b1 < w.heap.size := World.block_lt_of_cell? _ _ (HU.out.cell k hk0).1
      have hbel := HO.out.bel
      have hcl : ∀ j, wr.cell? ⟨b1, j, none⟩ = w.cell? ⟨b1, j, none⟩ := fun j => World.cell?_of_block (a := ⟨b1, j, none⟩) (hbel.block b1 hb1)
      obtain ⟨q0, q1, q2, q3, q4, q5⟩ := HU.out.cell k hk0
      have hok := HU.out.ok k hk0
      have hzk := HZ.out _ (List.getElem_mem hk0)
      generalize us[k] = u at *
      have g0 := (hcl _).trans q0
      have g1 := (hcl _).trans q1
      have g2 := (hcl _).trans q2
      have g3 := (hcl _).trans q3
      have g4 := (hcl _).trans q4
      have g5 := (hcl _).trans q5
      simp only [Nat.add_zero] at g0 g1 g2 g3 g4 g5
      clear q0 q1 q2 q3 q4 q5 hcl
      have HOK : Hid (DeedOk w u) := hok
      have HZK : Hid (u.d.size ≤ 140737488355328) := hzk
      obtain ⟨m, hm⟩ : ∃ m, u.ks.length = m := ⟨_, rfl⟩
      have HM : Hid (u.ks.length = m) := hm
      rw [hm] at g5
      clear hm hok hzk hbel hk0
      go_wp2_with fail
      refine (does_val HO.out u HOK.out HZK.out m HM.out).mono ?_
      rintro e w5 ⟨rfl, ds5, pf5, B5, h5⟩
      obtain ⟨L, hL⟩ : ∃ L, (listN ds5).length = L := ⟨_, rfl⟩
      have HL : Hid ((listN ds5).length = L) := hL
      have H5 : Hid (Half w pf5 B5 w5 pd px ds5 ds5) := h5
      clear h5 hL g0 g1 g2 g3 g4 g5
      go_wp2_with fail
      refine (list_both H5.out L HL.out).mono ?_
      rintro e w6 ⟨la, lc, lb, rfl, hla, hlr, h6⟩
      have H6 : Hid (Half w pf5 B5 w6 pd px ds5 ds5) := h6
      have HLA : Hid _ := hla
      have HLR : Hid _ := hlr
      clear h6 hla hlr
      go_wp2_with fail
      refine (list_ref H6.out L HL.out).mono ?_
      rintro e w7 ⟨xa, xc, xb, rfl, hxa, hxr, b7⟩
      have hL20 : L ≤ 20 := by
        rw [← HL.out]
        obtain ⟨O1, O2, h1, _, hf, _⟩ := H6.out.out
        unfold listN
        split
        · simp
        · rw [List.length_map]; exact hf.most
      have HT : Hid _ := fun (_ : Unit) => texts_val la lb lc xa xb xc L ((listN ds5).map ba) w7 (by rw [List.length_map]; exact HL.out) hL20 HLA.out hxa (fun j hj => by have := HLR.out j hj; exact (b7.cell (p := ⟨lb, j, none⟩) (World.block_lt_of_cell? _ _ this)).trans this) hxr
      have H7 : Hid (Half w pf5 B5 w7 pd px ds5 ds5) := H6.out.below b7
      clear hxa hxr b7 HLA HLR
      go_wp2_with fail
      refine (HT.out ()).mono ?_
      rintro e w8 ⟨rfl, d8, hw8⟩
      have h8 : Half w pf5 B5 w8 pd px ds5 ds5 := by rw [hw8]; exact H7.out.below (below_drewN (Below.refl _ _) d8)
      have H8 : Hid (Half w pf5 B5 w8 pd px ds5 ds5) := h8
      clear hw8 HT
      obtain ⟨U, hUU⟩ : ∃ U, usedN ds5 = U := ⟨_, rfl⟩
      obtain ⟨dn, hdn⟩ : ∃ dn, ds5.down = dn := ⟨_, rfl⟩
      have CU : Hid _ := fun w' (hb : Below w8.heap.size w8 w') => d_used (h8.below hb) U hUU
      have CX : Hid _ := fun w' (hb : Below w8.heap.size w8 w') => x_used (h8.below hb) U hUU
      have CD : Hid _ := fun w' (hb : Below w8.heap.size w8 w') => d_down (h8.below hb) dn hdn
      have c3 := x_off h8 dn hdn
      have hc3 : ∀ d os, (Sort.grow (redrawn w8 d) os).cell? ⟨px, 3, none⟩ = some (.bool dn) := fun d os => cell_regrown c3 d os
      clear h8 hUU hdn
      go_wp2
      refine wp_region_quiet_below (by kernel_rfl) (by kernel_rfl) ?_
      repeat (first
        | go_big_quiet_step (first | (go_at_call 16; exact Calls.regrown_of (CU.out _ (below_regrown _ _ _))) | (go_at_call 17; exact Calls.regrown_of (CX.out _ (below_regrown _ _ _))) | (go_at_call 18; exact Calls.regrown_of (CD.out _ (below_regrown _ _ _))))
        | quiet_step (first | (go_at_call 16; exact Calls.regrown_of (CU.out _ (below_regrown _ _ _))) | (go_at_call 17; exact Calls.regrown_of (CX.out _ (below_regrown _ _ _))) | (go_at_call 18; exact Calls.regrown_of (CD.out _ (below_regrown _ _ _)))))
      refine wpQuiet_nil ?_
      intro _ hw'
      obtain ⟨⟨dq, osq⟩, hw''⟩ := hw'
      subst hw''
      have H9 : Hid (Half w pf5 B5 (Sort.grow (redrawn w8 dq) osq) pd px ds5 ds5) := H8.out.below (below_regrown w8 dq osq)
      generalize Sort.grow (redrawn w8 dq) osq = w9 at *
      clear hc3 c3 CU CX CD
      go_wp2
      go_roundw
      case rel => exact ⟨k + 1, ds5, pf5, B5, by omega, by omega, by go_num, H9.out⟩
      case measure => simp [intOf]; omega
    · have hex : n1 ≤ k ∨ (k < n1 ∧ 60 ≤ k) := by omega
      clear hlt
      rcases hex with c1 | ⟨c1, c2⟩
      all_goals
        go_wp2
        go_ret
        exact ⟨rfl, HO.out.bel⟩

theorem walk (a0 : Int) (a1 : Option Addr) (b1 off1 cap1 : Nat) (us1 : List DeedV) (w : World) (w0 : (Lit.int .i64 a0).wf = true) (w1 : Deeds w a1 b1 off1 us1) (z1 : ∀ u ∈ us1, u.d.size ≤ 140737488355328) :
    Calls Try.prog 3 #[.int .i64 a0, .slice a1 us1.length cap1] w fun e w' => e = .returned (.bool true) ∧ Below w.heap.size w w' :=
  walk_b a0 a1 b1 off1 cap1 _ us1 w (bounds_i64 w0) rfl w1 z1

set_option maxRecDepth 100000 in
theorem lifted (os : Os) (started : os.Started) (H : Type) (enc : TypeId × Value → H) :
    ReturnsInHanded {} Try.checked os 3 .any (Rows.diskPlaysSpec.pre6 enc Try.prog Try.f3 Rows.diskPlaysRow.domain false) (Rows.diskPlaysSpec.post enc Try.prog Try.f3 false true false false) := by
  refine returnsInHanded_of_change_sized (C := Try.checked) own started (by kernel_rfl) Try.func3
    (ChangeSpec.witness6 (enc := enc) (C := Try.checked) false ⟨#[], #[.int .i64 0, .slice none 0 0], []⟩ 8 (by kernel_rfl) (by kernel_rfl) (by kernel_rfl) (by kernel_rfl)) ?_
  intro W base args ds gs before hval0 hW hcnd hsz0 _
  have hval : ∀ (j : Nat) t v, Try.f3.params[j]? = some t → args[j]? = some v → Value.okWide Try.prog W .any base t v := hval0
  have hW' := hW
  obtain ⟨p, q, hA0, hV, rfl, hfz, hnd⟩ := hW
  have hA : DataW.TrodAll enc Try.prog W 0 (fun _ => true) true Try.f3.params.toList args.toList ds p := hA0
  have hsz : (DataW.weightsEach Try.prog (Try.f3.params.toList ++ Rows.diskPlaysSpec.plain.varTypes Try.prog) (ds ++ gs)).all (· ≤ reachBytes) = true := hsz0
  rw [Try.params3] at hA hval hsz
  obtain ⟨v0, vs0, d0, ds0, p0, q0, hargs, rfl, rfl, h0, r0⟩ := trodAll_cons hA
  obtain ⟨v1, vs1, d1, ds1, p1, q1, rfl, rfl, rfl, h1, r1⟩ := trodAll_cons r0
  obtain ⟨rfl, rfl, rfl⟩ := trodAll_nil r1
  obtain rfl : args = #[v0, v1] := by cases args; simp_all
  obtain ⟨rfl, rfl⟩ := trodVars_none hV
  obtain ⟨a0, rfl, rfl, rfl, w0⟩ := open_int Try.underlying3 (hval 0 3 v0 rfl rfl) h0
  obtain ⟨a1, len1, cap1, rfl⟩ := okWide_slice Try.underlying22 (hval 1 22 v1 rfl rfl)
  have k1 := h1
  have lt1 : ∀ x ∈ p1, x.block < W.heap.size := by obtain ⟨m, hm⟩ := k1; exact DataW.trod_lt m _ _ _ hm
  obtain ⟨b1, off1, ss1, rfl, w1⟩ := open_deeds h1
  have z1 : ∀ u ∈ ss1, u.d.size ≤ 140737488355328 := deeds_all k1 w1 (fun x hx => by simpa using List.all_eq_true.1 hsz x (DataW.weights_mem_each (j := 1) (t := 22) rfl rfl x hx))
  clear hA0 hval0
  refine (walk a0 a1 b1 off1 cap1 ss1 W w0 w1 z1).mono fun e W' ⟨he, bel⟩ => ?_
  subst he
  exact ⟨_, rfl, _, _, _, [], _, [], hW', trodAll_mk1 (shut_bool Try.underlying4 _), (trodAll_cons_mk (shut_int Try.underlying3 w0) (trodAll_cons_mk (Below.trod laidOut (by kernel_rfl) (of_decide_eq_true (by kernel_rfl)) k1 bel lt1) trodAll_mk0)), rfl, bel.frame _, fun h => by cases h⟩

theorem over : Rows.diskPlaysRow.holds Try.pinned (OpenSpec.ofChange Rows.diskPlaysSpec) :=
  OpenClaim.holds_of_wide 3 Try.f3 rfl rfl rfl rfl rfl rfl rfl ⟨rfl, rfl, rfl, rfl, rfl⟩ rfl rfl rfl rfl rfl (by kernel_rfl) Try.func3 (by kernel_rfl)
    (of_decide_eq_true (by kernel_rfl)) (by unfold Func.isWrapper; first | (rw [if_pos (by decide +kernel)]; kernel_rfl) | (rw [if_neg (by decide +kernel)]; exact ⟨rfl, rfl⟩))
    (fun os started H enc _ => lifted os started H enc)
end Go.Proofs.Ytlgfhmedenlbcaa.diskPlays

namespace Go.Proofs.Ytlgfhmedenlbcaa
/-- The statement. -/
theorem diskPlays_holds : Rows.DiskPlaysSaid := diskPlays.over
#print axioms diskPlays_holds
end Go.Proofs.Ytlgfhmedenlbcaa
