/- QuotaNone: for every list of nodes and every number: the statement's function returns true; nothing that was there is changed. No condition. -/
import Derived.Test.YtlfehfajaelmlaaQuotaC
import Derived.Test.YtlfehfajaelmlaaTreeOpen
namespace Go.Proofs.Ytlfehfajaelmlaa.quotaNone
open Go.ChangeShapes Go.WideShapes Go.ChangeAt Go.RowKit
set_option linter.unusedVariables false

theorem own : ownKnob Try.prog.godebug = none := by kernel_rfl

def keepN (a : Int) : Nat := if a < 0 then (-(a + 1)).toNat else a.toNat

theorem quota_un {ps : List NR} {N : Nat} : ∀ x ∈ ((ps.take N).map (fun x => unQ x (-1))).map (·.1), x.quota = -1 := fun x hx => by
  obtain ⟨y, hy, rfl⟩ := List.mem_map.1 hx
  obtain ⟨z, hz, rfl⟩ := List.mem_map.1 hy
  rfl

set_option maxRecDepth 100000 in
set_option maxHeartbeats 4000000 in
theorem core {a : Option Addr} {b0 off n c : Nat} {ps : List NR} (at' : Int) (hat : -9223372036854775808 ≤ at' ∧ at' ≤ 9223372036854775807) (w : World) (h : Nds w a b0 off ps) (hpl : ps.length = n) :
    Calls Try.prog 6 #[.slice a n c, .int .i64 at'] w fun e w' => e = .returned (.bool true) ∧ Below w.heap.size w w' := by
  obtain ⟨ti, hi1, hi2, hi3, hi4⟩ := ndRow
  have hlid := h.len
  unfold maxLen at hlid
  rw [hpl] at hlid
  have HK : Hid (Nds w a b0 off ps) := h
  have HP : Hid (ps.length = n) := hpl
  have HOK : Hid (∀ W, Below w.heap.size w W → ∀ N, ∀ x ∈ (ps.take N).map (fun x => unQ x (-1)), NdOk W x) := fun W hb N x hx => by
    obtain ⟨y, hy, rfl⟩ := List.mem_map.1 hx
    exact unQ_ok ((HK.out.ok y (List.mem_of_mem_take hy)).below hb) _
  clear h hpl
  go_enter Try.func6, Try.ntmps6
  go_wp2_with fail
  refine (examples_val _).mono ?_
  rintro e w1 ⟨rfl, c1⟩
  have B1 : Hid (Below w.heap.size w w1) := c1
  clear c1
  go_wp2
  go_loopw [6, 7, 8] (fun v6 v7 _ wr => ∃ (i : Nat) (fa : Option Addr) (fc : Nat) (g : Option Nat), i ≤ n ∧ i ≤ 100 ∧ v7 = .int .i64 i ∧ v6 = .slice fa i fc ∧ Cel (fun k => w.heap.size ≤ k) wr 5 (.slice fa i fc) i (rowC ndC ((ps.take i).map (fun x => unQ x (-1)))) g ∧ Below w.heap.size w wr) (fun _ v7 _ _ => 100 - (intOf v7).toNat)
  case atStart => exact ⟨0, none, 0, none, by omega, by omega, rfl, rfl, .nil rfl rfl rfl, B1.out⟩
  case round =>
    obtain ⟨i, fa, fc, g, hi, hi100, rfl, rfl, hC, hb⟩ := hrel
    have HB : Hid (Below w.heap.size w wr) := hb
    have HC : Hid (Cel (fun k => w.heap.size ≤ k) wr 5 (.slice fa i fc) i (rowC ndC ((ps.take i).map (fun x => unQ x (-1)))) g) := hC
    by_cases hlt : i < n ∧ i < 100
    · obtain ⟨hlt, hlt2⟩ := hlt
      have hip : i < ps.length := by rw [HP.out]; exact hlt
      have hK := HK.out.below hb
      obtain ⟨e0, e1, e2, e3, e4⟩ := hK.at hip
      obtain rfl := hK.addr (by omega)
      have hnx : rowC ndC ((ps.take (i + 1)).map (fun x => unQ x (-1))) = rowC ndC ((ps.take i).map (fun x => unQ x (-1))) ++ rowC ndC [unQ ps[i] (-1)] := by
        rw [List.take_succ_eq_append_getElem hip, List.map_append, rowC_app]; rfl
      have HNX : Hid _ := hnx
      clear hb hC hK hnx
      generalize ps[i] = x at *
      obtain ⟨⟨p, d, q, bs, wb⟩, ⟨sa, sn, sc⟩⟩ := x
      simp only at e0 e1 e2 e3 e4
      have hst := run_store_str
      have hst2 : ∀ (w : World) (a : Addr) (x : Option Addr) (n c : Nat) (m : Mode), (store a (.slice x n c) m).run Try.prog w = stored Try.prog w a (.slice x n c) m := fun w a x n c m => run_store_any w a _ m rfl
      have HAP : Hid (∀ (o1 o : Obj) a2 c2 w7 g7, Cel (Grow (fun k => w.heap.size ≤ k) ((wr.alloc o1).alloc o) w7) w7 5 (.slice a2 (i + 1) c2) (i + 1) (rowC ndC ((ps.take i).map (fun x => unQ x (-1))) ++ rowC ndC [((⟨p, d, -1, bs, wb⟩ : Nd), (⟨sa, sn, sc⟩ : RS))]) g7 → Stay (fun k => g = some k) ((wr.alloc o1).alloc o) w7 → Cel (fun k => w.heap.size ≤ k) w7 5 (.slice a2 (i + 1) c2) (i + 1) (rowC ndC ((ps.take (i + 1)).map (fun x => unQ x (-1)))) g7 ∧ Below w.heap.size w w7) := fun o1 o a2 c2 w7 g7 hC hS => by
        have B3 : Below wr.heap.size wr ((wr.alloc o1).alloc o) := bel_tr (bel_al _ _) (bel_al _ _)
        have z0 := HB.out.size
        have z1 := B3.size
        rw [HNX.out]
        refine ⟨grow_base (by omega) (fun k hk => hk) hC, (HB.out.trans (B3.mono (by omega))).trans (hS.below (by omega) (fun k hk => ?_))⟩
        have := HC.out; rw [hk] at this; exact this.lt.2
      have HSRC : Hid (∀ o1 : Obj, Src Try.prog 5 22 (.slice (some ⟨wr.heap.size + 1, 0, none⟩) 1 1) 1 (rowC ndC [((⟨p, d, -1, bs, wb⟩ : Nd), (⟨sa, sn, sc⟩ : RS))]) ((wr.alloc o1).alloc (.cells #[.string p, .bool d, .int .i64 (-1), .slice sa sn sc, .int .i64 wb] 35))) := fun o1 => by
        have h := src_new5 (wr.alloc o1) ((⟨p, d, -1, bs, wb⟩ : Nd), (⟨sa, sn, sc⟩ : RS))
        rw [show (wr.alloc o1).heap.size = wr.heap.size + 1 by simp] at h
        exact h
      go_wp2_with (at_builtin; go_loud (refine wpList_append_cel _ rfl _ _ 22 22 rfl 35 ti _ 5 64 Try.underlying22 hi1 hi2 hi3 hi4 rfl (O := fun k => w.heap.size ≤ k) _ i _ g rfl (HC.out.below (bel_tr (bel_al _ _) (bel_al _ _))) _ 1 (rowC ndC [((⟨p, d, -1, bs, wb⟩ : Nd), (⟨sa, sn, sc⟩ : RS))]) rfl (HSRC.out _) (by unfold maxLen; omega) (by omega) ?_); intro a7 c7 w7 g7 hC7 hS7 hf7; have HX : Hid _ := HAP.out _ _ a7 c7 w7 g7 hC7 hS7; clear hC7 hS7 hf7)
      go_roundw
      case rel => exact ⟨i + 1, a7, c7, g7, by omega, by omega, by go_num, rfl, HX.out.1, HX.out.2⟩
      case measure => simp [intOf]; omega
    · have hlen : ((ps.take i).map (fun x => unQ x (-1))).length = i := by rw [List.length_map, List.length_take, HP.out]; omega
      obtain ⟨qs, hqs⟩ : ∃ qs, (ps.take i).map (fun x => unQ x (-1)) = qs := ⟨_, rfl⟩
      have hqq : ∀ x ∈ qs.map (·.1), x.quota = -1 := by rw [← hqs]; exact quota_un
      have hok := HOK.out wr hb i
      rw [hqs] at hok hlen hC
      have hNL : NL wr fa i (qs.map (·.1)) := nl_of_cel hC hlen hok _ rfl
      have HNL : Hid _ := hNL
      have HCE : Hid _ := hC
      have HLN : Hid (qs.length = i) := hlen
      have HQQ : Hid _ := hqq
      clear hqs hqq hok hNL hC hb HC HOK HK hlen
      by_cases hR : Right (qs.map (·.1))
      · have hut : true = true ↔ Right (qs.map (·.1)) := ⟨fun _ => hR, fun _ => rfl⟩
        have hl : (qs.map (·.1)).length = i := by rw [List.length_map, HLN.out]
        have hi0 : 0 < i := by rw [← hl]; exact hR.pos
        have hi60 : i ≤ 60 := by rw [← hl]; exact hR.few
        obtain rfl : i = n := by omega
        have hgd : decide ((i : Int) < (i : Int)) = false := decide_eq_false (by omega)
        obtain ⟨kn, hkn⟩ : ∃ kn, keepN at' = kn := ⟨_, rfl⟩
        obtain ⟨Q, hQ⟩ : ∃ Q, kn % i = Q := ⟨_, rfl⟩
        have hQi : Q < i := by rw [← hQ]; exact Nat.mod_lt _ hi0
        have hQq : Q < qs.length := by rw [HLN.out]; exact hQi
        have hr1 : (kn : Int).tmod (i : Int) = (Q : Int) := by rw [Int.tmod_eq_emod_of_nonneg (by omega), ← hQ]; rfl
        have hr2 : (kn : Int) % (i : Int) = (Q : Int) := by rw [← hQ]; rfl
        have hmem : qs[Q].1 ∈ qs.map (·.1) := List.mem_map.2 ⟨_, List.getElem_mem hQq, rfl⟩
        have hRV := roomI_none hR HQQ.out hmem
        rw [hl] at hRV
        have hsm := HNL.out.small _ hmem
        have CR : Hid (Calls Try.prog 16 #[.slice fa i fc] wr fun e w' => e = .returned (.bool true) ∧ Below wr.heap.size wr w') := right_val HNL.out true hut
        have CO : Hid (∀ W, Below wr.heap.size wr W → Calls Try.prog 10 #[.slice fa i fc] W fun e w' => TextsR W.heap.size [] 0 e w' ∧ Below W.heap.size W w') := fun W hb => over_val (HNL.out.below hb) true hut [] (over_none HQQ.out) 0 rfl
        have CM0 : Hid (∀ W R, Below wr.heap.size wr W → roomI (qs.map (·.1)) qs[Q].1.path = R → Calls Try.prog 14 #[.slice fa i fc, .string qs[Q].1.path] W fun e w' => e = .returned (.int .i64 R) ∧ Below W.heap.size W w') := fun W R hb hR' => room_val (HNL.out.below hb) true hut _ hsm R hR'
        obtain ⟨b', rfl, rfl, hce⟩ := HCE.out.elem wideX hQq HLN.out
        have HRV : Hid _ := hRV
        clear hut hl hR hmem hRV hsm HNL HCE
        generalize qs[Q] = x at *
        obtain ⟨⟨p, d, q, bs, wb⟩, ⟨sa, sn, sc⟩⟩ := x
        simp only at CM0 HRV
        have Y0 : Hid (wr.cell? ⟨b', Q * 5, none⟩ = some (.string p)) := hce 0 _ rfl
        have Y1 : Hid (wr.cell? ⟨b', Q * 5 + 1, none⟩ = some (.bool d)) := hce 1 _ rfl
        have Y2 : Hid (wr.cell? ⟨b', Q * 5 + 2, none⟩ = some (.int .i64 q)) := hce 2 _ rfl
        have Y3 : Hid (wr.cell? ⟨b', Q * 5 + 3, none⟩ = some (.slice sa sn sc)) := hce 3 _ rfl
        have Y4 : Hid (wr.cell? ⟨b', Q * 5 + 4, none⟩ = some (.int .i64 wb)) := hce 4 _ rfl
        have hst := run_store_str
        have hst2 : ∀ (w : World) (a : Addr) (x : Option Addr) (n c : Nat) (m : Mode), (store a (.slice x n c) m).run Try.prog w = stored Try.prog w a (.slice x n c) m := fun w a x n c m => run_store_any w a _ m rfl
        clear hce hQq hQ
        unfold keepN at hkn
        cases d with
        | false =>
          have CM : Hid (∀ W, Below wr.heap.size wr W → Calls Try.prog 14 #[.slice (some ⟨b', 0, none⟩) i fc, .string p] W fun e w' => e = .returned (.int .i64 0) ∧ Below W.heap.size W w') := fun W hb => CM0.out W 0 hb HRV.out
          clear CM0 HRV
          by_cases hneg : at' < 0
          · rw [if_pos hneg] at hkn
            have hkk : -(at' + 1) = (kn : Int) := by omega
            clear hkn
            go_wp2_with (first
              | (go_at_call 16; refine CR.out.mono ?_; rintro e w2 ⟨rfl, c2⟩; have B2 : Hid (Below wr.heap.size wr w2) := c2; have z0 := bel_cell c2 Y0.out; have z1 := bel_cell c2 Y1.out; have z2 := bel_cell c2 Y2.out; have z3 := bel_cell c2 Y3.out; have z4 := bel_cell c2 Y4.out; clear c2)
              | (go_at_call 10; refine (CO.out _ (bel_tr B2.out (bel_al _ _))).mono ?_; rintro e w3 ⟨⟨oa, oc, og, rfl, hO⟩, c3⟩; have B3 : Hid (Below wr.heap.size wr w3) := bel_tr (bel_tr B2.out (bel_al _ _)) c3; have p0 := bel_cell c3 (World.cell?_alloc_new w2 _ _ 0); clear c3 hO)
              | (go_at_call 14; refine (CM.out _ B3.out).mono ?_; rintro e w4 ⟨rfl, c4⟩; have B4 : Hid (Below wr.heap.size wr w4) := bel_tr B3.out c4; clear c4))
            go_ret
            exact ⟨rfl, bel_tr HB.out B4.out⟩
          · rw [if_neg hneg] at hkn
            obtain rfl : at' = (kn : Int) := by omega
            clear hkn hneg
            go_wp2_with (first
              | (go_at_call 16; refine CR.out.mono ?_; rintro e w2 ⟨rfl, c2⟩; have B2 : Hid (Below wr.heap.size wr w2) := c2; have z0 := bel_cell c2 Y0.out; have z1 := bel_cell c2 Y1.out; have z2 := bel_cell c2 Y2.out; have z3 := bel_cell c2 Y3.out; have z4 := bel_cell c2 Y4.out; clear c2)
              | (go_at_call 10; refine (CO.out _ (bel_tr B2.out (bel_al _ _))).mono ?_; rintro e w3 ⟨⟨oa, oc, og, rfl, hO⟩, c3⟩; have B3 : Hid (Below wr.heap.size wr w3) := bel_tr (bel_tr B2.out (bel_al _ _)) c3; have p0 := bel_cell c3 (World.cell?_alloc_new w2 _ _ 0); clear c3 hO)
              | (go_at_call 14; refine (CM.out _ B3.out).mono ?_; rintro e w4 ⟨rfl, c4⟩; have B4 : Hid (Below wr.heap.size wr w4) := bel_tr B3.out c4; clear c4))
            go_ret
            exact ⟨rfl, bel_tr HB.out B4.out⟩
        | true =>
          have CM : Hid (∀ W, Below wr.heap.size wr W → Calls Try.prog 14 #[.slice (some ⟨b', 0, none⟩) i fc, .string p] W fun e w' => e = .returned (.int .i64 (60 - (i : Int))) ∧ Below W.heap.size W w') := fun W hb => CM0.out W _ hb HRV.out
          clear CM0 HRV
          by_cases hneg : at' < 0
          · rw [if_pos hneg] at hkn
            have hkk : -(at' + 1) = (kn : Int) := by omega
            clear hkn
            go_wp2_with (first
              | (go_at_call 16; refine CR.out.mono ?_; rintro e w2 ⟨rfl, c2⟩; have B2 : Hid (Below wr.heap.size wr w2) := c2; have z0 := bel_cell c2 Y0.out; have z1 := bel_cell c2 Y1.out; have z2 := bel_cell c2 Y2.out; have z3 := bel_cell c2 Y3.out; have z4 := bel_cell c2 Y4.out; clear c2)
              | (go_at_call 10; refine (CO.out _ (bel_tr B2.out (bel_al _ _))).mono ?_; rintro e w3 ⟨⟨oa, oc, og, rfl, hO⟩, c3⟩; have B3 : Hid (Below wr.heap.size wr w3) := bel_tr (bel_tr B2.out (bel_al _ _)) c3; have p0 := bel_cell c3 (World.cell?_alloc_new w2 _ _ 0); clear c3 hO)
              | (go_at_call 14; refine (CM.out _ B3.out).mono ?_; rintro e w4 ⟨rfl, c4⟩; have B4 : Hid (Below wr.heap.size wr w4) := bel_tr B3.out c4; clear c4))
            go_ret
            exact ⟨rfl, bel_tr HB.out B4.out⟩
          · rw [if_neg hneg] at hkn
            obtain rfl : at' = (kn : Int) := by omega
            clear hkn hneg
            go_wp2_with (first
              | (go_at_call 16; refine CR.out.mono ?_; rintro e w2 ⟨rfl, c2⟩; have B2 : Hid (Below wr.heap.size wr w2) := c2; have z0 := bel_cell c2 Y0.out; have z1 := bel_cell c2 Y1.out; have z2 := bel_cell c2 Y2.out; have z3 := bel_cell c2 Y3.out; have z4 := bel_cell c2 Y4.out; clear c2)
              | (go_at_call 10; refine (CO.out _ (bel_tr B2.out (bel_al _ _))).mono ?_; rintro e w3 ⟨⟨oa, oc, og, rfl, hO⟩, c3⟩; have B3 : Hid (Below wr.heap.size wr w3) := bel_tr (bel_tr B2.out (bel_al _ _)) c3; have p0 := bel_cell c3 (World.cell?_alloc_new w2 _ _ 0); clear c3 hO)
              | (go_at_call 14; refine (CM.out _ B3.out).mono ?_; rintro e w4 ⟨rfl, c4⟩; have B4 : Hid (Below wr.heap.size wr w4) := bel_tr B3.out c4; clear c4))
            go_ret
            exact ⟨rfl, bel_tr HB.out B4.out⟩
      · have huf : false = true ↔ Right (qs.map (·.1)) := ⟨fun e => (by cases e), fun e => absurd e hR⟩
        have CR : Hid (Calls Try.prog 16 #[.slice fa i fc] wr fun e w' => e = .returned (.bool false) ∧ Below wr.heap.size wr w') := right_val HNL.out false huf
        have CM : Hid (∀ W, Below wr.heap.size wr W → Calls Try.prog 14 #[.slice fa i fc, .string rootP] W fun e w' => e = .returned (.int .i64 0) ∧ Below W.heap.size W w') := fun W hb => room_val (HNL.out.below hb) false huf rootP (lit_le _ (by decide)) 0 rfl
        clear hR huf
        by_cases hin : i < n
        · have d1 : decide ((i : Int) < (n : Int)) = true := decide_eq_true (by omega)
          have d2 : decide ((i : Int) < 100) = false := decide_eq_false (by omega)
          go_wp2_with (first
            | (go_at_call 16; refine CR.out.mono ?_; rintro e w2 ⟨rfl, c2⟩; have B2 : Hid (Below wr.heap.size wr w2) := c2; clear c2)
            | (go_at_call 14; refine (CM.out _ B2.out).mono ?_; rintro e w3 ⟨rfl, c3⟩; have B3 : Hid (Below wr.heap.size wr w3) := bel_tr B2.out c3; clear c3))
          go_ret
          exact ⟨rfl, bel_tr HB.out B3.out⟩
        · have d1 : decide ((i : Int) < (n : Int)) = false := decide_eq_false (by omega)
          go_wp2_with (first
            | (go_at_call 16; refine CR.out.mono ?_; rintro e w2 ⟨rfl, c2⟩; have B2 : Hid (Below wr.heap.size wr w2) := c2; clear c2)
            | (go_at_call 14; refine (CM.out _ B2.out).mono ?_; rintro e w3 ⟨rfl, c3⟩; have B3 : Hid (Below wr.heap.size wr w3) := bel_tr B2.out c3; clear c3))
          go_ret
          exact ⟨rfl, bel_tr HB.out B3.out⟩

theorem walk (a0 : Option Addr) (b0 off0 cap0 : Nat) (ss0 : List NR) (a1 : Int) (W : World) (h0 : Nds W a0 b0 off0 ss0) (h1 : (Lit.int .i64 a1).wf = true) :
    Calls Try.prog 6 #[.slice a0 (ss0.map (·.1)).length cap0, .int .i64 a1] W fun e w' => e = .returned (.bool true) ∧ Below W.heap.size W w' := by
  have hb := bounds_i64 h1
  exact core a1 (by omega) W h0 (by rw [List.length_map])

set_option maxRecDepth 100000 in
theorem lifted (os : Os) (started : os.Started) (H : Type) (enc : TypeId × Value → H) :
    ReturnsInHanded {} Try.checked os 6 .any (Rows.quotaNoneSpec.pre6 enc Try.prog Try.f6 Rows.quotaNoneRow.domain false) (Rows.quotaNoneSpec.post enc Try.prog Try.f6 false true false false) := by
  refine returnsInHanded_of_change (C := Try.checked) own started (by kernel_rfl) Try.func6
    (ChangeSpec.witness6 (enc := enc) (C := Try.checked) false ⟨#[], #[.slice none 0 0, .int .i64 0], []⟩ 8 (by kernel_rfl) (by kernel_rfl) (by kernel_rfl) (by kernel_rfl)) ?_
  intro W base args ds gs before hval0 hW hcnd _
  have hval : ∀ (j : Nat) t v, Try.f6.params[j]? = some t → args[j]? = some v → Value.okWide Try.prog W .any base t v := hval0
  have hW' := hW
  obtain ⟨p, q, hA0, hV, rfl, hfz, hnd⟩ := hW
  have hA : DataW.TrodAll enc Try.prog W 0 (fun _ => true) true Try.f6.params.toList args.toList ds p := hA0
  rw [Try.params6] at hA hval
  obtain ⟨v0, vs0, d0, ds0, p0, q0, hargs, rfl, rfl, h0, r0⟩ := trodAll_cons hA
  obtain ⟨v1, vs1, d1, ds1, p1, q1, rfl, rfl, rfl, h1, r1⟩ := trodAll_cons r0
  obtain ⟨rfl, rfl, rfl⟩ := trodAll_nil r1
  obtain rfl : args = #[v0, v1] := by cases args; simp_all
  obtain ⟨rfl, rfl⟩ := trodVars_none hV
  obtain ⟨a0, len0, cap0, rfl⟩ := okWide_slice Try.underlying22 (hval 0 22 v0 rfl rfl)
  have k0 := h0
  have lt0 : ∀ x ∈ p0, x.block < W.heap.size := by obtain ⟨m, hm⟩ := k0; exact DataW.trod_lt m _ _ _ hm
  obtain ⟨b0, off0, ss0, rfl, w0, n0⟩ := open_nodes h0
  obtain ⟨a1, rfl, rfl, rfl, w1⟩ := open_int Try.underlying3 (hval 1 3 v1 rfl rfl) h1
  clear hA0 hval0
  refine (walk a0 b0 off0 cap0 ss0 a1 W w0 w1).mono fun e W' ⟨he, bel⟩ => ?_
  subst he
  exact ⟨_, rfl, _, _, _, [], _, [], hW', trodAll_mk1 (shut_bool Try.underlying4 _), (trodAll_cons_mk (Below.trod laidOut (by kernel_rfl) (of_decide_eq_true (by kernel_rfl)) k0 bel lt0) (trodAll_cons_mk (shut_int Try.underlying3 w1) trodAll_mk0)), rfl, bel.frame _, fun h => by cases h⟩

theorem over : Rows.quotaNoneRow.holds Try.pinned (OpenSpec.ofChange Rows.quotaNoneSpec) :=
  OpenClaim.holds_of_wide 6 Try.f6 rfl rfl rfl rfl rfl rfl rfl ⟨rfl, rfl, rfl, rfl, rfl⟩ rfl rfl rfl rfl rfl (by kernel_rfl) Try.func6 (by kernel_rfl)
    (of_decide_eq_true (by kernel_rfl)) (by unfold Func.isWrapper; first | (rw [if_pos (by decide +kernel)]; kernel_rfl) | (rw [if_neg (by decide +kernel)]; exact ⟨rfl, rfl⟩))
    (fun os started H enc _ => lifted os started H enc)
end Go.Proofs.Ytlfehfajaelmlaa.quotaNone

namespace Go.Proofs.Ytlfehfajaelmlaa
/-- The statement. -/
theorem quotaNone_holds : Rows.QuotaNoneSaid := quotaNone.over
#print axioms quotaNone_holds
end Go.Proofs.Ytlfehfajaelmlaa
