/- LeaseLasts: for every list of leases, every two clients, every two times: the statement's function returns true; nothing that was there is changed. No condition. -/
import Derived.Test.YtflccniidaogiaaLeaseL
import Derived.Test.YtflccniidaogiaaLeaseP
import Derived.Test.YtflccniidaogiaaLeaseOpen
namespace Go.Proofs.Ytflccniidaogiaa.leaseLasts
open Go.ChangeShapes Go.WideShapes Go.ChangeAt Go.RowKit Go.Proofs.Ytflccniidaogiaa Go.Proofs.Ytflccniidaogiaa.Lea
set_option linter.unusedVariables false

theorem own : ownKnob Try.prog.godebug = none := by kernel_rfl

/-- What comes of the second renewal. -/
theorem ren_next {ys zs : LS} {c u other later : Int} {v : Bool} (hy : ∃ y ∈ ys, y.c = c ∧ y.u = u) (hR : Rt ys) (hz : renX ys other later = (zs, v)) : Rt zs ∧ zs.length ≤ 5 ∧ (v = true → ∃ u2, u ≤ u2 ∧ findX zs c = (u2, true)) := by
  by_cases h : Rt ys ∧ (0 ≤ other ∧ other < 4) ∧ 0 ≤ later ∧ later ≤ 9007199254740981
  · obtain ⟨_, h2, h3, h4⟩ := h
    rw [renX_yes hR h2 h3 h4] at hz
    have hn := ren_of hR h2 h3 h4
    simp only [Prod.mk.injEq] at hz
    obtain ⟨rfl, rfl⟩ := hz
    refine ⟨hn.right, by have := hn.right.few; omega, fun _ => ?_⟩
    obtain ⟨y, h5, rfl, rfl⟩ := hy
    exact hn.keep y h5
  · rw [renX_no h] at hz
    simp only [Prod.mk.injEq] at hz
    obtain ⟨rfl, rfl⟩ := hz
    exact ⟨Rt.nil, by simp, fun e => by cases e⟩

set_option maxRecDepth 100000 in
set_option maxHeartbeats 4000000 in
theorem core {a : Option Addr} {n c : Nat} {xs : LS} (w : World) (h : LL w a n c xs) (k now other later : Int) :
    Calls Try.prog 5 #[.slice a n c, .int .i64 k, .int .i64 now, .int .i64 other, .int .i64 later] w fun e w' => e = .returned (.bool true) ∧ Below w.heap.size w w' := by
  have HC : Hid (LL w a n c xs) := h
  have HN : Hid (xs.length = n) := h.len
  by_cases hg : Rt xs ∧ (0 ≤ k ∧ k < 4) ∧ 0 ≤ now ∧ now ≤ 9007199254740981
  · obtain ⟨hr, hk, hn1, hn2⟩ := hg
    have hn4 : n ≤ 4 := by rw [← HN.out]; exact hr.few
    have hren := ren_of hr hk hn1 hn2
    have hX := renX_yes hr hk hn1 hn2
    generalize hu0 : max (findX xs k).1 (now + 10) = u at *
    generalize hy0 : putL xs ⟨k, u⟩ = ys at *
    obtain ⟨m, hm⟩ : ∃ m, ys.length = m := ⟨_, rfl⟩
    have hm4 : m ≤ 4 := by rw [← hm]; exact hren.right.few
    have hmn : m ≤ n + 1 := by have := hren.len; rw [hm, HN.out] at this; exact this
    have hge := hren.ge
    have hle := hren.le
    obtain ⟨zs, v2, hz⟩ : ∃ zs v2, renX ys other later = (zs, v2) := ⟨_, _, rfl⟩
    obtain ⟨hzR, hz5, hzk⟩ := ren_next hren.mem hren.right hz
    obtain ⟨z, hzl⟩ : ∃ z, zs.length = z := ⟨_, rfl⟩
    obtain ⟨ls, hls⟩ : ∃ ls, lateL (now + 10) ys = ls := ⟨_, rfl⟩
    obtain ⟨q, hq⟩ : ∃ q, ls.length = q := ⟨_, rfl⟩
    have hq4 : q ≤ 4 := by have := late_len (now + 10) ys; rw [hls, hq, hm] at this; omega
    obtain ⟨y1, hy1, hyc, hyu⟩ := hren.mem
    have HNL : Hid (∀ j (hj : j < ls.length), ls[j] ≠ k) := fun j hj => by
      have := late_not hren.right hy1 (now := now + 10) (by omega) ls[j] (by rw [hls]; exact List.getElem_mem hj)
      rwa [hyc] at this
    obtain ⟨ds, hds⟩ : ∃ ds, dropL k ys = ds := ⟨_, rfl⟩
    obtain ⟨d, hdl⟩ : ∃ d, ds.length = d := ⟨_, rfl⟩
    have hdm : d + 1 = m := by have := drop_one hren.right hy1; rw [hyc, hds, hdl, hm] at this; exact this
    have hdR : Rt ds := by rw [← hds]; exact hren.right.filter _
    have hdF : findX ds k = (0, false) := by rw [← hds]; exact drop_find
    have CN1 : Hid (∀ W, Below w.heap.size w W → Calls Try.prog 15 #[.slice a n c, .int .i64 k, .int .i64 now] W fun e w' => LsR W.heap.size ys m (.int .i64 0) e w' ∧ Below W.heap.size W w') := fun W hb => renew_val (h.below hb) k now ys true m hX hm
    have CN2 : Hid (∀ W a2 c2, LL W a2 m c2 ys → Calls Try.prog 15 #[.slice a2 m c2, .int .i64 other, .int .i64 later] W fun e w' => LsR W.heap.size zs z (errV v2) e w' ∧ Below W.heap.size W w') := fun W a2 c2 hL => renew_val hL other later zs v2 z hz hzl
    have CU1 : Hid (∀ W a2 c2, LL W a2 m c2 ys → Calls Try.prog 8 #[.slice a2 m c2, .int .i64 k] W fun e w' => e = .returned (.tuple #[.int .i64 u, .bool true]) ∧ Below W.heap.size W w') := fun W a2 c2 hL => until_val hL k u true ((untilX_yes hren.right).trans hren.find)
    have CR1 : Hid (∀ W a2 c2, LL W a2 m c2 ys → Calls Try.prog 13 #[.slice a2 m c2] W fun e w' => e = .returned (.bool true) ∧ Below W.heap.size W w') := fun W a2 c2 hL => right_val hL true ⟨fun _ => hren.right, fun _ => rfl⟩
    have CL : Hid (∀ W a2 c2, LL W a2 m c2 ys → Calls Try.prog 10 #[.slice a2 m c2, .int .i64 (now + 10)] W fun e w' => NumR ls q (.int .i64 0) e w' ∧ Below W.heap.size W w') := fun W a2 c2 hL => late_val hL (now + 10) ls true q (by rw [lateX_yes hren.right, hls]) hq
    have CD : Hid (∀ W a2 c2, LL W a2 m c2 ys → Calls Try.prog 18 #[.slice a2 m c2, .int .i64 k] W fun e w' => LsR W.heap.size ds d (.int .i64 0) e w' ∧ Below W.heap.size W w') := fun W a2 c2 hL => drop_val hL k ds true d (by rw [dropX_yes hren.right, hds]) hdl
    have CU3 : Hid (∀ W a2 c2, LL W a2 d c2 ds → Calls Try.prog 8 #[.slice a2 d c2, .int .i64 k] W fun e w' => e = .returned (.tuple #[.int .i64 0, .bool false]) ∧ Below W.heap.size W w') := fun W a2 c2 hL => until_val hL k 0 false ((untilX_yes hdR).trans hdF)
    have CR2 : Hid (∀ W a2 c2, LL W a2 d c2 ds → Calls Try.prog 13 #[.slice a2 d c2] W fun e w' => e = .returned (.bool true) ∧ Below W.heap.size W w') := fun W a2 c2 hL => right_val hL true ⟨fun _ => hdR, fun _ => rfl⟩
    have HQ : Hid (ls.length = q) := hq
    have hfin : ((d : Int) == (m : Int) - 1) = true := by simp; omega
    have HDM : Hid (d + 1 = m) := hdm
    have M1 : Hid True := trivial
    have M2 : Hid True := trivial
    cases v2 with
    | true =>
      obtain ⟨u2, hu2, hf2⟩ := hzk rfl
      have CU2 : Hid (∀ W a2 c2, LL W a2 z c2 zs → Calls Try.prog 8 #[.slice a2 z c2, .int .i64 k] W fun e w' => e = .returned (.tuple #[.int .i64 u2, .bool true]) ∧ Below W.heap.size W w') := fun W a2 c2 hL => until_val hL k u2 true ((untilX_yes hzR).trans hf2)
      clear h hr hk hren hX hu0 hy0 hm hz hzk hzl hls hq hy1 hyc hyu hds hdl hdR hdF hzR hdm hf2
      unfold errV at CN2
      simp only [if_true] at CN2
      go_enter Try.func5, Try.ntmps5
      go_wp2_with (first
        | (go_at_call 7; refine (examples_val _).mono ?_; rintro e w1 ⟨rfl, b1⟩; have B1 : Hid (Below w.heap.size w w1) := b1; clear b1)
        | (go_at_call 15; have m1 := M1.out; refine (CN1.out _ B1.out).mono ?_; rintro e w2 ⟨⟨a2, c2, g2, rfl, hO⟩, bb⟩; have L2 : Hid (LL w2 a2 m c2 ys) := hO.ll; have B2 : Hid (Below w.heap.size w w2) := bel_tr B1.out bb; clear hO bb m1 M1)
        | (go_at_call 8; have m1 := M2.out; refine (CU1.out _ _ _ L2.out).mono ?_; rintro e w3 ⟨rfl, bb⟩; have L3 : Hid (LL w3 a2 m c2 ys) := L2.out.below bb; have B3 : Hid (Below w.heap.size w w3) := bel_tr B2.out bb; clear bb m1 M2)
        | (go_at_call 13; refine (CR1.out _ _ _ L3.out).mono ?_; rintro e w4 ⟨rfl, bb⟩; have L4 : Hid (LL w4 a2 m c2 ys) := L3.out.below bb; have B4 : Hid (Below w.heap.size w w4) := bel_tr B3.out bb; clear bb)
        | (go_at_call 15; refine (CN2.out _ _ _ L4.out).mono ?_; rintro e w5 ⟨⟨a5, c5, g5, rfl, hO⟩, bb⟩; have L5 : Hid (LL w5 a2 m c2 ys) := L4.out.below bb; have K5 : Hid (LL w5 a5 z c5 zs) := hO.ll; have B5 : Hid (Below w.heap.size w w5) := bel_tr B4.out bb; clear hO bb)
        | (go_at_call 8; refine (CU2.out _ _ _ K5.out).mono ?_; rintro e w6 ⟨rfl, bb⟩; have L6 : Hid (LL w6 a2 m c2 ys) := L5.out.below bb; have B6 : Hid (Below w.heap.size w w6) := bel_tr B5.out bb; clear bb)
        | (go_at_call 10; refine (CL.out _ _ _ L6.out).mono ?_; rintro e w7 ⟨⟨a7, b7, c7, rfl, hn7, hI7⟩, bb⟩; have L7 : Hid (LL w7 a2 m c2 ys) := L6.out.below bb; have I7 : Hid (Ints w7 .i64 a7 b7 0 ls) := hI7; have B7 : Hid (Below w.heap.size w w7) := bel_tr B6.out bb; clear hn7 hI7 bb))
      go_loopw [22] (fun v22 wr => ∃ i : Nat, i ≤ q ∧ v22 = .int .i64 i ∧ Below w7.heap.size w7 wr) (fun v22 _ => q - (intOf v22).toNat)
      case atStart => exact ⟨0, by omega, rfl, Below.refl _ _⟩
      case round =>
        obtain ⟨i, hi, rfl, hb⟩ := hrel
        have HB : Hid (Below w7.heap.size w7 wr) := hb
        by_cases hlt : i < q
        · have hix : i < ls.length := by rw [HQ.out]; exact hlt
          have hI := I7.out.below hb
          obtain rfl := hI.addr (by omega)
          have e0 := hI.cell i hix
          rw [Nat.zero_add] at e0
          have hne : (ls[i] == k) = false := by simpa using HNL.out i hix
          clear hb hI
          generalize ls[i] = lz at *
          go_wp2
          go_roundw
          case rel => exact ⟨i + 1, by omega, by go_num, HB.out⟩
          case measure => simp [intOf]; omega
        · obtain rfl : i = q := by omega
          have hgd : decide ((i : Int) < (i : Int)) = false := decide_eq_false (by omega)
          clear hb hlt
          have L8 : Hid (LL wr a2 m c2 ys) := L7.out.below HB.out
          have B8 : Hid (Below w.heap.size w wr) := bel_tr B7.out HB.out
          go_wp2_with (first
            | (go_at_call 18; refine (CD.out _ _ _ L8.out).mono ?_; rintro e w9 ⟨⟨a9, c9, g9, rfl, hO⟩, bb⟩; have K9 : Hid (LL w9 a9 d c9 ds) := hO.ll; have B9 : Hid (Below w.heap.size w w9) := bel_tr B8.out bb; clear hO bb)
            | (go_at_call 8; refine (CU3.out _ _ _ K9.out).mono ?_; rintro e w10 ⟨rfl, bb⟩; have K10 : Hid (LL w10 a9 d c9 ds) := K9.out.below bb; have B10 : Hid (Below w.heap.size w w10) := bel_tr B9.out bb; clear bb)
            | (go_at_call 13; refine (CR2.out _ _ _ K10.out).mono ?_; rintro e w11 ⟨rfl, bb⟩; have B11 : Hid (Below w.heap.size w w11) := bel_tr B10.out bb; clear bb))
          go_ret
          exact ⟨rfl, B11.out⟩
    | false =>
      clear h hr hk hren hX hu0 hy0 hm hz hzk hzl hls hq hy1 hyc hyu hds hdl hdR hdF hzR hdm
      unfold errV at CN2
      simp only [Bool.false_eq_true, if_false] at CN2
      go_enter Try.func5, Try.ntmps5
      go_wp2_with (first
        | (go_at_call 7; refine (examples_val _).mono ?_; rintro e w1 ⟨rfl, b1⟩; have B1 : Hid (Below w.heap.size w w1) := b1; clear b1)
        | (go_at_call 15; have m1 := M1.out; refine (CN1.out _ B1.out).mono ?_; rintro e w2 ⟨⟨a2, c2, g2, rfl, hO⟩, bb⟩; have L2 : Hid (LL w2 a2 m c2 ys) := hO.ll; have B2 : Hid (Below w.heap.size w w2) := bel_tr B1.out bb; clear hO bb m1 M1)
        | (go_at_call 8; have m1 := M2.out; refine (CU1.out _ _ _ L2.out).mono ?_; rintro e w3 ⟨rfl, bb⟩; have L3 : Hid (LL w3 a2 m c2 ys) := L2.out.below bb; have B3 : Hid (Below w.heap.size w w3) := bel_tr B2.out bb; clear bb m1 M2)
        | (go_at_call 13; refine (CR1.out _ _ _ L3.out).mono ?_; rintro e w4 ⟨rfl, bb⟩; have L4 : Hid (LL w4 a2 m c2 ys) := L3.out.below bb; have B4 : Hid (Below w.heap.size w w4) := bel_tr B3.out bb; clear bb)
        | (go_at_call 15; refine (CN2.out _ _ _ L4.out).mono ?_; rintro e w5 ⟨⟨a5, c5, g5, rfl, hO⟩, bb⟩; have L5 : Hid (LL w5 a2 m c2 ys) := L4.out.below bb; have K5 : Hid (LL w5 a5 z c5 zs) := hO.ll; have B5 : Hid (Below w.heap.size w w5) := bel_tr B4.out bb; clear hO bb)
        | (go_at_call 10; refine (CL.out _ _ _ L5.out).mono ?_; rintro e w7 ⟨⟨a7, b7, c7, rfl, hn7, hI7⟩, bb⟩; have L7 : Hid (LL w7 a2 m c2 ys) := L5.out.below bb; have I7 : Hid (Ints w7 .i64 a7 b7 0 ls) := hI7; have B7 : Hid (Below w.heap.size w w7) := bel_tr B5.out bb; clear hn7 hI7 bb))
      go_loopw [22] (fun v22 wr => ∃ i : Nat, i ≤ q ∧ v22 = .int .i64 i ∧ Below w7.heap.size w7 wr) (fun v22 _ => q - (intOf v22).toNat)
      case atStart => exact ⟨0, by omega, rfl, Below.refl _ _⟩
      case round =>
        obtain ⟨i, hi, rfl, hb⟩ := hrel
        have HB : Hid (Below w7.heap.size w7 wr) := hb
        by_cases hlt : i < q
        · have hix : i < ls.length := by rw [HQ.out]; exact hlt
          have hI := I7.out.below hb
          obtain rfl := hI.addr (by omega)
          have e0 := hI.cell i hix
          rw [Nat.zero_add] at e0
          have hne : (ls[i] == k) = false := by simpa using HNL.out i hix
          clear hb hI
          generalize ls[i] = lz at *
          go_wp2
          go_roundw
          case rel => exact ⟨i + 1, by omega, by go_num, HB.out⟩
          case measure => simp [intOf]; omega
        · obtain rfl : i = q := by omega
          have hgd : decide ((i : Int) < (i : Int)) = false := decide_eq_false (by omega)
          clear hb hlt
          have L8 : Hid (LL wr a2 m c2 ys) := L7.out.below HB.out
          have B8 : Hid (Below w.heap.size w wr) := bel_tr B7.out HB.out
          go_wp2_with (first
            | (go_at_call 18; refine (CD.out _ _ _ L8.out).mono ?_; rintro e w9 ⟨⟨a9, c9, g9, rfl, hO⟩, bb⟩; have K9 : Hid (LL w9 a9 d c9 ds) := hO.ll; have B9 : Hid (Below w.heap.size w w9) := bel_tr B8.out bb; clear hO bb)
            | (go_at_call 8; refine (CU3.out _ _ _ K9.out).mono ?_; rintro e w10 ⟨rfl, bb⟩; have K10 : Hid (LL w10 a9 d c9 ds) := K9.out.below bb; have B10 : Hid (Below w.heap.size w w10) := bel_tr B9.out bb; clear bb)
            | (go_at_call 13; refine (CR2.out _ _ _ K10.out).mono ?_; rintro e w11 ⟨rfl, bb⟩; have B11 : Hid (Below w.heap.size w w11) := bel_tr B10.out bb; clear bb))
          go_ret
          exact ⟨rfl, B11.out⟩
  · have CN1 : Hid (∀ W, Below w.heap.size w W → Calls Try.prog 15 #[.slice a n c, .int .i64 k, .int .i64 now] W fun e w' => LsR W.heap.size [] 0 (.int .i64 1) e w' ∧ Below W.heap.size W w') := fun W hb => renew_val (h.below hb) k now [] false 0 (renX_no hg) rfl
    clear h hg
    go_enter Try.func5, Try.ntmps5
    go_wp2_with (first
      | (go_at_call 7; refine (examples_val _).mono ?_; rintro e w1 ⟨rfl, b1⟩; have B1 : Hid (Below w.heap.size w w1) := b1; clear b1)
      | (go_at_call 15; refine (CN1.out _ B1.out).mono ?_; rintro e w2 ⟨⟨a2, c2, g2, rfl, hO⟩, bb⟩; have B2 : Hid (Below w.heap.size w w2) := bel_tr B1.out bb; clear hO bb))
    go_ret
    exact ⟨rfl, B2.out⟩

theorem walk (a : Option Addr) (n c : Nat) (xs : LS) (k now other later : Int) (w : World) (h : LL w a n c xs) (h1 : (Lit.int .i64 k).wf = true) (h2 : (Lit.int .i64 now).wf = true) (h3 : (Lit.int .i64 other).wf = true) (h4 : (Lit.int .i64 later).wf = true) :
    Calls Try.prog 5 #[.slice a n c, .int .i64 k, .int .i64 now, .int .i64 other, .int .i64 later] w fun e w' => e = .returned (.bool true) ∧ Below w.heap.size w w' := core w h k now other later

set_option maxRecDepth 100000 in
theorem lifted (os : Os) (started : os.Started) (H : Type) (enc : TypeId × Value → H) :
    ReturnsInHanded {} Try.checked os 5 .any (Rows.leaseLastsSpec.pre6 enc Try.prog Try.f5 Rows.leaseLastsRow.domain false) (Rows.leaseLastsSpec.post enc Try.prog Try.f5 false true false false) := by
  refine returnsInHanded_of_change (C := Try.checked) own started (by kernel_rfl) Try.func5
    (ChangeSpec.witness6 (enc := enc) (C := Try.checked) false ⟨#[], #[.slice none 0 0, .int .i64 0, .int .i64 0, .int .i64 0, .int .i64 0], []⟩ 8 (by kernel_rfl) (by kernel_rfl) (by kernel_rfl) (by kernel_rfl)) ?_
  intro W base args ds gs before hval0 hW hcnd _
  have hval : ∀ (j : Nat) t v, Try.f5.params[j]? = some t → args[j]? = some v → Value.okWide Try.prog W .any base t v := hval0
  have hW' := hW
  obtain ⟨p, q, hA0, hV, rfl, hfz, hnd⟩ := hW
  have hA : DataW.TrodAll enc Try.prog W 0 (fun _ => true) true Try.f5.params.toList args.toList ds p := hA0
  rw [Try.params5] at hA hval
  obtain ⟨v0, vs0, d0, ds0, p0, q0, hargs, rfl, rfl, h0, r0⟩ := trodAll_cons hA
  obtain ⟨v1, vs1, d1, ds1, p1, q1, rfl, rfl, rfl, h1, r1⟩ := trodAll_cons r0
  obtain ⟨v2, vs2, d2, ds2, p2, q2, rfl, rfl, rfl, h2, r2⟩ := trodAll_cons r1
  obtain ⟨v3, vs3, d3, ds3, p3, q3, rfl, rfl, rfl, h3, r3⟩ := trodAll_cons r2
  obtain ⟨v4, vs4, d4, ds4, p4, q4, rfl, rfl, rfl, h4, r4⟩ := trodAll_cons r3
  obtain ⟨rfl, rfl, rfl⟩ := trodAll_nil r4
  obtain rfl : args = #[v0, v1, v2, v3, v4] := by cases args; simp_all
  obtain ⟨rfl, rfl⟩ := trodVars_none hV
  obtain ⟨a0, len0, cap0, rfl⟩ := okWide_slice Try.underlying22 (hval 0 22 v0 rfl rfl)
  have k0 := h0
  have lt0 : ∀ x ∈ p0, x.block < W.heap.size := by obtain ⟨m, hm⟩ := k0; exact DataW.trod_lt m _ _ _ hm
  obtain ⟨ss0, w0, n0⟩ := Lea.open_leases h0
  obtain ⟨a1, rfl, rfl, rfl, w1⟩ := open_int Try.underlying3 (hval 1 3 v1 rfl rfl) h1
  obtain ⟨a2, rfl, rfl, rfl, w2⟩ := open_int Try.underlying3 (hval 2 3 v2 rfl rfl) h2
  obtain ⟨a3, rfl, rfl, rfl, w3⟩ := open_int Try.underlying3 (hval 3 3 v3 rfl rfl) h3
  obtain ⟨a4, rfl, rfl, rfl, w4⟩ := open_int Try.underlying3 (hval 4 3 v4 rfl rfl) h4
  clear hA0 hval0
  refine (walk a0 len0 cap0 ss0 a1 a2 a3 a4 W w0 w1 w2 w3 w4).mono fun e W' ⟨he, bel⟩ => ?_
  subst he
  exact ⟨_, rfl, _, _, _, [], _, [], hW', trodAll_mk1 (shut_bool Try.underlying4 _), (trodAll_cons_mk (Below.trod laidOut (by kernel_rfl) (of_decide_eq_true (by kernel_rfl)) k0 bel lt0) (trodAll_cons_mk (shut_int Try.underlying3 w1) (trodAll_cons_mk (shut_int Try.underlying3 w2) (trodAll_cons_mk (shut_int Try.underlying3 w3) (trodAll_cons_mk (shut_int Try.underlying3 w4) trodAll_mk0))))), rfl, bel.frame _, fun h => by cases h⟩

theorem over : Rows.leaseLastsRow.holds Try.pinned (OpenSpec.ofChange Rows.leaseLastsSpec) :=
  OpenClaim.holds_of_wide 5 Try.f5 rfl rfl rfl rfl rfl rfl rfl ⟨rfl, rfl, rfl, rfl, rfl⟩ rfl rfl rfl rfl rfl (by kernel_rfl) Try.func5 (by kernel_rfl)
    (of_decide_eq_true (by kernel_rfl)) (by unfold Func.isWrapper; first | (rw [if_pos (by decide +kernel)]; kernel_rfl) | (rw [if_neg (by decide +kernel)]; exact ⟨rfl, rfl⟩))
    (fun os started H enc _ => lifted os started H enc)
end Go.Proofs.Ytflccniidaogiaa.leaseLasts

namespace Go.Proofs.Ytflccniidaogiaa
/-- The statement. -/
theorem leaseLasts_holds : Rows.LeaseLastsSaid := leaseLasts.over
#print axioms leaseLasts_holds
end Go.Proofs.Ytflccniidaogiaa
