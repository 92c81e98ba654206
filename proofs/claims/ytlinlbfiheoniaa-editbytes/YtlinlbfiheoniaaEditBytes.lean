/- EditBytes: for every edit and every string: the statement's function returns true; nothing that was there is changed. No condition. -/
import Derived.Test.YtlinlbfiheoniaaEditL1
import Derived.Test.YtlinlbfiheoniaaEditL2
import Derived.Test.YtlinlbfiheoniaaEditR3
import Derived.Test.YtlinlbfiheoniaaEditOpen
import Derived.Lib.QuietBelow
import Derived.BigQuiet
namespace Go.Proofs.Ytlinlbfiheoniaa.editBytes
open Go.ChangeShapes Go.WideShapes Go.ChangeAt Go.RowKit Go.Proofs.Ytlinlbfiheoniaa Go.Proofs.Ytlinlbfiheoniaa.Edi
open Go.ChangeMaps (open_string shut_string)
set_option linter.unusedVariables false

theorem own : ownKnob Try.prog.godebug = none := by kernel_rfl

/-- What both Encodes and both Rights answer. -/
theorem enc_two (e : Ed) : ∃ (E : ByteArray) (x : Int) (u : Bool), (∀ W a m q, Nm W a m e.ls → Calls Try.prog 8 #[edV e a m q] W fun y w' => y = .returned (.tuple #[.string E, .int .i64 x]) ∧ Below W.heap.size W w') ∧
    (∀ W a m q, Nm W a m e.ls → Calls Try.prog 9 #[edV e a m q] W fun y w' => y = .returned (.tuple #[.string E, .bool u]) ∧ Below W.heap.size W w') ∧
    (∀ W a m q, Nm W a m e.ls → Calls Try.prog 13 #[edV e a m q] W fun y w' => y = .returned (.bool u) ∧ Below W.heap.size W w') ∧
    (∀ W a m q, Nm W a m e.ls → Calls Try.prog 14 #[edV e a m q] W fun y w' => y = .returned (.bool u) ∧ Below W.heap.size W w') ∧ (x = 0 ∧ u = true ∨ x = 1 ∧ u = false) := by
  by_cases h : Rt e
  · exact ⟨encS e, 0, true, fun W a m q hn => encode_yes hn h _ rfl, fun W a m q hn => refEncode_yes hn h _ rfl, fun W a m q hn => right_val hn true ⟨fun _ => h, fun _ => rfl⟩, fun W a m q hn => refRight_val hn true ⟨fun _ => h, fun _ => rfl⟩, .inl ⟨rfl, rfl⟩⟩
  · exact ⟨⟨#[]⟩, 1, false, fun W a m q hn => encode_no hn h, fun W a m q hn => refEncode_no hn h, fun W a m q hn => right_val hn false ⟨fun x => (by cases x), fun x => absurd x h⟩, fun W a m q hn => refRight_val hn false ⟨fun x => (by cases x), fun x => absurd x h⟩, .inr ⟨rfl, rfl⟩⟩

/-- What both Decodes answer. -/
theorem dec_two (s : ByteArray) (hs : s.size ≤ maxLen) : ∃ (f : Ed) (y : Int) (v : Bool), (∀ W, Calls Try.prog 11 #[.string s] W fun x w' => DecR W.heap.size (.int .i64 y) f x w' ∧ Below W.heap.size W w') ∧
    (∀ W, Calls Try.prog 10 #[.string s] W fun x w' => DecR W.heap.size (.bool v) f x w' ∧ Below W.heap.size W w') ∧ (y = 0 ∧ v = true ∨ y = 2 ∧ v = false) := by
  cases h : decE s with
  | none => exact ⟨zeroE, 2, false, fun W => (decode_no s W hs h).mono fun x w' ⟨h1, h2⟩ => ⟨⟨none, 0, 0, none, h1, NO.none _ _⟩, h2⟩, fun W => (refDecode_no s W hs h).mono fun x w' ⟨h1, h2⟩ => ⟨⟨none, 0, 0, none, h1, NO.none _ _⟩, h2⟩, .inr ⟨rfl, rfl⟩⟩
  | some f => exact ⟨f, 0, true, fun W => decode_yes s f W hs h, fun W => refDecode_yes s f W hs h, .inl ⟨rfl, rfl⟩⟩

/-- Numbers that may be spoiled. -/
structure Sp (base : Nat) (w : World) (a : Option Addr) (m : Nat) : Prop where
  ex : ∀ i, i < m → ∃ g, a = some ⟨g, 0, none⟩ ∧ base ≤ g ∧ (∃ v, w.cell? ⟨g, i, none⟩ = some v) ∧ w.frozen? ⟨g, i, none⟩ = false

theorem Sp.of {base : Nat} {w : World} {a : Option Addr} {m q : Nat} {zs : List Int} {g : Option Nat} (h : NO base w a m q zs g) : Sp base w a m := ⟨fun i hi => by
  obtain ⟨b, ha, hg⟩ := h.cel.at2 (by omega)
  have hc := h.cel
  rw [ha, hg] at hc
  have lv := hc.live i (by have := hc.cap2.1; omega)
  exact ⟨b, ha, (h.own b hg).2, Option.isSome_iff_exists.1 lv.1, lv.2⟩⟩
theorem Sp.set {base : Nat} {w : World} {a : Option Addr} {m : Nat} (h : Sp base w a m) (b j : Nat) (v : Value) : Sp base (w.setCell ⟨b, j, none⟩ v) a m := ⟨fun i hi => by
  obtain ⟨g, h1, h2, ⟨u, h3⟩, h4⟩ := h.ex i hi
  refine ⟨g, h1, h2, ?_, by rw [World.frozen?_setCell]; exact h4⟩
  by_cases e : (⟨b, j, none⟩ : Addr) = ⟨g, i, none⟩
  · rw [e]; exact ⟨v, World.cell?_setCell_same _ _ _ h3⟩
  · exact ⟨u, (World.cell?_setCell_other _ _ _ _ e).trans h3⟩⟩
theorem Sp.below {base : Nat} {w w' : World} {a : Option Addr} {m : Nat} (h : Sp base w a m) (hb : Below w.heap.size w w') : Sp base w' a m := ⟨fun i hi => by
  obtain ⟨g, h1, h2, ⟨u, h3⟩, h4⟩ := h.ex i hi
  exact ⟨g, h1, h2, ⟨u, bel_cell hb h3⟩, bel_froz hb h3 h4⟩⟩

set_option maxRecDepth 100000 in
set_option maxHeartbeats 16000000 in
theorem core {e : Ed} {a : Option Addr} {m q : Nat} (w : World) (h : Nm w a m e.ls) (B : ByteArray) (hB : B.size ≤ maxLen) :
    Calls Try.prog 3 #[edV e a m q, .string B] w fun x w' => x = .returned (.bool true) ∧ Below w.heap.size w w' := by
  obtain ⟨E, x1, u, cE, cF, cR, cS, hxu⟩ := enc_two e
  obtain ⟨f, y1, v, cD, cG, hyv⟩ := dec_two B hB
  have CE : Hid (∀ W, Below w.heap.size w W → Calls Try.prog 8 #[edV e a m q] W fun y w' => y = .returned (.tuple #[.string E, .int .i64 x1]) ∧ Below W.heap.size W w') := fun W hb => cE W a m q (h.below hb)
  have CF : Hid (∀ W, Below w.heap.size w W → Calls Try.prog 9 #[edV e a m q] W fun y w' => y = .returned (.tuple #[.string E, .bool u]) ∧ Below W.heap.size W w') := fun W hb => cF W a m q (h.below hb)
  have CR : Hid (∀ W, Below w.heap.size w W → Calls Try.prog 13 #[edV e a m q] W fun y w' => y = .returned (.bool u) ∧ Below W.heap.size W w') := fun W hb => cR W a m q (h.below hb)
  have CS : Hid (∀ W, Below w.heap.size w W → Calls Try.prog 14 #[edV e a m q] W fun y w' => y = .returned (.bool u) ∧ Below W.heap.size W w') := fun W hb => cS W a m q (h.below hb)
  have CD : Hid (∀ W, Calls Try.prog 11 #[.string B] W fun x w' => DecR W.heap.size (.int .i64 y1) f x w' ∧ Below W.heap.size W w') := cD
  have CG : Hid (∀ W, Calls Try.prog 10 #[.string B] W fun x w' => DecR W.heap.size (.bool v) f x w' ∧ Below W.heap.size W w') := cG
  have CT : Hid (∀ W b y z b2 y2 z2, Nm W b y f.ls → Nm W b2 y2 f.ls → Calls Try.prog 12 #[edV f b y z, edV f b2 y2 z2] W fun x w' => x = .returned (.bool true) ∧ Below W.heap.size W w') := fun W b y z b2 y2 z2 hn hn2 => same_val hn hn2 true ⟨fun _ => rfl, fun _ => rfl⟩
  obtain ⟨k, p, t, c, l, n, ls⟩ := e
  obtain ⟨k2, p2, t2, c2, l2, n2, ls2⟩ := f
  unfold edV at *
  simp only at CE CF CR CS CT
  have KE : Hid (EdAt (w.alloc (.cells #[.int .i64 k, .string p, .string t, .int .i64 c, .int .i64 l, .int .i64 n, .slice a m q] 24)) w.heap.size ⟨k, p, t, c, l, n, ls⟩ a m q) := EdAt.new w 24 ⟨k, p, t, c, l, n, ls⟩ a m q
  have KB : Hid (Below w.heap.size w (w.alloc (.cells #[.int .i64 k, .string p, .string t, .int .i64 c, .int .i64 l, .int .i64 n, .slice a m q] 24))) := bel_al _ _
  have HXU : Hid (x1 = 0 ∧ u = true ∨ x1 = 1 ∧ u = false) := hxu
  have HYV : Hid (y1 = 0 ∧ v = true ∨ y1 = 2 ∧ v = false) := hyv
  clear h hB cE cF cR cS cD cG hxu hyv
  go_enter Try.func3, Try.ntmps3
  go_wp2_with fail
  refine (examples_val _).mono ?_
  rintro x w1 ⟨rfl, b⟩
  replace KB : Hid (Below w.heap.size w w1) := bel_tr KB.out b
  replace KE : Hid (EdAt w1 w.heap.size ⟨k, p, t, c, l, n, ls⟩ a m q) := KE.out.below b
  clear b
  have q0w1 := KE.out.c0
  have q1w1 := KE.out.c1
  have q2w1 := KE.out.c2
  have q3w1 := KE.out.c3
  have q4w1 := KE.out.c4
  have q5w1 := KE.out.c5
  have q6w1 := KE.out.c6
  simp only at q0w1 q1w1 q2w1 q3w1 q4w1 q5w1
  go_wp2_with fail
  refine (CE.out _ KB.out).mono ?_
  rintro x w2 ⟨rfl, b⟩
  clear q0w1 q1w1 q2w1 q3w1 q4w1 q5w1 q6w1
  replace KB : Hid (Below w.heap.size w w2) := bel_tr KB.out b
  replace KE : Hid (EdAt w2 w.heap.size ⟨k, p, t, c, l, n, ls⟩ a m q) := KE.out.below b
  clear b
  have q0w2 := KE.out.c0
  have q1w2 := KE.out.c1
  have q2w2 := KE.out.c2
  have q3w2 := KE.out.c3
  have q4w2 := KE.out.c4
  have q5w2 := KE.out.c5
  have q6w2 := KE.out.c6
  simp only at q0w2 q1w2 q2w2 q3w2 q4w2 q5w2
  go_wp2_with fail
  refine (CF.out _ KB.out).mono ?_
  rintro x w3 ⟨rfl, b⟩
  clear q0w2 q1w2 q2w2 q3w2 q4w2 q5w2 q6w2
  replace KB : Hid (Below w.heap.size w w3) := bel_tr KB.out b
  replace KE : Hid (EdAt w3 w.heap.size ⟨k, p, t, c, l, n, ls⟩ a m q) := KE.out.below b
  clear b
  go_wp2_with fail
  refine (CG.out _).mono ?_
  rintro x w4 ⟨⟨la, lm, lq, lg, rfl, hL⟩, b⟩
  replace KB : Hid (Below w.heap.size w w4) := bel_tr KB.out b
  replace KE : Hid (EdAt w4 w.heap.size ⟨k, p, t, c, l, n, ls⟩ a m q) := KE.out.below b
  clear b
  have HWN : Hid (Nm (w4.alloc (.cells #[.int .i64 k2, .string p2, .string t2, .int .i64 c2, .int .i64 l2, .int .i64 n2, .slice la lm lq] 24)) la lm ls2) := hL.nm.below (bel_al _ _)
  have HWE : Hid (EdAt (w4.alloc (.cells #[.int .i64 k2, .string p2, .string t2, .int .i64 c2, .int .i64 l2, .int .i64 n2, .slice la lm lq] 24)) w4.heap.size ⟨k2, p2, t2, c2, l2, n2, ls2⟩ la lm lq) := EdAt.new w4 24 ⟨k2, p2, t2, c2, l2, n2, ls2⟩ la lm lq
  have b := bel_al w4 (.cells #[.int .i64 k2, .string p2, .string t2, .int .i64 c2, .int .i64 l2, .int .i64 n2, .slice la lm lq] 24)
  clear hL
  unfold edV
  simp only
  replace KB : Hid (Below w.heap.size w (w4.alloc (.cells #[.int .i64 k2, .string p2, .string t2, .int .i64 c2, .int .i64 l2, .int .i64 n2, .slice la lm lq] 24))) := bel_tr KB.out b
  replace KE : Hid (EdAt (w4.alloc (.cells #[.int .i64 k2, .string p2, .string t2, .int .i64 c2, .int .i64 l2, .int .i64 n2, .slice la lm lq] 24)) w.heap.size ⟨k, p, t, c, l, n, ls⟩ a m q) := KE.out.below b
  clear b
  have hsz4 : w4.heap.size < (w4.alloc (.cells #[.int .i64 k2, .string p2, .string t2, .int .i64 c2, .int .i64 l2, .int .i64 n2, .slice la lm lq] 24)).heap.size := World.block_lt_of_cell? _ _ HWE.out.c0
  have HW4 : Hid (w4.heap.size < (w4.alloc (.cells #[.int .i64 k2, .string p2, .string t2, .int .i64 c2, .int .i64 l2, .int .i64 n2, .slice la lm lq] 24)).heap.size) := hsz4
  clear hsz4
  go_wp2
  generalize hw5 : w4.alloc (.cells #[.int .i64 k2, .string p2, .string t2, .int .i64 c2, .int .i64 l2, .int .i64 n2, .slice la lm lq] 24) = w5 at *
  have HB5 : Hid (Below w.heap.size w w5) := KB.out
  have HE5 : Hid (EdAt w5 w.heap.size ⟨k, p, t, c, l, n, ls⟩ a m q) := KE.out
  clear hw5 KB KE
  go_loopw [12, 13, 14, 15, 16] (fun v12 _ _ _ _ wr => ∃ i : Nat, i ≤ 2 ∧ v12 = .int .i64 i ∧ Below w5.heap.size w5 wr) (fun v12 _ _ _ _ _ => 2 - (intOf v12).toNat)
  case atStart => exact ⟨0, by omega, rfl, Below.refl _ _⟩
  case round =>
    obtain ⟨i, hi, rfl, hb⟩ := hrel
    rename World => wo
    have HB : Hid (Below w5.heap.size w5 wo) := hb
    clear hb
    by_cases hlt : i < 2
    · have hyv := HYV.out
      rcases hyv with ⟨rfl, rfl⟩ | ⟨rfl, rfl⟩
      all_goals
        have gi : decide ((i : Int) < 2) = true := decide_eq_true (by omega)
        go_wp2_with fail
        refine (CD.out _).mono ?_
        rintro x w6 ⟨⟨ya, ym, yq, yg, rfl, hL⟩, b⟩
        have HB6 : Hid (Below w5.heap.size w5 w6) := bel_tr HB.out b
        have HO6 : Hid (NO wo.heap.size w6 ya ym yq ls2 yg) := hL
        have HX6 : Hid (EdAt (w6.alloc (.cells #[.int .i64 k2, .string p2, .string t2, .int .i64 c2, .int .i64 l2, .int .i64 n2, .slice ya ym yq] 24)) w6.heap.size ⟨k2, p2, t2, c2, l2, n2, ls2⟩ ya ym yq) := EdAt.new w6 24 ⟨k2, p2, t2, c2, l2, n2, ls2⟩ ya ym yq
        have HC6 : Hid (EdAt (w6.alloc (.cells #[.int .i64 k2, .string p2, .string t2, .int .i64 c2, .int .i64 l2, .int .i64 n2, .slice ya ym yq] 24)) w4.heap.size ⟨k2, p2, t2, c2, l2, n2, ls2⟩ la lm lq) := (HWE.out.below HB6.out).below (bel_al _ _)
        have hC6 := HC6.out
        have hlid := hL.nm.lid
        unfold maxLen at hlid
        clear b hL
        unfold edV
        simp only
        have r0 := hC6.c0
        have r1 := hC6.c1
        have r2 := hC6.c2
        have r3 := hC6.c3
        have r4 := hC6.c4
        have r5 := hC6.c5
        have r6 := hC6.c6
        simp only at r0 r1 r2 r3 r4 r5
        clear hC6
        go_wp2_with fail
        refine (CT.out _ _ _ _ _ _ _ (HO6.out.nm.below (bel_al _ _)) ((HWN.out.below HB6.out).below (bel_al _ _))).mono ?_
        rintro x w7 ⟨rfl, b⟩
        have HB7 : Hid (Below w5.heap.size w5 w7) := bel_tr HB6.out (bel_tr (bel_al _ _) b)
        have HX7 : Hid (EdAt w7 w6.heap.size ⟨k2, p2, t2, c2, l2, n2, ls2⟩ ya ym yq) := HX6.out.below b
        have HS7 : Hid (Sp wo.heap.size w7 ya ym) := (Sp.of HO6.out).below (bel_tr (bel_al _ _) b)
        have HNE : Hid (∀ g, ya = some ⟨g, 0, none⟩ → 0 < ym → g < w6.heap.size) := fun g hg hp => by
          obtain ⟨b', h1, h2⟩ := HO6.out.cel.at2 hp
          rw [hg] at h1
          cases h1
          exact (HO6.out.own _ h2).1
        clear b r0 r1 r2 r3 r4 r5 r6
        go_wp2
        go_loopw [16] (fun v16 w8 => ∃ j : Nat, j ≤ ym ∧ v16 = .int .i64 j ∧ Sp wo.heap.size w8 ya ym ∧ EdAt w8 w6.heap.size ⟨k2, p2, t2, c2, l2, n2, ls2⟩ ya ym yq ∧ Below w5.heap.size w5 w8) (fun v16 _ => ym - (intOf v16).toNat)
        case atStart => exact ⟨0, by omega, rfl, HS7.out, HX7.out, HB7.out⟩
        case round =>
          obtain ⟨j, hj, rfl, hS, hX, hb⟩ := hrel
          have HS : Hid _ := hS
          have HX : Hid _ := hX
          have HB8 : Hid _ := hb
          have s6 := hX.c6
          by_cases hjl : j < ym
          · obtain ⟨g, rfl, hg, ⟨gv, hgc⟩, hgf⟩ := hS.ex j hjl
            have HG : Hid (wo.heap.size ≤ g) := hg
            have HGN : Hid (g < w6.heap.size) := HNE.out g rfl (by omega)
            clear hS hX hb hg
            go_wp2
            go_roundw
            case rel =>
              have hset := Stay.setCell (O := fun k => k = g) wr ⟨g, j, none⟩ (.int .i64 (-1)) rfl
              refine ⟨j + 1, by omega, by go_num, HS.out.set g j _, HX.out.keep hset (fun e => by have := HGN.out; omega), HB8.out.trans (hset.below HB8.out.size (fun k hk => by have h1 := HG.out; have h2 := HB.out.size; omega))⟩
            case measure => simp [intOf]; omega
          · obtain rfl : j = ym := by omega
            have hgd : decide ((j : Int) < (j : Int)) = false := decide_eq_false (by omega)
            clear hS hX hb hjl
            go_wp2
            go_roundw
            case rel => exact ⟨i + 1, by omega, by go_num, HB8.out⟩
            case measure => simp [intOf]; omega
    · obtain rfl : i = 2 := by omega
      have B9 : Hid (Below w.heap.size w wo) := bel_tr HB5.out HB.out
      have hE9 := HE5.out.below HB.out
      have q0 := hE9.c0
      have q1 := hE9.c1
      have q2 := hE9.c2
      have q3 := hE9.c3
      have q4 := hE9.c4
      have q5 := hE9.c5
      have q6 := hE9.c6
      simp only at q0 q1 q2 q3 q4 q5
      clear hE9 hlt
      have hEE : (E.toList == E.toList) = true := by simp
      rcases HXU.out with ⟨rfl, rfl⟩ | ⟨rfl, rfl⟩
      all_goals
        have v0 := fun dd os => cell_regrown q0 dd os
        have v1 := fun dd os => cell_regrown q1 dd os
        have v2 := fun dd os => cell_regrown q2 dd os
        have v3 := fun dd os => cell_regrown q3 dd os
        have v4 := fun dd os => cell_regrown q4 dd os
        have v5 := fun dd os => cell_regrown q5 dd os
        have v6 := fun dd os => cell_regrown q6 dd os
        have HB9 : Hid (∀ dd os, Below w.heap.size w (Sort.grow (redrawn wo dd) os)) := fun dd os => bel_tr B9.out (below_regrown wo dd os)
        go_wp2
        refine wp_region_quiet_below (by kernel_rfl) (by kernel_rfl) ?_
        repeat (first | go_big_quiet_step (first | (go_at_call 13; refine Calls.regrown_of (CR.out _ (HB9.out _ _))) | (go_at_call 14; refine Calls.regrown_of (CS.out _ (HB9.out _ _)))) | quiet_step (first | (go_at_call 13; refine Calls.regrown_of (CR.out _ (HB9.out _ _))) | (go_at_call 14; refine Calls.regrown_of (CS.out _ (HB9.out _ _)))))
        refine wpQuiet_nil ?_
        intro _ hw'
        obtain ⟨⟨dq, osq⟩, hw''⟩ := hw'
        subst hw''
        have B10 : Hid (Below wo.heap.size wo (Sort.grow (redrawn wo dq) osq)) := below_regrown wo dq osq
        clear v0 v1 v2 v3 v4 v5 v6
        generalize Sort.grow (redrawn wo dq) osq = wz at *
        go_wp2
        go_ret
        exact ⟨rfl, bel_tr B9.out B10.out⟩

theorem walk (e0 : Ed) (a0 : Option Addr) (m0 c0 : Nat) (a1 : ByteArray) (W : World) (w0 : Nm W a0 m0 e0.ls) (w1 : a1.size ≤ maxLen) :
    Calls Try.prog 3 #[edV e0 a0 m0 c0, .string a1] W fun x w' => x = .returned (.bool true) ∧ Below W.heap.size W w' := core W w0 a1 w1

set_option maxRecDepth 100000 in
theorem lifted (os : Os) (started : os.Started) (H : Type) (enc : TypeId × Value → H) :
    ReturnsInHanded {} Try.checked os 3 .any (Rows.editBytesSpec.pre6 enc Try.prog Try.f3 Rows.editBytesRow.domain false) (Rows.editBytesSpec.post enc Try.prog Try.f3 false true false false) := by
  refine returnsInHanded_of_change (C := Try.checked) own started (by kernel_rfl) Try.func3
    (ChangeSpec.witness6 (enc := enc) (C := Try.checked) false ⟨#[], #[.agg #[.int .i64 0, .string ByteArray.empty, .string ByteArray.empty, .int .i64 0, .int .i64 0, .int .i64 0, .slice none 0 0], .string ByteArray.empty], []⟩ 8 (by kernel_rfl) (by kernel_rfl) (by kernel_rfl) (by kernel_rfl)) ?_
  intro W base args ds gs before hval0 hW hcnd _
  have hval : ∀ (j : Nat) t v, Try.f3.params[j]? = some t → args[j]? = some v → Value.okWide Try.prog W .any base t v := hval0
  have hW' := hW
  obtain ⟨p, q, hA0, hV, rfl, hfz, hnd⟩ := hW
  have hA : DataW.TrodAll enc Try.prog W 0 (fun _ => true) true Try.f3.params.toList args.toList ds p := hA0
  rw [Try.params3] at hA hval
  obtain ⟨v0, vs0, d0, ds0, p0, q0, hargs, rfl, rfl, h0, r0⟩ := trodAll_cons hA
  obtain ⟨v1, vs1, d1, ds1, p1, q1, rfl, rfl, rfl, h1, r1⟩ := trodAll_cons r0
  obtain ⟨rfl, rfl, rfl⟩ := trodAll_nil r1
  obtain rfl : args = #[v0, v1] := by cases args; simp_all
  obtain ⟨rfl, rfl⟩ := trodVars_none hV
  have k0 := h0
  have lt0 : ∀ x ∈ p0, x.block < W.heap.size := by obtain ⟨m, hm⟩ := k0; exact DataW.trod_lt m _ _ _ hm
  obtain ⟨e0, a0, m0, c0, rfl, w0⟩ := Edi.open_edit (hval 0 24 v0 rfl rfl) h0
  obtain ⟨a1, rfl, rfl, rfl, w1⟩ := open_string Try.underlying9 (hval 1 9 v1 rfl rfl) h1
  clear hA0 hval0
  refine (walk e0 a0 m0 c0 a1 W w0 w1).mono fun e W' ⟨he, bel⟩ => ?_
  subst he
  exact ⟨_, rfl, _, _, _, [], _, [], hW', trodAll_mk1 (shut_bool Try.underlying4 _), (trodAll_cons_mk (Below.trod laidOut (by kernel_rfl) (of_decide_eq_true (by kernel_rfl)) k0 bel lt0) (trodAll_cons_mk (shut_string Try.underlying9 w1) trodAll_mk0)), rfl, bel.frame _, fun h => by cases h⟩

theorem over : Rows.editBytesRow.holds Try.pinned (OpenSpec.ofChange Rows.editBytesSpec) :=
  OpenClaim.holds_of_wide 3 Try.f3 rfl rfl rfl rfl rfl rfl rfl ⟨rfl, rfl, rfl, rfl, rfl⟩ rfl rfl rfl rfl rfl (by kernel_rfl) Try.func3 (by kernel_rfl)
    (of_decide_eq_true (by kernel_rfl)) (by unfold Func.isWrapper; first | (rw [if_pos (by decide +kernel)]; kernel_rfl) | (rw [if_neg (by decide +kernel)]; exact ⟨rfl, rfl⟩))
    (fun os started H enc _ => lifted os started H enc)
end Go.Proofs.Ytlinlbfiheoniaa.editBytes

namespace Go.Proofs.Ytlinlbfiheoniaa
/-- The statement. -/
theorem editBytes_holds : Rows.EditBytesSaid := editBytes.over
#print axioms editBytes_holds
end Go.Proofs.Ytlinlbfiheoniaa
