/- The contract of tabulariumref10.Encode. -/
import Derived.Test.YtlinlbfiheoniaaEditR1
import Derived.Test.YtlinlbfiheoniaaWireTextR
import Derived.Deep.RegionHeld3
namespace Go.Proofs.Ytlinlbfiheoniaa.Edi
open Go.RowKit Go.Proofs.Ytlinlbfiheoniaa
open Go.WideShapes (bytes_inj)

theorem cat2 (a b : ByteArray) (h : a.size + b.size ≤ 100000) : ∃ J : ByteArray, a ++ b = J ∧ (∀ w : World, (Op.stringOp .add a b).run Try.prog w = .ok (.string J) w) ∧ J.size = a.size + b.size :=
  ⟨a ++ b, rfl, fun w => run_string_add_sum w a b (by omega), ByteArray.size_append⟩

theorem refNum_val (n : Int) (X : ByteArray) (h0 : -9223372036854775808 ≤ n) (h1 : n ≤ 9223372036854775807) (hX : (⟨(numB n).toArray⟩ : ByteArray) = X) (w : World) :
    Calls Try.prog 18 #[.int .i64 n] w fun e w' => e = .returned (.string X) ∧ Below w.heap.size w w' := by
  rw [← hX]; exact refNum_any n w h0 h1
theorem num_ex (n : Int) (h0 : -9223372036854775808 ≤ n) (h1 : n ≤ 9223372036854775807) : ∃ X : ByteArray, (⟨(numB n).toArray⟩ : ByteArray) = X ∧ X.size ≤ 10 ∧ X.data.toList = numB n ∧ ∀ w, Calls Try.prog 18 #[.int .i64 n] w fun e w' => e = .returned (.string X) ∧ Below w.heap.size w w' :=
  ⟨_, rfl, by rw [mk_size]; exact numB_len h0 h1, rfl, fun w => refNum_any n w h0 h1⟩

set_option maxRecDepth 100000 in
set_option maxHeartbeats 1000000 in
theorem refEncode_no {e : Ed} {a : Option Addr} {m q : Nat} {w : World} (h : Nm w a m e.ls) (hr : ¬ Rt e) :
    Calls Try.prog 9 #[edV e a m q] w fun x w' => x = .returned (.tuple #[.string ⟨#[]⟩, .bool false]) ∧ Below w.heap.size w w' := by
  have CR : Hid (∀ W, Below w.heap.size w W → Calls Try.prog 14 #[edV e a m q] W fun x w' => x = .returned (.bool false) ∧ Below W.heap.size W w') := fun W hb => refRight_val (h.below hb) false ⟨fun x => (by cases x), fun x => absurd x hr⟩
  obtain ⟨k, p, t, c, l, n, ls⟩ := e
  unfold edV at *
  simp only at CR
  clear h hr
  go_enter Try.func9, Try.ntmps9
  go_wp2_with (go_at_call 14; refine (CR.out _ (bel_al _ _)).mono ?_; rintro x w1 ⟨rfl, b1⟩)
  go_ret2
  exact ⟨rfl, bel_tr (bel_al _ _) b1⟩

set_option maxRecDepth 100000 in
set_option maxHeartbeats 4000000 in
theorem refEncode_yes {e : Ed} {a : Option Addr} {m q : Nat} {w : World} (h : Nm w a m e.ls) (hr : Rt e) (E : ByteArray) (hE : encS e = E) :
    Calls Try.prog 9 #[edV e a m q] w fun x w' => x = .returned (.tuple #[.string E, .bool true]) ∧ Below w.heap.size w w' := by
  have hf := hr.fit
  have HEd : Hid (EdAt (w.alloc (.cells #[.int .i64 e.k, .string e.p, .string e.t, .int .i64 e.c, .int .i64 e.l, .int .i64 e.n, .slice a m q] 24)) w.heap.size e a m q) := EdAt.new w 24 e a m q
  have CR : Hid (∀ W, Below w.heap.size w W → Calls Try.prog 14 #[edV e a m q] W fun x w' => x = .returned (.bool true) ∧ Below W.heap.size W w') := fun W hb => refRight_val (h.below hb) true ⟨fun _ => hr, fun _ => rfl⟩
  have hm8 : m ≤ 8 := by rw [← h.len]; exact hf.few
  obtain ⟨X1, hX1, s1, l1, c1⟩ := num_ex e.k hf.k0 hf.k1
  obtain ⟨X2, hX2, s2, l2, c2⟩ := num_ex e.c hf.c0 hf.c1
  obtain ⟨X3, hX3, s3, l3, c3⟩ := num_ex e.l hf.l0 hf.l1
  obtain ⟨X4, hX4, s4, l4, c4⟩ := num_ex e.n hf.n0 hf.n1
  obtain ⟨X5, hX5, s5, l5, c5⟩ := num_ex (m : Int) (by omega) (by omega)
  obtain ⟨PT, hPT⟩ : ∃ X : ByteArray, textB e.p = X := ⟨_, rfl⟩
  obtain ⟨TT, hTT⟩ : ∃ X : ByteArray, textB e.t = X := ⟨_, rfl⟩
  have sp : PT.size ≤ 4010 := by rw [← hPT, ← size_list]; exact textB_len _ hf.p
  have st : TT.size ≤ 4010 := by rw [← hTT, ← size_list]; exact textB_len _ hf.t
  obtain ⟨Y1, y1, a1, z1⟩ := cat2 X1 PT (by omega)
  obtain ⟨Y2, y2, a2, z2⟩ := cat2 Y1 TT (by omega)
  obtain ⟨Y3, y3, a3, z3⟩ := cat2 Y2 X2 (by omega)
  obtain ⟨Y4, y4, a4, z4⟩ := cat2 Y3 X3 (by omega)
  obtain ⟨Y5, y5, a5, z5⟩ := cat2 Y4 X4 (by omega)
  obtain ⟨Y6, y6, a6, z6⟩ := cat2 Y5 X5 (by omega)
  have hz6 : Y6.size ≤ 8080 := by omega
  have HY : Hid (Y6.data.toList ++ numsB e.ls = encL e) := by
    show (_ : List UInt8) = _
    rw [← y6, ← y5, ← y4, ← y3, ← y2, ← y1]
    simp only [app_list, l1, l2, l3, l4, l5, encL, List.append_assoc, h.len, hPT, hTT]
  have CP : Hid (∀ W, Calls Try.prog 17 #[.string e.p] W fun x w' => x = .returned (.tuple #[.string PT, .bool true]) ∧ Below W.heap.size W w') := fun W => by rw [← hPT]; exact refText_yes e.p W hf.p
  have CT : Hid (∀ W, Calls Try.prog 17 #[.string e.t] W fun x w' => x = .returned (.tuple #[.string TT, .bool true]) ∧ Below W.heap.size W w') := fun W => by rw [← hTT]; exact refText_yes e.t W hf.t
  have C1 : Hid (∀ W, Calls Try.prog 18 #[.int .i64 e.k] W fun x w' => x = .returned (.string X1) ∧ Below W.heap.size W w') := c1
  have C2 : Hid (∀ W, Calls Try.prog 18 #[.int .i64 e.c] W fun x w' => x = .returned (.string X2) ∧ Below W.heap.size W w') := c2
  have C3 : Hid (∀ W, Calls Try.prog 18 #[.int .i64 e.l] W fun x w' => x = .returned (.string X3) ∧ Below W.heap.size W w') := c3
  have C4 : Hid (∀ W, Calls Try.prog 18 #[.int .i64 e.n] W fun x w' => x = .returned (.string X4) ∧ Below W.heap.size W w') := c4
  have C5 : Hid (∀ W, Calls Try.prog 18 #[.int .i64 (m : Int)] W fun x w' => x = .returned (.string X5) ∧ Below W.heap.size W w') := c5
  have HEE : Hid (encS e = E) := hE
  have HF : Hid (∀ z ∈ e.ls, -9223372036854775808 ≤ z ∧ z ≤ 9223372036854775807) := hf.each
  have HN : Hid (Nm w a m e.ls) := h
  have HL : Hid (e.ls.length = m) := h.len
  obtain ⟨k, p, t, c, l, n, ls⟩ := e
  unfold edV at *
  simp only at CR CP CT C1 C2 C3 C4 HEd HF HN HL HY
  clear h hr hf hX1 hX2 hX3 hX4 hX5 c1 c2 c3 c4 c5 l1 l2 l3 l4 l5 hPT hTT y1 y2 y3 y4 y5 y6 hE s1 s2 s3 s4 s5 sp st z1 z2 z3 z4 z5 z6
  go_enter Try.func9, Try.ntmps9
  go_wp2_with fail
  refine (CR.out _ (bel_al _ _)).mono ?_
  rintro x w1 ⟨rfl, b1⟩
  have hE1 := HEd.out.below b1
  have q1 := hE1.c1
  have E1 : Hid _ := hE1
  have B1 : Hid (Below w.heap.size w w1) := bel_tr (bel_al _ _) b1
  clear hE1 b1 HEd
  go_wp2_with fail
  refine (CP.out _).mono ?_
  rintro x w2 ⟨rfl, b2⟩
  have hE2 := E1.out.below b2
  have q2 := hE2.c2
  have E2 : Hid _ := hE2
  have B2 : Hid (Below w.heap.size w w2) := bel_tr B1.out b2
  clear hE2 b2 E1 q1
  go_wp2_with fail
  refine (CT.out _).mono ?_
  rintro x w3 ⟨rfl, b3⟩
  have hE3 := E2.out.below b3
  have q0 := hE3.c0
  have q3 := hE3.c3
  have q4 := hE3.c4
  have q5 := hE3.c5
  have q6 := hE3.c6
  have E3 : Hid (EdAt w3 w.heap.size ⟨k, p, t, c, l, n, ls⟩ a m q) := hE3
  have B3 : Hid (Below w.heap.size w w3) := bel_tr B2.out b3
  clear hE3 b3 E2 q2
  simp only at q0 q3 q4 q5
  go_wp2_with fail
  have KB : Hid (Below w3.heap.size w3 w3.drew) := bel_drew w3
  have M1 : Hid True := trivial
  go_region_held3 (fun w' => w'.cell? ⟨w.heap.size, 0, none⟩ = some (.int .i64 k) ∧ w'.cell? ⟨w.heap.size, 3, none⟩ = some (.int .i64 c) ∧ w'.cell? ⟨w.heap.size, 4, none⟩ = some (.int .i64 l) ∧ w'.cell? ⟨w.heap.size, 5, none⟩ = some (.int .i64 n) ∧ w'.cell? ⟨w.heap.size, 6, none⟩ = some (.slice a m q))
    (first | (refine ⟨bel_cell KB.out q0, bel_cell KB.out q3, bel_cell KB.out q4, bel_cell KB.out q5, bel_cell KB.out q6⟩; done) | go_keep)
    (first
      | (go_at_call 18; have m1 := M1.out; refine (C1.out _).mono ?_; rintro x w4 ⟨rfl, b⟩; replace KB : Hid (Below w3.heap.size w3 w4) := bel_tr KB.out b; have M2 : Hid True := trivial; clear b m1 M1)
      | (go_at_call 18; have m1 := M2.out; refine (C2.out _).mono ?_; rintro x w5 ⟨rfl, b⟩; replace KB : Hid (Below w3.heap.size w3 w5) := bel_tr KB.out b; have M3 : Hid True := trivial; clear b m1 M2)
      | (go_at_call 18; have m1 := M3.out; refine (C3.out _).mono ?_; rintro x w6 ⟨rfl, b⟩; replace KB : Hid (Below w3.heap.size w3 w6) := bel_tr KB.out b; have M4 : Hid True := trivial; clear b m1 M3)
      | (go_at_call 18; have m1 := M4.out; refine (C4.out _).mono ?_; rintro x w7 ⟨rfl, b⟩; replace KB : Hid (Below w3.heap.size w3 w7) := bel_tr KB.out b; have M5 : Hid True := trivial; clear b m1 M4)
      | (go_at_call 18; have m1 := M5.out; refine (C5.out _).mono ?_; rintro x w8 ⟨rfl, b⟩; replace KB : Hid (Below w3.heap.size w3 w8) := bel_tr KB.out b; clear b m1 M5))
  have B8 : Hid (Below w.heap.size w w8) := bel_tr B3.out KB.out
  have E8 : Hid (EdAt w8 w.heap.size ⟨k, p, t, c, l, n, ls⟩ a m q) := E3.out.below KB.out
  clear q0 q3 q4 q5 q6 KB B1 B2 B3 E3 CR CP CT C1 C2 C3 C4 C5 a1 a2 a3 a4 a5 a6
  go_wp2
  go_loopw [9, 10] (fun v9 v10 wr => ∃ (i : Nat) (Y : ByteArray), i ≤ m ∧ v10 = .int .i64 i ∧ v9 = .string Y ∧ Y.data.toList = Y6.data.toList ++ numsB (ls.take i) ∧ EdAt wr w.heap.size ⟨k, p, t, c, l, n, ls⟩ a m q ∧ Below w.heap.size w wr) (fun _ v10 _ => m - (intOf v10).toNat)
  case atStart => exact ⟨0, Y6, by omega, rfl, rfl, by simp [numsB], E8.out, B8.out⟩
  case round =>
    obtain ⟨i, Y, hil, rfl, rfl, hY, hEd, hb⟩ := hrel
    have HB : Hid (Below w.heap.size w wr) := hb
    have HE : Hid (EdAt wr w.heap.size ⟨k, p, t, c, l, n, ls⟩ a m q) := hEd
    have HYY : Hid (Y.data.toList = Y6.data.toList ++ numsB (ls.take i)) := hY
    have q6 := hEd.c6
    by_cases hlt : i < m
    · have hix : i < ls.length := by rw [HL.out]; exact hlt
      obtain ⟨b, off, rfl, hat⟩ := (HN.out.below hb).at (by omega)
      have e0 := hat i hix
      have hzr := HF.out ls[i] (List.getElem_mem hix)
      have HT : Hid (numsB (ls.take (i + 1)) = numsB (ls.take i) ++ numB ls[i]) := by
        show (_ : List UInt8) = _
        rw [List.take_succ_eq_append_getElem hix, numsB_snoc]
      have hYs : Y.size ≤ 8200 := by
        have g1 := numsB_len (ls.take i) (fun z hz => HF.out z (List.mem_of_mem_take hz))
        rw [List.length_take] at g1
        rw [← size_list, hY, List.length_append, size_list]
        omega
      obtain ⟨X, hX, sX, lX, cX⟩ := num_ex ls[i] hzr.1 hzr.2
      obtain ⟨J, hJ, aJ, zJ⟩ := cat2 Y X (by omega)
      have HJ : Hid (J.data.toList = Y6.data.toList ++ numsB (ls.take (i + 1))) := by
        show (_ : List UInt8) = _
        rw [← hJ, app_list, hY, lX, HT.out, List.append_assoc]
      have CX : Hid (∀ W, Calls Try.prog 18 #[.int .i64 ls[i]] W fun x w' => x = .returned (.string X) ∧ Below W.heap.size W w') := cX
      clear hat hzr hYs hX sX lX cX hJ zJ hY hEd hb HT HYY
      generalize ls[i] = z at *
      go_wp2_with (go_at_call 18; refine (CX.out _).mono ?_; rintro x w9 ⟨rfl, b9⟩; have HB9 : Hid (Below w.heap.size w w9) := bel_tr HB.out b9; have HE9 : Hid (EdAt w9 w.heap.size ⟨k, p, t, c, l, n, ls⟩ _ m q) := HE.out.below b9; clear b9)
      go_roundw
      case rel => exact ⟨i + 1, J, by omega, by go_num, rfl, HJ.out, HE9.out, HB9.out⟩
      case measure => simp [intOf]; omega
    · obtain rfl : i = m := by omega
      have hgd : decide ((i : Int) < (i : Int)) = false := decide_eq_false (by omega)
      have HR : Hid (Y = E) := by
        show (_ : ByteArray) = _
        rw [← HEE.out]
        refine bytes_inj ?_
        rw [hY, List.take_of_length_le (by rw [HL.out]; omega), encS_list]
        exact HY.out
      clear hlt hY hEd hb
      go_wp2
      go_ret2
      exact ⟨by rw [← HR.out]; rfl, HB.out⟩

end Go.Proofs.Ytlinlbfiheoniaa.Edi
