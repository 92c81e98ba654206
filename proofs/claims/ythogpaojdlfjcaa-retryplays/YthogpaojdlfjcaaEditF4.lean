/- The contract of edit.Encode. -/
import Derived.Test.YthogpaojdlfjcaaEditF3
import Derived.Deep.RegionHeld3
namespace Go.Proofs.Ythogpaojdlfjcaa.Edi
open Go.RowKit Go.Proofs.Ythogpaojdlfjcaa Go.Proofs.Ythogpaojdlfjcaa.Wir
open Go.WideShapes (bytes_inj)

theorem cat (a b : ByteArray) (h : a.size + b.size ≤ 100000) : ∃ J : ByteArray, a ++ b = J ∧ (∀ w : World, (Op.stringOp .add a b).run Try.prog w = .ok (.string J) w) ∧ J.size = a.size + b.size :=
  ⟨a ++ b, rfl, fun w => run_string_add_sum w a b (by omega), ByteArray.size_append⟩

theorem kb1 {w w4 : World} {o : Obj} (b : Below (w.alloc o).drew.heap.size (w.alloc o).drew w4) : Below w.heap.size w w4 := bel_tr (bel_tr (bel_al _ _) (bel_drew _)) b
theorem kb2 {w w4 : World} {o o2 : Obj} (b : Below ((w.alloc o).alloc o2).drew.heap.size ((w.alloc o).alloc o2).drew w4) : Below w.heap.size w w4 := bel_tr (bel_tr (bel_tr (bel_al _ _) (bel_al _ _)) (bel_drew _)) b
theorem kb3 {w w4 w5 : World} {o : Obj} (k : Below w.heap.size w w4) (b : Below (w4.alloc o).heap.size (w4.alloc o) w5) : Below w.heap.size w w5 := bel_tr (bel_tr k (bel_al _ _)) b

theorem nums1 (z : Int) (X : ByteArray) (h0 : -9223372036854775808 ≤ z) (h1 : z ≤ 9223372036854775807) (hX : (⟨(numB z).toArray⟩ : ByteArray) = X) (b : Nat) (w : World) (hc : w.cell? ⟨b, 0, none⟩ = some (.int .i64 z)) :
    Calls Try.prog 27 #[.slice (some ⟨b, 0, none⟩) 1 1] w fun e w' => e = .returned (.string X) ∧ Below w.heap.size w w' := by
  have h : Nm w (some ⟨b, 0, none⟩) 1 [z] := ⟨rfl, by unfold maxLen; omega, fun _ => ⟨b, 0, rfl, fun j hj => by
    obtain rfl : j = 0 := by simpa using hj
    exact hc⟩⟩
  rw [← hX]
  exact numbers_val h (by omega) (fun x hx => by rw [List.mem_singleton.1 hx]; exact ⟨h0, h1⟩) (numB z) (by simp [numsB])

theorem nums4 (z0 z1 z2 z3 : Int) (X : ByteArray) (hr : ∀ z ∈ [z0, z1, z2, z3], -9223372036854775808 ≤ z ∧ z ≤ 9223372036854775807) (hX : (⟨(numsB [z0, z1, z2, z3]).toArray⟩ : ByteArray) = X) (b : Nat) (w : World) (hc0 : w.cell? ⟨b, 0, none⟩ = some (.int .i64 z0)) (hc1 : w.cell? ⟨b, 1, none⟩ = some (.int .i64 z1)) (hc2 : w.cell? ⟨b, 2, none⟩ = some (.int .i64 z2)) (hc3 : w.cell? ⟨b, 3, none⟩ = some (.int .i64 z3)) :
    Calls Try.prog 27 #[.slice (some ⟨b, 0, none⟩) 4 4] w fun e w' => e = .returned (.string X) ∧ Below w.heap.size w w' := by
  have h : Nm w (some ⟨b, 0, none⟩) 4 [z0, z1, z2, z3] := ⟨rfl, by unfold maxLen; omega, fun _ => ⟨b, 0, rfl, fun j hj => by
    have hj4 : j < 4 := hj
    match j, hj4 with
    | 0, _ => exact hc0
    | 1, _ => exact hc1
    | 2, _ => exact hc2
    | 3, _ => exact hc3⟩⟩
  rw [← hX]
  exact numbers_val h (by omega) hr _ rfl

set_option maxRecDepth 100000 in
set_option maxHeartbeats 1000000 in
theorem encode_no {e : Ed} {a : Option Addr} {m q : Nat} {w : World} (h : Nm w a m e.ls) (hr : ¬ Rt e) :
    Calls Try.prog 15 #[edV e a m q] w fun x w' => x = .returned (.tuple #[.string ⟨#[]⟩, .int .i64 1]) ∧ Below w.heap.size w w' := by
  have CR : Hid (∀ W, Below w.heap.size w W → Calls Try.prog 25 #[edV e a m q] W fun x w' => x = .returned (.bool false) ∧ Below W.heap.size W w') := fun W hb => right_val (h.below hb) false ⟨fun x => (by cases x), fun x => absurd x hr⟩
  obtain ⟨k, p, t, c, l, n, ls⟩ := e
  unfold edV at *
  simp only at CR
  clear h hr
  go_enter Try.func15, Try.ntmps15
  go_wp2_with (go_at_call 25; refine (CR.out _ (bel_al _ _)).mono ?_; rintro x w1 ⟨rfl, b1⟩)
  go_ret2
  exact ⟨rfl, bel_tr (bel_al _ _) b1⟩

set_option maxRecDepth 100000 in
set_option maxHeartbeats 4000000 in
theorem encode_yes {e : Ed} {a : Option Addr} {m q : Nat} {w : World} (h : Nm w a m e.ls) (hr : Rt e) (E : ByteArray) (hE : encS e = E) :
    Calls Try.prog 15 #[edV e a m q] w fun x w' => x = .returned (.tuple #[.string E, .int .i64 0]) ∧ Below w.heap.size w w' := by
  have hf := hr.fit
  have HEd : Hid (EdAt (w.alloc (.cells #[.int .i64 e.k, .string e.p, .string e.t, .int .i64 e.c, .int .i64 e.l, .int .i64 e.n, .slice a m q] 32)) w.heap.size e a m q) := EdAt.new w 32 e a m q
  have CR : Hid (∀ W, Below w.heap.size w W → Calls Try.prog 25 #[edV e a m q] W fun x w' => x = .returned (.bool true) ∧ Below W.heap.size W w') := fun W hb => right_val (h.below hb) true ⟨fun _ => hr, fun _ => rfl⟩
  have hm8 : m ≤ 8 := by rw [← h.len]; exact hf.few
  obtain ⟨X1, hX1⟩ : ∃ X : ByteArray, (⟨(numB e.k).toArray⟩ : ByteArray) = X := ⟨_, rfl⟩
  obtain ⟨X4, hX4⟩ : ∃ X : ByteArray, (⟨(numsB [e.c, e.l, e.n, (m : Int)]).toArray⟩ : ByteArray) = X := ⟨_, rfl⟩
  obtain ⟨X3, hX3⟩ : ∃ X : ByteArray, (⟨(numsB e.ls).toArray⟩ : ByteArray) = X := ⟨_, rfl⟩
  obtain ⟨PT, hPT⟩ : ∃ X : ByteArray, textB e.p = X := ⟨_, rfl⟩
  obtain ⟨TT, hTT⟩ : ∃ X : ByteArray, textB e.t = X := ⟨_, rfl⟩
  have hr4 : ∀ z ∈ [e.c, e.l, e.n, (m : Int)], -9223372036854775808 ≤ z ∧ z ≤ 9223372036854775807 := by
    intro z hz
    simp at hz
    rcases hz with rfl | rfl | rfl | rfl
    · exact ⟨hf.c0, hf.c1⟩
    · exact ⟨hf.l0, hf.l1⟩
    · exact ⟨hf.n0, hf.n1⟩
    · omega
  have s1 : X1.size ≤ 10 := by rw [← hX1, mk_size]; exact numB_len hf.k0 hf.k1
  have s4 : X4.size ≤ 40 := by rw [← hX4, mk_size]; exact numsB_len _ hr4
  have s3 : X3.size ≤ 80 := by rw [← hX3, mk_size]; have := numsB_len _ hf.each; have := hf.few; omega
  have sp : PT.size ≤ 4010 := by rw [← hPT, ← size_list]; exact textB_len _ hf.p
  have st : TT.size ≤ 4010 := by rw [← hTT, ← size_list]; exact textB_len _ hf.t
  obtain ⟨Y1, y1, a1, z1⟩ := cat X1 PT (by omega)
  obtain ⟨Y2, y2, a2, z2⟩ := cat Y1 TT (by omega)
  obtain ⟨Y3, y3, a3, z3⟩ := cat Y2 X4 (by omega)
  obtain ⟨Y4, y4, a4, z4⟩ := cat Y3 X3 (by omega)
  have hY : Y4 = E := by
    show (_ : ByteArray) = _
    rw [← hE, ← y4, ← y3, ← y2, ← y1, ← hX1, ← hX3, ← hX4, ← hPT, ← hTT]
    refine bytes_inj ?_
    rw [encS_list]
    simp only [app_list, encL, numsB, List.flatMap_cons, List.flatMap_nil, List.append_assoc, h.len, List.append_nil]
  have CP : Hid (∀ W, Calls Try.prog 26 #[.string e.p] W fun x w' => x = .returned (.tuple #[.string PT, .int .i64 0]) ∧ Below W.heap.size W w') := fun W => by rw [← hPT]; exact text_yes e.p W hf.p
  have CT : Hid (∀ W, Calls Try.prog 26 #[.string e.t] W fun x w' => x = .returned (.tuple #[.string TT, .int .i64 0]) ∧ Below W.heap.size W w') := fun W => by rw [← hTT]; exact text_yes e.t W hf.t
  have C1 : Hid (∀ (b : Nat) (W : World), W.cell? ⟨b, 0, none⟩ = some (.int .i64 e.k) → Calls Try.prog 27 #[.slice (some ⟨b, 0, none⟩) 1 1] W fun x w' => x = .returned (.string X1) ∧ Below W.heap.size W w') := fun b W => nums1 e.k X1 hf.k0 hf.k1 hX1 b W
  have C4 : Hid (∀ (b : Nat) (W : World), W.cell? ⟨b, 0, none⟩ = some (.int .i64 e.c) → W.cell? ⟨b, 1, none⟩ = some (.int .i64 e.l) → W.cell? ⟨b, 2, none⟩ = some (.int .i64 e.n) → W.cell? ⟨b, 3, none⟩ = some (.int .i64 (m : Int)) → Calls Try.prog 27 #[.slice (some ⟨b, 0, none⟩) 4 4] W fun x w' => x = .returned (.string X4) ∧ Below W.heap.size W w') := fun b W => nums4 e.c e.l e.n m X4 hr4 hX4 b W
  have C3 : Hid (∀ W, Below w.heap.size w W → Calls Try.prog 27 #[.slice a m q] W fun x w' => x = .returned (.string X3) ∧ Below W.heap.size W w') := fun W hb => by rw [← hX3]; exact numbers_val (h.below hb) hm8 hf.each _ rfl
  obtain ⟨k, p, t, c, l, n, ls⟩ := e
  unfold edV at *
  simp only at CR CP CT C1 C4 C3 HEd
  clear h hr hf hX1 hX4 hX3 hPT hTT hr4 y1 y2 y3 y4 hE s1 s3 s4 sp st z1 z2 z3 z4
  subst hY
  go_enter Try.func15, Try.ntmps15
  go_wp2_with fail
  refine (CR.out _ (bel_al _ _)).mono ?_
  rintro x w1 ⟨rfl, b1⟩
  have hE1 := HEd.out.below b1
  have q1 := hE1.c1
  have E1 : Hid _ := hE1
  have B1 : Hid (Below w.heap.size w w1) := bel_tr (bel_al _ _) b1
  clear hE1 b1 HEd
  go_wp2_with fail
  refine (CP.out _).mono ?_
  rintro x w2 ⟨rfl, b2⟩
  have hE2 := E1.out.below b2
  have q2 := hE2.c2
  have E2 : Hid _ := hE2
  have B2 : Hid (Below w.heap.size w w2) := bel_tr B1.out b2
  clear hE2 b2 E1 q1
  go_wp2_with fail
  refine (CT.out _).mono ?_
  rintro x w3 ⟨rfl, b3⟩
  have hE3 := E2.out.below b3
  have q0 := hE3.c0
  have q3 := hE3.c3
  have q4 := hE3.c4
  have q5 := hE3.c5
  have q6 := hE3.c6
  have B3 : Hid (Below w.heap.size w w3) := bel_tr B2.out b3
  have hlt : w.heap.size < w3.heap.size := World.block_lt_of_cell? _ _ q0
  clear hE3 b3 E2 q2
  obtain ⟨R, hR⟩ : ∃ R, w.heap.size = R := ⟨_, rfl⟩
  rw [hR] at q0 q3 q4 q5 q6 B3 hlt C3
  have HR : Hid (w.heap.size = R) := hR
  go_wp2_with fail
  have M1 : Hid True := trivial
  go_region_held3 (fun w' => w'.cell? ⟨R, 0, none⟩ = some (.int .i64 k) ∧ w'.cell? ⟨R, 3, none⟩ = some (.int .i64 c) ∧ w'.cell? ⟨R, 4, none⟩ = some (.int .i64 l) ∧ w'.cell? ⟨R, 5, none⟩ = some (.int .i64 n) ∧ w'.cell? ⟨R, 6, none⟩ = some (.slice a m q))
    (first | (refine ⟨bel_cell KB.out q0, bel_cell KB.out q3, bel_cell KB.out q4, bel_cell KB.out q5, bel_cell KB.out q6⟩; done) | go_keep)
    (first
      | (go_at_call 27; have m1 := M1.out; refine (C1.out _ _ ?_).mono ?_; (focus (simp; done)); rintro x w4 ⟨rfl, b4⟩; (first | have KB := kb2 b4 | have KB := kb1 b4); replace KB : Hid (Below w3.heap.size w3 w4) := KB; have B4 : Hid _ := b4; have M2 : Hid True := trivial; clear b4 m1 M1)
      | (go_at_call 27; have m2 := M2.out; refine (C4.out _ _ ?_ ?_ ?_ ?_).mono ?_; (focus (first | (simp; done) | (refine bel_cell B4.out ?_; simp; done))); (focus (first | (simp; done) | (refine bel_cell B4.out ?_; simp; done))); (focus (first | (simp; done) | (refine bel_cell B4.out ?_; simp; done))); (focus (first | (simp; done) | (refine bel_cell B4.out ?_; simp; done))); rintro x w5 ⟨rfl, b5⟩; (first | have KC := bel_tr KB.out b5 | have KC := kb3 KB.out b5); replace KB : Hid (Below w3.heap.size w3 w5) := KC; clear KC; have M3 : Hid True := trivial; clear b5 m2 M2 B4)
      | (go_at_call 27; have m3 := M3.out; refine (C3.out _ (B3.out.trans (KB.out.mono (Nat.le_of_lt hlt)))).mono ?_; rintro x w6 ⟨rfl, b6⟩; replace KB : Hid (Below w3.heap.size w3 w6) := bel_tr KB.out b6; clear b6 m3 M3))
  all_goals
    go_wp2
    go_ret2
    exact ⟨rfl, by rw [HR.out]; exact B3.out.trans (KB.out.mono (Nat.le_of_lt hlt))⟩

end Go.Proofs.Ythogpaojdlfjcaa.Edi
