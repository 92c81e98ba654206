/- The contract of tabulariumlaw10.examples. -/
import Derived.Test.YtlinlbfiheoniaaEditF4
import Derived.Test.YtlinlbfiheoniaaEditF7
namespace Go.Proofs.Ytlinlbfiheoniaa.Edi
open Go.RowKit Go.Proofs.Ytlinlbfiheoniaa
open Go.WideShapes (bytes_inj)

def exE : Ed := ⟨1, ⟨#[47, 97]⟩, ⟨#[]⟩, 0, 0, 0, []⟩
theorem exRt : Rt exE := ⟨by decide, by decide, by decide, by decide, by decide, by decide, by decide, rfl⟩
theorem numB_small {n : Int} {z : Nat} (h : Lib.zigzag n = z) (hz : z < 128) : numB n = [z.toUInt8] := by
  unfold numB; rw [h]; exact Lib.uvarint_small hz
theorem exL : encL exE = [2, 4, 47, 97, 0, 0, 0, 0, 0] := by
  have h0 : numB 0 = [0] := numB_small (z := 0) (by decide) (by omega)
  have h1 : numB 1 = [2] := numB_small (z := 2) (by decide) (by omega)
  have h2 : numB 2 = [4] := numB_small (z := 4) (by decide) (by omega)
  have h3 : (textB ⟨#[47, 97]⟩).data.toList = [4, 47, 97] := by
    rw [textB_data]
    show numB ((2 : Nat) : Int) ++ [47, 97] = _
    rw [show (((2 : Nat) : Int)) = 2 from rfl, h2]; rfl
  have h4 : (textB ⟨#[]⟩).data.toList = [0] := by
    rw [textB_data]
    show numB ((0 : Nat) : Int) ++ [] = _
    rw [show (((0 : Nat) : Int)) = 0 from rfl, h0]; rfl
  show numB 1 ++ ((textB ⟨#[47, 97]⟩).data.toList ++ ((textB ⟨#[]⟩).data.toList ++ (numB 0 ++ (numB 0 ++ (numB 0 ++ (numB ((0 : Nat) : Int) ++ numsB [])))))) = _
  rw [h3, h4, h1, show (((0 : Nat) : Int)) = 0 from rfl, h0]
  rfl

set_option maxRecDepth 100000 in
set_option maxHeartbeats 4000000 in
theorem examples_val (w : World) : Calls Try.prog 7 #[] w fun x w' => x = .returned (.bool true) ∧ Below w.heap.size w w' := by
  obtain ⟨E, hE⟩ : ∃ E, encS exE = E := ⟨_, rfl⟩
  have sE : E.size ≤ 9000 := by rw [← hE]; exact encS_size exRt.fit
  obtain ⟨J, hJ, aJ, zJ⟩ := cat E ⟨#[0]⟩ (by show E.size + 1 ≤ 100000; omega)
  have zJ2 : J.size = E.size + 1 := zJ
  have CE : Hid (∀ W, Calls Try.prog 8 #[.agg #[.int .i64 1, .string ⟨#[47, 97]⟩, .string ⟨#[]⟩, .int .i64 0, .int .i64 0, .int .i64 0, .slice none 0 0]] W fun x w' => x = .returned (.tuple #[.string E, .int .i64 0]) ∧ Below W.heap.size W w') := fun W => encode_yes (e := exE) (Nm.nil W) exRt E hE
  have CD : Hid (∀ W, Calls Try.prog 11 #[.string E] W fun x w' => DecR W.heap.size (.int .i64 0) exE x w' ∧ Below W.heap.size W w') := fun W => decode_yes E exE W (by unfold maxLen; omega) (by rw [← hE]; exact dec_back exRt)
  have CJ : Hid (∀ W, Calls Try.prog 11 #[.string J] W fun x w' => x = .returned (.tuple #[.agg #[.int .i64 0, .string ⟨#[]⟩, .string ⟨#[]⟩, .int .i64 0, .int .i64 0, .int .i64 0, .slice none 0 0], .int .i64 2]) ∧ Below W.heap.size W w') := fun W => decode_no J W (by unfold maxLen; omega) (dec_tail exRt ⟨#[0]⟩ (by show 0 < 1; omega) (by rw [← hJ, app_list, ← hE, encS_list]))
  have CR : Hid (∀ W a m q, Nm W a m [] → Calls Try.prog 13 #[.agg #[.int .i64 1, .string ⟨#[47, 97]⟩, .string ⟨#[]⟩, .int .i64 0, .int .i64 0, .int .i64 0, .slice a m q]] W fun x w' => x = .returned (.bool true) ∧ Below W.heap.size W w') := fun W a m q hn => right_val (e := exE) hn true ⟨fun _ => exRt, fun _ => rfl⟩
  have hEq : (E.toList == [2, 4, 47, 97, 0, 0, 0, 0, 0]) = true := by
    rw [Lib.toList_data, ← hE, encS_list, exL]; rfl
  clear sE zJ zJ2 hJ hE
  go_enter Try.func7, Try.ntmps7
  go_wp2_with fail
  refine (CE.out _).mono ?_
  rintro x w1 ⟨rfl, b1⟩
  have KB : Hid (Below w.heap.size w w1) := b1
  clear b1
  go_wp2_with fail
  refine (CD.out _).mono ?_
  rintro x w2 ⟨⟨la, lm, lq, lg, rfl, hL⟩, b⟩
  replace KB : Hid (Below w.heap.size w w2) := bel_tr KB.out b
  have HN : Hid (Nm w2 la lm []) := hL.nm
  clear b hL
  unfold edV exE
  simp only
  have HE : Hid (EdAt (w2.alloc (.cells #[.int .i64 1, .string ⟨#[47, 97]⟩, .string ⟨#[]⟩, .int .i64 0, .int .i64 0, .int .i64 0, .slice la lm lq] 24)) w2.heap.size ⟨1, ⟨#[47, 97]⟩, ⟨#[]⟩, 0, 0, 0, []⟩ la lm lq) := EdAt.new w2 24 ⟨1, ⟨#[47, 97]⟩, ⟨#[]⟩, 0, 0, 0, []⟩ la lm lq
  go_wp2_with fail
  refine (CJ.out _).mono ?_
  rintro x w3 ⟨rfl, b⟩
  have hE := HE.out.below b
  have q0 := cell_al hE.c0
  have q1 := cell_al hE.c1
  have q2 := cell_al hE.c2
  have q3 := cell_al hE.c3
  have q4 := cell_al hE.c4
  have q5 := cell_al hE.c5
  have q6 := cell_al hE.c6
  replace KB : Hid (Below w.heap.size w w3) := bel_tr KB.out (bel_tr (bel_al _ _) b)
  replace HN : Hid (Nm w3 la lm []) := HN.out.below (bel_tr (bel_al _ _) b)
  clear b hE HE
  simp only at q0 q1 q2 q3 q4 q5
  go_wp2_with (go_at_call 13; refine (CR.out _ _ _ _ (HN.out.below (bel_al _ _))).mono ?_; rintro x w4 ⟨rfl, b⟩)
  go_ret
  exact ⟨rfl, bel_tr KB.out (bel_tr (bel_al _ _) b)⟩

end Go.Proofs.Ytlinlbfiheoniaa.Edi
