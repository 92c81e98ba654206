/- The contract of tabulariumlaw05.examples. -/
import Derived.Test.YtgjbafpjllfdeaaMailSep
namespace Go.Proofs.Ytgjbafpjllfdeaa
open Go.RowKit

def mA : Msg := ⟨0, ⟨#[97]⟩⟩
def mB : Msg := ⟨0, ⟨#[98]⟩⟩

set_option maxRecDepth 100000 in
set_option maxHeartbeats 4000000 in
theorem examples_val (w : World) : Calls Try.prog 7 #[] w fun e w' => e = .returned (.bool true) ∧ Below w.heap.size w w' := by
  go_enter Try.func7, Try.ntmps7
  go_wp2_with fail
  refine (s_new (w0 := w) (Below.refl _ _)).mono ?_
  rintro e w1 ⟨p1, rfl, h1⟩
  have H1 : Hid (Sep w [] w1 (fun O w => MAt O w p1 []) Non) := h1
  clear h1
  go_wp2_with fail
  refine (s_new2 H1.out (stM _ _)).mono ?_
  rintro e w2 ⟨p2, rfl, h2⟩
  have H2 : Hid (Sep w [] w2 (fun O w => MAt O w p1 []) (fun O w => MAt O w p2 [])) := h2
  clear h2 H1
  go_wp2_with fail
  refine (of_val _ _).mono ?_
  rintro e w3 ⟨rfl, b3⟩
  have H3 : Hid (Sep w [] w3 (fun O w => MAt O w p1 []) (fun O w => MAt O w p2 [])) := H2.out.below (stM _ _) (stM _ _) b3
  clear b3 H2
  go_wp2_with fail
  refine (s_send H3.out (stM _ _) _ _ (by simp) (by unfold maxLen; decide) 0 rfl (ys := [(mA, 0)]) rfl).mono ?_
  rintro e w4 ⟨rfl, h4⟩
  have H4 : Hid (Sep w [] w4 (fun O w => MAt O w p1 [(mA, 0)]) (fun O w => MAt O w p2 [])) := h4
  clear h4 H3
  go_wp2_with fail
  refine (of_val _ _).mono ?_
  rintro e w5 ⟨rfl, b5⟩
  have H5 : Hid (Sep w [] w5 (fun O w => MAt O w p1 [(mA, 0)]) (fun O w => MAt O w p2 [])) := H4.out.below (stM _ _) (stM _ _) b5
  clear b5 H4
  go_wp2_with fail
  refine (s_send H5.out (stM _ _) _ _ (by simp) (by unfold maxLen; decide) 0 rfl (ys := [(mA, 0), (mB, 0)]) rfl).mono ?_
  rintro e w6 ⟨rfl, h6⟩
  have H6 : Hid (Sep w [] w6 (fun O w => MAt O w p1 [(mA, 0), (mB, 0)]) (fun O w => MAt O w p2 [])) := h6
  clear h6 H5
  go_wp2_with fail
  refine (s_twin H6.out (stM _ _) _ (by simp) 0 rfl (ys := [(mA, 0), (mB, 0), (mA, 0)]) rfl).mono ?_
  rintro e w7 ⟨rfl, h7⟩
  have H7 : Hid (Sep w [] w7 (fun O w => MAt O w p1 [(mA, 0), (mB, 0), (mA, 0)]) (fun O w => MAt O w p2 [])) := h7
  clear h7 H6
  go_wp2_with fail
  refine (s_take H7.out (stM _ _) _ (by simp) (some mB) rfl (ys := [(mA, 0), (mA, 0)]) rfl).mono ?_
  rintro e w8 ⟨rfl, h8⟩
  have H8 : Hid (Sep w [] w8 (fun O w => MAt O w p1 [(mA, 0), (mA, 0)]) (fun O w => MAt O w p2 [])) := h8
  clear h8 H7
  simp only [Option.getD_some, Option.isSome_some, mB]
  have hst := run_store_str
  go_wp2_with fail
  have H9 : Hid (Sep w [(w8.heap.size, (w8.alloc (.cells #[.int .i64 0, .string ⟨#[98]⟩] 32)).heap[w8.heap.size]?)] (w8.alloc (.cells #[.int .i64 0, .string ⟨#[98]⟩] 32)) (fun O w => MAt O w p1 [(mA, 0), (mA, 0)]) (fun O w => MAt O w p2 [])) := H8.out.box (stM _ _) (stM _ _) _
  refine (s_all H9.out 2 rfl (by omega)).mono ?_
  rintro e w9 ⟨oa, oc, og, rfl, hc, b9⟩
  have HM : Hid _ := fun (_ : Unit) => (show ∃ b, Msgs w9 oa b [mA, mA] ∧ (0 < 2 → og = some b) from hc.msgs rfl)
  have H10 : Hid _ := H9.out.below (stM _ _) (stM _ _) b9
  clear H8 H9 hc b9
  go_wp2_with fail
  refine (of_val _ _).mono ?_
  rintro e w10 ⟨rfl, b10⟩
  go_wp2_with fail
  refine (of_val _ _).mono ?_
  rintro e w11 ⟨rfl, b11⟩
  have B11 : Hid (Below w9.heap.size w9 w11) := bel_tr b10 b11
  have H11 : Hid _ := H10.out.below (stM _ _) (stM _ _) B11.out
  clear b10 b11 H10
  go_wp2_with fail
  obtain ⟨b, hm, _⟩ := HM.out ()
  refine (messages_val oa b oc _ w11.heap.size 2 2 [mA, mA] _ rfl (by omega) ((hm.below B11.out).below ((Below.refl _ _).alloc (Nat.le_refl _) _)) ⟨fun _ => rfl, ?_, ?_⟩).mono ?_
  · intro j hj
    have hj2 : j = 0 ∨ j = 1 := by have : j < 2 := hj; omega
    rcases hj2 with rfl | rfl
    · exact World.cell?_alloc_new w11 _ _ 0
    · exact World.cell?_alloc_new w11 _ _ 2
  · intro j hj
    have hj2 : j = 0 ∨ j = 1 := by have : j < 2 := hj; omega
    rcases hj2 with rfl | rfl
    · exact World.cell?_alloc_new w11 _ _ 1
    · exact World.cell?_alloc_new w11 _ _ 3
  rintro e w12 ⟨rfl, d12, hw12⟩
  have H12 : Hid _ := (H11.out.below (w' := w12) (stM _ _) (stM _ _) (by rw [hw12]; exact below_drewN ((Below.refl _ _).alloc (Nat.le_refl _) _) d12)).swap
  clear hw12 H11 HM B11 hm
  go_wp2_with fail
  refine (of_val _ _).mono ?_
  rintro e w13 ⟨rfl, b13⟩
  have H13 : Hid _ := H12.out.below (stM _ _) (stM _ _) b13
  clear b13 H12
  go_wp2_with fail
  refine (s_send H13.out (stM _ _) _ _ (by simp) (by unfold maxLen; decide) 0 rfl (ys := [(mA, 0)]) rfl).mono ?_
  rintro e w14 ⟨rfl, h14⟩
  have H14 : Hid _ := h14
  clear h14 H13
  go_wp2_with fail
  refine (s_age H14.out (stM _ _) 2 (by simp) (by simp) 0 rfl (ys := [(mA, 1)]) rfl).mono ?_
  rintro e w15 ⟨rfl, h15⟩
  have H15 : Hid _ := h15
  clear h15 H14
  go_wp2_with fail
  refine (of_val _ _).mono ?_
  rintro e w16 ⟨rfl, b16⟩
  have H16 : Hid _ := H15.out.below (stM _ _) (stM _ _) b16
  clear b16 H15
  go_wp2_with fail
  refine (s_send H16.out (stM _ _) _ _ (by simp) (by unfold maxLen; decide) 0 rfl (ys := [(mA, 1), (mB, 0)]) rfl).mono ?_
  rintro e w17 ⟨rfl, h17⟩
  have H17 : Hid _ := h17
  clear h17 H16
  go_wp2_with fail
  refine (s_age H17.out (stM _ _) 2 (by simp) (by simp) 0 rfl (ys := [(mA, 2), (mB, 1)]) rfl).mono ?_
  rintro e w18 ⟨rfl, h18⟩
  have H18 : Hid _ := h18
  clear h18 H17
  go_wp2_with fail
  refine (s_age H18.out (stM _ _) 2 (by simp) (by simp) 1 rfl (ys := [(mB, 2)]) rfl).mono ?_
  rintro e w19 ⟨rfl, h19⟩
  have H19 : Hid _ := h19.bel
  have x1 : w19.cell? ⟨w8.heap.size, 1, none⟩ = some (.string ⟨#[98]⟩) := h19.cell (.head _) rfl (World.cell?_alloc_new w8 _ _ 1)
  clear h19 H18
  go_wp2
  go_ret
  exact ⟨rfl, H19.out⟩

end Go.Proofs.Ytgjbafpjllfdeaa
