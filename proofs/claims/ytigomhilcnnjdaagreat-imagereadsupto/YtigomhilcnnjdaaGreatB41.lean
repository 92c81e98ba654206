/- Part 41 of the proof: ImageL1. -/
import Derived.Test.YtigomhilcnnjdaaGreatB28
import Derived.Test.YtigomhilcnnjdaaGreatB35
import Derived.Test.YtigomhilcnnjdaaGreatB40

/- The contract of law12's examples. -/
namespace Go.Proofs.YtigomhilcnnjdaaGreat.Img
open Go.RowKit Go.Proofs.YtigomhilcnnjdaaGreat Go.Proofs.YtigomhilcnnjdaaGreat.Smm
open Go.Proofs.YtigomhilcnnjdaaGreat.Spa (Sp RtS zeroS newS spV SpIn SpC noS new_val new_right rootN OwnM.spIn)
open Go.Proofs.YtigomhilcnnjdaaGreat.Edi (bel_tr bel_al bel_cell bel_drew numsB)
open Go.Proofs.YtigomhilcnnjdaaGreat.Wir (app_size app_list size_list mk_size textB)
open Go.WideShapes (bytes_inj)

theorem nums_pos : ∀ zs : List Int, zs.length ≤ (numsB zs).length
  | [] => Nat.le_refl _
  | z :: zs => by
    have h1 := nums_pos zs
    have h2 := Wir.numB_pos z
    rw [numsB_cons, List.length_append, List.length_cons]; omega
theorem enc_new : 20 < (encI newS).size := by
  have e : encI newS = sealB (headL (headZ newS)) ++ (sealB (nodeP rootN) ++ ⟨#[]⟩) := by
    unfold encI partsS
    rw [joinP_cons]
    show _ ++ joinP [nodeP rootN] = _
    rw [joinP_cons]
    rfl
  have h1 := nums_pos (headZ newS)
  have h2 := nums_pos (nodeZ rootN)
  have h3 := Wir.numB_pos ((headL (headZ newS)).size : Int)
  have h4 := Wir.numB_pos ((nodeP rootN).size : Int)
  have h5 := Wir.numB_pos (rootN.path.size : Int)
  have h6 : (headZ newS).length = 6 := rfl
  have h7 : (nodeZ rootN).length = 4 := rfl
  have h8 : (headL (headZ newS)).size = 1 + (numsB (headZ newS)).length := by unfold headL; rw [mk_sz2, List.length_cons]; omega
  have h9 : (nodeP rootN).size = (Wir.numB (rootN.path.size : Int)).length + rootN.path.size + (numsB (nodeZ rootN)).length := by
    unfold nodeP textB
    rw [app_size, app_size, mk_sz2, mk_size]
  have ha : rootN.path.size = 1 := rfl
  rw [e, app_size, app_size, sealB_size, sealB_size]
  omega
theorem dec_none : DecI ⟨#[]⟩ zeroS 2 := .form [] (fun p hp => by cases hp) rfl fun s _ e => by unfold partsS at e; cases e

set_option maxRecDepth 100000 in
set_option maxHeartbeats 4000000 in
theorem examples12_val (w : World) :
    Calls Tryz.prog 4 #[] w fun e w' => e = .returned (.bool true) ∧ Below w.heap.size w w' := by
  obtain ⟨J, hJ⟩ : ∃ J, encI newS = J := ⟨_, rfl⟩
  have hJ20 : 20 < J.size := by rw [← hJ]; exact enc_new
  have hJm : J.size ≤ 260910 := by rw [← hJ]; exact enc_size new_right
  have C0 : Hid (∀ W, Calls Tryz.prog 5 #[.string ⟨#[]⟩] W fun e w' => DecR W.heap.size zeroS 2 e w' ∧ Below W.heap.size W w') := fun W => decode_val (Nat.zero_le _) zeroS 2 dec_none
  have C1 : Hid (∀ W N L, SpIn W newS N L → Calls Tryz.prog 8 #[spV newS N L] W fun e w' => e = .returned (.tuple #[.string J, .int .i64 0]) ∧ Below W.heap.size W w') := fun W N L h => encode_yes h new_right J hJ
  have C2 : Hid (∀ W, Calls Tryz.prog 5 #[.string J] W fun e w' => DecR W.heap.size newS 0 e w' ∧ Below W.heap.size W w') := fun W => decode_val (by omega) newS 0 (by rw [← hJ]; exact dec_back new_right)
  have hJx : J.size ≤ 9223372036854775807 := by omega
  unfold spV at C1
  clear hJ
  go_enter Tryz.func4, Tryz.ntmps4
  go_wp2_with fail
  refine (C0.out _).mono ?_
  rintro e w1 ⟨⟨N1, L1, rfl, _⟩, b1⟩
  have B1 : Hid (Below w.heap.size w w1) := b1
  clear b1 C0
  unfold spV zeroS
  go_wp2_with fail
  refine (new_val _).mono ?_
  rintro e w2 ⟨⟨N0, L0, p0, g0, gl0, bb0, M0, _, rfl, hO0⟩, c2⟩
  have B2 : Hid (Below w.heap.size w w2) := bel_tr B1.out (bel_tr (bel_al _ _) c2)
  have HIN : Hid (SpIn w2 newS N0 L0) := OwnM.spIn hO0
  clear c2 hO0
  unfold spV
  go_wp2_with fail
  refine (C1.out w2 N0 L0 HIN.out).mono ?_
  rintro e w3 ⟨rfl, b3⟩
  have B3 : Hid (Below w.heap.size w w3) := bel_tr B2.out b3
  clear b3 C1
  go_wp2_with fail
  refine (C2.out _).mono ?_
  rintro e w4 ⟨⟨N4, L4, rfl, hS4⟩, b4⟩
  have hn4 : N4.n = 1 := hS4.lx.len.symm
  have B4 : Hid (Below w.heap.size w w4) := bel_tr B3.out b4
  obtain ⟨Na, Nn, Nc⟩ := N4
  simp only at hn4
  subst hn4
  have hng : newS.ng = 1 := rfl
  clear b4 C2 hS4
  unfold spV
  simp only [hng]
  have hgt : decide (20 < J.size) = true := decide_eq_true hJ20
  have hgt2 : decide ((20 : Int) < (J.size : Int)) = true := decide_eq_true (by omega)
  go_wp2
  go_ret
  exact ⟨rfl, bel_tr B4.out (bel_al _ _)⟩

end Go.Proofs.YtigomhilcnnjdaaGreat.Img
