/- ImageReads, in its second form: for every text of at most 1,048,575 bytes: the statement's function returns true; nothing that was there is changed. -/
import Derived.Test.YtigomhilcnnjdaaGreatB41
import Derived.Test.YtigomhilcnnjdaaGreatCImageR9
import Derived.Test.YtigomhilcnnjdaaGreatB28
import Derived.Test.YtigomhilcnnjdaaGreatB32
import Derived.JoinedCond
namespace Go.Proofs.YtigomhilcnnjdaaGreat.imageReads
open Go.ChangeShapes Go.WideShapes Go.ChangeAt Go.RowKit Go.Proofs.YtigomhilcnnjdaaGreat Go.Proofs.YtigomhilcnnjdaaGreat.Img
open Go.ChangeMaps (open_string shut_string)
open Go.Proofs.YtigomhilcnnjdaaGreat.Spa (Sp RtS spV SpIn sameS_val)
open Go.Proofs.YtigomhilcnnjdaaGreat.Edi (bel_tr bel_al bel_cell bel_drew)
set_option linter.unusedVariables false

theorem own : ownKnob Tryz.prog.godebug = none := by kernel_rfl

set_option maxRecDepth 100000 in
set_option maxHeartbeats 8000000 in
theorem walk (b : ByteArray) (hb : b.size ≤ 4000000000) (w : World) :
    Calls Tryz.prog 3 #[.string b] w fun e w' => e = .returned (.bool true) ∧ Below w.heap.size w w' := by
  obtain ⟨s, E, hD⟩ := dec_any b
  have C1 : Hid (∀ W, Calls Tryz.prog 5 #[.string b] W fun e w' => DecR W.heap.size s E e w' ∧ Below W.heap.size W w') := fun W => decode_val hb s E hD
  have C2 : Hid (∀ W, Calls Tryz.prog 6 #[.string b] W fun e w' => DecR W.heap.size s E e w' ∧ Below W.heap.size W w') := fun W => refDecode_val hb s E hD
  have C3 : Hid (∀ W N L N2 L2, SpIn W s N L → SpIn W s N2 L2 → Calls Tryz.prog 7 #[spV s N L, spV s N2 L2] W fun e w' => e = .returned (.bool true) ∧ Below W.heap.size W w') := fun W N L N2 L2 h1 h2 => sameS_val h1 h2
  clear hD hb
  have hst2 : ∀ (w : World) (a : Addr) (x : Option Addr) (n c : Nat) (m : Mode), (store a (.slice x n c) m).run Tryz.prog w = stored Tryz.prog w a (.slice x n c) m := fun w a x n c m => run_store_any w a _ m rfl
  go_enter Tryz.func3, Tryz.ntmps3
  go_wp2_with fail
  refine (examples12_val _).mono ?_
  rintro e w1 ⟨rfl, b1⟩
  have B1 : Hid (Below w.heap.size w w1) := b1
  clear b1
  go_wp2_with fail
  refine (C1.out _).mono ?_
  rintro e w2 ⟨⟨N, L, rfl, h2⟩, b2⟩
  have B2 : Hid (Below w.heap.size w w2) := bel_tr B1.out b2
  have I2 : Hid (SpIn w2 s N L) := h2.spIn
  clear b2 h2 C1 B1
  unfold spV at C3 ⊢
  obtain ⟨tx, nb, ng, now, ns, ls⟩ := s
  obtain ⟨Na, Nn, Nc⟩ := N
  obtain ⟨La, Ln, Lc⟩ := L
  simp only at C3 ⊢
  go_wp2_with fail
  refine (C2.out _).mono ?_
  rintro e w3 ⟨⟨N2, L2, rfl, h3⟩, b3⟩
  have x0 := bel_cell b3 (World.cell?_alloc_new w2 _ _ 0)
  have x1 := bel_cell b3 (World.cell?_alloc_new w2 _ _ 1)
  have x2 := bel_cell b3 (World.cell?_alloc_new w2 _ _ 2)
  have x3 := bel_cell b3 (World.cell?_alloc_new w2 _ _ 3)
  have x4 := bel_cell b3 (World.cell?_alloc_new w2 _ _ 4)
  have x5 := bel_cell b3 (World.cell?_alloc_new w2 _ _ 5)
  have B3 : Hid (Below w.heap.size w w3) := bel_tr B2.out (bel_tr (bel_al _ _) b3)
  have I3 : Hid (SpIn w3 ⟨tx, nb, ng, now, ns, ls⟩ N2 L2) := h3.spIn
  have J3 : Hid (SpIn w3 ⟨tx, nb, ng, now, ns, ls⟩ ⟨Na, Nn, Nc⟩ ⟨La, Ln, Lc⟩) := I2.out.below (bel_tr (bel_al _ _) b3)
  clear b3 h3 C2 B2 I2
  unfold spV
  obtain ⟨Na2, Nn2, Nc2⟩ := N2
  obtain ⟨La2, Ln2, Lc2⟩ := L2
  simp only
  have x0a := cell_al x0
  have x1a := cell_al x1
  have x2a := cell_al x2
  have x3a := cell_al x3
  have x4a := cell_al x4
  have x5a := cell_al x5
  go_wp2_with fail
  refine (C3.out _ ⟨Na, Nn, Nc⟩ ⟨La, Ln, Lc⟩ ⟨Na2, Nn2, Nc2⟩ ⟨La2, Ln2, Lc2⟩ (J3.out.below (bel_al _ _)) (I3.out.below (bel_al _ _))).mono ?_
  rintro e w4 ⟨rfl, b4⟩
  have B4 : Hid (Below w.heap.size w w4) := bel_tr B3.out (bel_tr (bel_al _ _) b4)
  clear b4
  go_wp2
  go_ret
  exact ⟨rfl, B4.out⟩

set_option maxRecDepth 100000 in
theorem lifted (os : Os) (started : os.Started) (H : Type) (enc : TypeId × Value → H) (F : Stop.Interp) :
    ReturnsInHanded {} Tryz.checked os 3 .any ((Rows.OpenSpec.upto Rows.imageReadsSpec).pre6 enc Tryz.prog Tryz.f3 Rows.imageReadsUptoRow.domain false) (((Rows.OpenSpec.upto Rows.imageReadsSpec).at F).post enc Tryz.prog Tryz.f3 false true false false) := by
  refine returnsInHanded_of_cond (C := Tryz.checked) (s := Rows.OpenSpec.upto Rows.imageReadsSpec) (k := Rows.uptoSmall) rfl own started (by kernel_rfl) Tryz.func3
    (OpenSpec.witness (enc := enc) (C := Tryz.checked) (s := Rows.OpenSpec.upto Rows.imageReadsSpec) (k := Rows.uptoSmall) rfl false ⟨#[], #[.string ByteArray.empty], []⟩ 8 (by kernel_rfl) (by kernel_rfl) (by kernel_rfl)
      (x := ([.lit (.string [])], [], [])) (by kernel_rfl) rfl (by kernel_rfl)) ?_
  intro W base args ds gs before hval0 hW _ hk _
  have hval : ∀ (j : Nat) t v, Tryz.f3.params[j]? = some t → args[j]? = some v → Value.okWide Tryz.prog W .any base t v := hval0
  have hW' := hW
  obtain ⟨p, q, hA0, hV, rfl, hfz, hnd⟩ := hW'
  have hA : DataW.TrodAll enc Tryz.prog W 0 (fun _ => true) true Tryz.f3.params.toList args.toList ds p := hA0
  rw [Tryz.params3] at hA hval
  obtain ⟨v0, vs0, d0, ds0, p0, q0, hargs, rfl, rfl, h0, r0⟩ := trodAll_cons hA
  obtain ⟨rfl, rfl, rfl⟩ := trodAll_nil r0
  obtain rfl : args = #[v0] := by cases args; simp_all
  obtain ⟨rfl, rfl⟩ := trodVars_none hV
  obtain ⟨a0, rfl, rfl, rfl, w0⟩ := open_string Tryz.underlying9 (hval 0 9 v0 rfl rfl) h0
  have hsz : a0.size ≤ 4000000000 := by
    have h := of_decide_eq_true hk
    simp only [Rows.uptoBulkAll, Rows.uptoBulk, List.append_nil] at h
    have h2 : a0.data.toList.length = a0.size := Wir.size_list a0
    omega
  clear hA0
  refine (walk a0 hsz W).mono fun e W' ⟨he, hb⟩ => ?_
  subst he
  exact ⟨_, rfl, _, _, _, [], _, [], hW, trodAll_mk1 (shut_bool Tryz.underlying4 _), (trodAll_cons_mk (shut_string Tryz.underlying9 w0) trodAll_mk0), rfl, hb.frame _, fun h => by cases h⟩

theorem over : Rows.imageReadsUptoRow.holds Tryz.pinned (Rows.OpenSpec.upto Rows.imageReadsSpec) :=
  OpenClaim.holds_of_cond 3 Tryz.f3 rfl rfl rfl rfl rfl rfl rfl ⟨rfl, rfl, rfl, rfl, rfl⟩ rfl rfl rfl rfl rfl (by kernel_rfl) Tryz.func3 (by kernel_rfl)
    (of_decide_eq_true (by kernel_rfl)) (by unfold Func.isWrapper; first | (rw [if_pos (by decide +kernel)]; kernel_rfl) | (rw [if_neg (by decide +kernel)]; exact ⟨rfl, rfl⟩))
    (fun os started H enc _ F => lifted os started H enc F)
end Go.Proofs.YtigomhilcnnjdaaGreat.imageReads

namespace Go.Proofs.YtigomhilcnnjdaaGreat
/-- The statement. -/
theorem imageReads_holds : Rows.ImageReadsUptoSaid := imageReads.over
#print axioms imageReads_holds
end Go.Proofs.YtigomhilcnnjdaaGreat
