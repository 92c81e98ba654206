/- ImageWrites: for every space: the statement's function returns true; nothing that was there is changed. No condition. -/
import Derived.Test.YtcnflkjkgomnoaaGreatB38
import Derived.Test.YtcnflkjkgomnoaaGreatB46
import Derived.Test.YtcnflkjkgomnoaaGreatB49
import Derived.Test.YtcnflkjkgomnoaaGreatB29
set_option maxRecDepth 100000
set_option maxHeartbeats 8000000
namespace Go.Proofs.YtcnflkjkgomnoaaGreat.imageWrites
open Go.ChangeShapes Go.WideShapes Go.ChangeAt Go.RowKit Go.Proofs.YtcnflkjkgomnoaaGreat Go.Proofs.YtcnflkjkgomnoaaGreat.Img
open Go.Proofs.YtcnflkjkgomnoaaGreat.Spa (Sp RtS spV SpIn)
open Go.Proofs.YtcnflkjkgomnoaaGreat.Edi (bel_tr bel_al bel_cell bel_drew)
set_option linter.unusedVariables false
theorem own : ownKnob Tryz.prog.godebug = none := by kernel_rfl
theorem core {s : Sp} {N L : RS} (w : World) (h : SpIn w s N L) :
    Calls Tryz.prog 4 #[spV s N L] w fun e w' => e = .returned (.bool true) ∧ Below w.heap.size w w' := by
  obtain ⟨J, v, er, hv, c1, c2⟩ : ∃ (J : ByteArray) (v : Bool) (er : Int), (v = true ∧ er = 0 ∨ v = false ∧ er = 1) ∧ (∀ W, Below w.heap.size w W → Calls Tryz.prog 12 #[spV s N L] W fun e w' => e = .returned (.tuple #[.string J, .int .i64 er]) ∧ Below W.heap.size W w') ∧ (∀ W, Below w.heap.size w W → Calls Tryz.prog 13 #[spV s N L] W fun e w' => e = .returned (.tuple #[.string J, .bool v]) ∧ Below W.heap.size W w') := by
    by_cases hR : RtS s
    · exact ⟨Img.encI s, true, 0, .inl ⟨rfl, rfl⟩, fun W hb => encode_yes (h.below hb) hR _ rfl, fun W hb => refEncode_yes (h.below hb) hR _ rfl⟩
    · exact ⟨⟨#[]⟩, false, 1, .inr ⟨rfl, rfl⟩, fun W hb => encode_no (h.below hb) hR, fun W hb => refEncode_no (h.below hb) hR⟩
  have C1 : Hid (∀ W, Below w.heap.size w W → Calls Tryz.prog 12 #[spV s N L] W fun e w' => e = .returned (.tuple #[.string J, .int .i64 er]) ∧ Below W.heap.size W w') := c1
  have C2 : Hid (∀ W, Below w.heap.size w W → Calls Tryz.prog 13 #[spV s N L] W fun e w' => e = .returned (.tuple #[.string J, .bool v]) ∧ Below W.heap.size W w') := c2
  clear c1 c2 h; unfold spV at C1 C2 ⊢
  obtain ⟨tx, nb, ng, now, ns, ls⟩ := s
  obtain ⟨Na, Nn, Nc⟩ := N
  obtain ⟨La, Ln, Lc⟩ := L
  simp only at C1 C2 ⊢
  have hjj : (J.toList == J.toList) = true := by simp
  rcases hv with ⟨rfl, rfl⟩ | ⟨rfl, rfl⟩
  all_goals
    go_enter Tryz.func4, Tryz.ntmps4; go_wp2_with fail
    refine (examples12_val _).mono ?_
    rintro e w1 ⟨rfl, b1⟩; have x0 := bel_cell b1 (World.cell?_alloc_new w _ _ 0)
    have x1 := bel_cell b1 (World.cell?_alloc_new w _ _ 1)
    have x2 := bel_cell b1 (World.cell?_alloc_new w _ _ 2)
    have x3 := bel_cell b1 (World.cell?_alloc_new w _ _ 3)
    have x4 := bel_cell b1 (World.cell?_alloc_new w _ _ 4)
    have x5 := bel_cell b1 (World.cell?_alloc_new w _ _ 5)
    have B1 : Hid (Below w.heap.size w w1) := bel_tr (bel_al _ _) b1
    clear b1; go_wp2_with fail
    refine (C1.out _ B1.out).mono ?_
    rintro e w2 ⟨rfl, b2⟩; have y0 := bel_cell b2 x0
    have y1 := bel_cell b2 x1
    have y2 := bel_cell b2 x2
    have y3 := bel_cell b2 x3
    have y4 := bel_cell b2 x4
    have y5 := bel_cell b2 x5
    have B2 : Hid (Below w.heap.size w w2) := bel_tr B1.out b2
    clear b2 x0 x1 x2 x3 x4 x5; go_wp2_with fail
    refine (C2.out _ B2.out).mono ?_
    rintro e w3 ⟨rfl, b3⟩; have B3 : Hid (Below w.heap.size w w3) := bel_tr B2.out b3
    clear b3 y0 y1 y2 y3 y4 y5; go_wp2; go_ret; exact ⟨rfl, B3.out⟩
theorem walk (e0 : Sp) (a0 m0 : RS) (W : World) (w0 : SpIn W e0 a0 m0) :
    Calls Tryz.prog 4 #[spV e0 a0 m0] W fun x w' => x = .returned (.bool true) ∧ Below W.heap.size W w' := core W w0
theorem lifted (os : Os) (started : os.Started) (H : Type) (enc : TypeId × Value → H) :
    ReturnsInHanded {} Tryz.checked os 4 .any (Rows.imageWritesSpec.pre6 enc Tryz.prog Tryz.f4 Rows.imageWritesRow.domain false) (Rows.imageWritesSpec.post enc Tryz.prog Tryz.f4 false true false false) := by
  refine returnsInHanded_of_change (C := Tryz.checked) own started (by kernel_rfl) Tryz.func4
    (ChangeSpec.witness6 (enc := enc) (C := Tryz.checked) false ⟨#[], #[.agg #[.int .i64 0, .int .i64 0, .int .i64 0, .int .i64 0, .slice none 0 0, .slice none 0 0]], []⟩ 8 (by kernel_rfl) (by kernel_rfl) (by kernel_rfl) (by kernel_rfl)) ?_
  intro W base args ds gs before hval0 hW hcnd _
  have hval : ∀ (j : Nat) t v, Tryz.f4.params[j]? = some t → args[j]? = some v → Value.okWide Tryz.prog W .any base t v := hval0
  have hW' := hW
  obtain ⟨p, q, hA0, hV, rfl, hfz, hnd⟩ := hW
  have hA : DataW.TrodAll enc Tryz.prog W 0 (fun _ => true) true Tryz.f4.params.toList args.toList ds p := hA0
  rw [Tryz.params4] at hA hval
  obtain ⟨v0, vs0, d0, ds0, p0, q0, hargs, rfl, rfl, h0, r0⟩ := trodAll_cons hA
  obtain ⟨rfl, rfl, rfl⟩ := trodAll_nil r0
  obtain rfl : args = #[v0] := by cases args; simp_all
  obtain ⟨rfl, rfl⟩ := trodVars_none hV
  have k0 := h0
  have lt0 : ∀ x ∈ p0, x.block < W.heap.size := by obtain ⟨m, hm⟩ := k0; exact DataW.trod_lt m _ _ _ hm
  obtain ⟨e0, a0, m0, rfl, w0⟩ := Spa.open_space (hval 0 27 v0 rfl rfl) h0
  clear hA0 hval0; refine (walk e0 a0 m0 W w0).mono fun e W' ⟨he, bel⟩ => ?_
  subst he; exact ⟨_, rfl, _, _, _, [], _, [], hW', trodAll_mk1 (shut_bool Tryz.underlying4 _), (trodAll_cons_mk (Below.trod laidOut (by kernel_rfl) (of_decide_eq_true (by kernel_rfl)) k0 bel lt0) trodAll_mk0), rfl, bel.frame _, fun h => by cases h⟩
theorem over : Rows.imageWritesRow.holds Tryz.pinned (OpenSpec.ofChange Rows.imageWritesSpec) :=
  OpenClaim.holds_of_wide 4 Tryz.f4 rfl rfl rfl rfl rfl rfl rfl ⟨rfl, rfl, rfl, rfl, rfl⟩ rfl rfl rfl rfl rfl (by kernel_rfl) Tryz.func4 (by kernel_rfl)
    (of_decide_eq_true (by kernel_rfl)) (by unfold Func.isWrapper; first | (rw [if_pos (by decide +kernel)]; kernel_rfl) | (rw [if_neg (by decide +kernel)]; exact ⟨rfl, rfl⟩))
    (fun os started H enc _ => lifted os started H enc)
end Go.Proofs.YtcnflkjkgomnoaaGreat.imageWrites
namespace Go.Proofs.YtcnflkjkgomnoaaGreat
theorem imageWrites_holds : Rows.ImageWritesSaid := imageWrites.over
#print axioms imageWrites_holds
end Go.Proofs.YtcnflkjkgomnoaaGreat
