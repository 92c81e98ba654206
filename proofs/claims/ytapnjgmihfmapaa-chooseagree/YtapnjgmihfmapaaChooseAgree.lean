/- ChooseAgree: for all lists of entries: the statement's function returns true; nothing that was there is changed. No condition. -/
import Derived.Test.YtapnjgmihfmapaaChsL2
import Derived.Test.YtapnjgmihfmapaaChsOpen
import Derived.Test.YtapnjgmihfmapaaOpenAll
namespace Go.Proofs.Ytapnjgmihfmapaa.chooseAgree
open Go.ChangeShapes Go.WideShapes Go.ChangeAt Go.RowKit Go.Proofs.Ytapnjgmihfmapaa Go.Proofs.Ytapnjgmihfmapaa.Lgg Go.Proofs.Ytapnjgmihfmapaa.Chs
open Go.ChangeMaps (open_string shut_string)
set_option linter.unusedVariables false

theorem own : ownKnob Try.prog.godebug = none := by kernel_rfl

theorem lie_take {α : Type} {f : α → List Value} {k : Nat} {O : Nat → Prop} {w : World} {a : Option Addr} {xs : List α} (hf : Wide f k) (h : Lie f O w a xs) (m : Nat) : Lie f O w a (xs.take m) := by
  refine ⟨Nat.le_trans (by rw [List.length_take]; omega) h.lid, fun hp => ?_⟩
  rw [List.length_take] at hp
  obtain ⟨b, off, h1, h2, h3, h4⟩ := h.cells (by omega)
  refine ⟨b, off, h1, h2, h3, fun j u hu => h4 j u ?_⟩
  rcases Nat.lt_or_ge m xs.length with hm | hm
  · rw [← rowC_take hf xs m (by omega), List.getElem?_take] at hu
    split at hu
    · exact hu
    · cases hu
  · rwa [List.take_of_length_le hm] at hu

set_option maxRecDepth 100000 in
set_option maxHeartbeats 8000000 in
theorem walk_b (a0 : Option Addr) (c0 n0 : Nat) (xs : List En) (a1 : Option Addr) (c1 n1 : Nat) (ys : List En) (w : World) (h0 : xs.length = n0) (h1 : ys.length = n1) (l0 : LgIn w a0 xs) (l1 : LgIn w a1 ys) (hc0 : n0 ≤ c0) (hc1 : n1 ≤ c1) :
    Calls Try.prog 6 #[.slice a0 n0 c0, .slice a1 n1 c1] w fun e w' => e = .returned (.bool true) ∧ Below w.heap.size w w' := by
  obtain ⟨n, hn⟩ : ∃ n, agr xs ys = n := ⟨_, rfl⟩
  have hle := agr_le xs ys
  rw [hn, h0, h1] at hle
  obtain ⟨hle0, hle1⟩ := hle
  have hlid0 := l0.row.lid
  have hlid1 := l1.row.lid
  rw [h0] at hlid0
  rw [h1] at hlid1
  unfold maxLen at hlid0 hlid1
  have CA : Hid (∀ W, Below w.heap.size w W → Calls Try.prog 11 #[.slice a0 n0 c0, .slice a1 n1 c1] W fun e w' => e = .returned (.int .i64 n) ∧ Below W.heap.size W w') := fun W hb => agree_val (l0.row.below hb) (l1.row.below hb) n0 n1 c0 c1 h0 h1 n hn
  have CB : Hid (∀ W, Below w.heap.size w W → Calls Try.prog 11 #[.slice a1 n1 c1, .slice a0 n0 c0] W fun e w' => e = .returned (.int .i64 n) ∧ Below W.heap.size W w') := fun W hb => agree_val (l1.row.below hb) (l0.row.below hb) n1 n0 c1 c0 h1 h0 n (by rw [agr_comm]; exact hn)
  have CC : Hid (∀ W, Below w.heap.size w W → Calls Try.prog 11 #[.slice a0 n0 c0, .slice a0 n0 c0] W fun e w' => e = .returned (.int .i64 n0) ∧ Below W.heap.size W w') := fun W hb => agree_val (l0.row.below hb) (l0.row.below hb) n0 n0 c0 c0 h0 h0 n0 (by rw [agr_self]; exact h0)
  have CE : Hid (∀ W, Below w.heap.size w W → Calls Try.prog 10 #[.slice a0 n c0, .slice a1 n c1] W fun e w' => e = .returned (.bool true) ∧ Below W.heap.size W w') := fun W hb => entries_val ((lie_take wideN l0.row n).below hb) ((lie_take wideN l1.row n).below hb) n n c0 c1 (by rw [List.length_take]; omega) (by rw [List.length_take]; omega) true ⟨fun _ => by rw [← hn]; exact agr_take xs ys, fun _ => rfl⟩
  have hn0c : n ≤ c0 := by omega
  have hn1c : n ≤ c1 := by omega
  have HX : Hid (n < n0 → n < n1 → ∃ x y : En, ¬ x = y ∧ ∀ W, Below w.heap.size w W → ∃ b off b' off', a0 = some ⟨b, off, none⟩ ∧ a1 = some ⟨b', off', none⟩ ∧ W.cell? ⟨b, off + n * 2, none⟩ = some (.int .i64 x.tx) ∧ W.cell? ⟨b, off + n * 2 + 1, none⟩ = some (.string x.d) ∧ W.cell? ⟨b', off' + n * 2, none⟩ = some (.int .i64 y.tx) ∧ W.cell? ⟨b', off' + n * 2 + 1, none⟩ = some (.string y.d)) := fun hl0 hl1 => by
    refine ⟨xs[n]'(by omega), ys[n]'(by omega), ?_, fun W hb => ?_⟩
    · have := agr_stop (xs := xs) (ys := ys) (by omega) (by omega)
      simpa only [hn] using this
    · obtain ⟨b, off, e0, hc⟩ := (l0.row.below hb).at wideN (i := n) (by omega)
      obtain ⟨b', off', e1, hc'⟩ := (l1.row.below hb).at wideN (i := n) (by omega)
      exact ⟨b, off, b', off', e0, e1, hc 0 _ rfl, hc 1 _ rfl, hc' 0 _ rfl, hc' 1 _ rfl⟩
  have hneg : decide ((n : Int) < 0) = false := decide_eq_false (by omega)
  have hg0 : decide ((n : Int) > (n0 : Int)) = false := decide_eq_false (by omega)
  have hg1 : decide ((n : Int) > (n1 : Int)) = false := decide_eq_false (by omega)
  clear l0 l1 h0 h1 hn
  go_enter Try.func6, Try.ntmps6
  go_wp2_with (first
    | (go_at_call 7; refine (examples_val _).mono ?_; rintro e w1 ⟨rfl, c1⟩; have B1 : Hid (Below w.heap.size w w1) := c1; clear c1)
    | (go_at_call 11; refine (CA.out _ B1.out).mono ?_; rintro e w2 ⟨rfl, c2⟩; have B2 : Hid (Below w.heap.size w w2) := bel_tr B1.out c2; clear c2))
  refine wp_region_quiet_below (by kernel_rfl) (by kernel_rfl) ?_
  repeat (first | go_big_quiet_step (first | exact Calls.regrown_of (CE.out _ (bel_tr B2.out (below_regrown _ _ _))) | fail) | quiet_step (first | exact Calls.regrown_of (CE.out _ (bel_tr B2.out (below_regrown _ _ _))) | fail))
  refine wpQuiet_nil ?_
  intro _ hw'
  obtain ⟨⟨dq, osq⟩, hw''⟩ := hw'
  subst hw''
  have B3 : Hid (Below w.heap.size w (Sort.grow (redrawn w2 dq) osq)) := bel_tr B2.out (below_regrown _ _ _)
  generalize Sort.grow (redrawn w2 dq) osq = w3 at *
  go_wp2
  by_cases e0 : n = n0
  · subst e0
    clear HX CA CE
    refine wp_region_quiet_below (by kernel_rfl) (by kernel_rfl) ?_
    repeat (first | go_big_quiet_step (first | with_reducible exact Calls.regrown_of (CB.out _ (bel_tr B3.out (below_regrown _ _ _))) | with_reducible exact Calls.regrown_of (CC.out _ (bel_tr B3.out (below_regrown _ _ _))) | fail) | quiet_step (first | with_reducible exact Calls.regrown_of (CB.out _ (bel_tr B3.out (below_regrown _ _ _))) | with_reducible exact Calls.regrown_of (CC.out _ (bel_tr B3.out (below_regrown _ _ _))) | fail))
    refine wpQuiet_nil ?_
    intro _ hw'
    obtain ⟨⟨dp, osp⟩, hw''⟩ := hw'
    subst hw''
    go_wp2
    go_ret
    exact ⟨rfl, bel_tr B3.out (below_regrown _ _ _)⟩
  · have e0b : decide ((n : Int) = (n0 : Int)) = false := decide_eq_false (by omega)
    have e0c : ((n : Int) == (n0 : Int)) = false := by rw [beq_eq_false_iff_ne]; omega
    by_cases e1 : n = n1
    · subst e1
      clear HX CA CE
      refine wp_region_quiet_below (by kernel_rfl) (by kernel_rfl) ?_
      repeat (first | go_big_quiet_step (first | with_reducible exact Calls.regrown_of (CB.out _ (bel_tr B3.out (below_regrown _ _ _))) | with_reducible exact Calls.regrown_of (CC.out _ (bel_tr B3.out (below_regrown _ _ _))) | fail) | quiet_step (first | with_reducible exact Calls.regrown_of (CB.out _ (bel_tr B3.out (below_regrown _ _ _))) | with_reducible exact Calls.regrown_of (CC.out _ (bel_tr B3.out (below_regrown _ _ _))) | fail))
      refine wpQuiet_nil ?_
      intro _ hw'
      obtain ⟨⟨dp, osp⟩, hw''⟩ := hw'
      subst hw''
      go_wp2
      go_ret
      exact ⟨rfl, bel_tr B3.out (below_regrown _ _ _)⟩
    · have e1b : decide ((n : Int) = (n1 : Int)) = false := decide_eq_false (by omega)
      have e1c : ((n : Int) == (n1 : Int)) = false := by rw [beq_eq_false_iff_ne]; omega
      have hl0 : n < n0 := by omega
      have hl1 : n < n1 := by omega
      obtain ⟨⟨tx, dx⟩, ⟨ty, dy⟩, hne, hat⟩ := HX.out hl0 hl1
      obtain ⟨b, off, b', off', rfl, rfl, q0, q1, r0, r1⟩ := hat _ B3.out
      simp only at q0 q1 r0 r1
      have s0 := fun dd os => cell_regrown q0 dd os
      have s1 := fun dd os => cell_regrown q1 dd os
      have s2 := fun dd os => cell_regrown r0 dd os
      have s3 := fun dd os => cell_regrown r1 dd os
      clear HX CA CE hat
      by_cases hx : tx = ty
      · have hs : ¬ dx = dy := fun e => hne (by rw [hx, e])
        have hbe := bytes_ne hs
        subst hx
        clear hs hne
        refine wp_region_quiet_below (by kernel_rfl) (by kernel_rfl) ?_
        repeat (first | go_big_quiet_step (first | with_reducible exact Calls.regrown_of (CB.out _ (bel_tr B3.out (below_regrown _ _ _))) | with_reducible exact Calls.regrown_of (CC.out _ (bel_tr B3.out (below_regrown _ _ _))) | fail) | quiet_step (first | with_reducible exact Calls.regrown_of (CB.out _ (bel_tr B3.out (below_regrown _ _ _))) | with_reducible exact Calls.regrown_of (CC.out _ (bel_tr B3.out (below_regrown _ _ _))) | fail))
        refine wpQuiet_nil ?_
        intro _ hw'
        obtain ⟨⟨dp, osp⟩, hw''⟩ := hw'
        subst hw''
        go_wp2
        go_ret
        exact ⟨rfl, bel_tr B3.out (below_regrown _ _ _)⟩
      · have hxb : decide (tx = ty) = false := decide_eq_false hx
        clear hne
        refine wp_region_quiet_below (by kernel_rfl) (by kernel_rfl) ?_
        repeat (first | go_big_quiet_step (first | with_reducible exact Calls.regrown_of (CB.out _ (bel_tr B3.out (below_regrown _ _ _))) | with_reducible exact Calls.regrown_of (CC.out _ (bel_tr B3.out (below_regrown _ _ _))) | fail) | quiet_step (first | with_reducible exact Calls.regrown_of (CB.out _ (bel_tr B3.out (below_regrown _ _ _))) | with_reducible exact Calls.regrown_of (CC.out _ (bel_tr B3.out (below_regrown _ _ _))) | fail))
        refine wpQuiet_nil ?_
        intro _ hw'
        obtain ⟨⟨dp, osp⟩, hw''⟩ := hw'
        subst hw''
        go_wp2
        go_ret
        exact ⟨rfl, bel_tr B3.out (below_regrown _ _ _)⟩

theorem walk (a0 : Option Addr) (c0 : Nat) (xs : List En) (a1 : Option Addr) (c1 : Nat) (ys : List En) (w : World) (w0 : LgIn w a0 xs ∧ xs.length ≤ c0) (w1 : LgIn w a1 ys ∧ ys.length ≤ c1) :
    Calls Try.prog 6 #[.slice a0 xs.length c0, .slice a1 ys.length c1] w fun e w' => e = .returned (.bool true) ∧ Below w.heap.size w w' :=
  walk_b a0 c0 _ xs a1 c1 _ ys w rfl rfl w0.1 w1.1 w0.2 w1.2

set_option maxRecDepth 100000 in
theorem lifted (os : Os) (started : os.Started) (H : Type) (enc : TypeId × Value → H) :
    ReturnsInHanded {} Try.checked os 6 .any (Rows.chooseAgreeSpec.pre6 enc Try.prog Try.f6 Rows.chooseAgreeRow.domain false) (Rows.chooseAgreeSpec.post enc Try.prog Try.f6 false true false false) := by
  refine returnsInHanded_of_change (C := Try.checked) own started (by kernel_rfl) Try.func6
    (ChangeSpec.witness6 (enc := enc) (C := Try.checked) false ⟨#[], #[.slice none 0 0, .slice none 0 0], []⟩ 8 (by kernel_rfl) (by kernel_rfl) (by kernel_rfl) (by kernel_rfl)) ?_
  intro W base args ds gs before hval0 hW hcnd _
  have hval : ∀ (j : Nat) t v, Try.f6.params[j]? = some t → args[j]? = some v → Value.okWide Try.prog W .any base t v := hval0
  have hW' := hW
  obtain ⟨p, q, hA0, hV, rfl, hfz, hnd⟩ := hW
  have hA : DataW.TrodAll enc Try.prog W 0 (fun _ => true) true Try.f6.params.toList args.toList ds p := hA0
  rw [Try.params6] at hA hval
  obtain ⟨v0, vs0, d0, ds0, p0, q0, hargs, rfl, rfl, h0, r0⟩ := trodAll_cons hA
  obtain ⟨v1, vs1, d1, ds1, p1, q1, rfl, rfl, rfl, h1, r1⟩ := trodAll_cons r0
  obtain ⟨rfl, rfl, rfl⟩ := trodAll_nil r1
  obtain rfl : args = #[v0, v1] := by cases args; simp_all
  obtain ⟨rfl, rfl⟩ := trodVars_none hV
  obtain ⟨a0, len0, cap0, rfl⟩ := okWide_slice Try.underlying24 (hval 0 24 v0 rfl rfl)
  have k0 := h0
  have lt0 : ∀ x ∈ p0, x.block < W.heap.size := by obtain ⟨m, hm⟩ := k0; exact DataW.trod_lt m _ _ _ hm
  obtain ⟨ss0, y0, w0⟩ := Chs.open_ens2 h0
  subst y0
  obtain ⟨a1, len1, cap1, rfl⟩ := okWide_slice Try.underlying24 (hval 1 24 v1 rfl rfl)
  have k1 := h1
  have lt1 : ∀ x ∈ p1, x.block < W.heap.size := by obtain ⟨m, hm⟩ := k1; exact DataW.trod_lt m _ _ _ hm
  obtain ⟨ss1, y1, w1⟩ := Chs.open_ens2 h1
  subst y1
  clear hA0 hval0
  refine (walk a0 cap0 ss0 a1 cap1 ss1 W w0 w1).mono fun e W' ⟨he, bel⟩ => ?_
  subst he
  exact ⟨_, rfl, _, _, _, [], _, [], hW', trodAll_mk1 (shut_bool Try.underlying4 _), (trodAll_cons_mk (Below.trod laidOut (by kernel_rfl) (of_decide_eq_true (by kernel_rfl)) k0 bel lt0) (trodAll_cons_mk (Below.trod laidOut (by kernel_rfl) (of_decide_eq_true (by kernel_rfl)) k1 bel lt1) trodAll_mk0)), rfl, bel.frame _, fun h => by cases h⟩

theorem over : Rows.chooseAgreeRow.holds Try.pinned (OpenSpec.ofChange Rows.chooseAgreeSpec) :=
  OpenClaim.holds_of_wide 6 Try.f6 rfl rfl rfl rfl rfl rfl rfl ⟨rfl, rfl, rfl, rfl, rfl⟩ rfl rfl rfl rfl rfl (by kernel_rfl) Try.func6 (by kernel_rfl)
    (of_decide_eq_true (by kernel_rfl)) (by unfold Func.isWrapper; first | (rw [if_pos (by decide +kernel)]; kernel_rfl) | (rw [if_neg (by decide +kernel)]; exact ⟨rfl, rfl⟩))
    (fun os started H enc _ => lifted os started H enc)
end Go.Proofs.Ytapnjgmihfmapaa.chooseAgree

namespace Go.Proofs.Ytapnjgmihfmapaa
/-- The statement. -/
theorem chooseAgree_holds : Rows.ChooseAgreeSaid := chooseAgree.over
#print axioms chooseAgree_holds
end Go.Proofs.Ytapnjgmihfmapaa
