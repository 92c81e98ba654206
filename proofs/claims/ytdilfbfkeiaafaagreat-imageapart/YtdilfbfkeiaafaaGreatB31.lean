/- Part 31 of the proof: SpaceF6, SpaceF5. -/
import Derived.Test.YtdilfbfkeiaafaaGreatB30
set_option maxRecDepth 100000
set_option maxHeartbeats 8000000
namespace Go.Proofs.YtdilfbfkeiaafaaGreat.Spa
open Go.RowKit Go.Proofs.YtdilfbfkeiaafaaGreat
open Go.Proofs.YtdilfbfkeiaafaaGreat.Lea (LS Ls findX putL renX LL LO LsR)
open Go.Proofs.YtdilfbfkeiaafaaGreat.Edi (Ed Nm EdAt edV)
theorem nodeAt_ok {S gb n c : Nat} {xs : NS} {w : World} (c4 : w.cell? ⟨S, 4, none⟩ = some (.slice (some ⟨gb, 0, none⟩) n c)) (h : NL w (some ⟨gb, 0, none⟩) n xs) (p : ByteArray) (hs : p.size ≤ maxLen) (i : Nat) (x : Nd) (hi : Is xs p i x) :
    Calls Tryz.prog 109 #[.pointer (some ⟨S, 0, none⟩), .string p] w fun e w' => e = .returned (.pointer (some ⟨gb, i * 5, none⟩)) ∧ Below w.heap.size w w' := by
  have hin : i < n := by
    obtain ⟨_, _, _, _, k2, _⟩ := h.ex
    rw [← k2]; exact hi.lt
  have hlid := h.lid
  unfold maxLen at hlid; have CF : Hid (∀ dd os, Calls Tryz.prog 43 #[.slice (some ⟨gb, 0, none⟩) n c, .string p] (Sort.grow (redrawn w dd) os) fun e w' => e = .returned (.tuple #[.int .i64 (i : Int), .int .i64 0]) ∧ Below (Sort.grow (redrawn w dd) os).heap.size (Sort.grow (redrawn w dd) os) w') := fun dd os => find_is (h.below (below_regrown w dd os)) p hs _ _ (.ok i x hi)
  have CT : Hid (∀ W, Calls Tryz.prog 146 #[.int .i64 (i : Int), .int .i64 0] W fun e w' => e = .returned (.int .i64 (i : Int)) ∧ Below W.heap.size W w') := fun W => (takenI_ok W).mono fun e w' ⟨h1, h2⟩ => ⟨h1, by rw [h2]; exact Below.refl _ _⟩
  have r4 : ∀ dd os, (Sort.grow (redrawn w dd) os).cell? ⟨S, 4, none⟩ = some (.slice (some ⟨gb, 0, none⟩) n c) := fun dd os => cell_regrown c4 dd os
  clear h hi; go_enter Tryz.func109, Tryz.ntmps109; go_wp2; refine wp_region_quiet_below (by kernel_rfl) (by kernel_rfl) ?_
  repeat (first | go_big_quiet_step (first | exact Calls.regrown_of (CF.out _ _) | exact Calls.regrown_of (CT.out _)) | quiet_step (first | exact Calls.regrown_of (CF.out _ _) | exact Calls.regrown_of (CT.out _)))
  refine wpQuiet_nil ?_
  intro _ hw'
  obtain ⟨⟨dq, osq⟩, hw''⟩ := hw'
  subst hw''
  go_wp2; go_ret; exact ⟨rfl, below_regrown w dq osq⟩
theorem nodeAt_no {S n c : Nat} {a : Option Addr} {xs : NS} {w : World} (c4 : w.cell? ⟨S, 4, none⟩ = some (.slice a n c)) (h : NL w a n xs) (p : ByteArray) (hs : p.size ≤ maxLen) (E : Int) (hE : NodeE xs p E) (h0 : E ≠ 0) :
    Calls Tryz.prog 109 #[.pointer (some ⟨S, 0, none⟩), .string p] w fun e w' => e = leftV E ∧ Below w.heap.size w w' := by
  have hR : FindR xs p 0 E := by
    cases hE with
    | arg h1 => exact .arg h1
    | none h1 h2 => exact .none h1 h2
    | ok i x hi => exact absurd rfl h0
  have h0b : (E != 0) = true := by simpa using h0
  have CF : Hid (∀ W, Below w.heap.size w W → Calls Tryz.prog 43 #[.slice a n c, .string p] W fun e w' => e = .returned (.tuple #[.int .i64 0, .int .i64 E]) ∧ Below W.heap.size W w') := fun W hb => find_is (h.below hb) p hs _ _ hR
  have HC : Hid (∀ W, Below w.heap.size w W → W.cell? ⟨S, 4, none⟩ = some (.slice a n c)) := fun W hb => bel_cell hb c4
  clear h hE hR h0; go_enter Tryz.func109, Tryz.ntmps109; go_wp2; refine wp_region_any (by kernel_rfl) ?_
  try (change wpAny _ _ _ _ _ _ _ (World.drew _))
  refine wpAny_take (i := 0) (v := ?_) rfl (by kernel_rfl) (by kernel_rfl) (by kernel_rfl) (fun _ _ _ h => h) (Or.inl ⟨by rfl, ?_⟩) ?_
  rotate_left
  · intro w; go_simp; first | done | with_reducible rfl
  refine wpAny_take (i := 1) (v := ?_) rfl (by kernel_rfl) (by kernel_rfl) (by kernel_rfl) (fun _ _ _ h => h) (Or.inl ⟨by rfl, ?_⟩) ?_
  rotate_left
  · intro w; go_simp; first | done | with_reducible rfl
  refine wpAny_take (i := 2) (v := ?_) rfl (by kernel_rfl) (by kernel_rfl) (by kernel_rfl) (fun _ _ _ h => h) (Or.inl ⟨by rfl, ?_⟩) ?_
  rotate_left
  · intro w; go_simp; first | done | with_reducible rfl
  refine wpAny_take (i := 4) (v := ?_) rfl (by kernel_rfl) (by kernel_rfl) (by kernel_rfl) (fun _ _ _ h => h) (Or.inl ⟨by rfl, ?_⟩) ?_
  rotate_left
  · intro w; go_simp; first | done | with_reducible rfl
  refine wpAny_take (i := 5) (v := ?_) rfl (by kernel_rfl) (by kernel_rfl) (by kernel_rfl) (fun _ _ _ h => h) (Or.inl ⟨by rfl, ?_⟩) ?_
  rotate_left
  · intro w; go_simp; first | done | with_reducible rfl
  refine wpAny_take (i := 6) (v := ?_) rfl (by kernel_rfl) (by kernel_rfl) (by kernel_rfl) (fun _ _ _ h => h) (Or.inl ⟨by rfl, ?_⟩) ?_
  rotate_left
  · intro w; go_simp; first | done | with_reducible rfl
  refine wpAny_take (i := 8) (v := ?_) rfl (by kernel_rfl) (by kernel_rfl) (by kernel_rfl) (fun _ _ _ h => h) (Or.inl ⟨by rfl, ?_⟩) ?_
  rotate_left
  · intro w; go_simp; first | done | with_reducible rfl
  refine wpAny_ready (rs := [3, 7]) (by kernel_rfl) (by simp) ?_
  refine AllReady.cons rfl (fun K hK => ?_) ?_
  · go_simp
    refine hK _ _ ?_
    clear hK K; refine wpAny_ready (rs := [7]) (by kernel_rfl) (by simp) ?_
    refine AllReady.cons rfl (fun K hK => ?_) ?_
    · go_simp
      refine hK _ _ ?_
      clear hK K; refine wpAny_ready (rs := [9]) (by kernel_rfl) (by simp) ?_
      refine AllReady.cons rfl (fun K hK => ?_) ?_
      · go_simp
        refine (CF.out _ (bel_drewN _ 1)).mono ?_; rintro e w1 ⟨rfl, c1⟩; have B1 : Hid (Below w.heap.size w w1) := bel_tr (bel_drewN w 1) c1; have d4 := HC.out _ B1.out; clear c1
        try go_simp
        refine hK _ _ ?_
        clear hK K; refine wpAny_take (i := 10) (v := ?_) rfl (by kernel_rfl) (by kernel_rfl) (by kernel_rfl) (fun _ _ _ h => h) (Or.inl ⟨by rfl, ?_⟩) ?_
        rotate_left
        · intro w; go_simp; first | done | with_reducible rfl
        refine wpAny_take (i := 11) (v := ?_) rfl (by kernel_rfl) (by kernel_rfl) (by kernel_rfl) (fun _ _ _ h => h) (Or.inl ⟨by rfl, ?_⟩) ?_
        rotate_left
        · intro w; go_simp; first | done | with_reducible rfl
        refine wpAny_ready (rs := [12]) (by kernel_rfl) (by simp) ?_
        refine AllReady.cons rfl (fun K hK => ?_) ?_
        · go_simp
          refine (takenI_no _ h0b _).mono ?_; rintro e w2 ⟨rfl, rfl⟩; exact ⟨rfl, rfl, B1.out⟩
        exact AllReady.nil
      exact AllReady.nil
    exact AllReady.nil
  refine AllReady.cons rfl (fun K hK => ?_) ?_
  · go_simp
    refine hK _ _ ?_
    clear hK K; refine wpAny_ready (rs := [3, 9]) (by kernel_rfl) (by simp) ?_
    refine AllReady.cons rfl (fun K hK => ?_) ?_
    · go_simp
      refine hK _ _ ?_
      clear hK K; refine wpAny_ready (rs := [9]) (by kernel_rfl) (by simp) ?_
      refine AllReady.cons rfl (fun K hK => ?_) ?_
      · go_simp
        refine (CF.out _ (bel_drewN _ 1)).mono ?_; rintro e w1 ⟨rfl, c1⟩; have B1 : Hid (Below w.heap.size w w1) := bel_tr (bel_drewN w 1) c1; have d4 := HC.out _ B1.out; clear c1
        try go_simp
        refine hK _ _ ?_
        clear hK K; refine wpAny_take (i := 10) (v := ?_) rfl (by kernel_rfl) (by kernel_rfl) (by kernel_rfl) (fun _ _ _ h => h) (Or.inl ⟨by rfl, ?_⟩) ?_
        rotate_left
        · intro w; go_simp; first | done | with_reducible rfl
        refine wpAny_take (i := 11) (v := ?_) rfl (by kernel_rfl) (by kernel_rfl) (by kernel_rfl) (fun _ _ _ h => h) (Or.inl ⟨by rfl, ?_⟩) ?_
        rotate_left
        · intro w; go_simp; first | done | with_reducible rfl
        refine wpAny_ready (rs := [12]) (by kernel_rfl) (by simp) ?_
        refine AllReady.cons rfl (fun K hK => ?_) ?_
        · go_simp
          refine (takenI_no _ h0b _).mono ?_; rintro e w2 ⟨rfl, rfl⟩; exact ⟨rfl, rfl, B1.out⟩
        exact AllReady.nil
      exact AllReady.nil
    refine AllReady.cons rfl (fun K hK => ?_) ?_
    · go_simp
      refine (CF.out _ (bel_drewN _ 1)).mono ?_; rintro e w1 ⟨rfl, c1⟩; have B1 : Hid (Below w.heap.size w w1) := bel_tr (bel_drewN w 1) c1; have d4 := HC.out _ B1.out; clear c1
      try go_simp
      refine hK _ _ ?_
      clear hK K; refine wpAny_take (i := 10) (v := ?_) rfl (by kernel_rfl) (by kernel_rfl) (by kernel_rfl) (fun _ _ _ h => h) (Or.inl ⟨by rfl, ?_⟩) ?_
      rotate_left
      · intro w; go_simp; first | done | with_reducible rfl
      refine wpAny_take (i := 11) (v := ?_) rfl (by kernel_rfl) (by kernel_rfl) (by kernel_rfl) (fun _ _ _ h => h) (Or.inl ⟨by rfl, ?_⟩) ?_
      rotate_left
      · intro w; go_simp; first | done | with_reducible rfl
      refine wpAny_ready (rs := [3, 12]) (by kernel_rfl) (by simp) ?_
      refine AllReady.cons rfl (fun K hK => ?_) ?_
      · go_simp
        refine hK _ _ ?_
        clear hK K; refine wpAny_ready (rs := [12]) (by kernel_rfl) (by simp) ?_
        refine AllReady.cons rfl (fun K hK => ?_) ?_
        · go_simp
          refine (takenI_no _ h0b _).mono ?_; rintro e w2 ⟨rfl, rfl⟩; exact ⟨rfl, rfl, B1.out⟩
        exact AllReady.nil
      refine AllReady.cons rfl (fun K hK => ?_) ?_
      · go_simp
        refine (takenI_no _ h0b _).mono ?_; rintro e w2 ⟨rfl, rfl⟩; exact ⟨rfl, rfl, B1.out⟩
      exact AllReady.nil
    exact AllReady.nil
  exact AllReady.nil
structure NdAt (w : World) (b i : Nat) (x : NR) : Prop where
  c0 : w.cell? ⟨b, i * 5, none⟩ = some (.string x.1.path)
  c1 : w.cell? ⟨b, i * 5 + 1, none⟩ = some (.bool x.1.dir)
  c2 : w.cell? ⟨b, i * 5 + 2, none⟩ = some (.int .i64 x.1.quota)
  c3 : w.cell? ⟨b, i * 5 + 3, none⟩ = some (.slice x.2.a x.2.n x.2.c)
  c4 : w.cell? ⟨b, i * 5 + 4, none⟩ = some (.int .i64 x.1.wr)
structure Lies (w : World) (S gb n c : Nat) (ps : List NR) : Prop where
  c4 : w.cell? ⟨S, 4, none⟩ = some (.slice (some ⟨gb, 0, none⟩) n c)
  nds : Nds w (some ⟨gb, 0, none⟩) gb 0 ps
  len : ps.length = n
theorem Lies.below {w w' : World} {S gb n c : Nat} {ps : List NR} (h : Lies w S gb n c ps) (hb : Below w.heap.size w w') : Lies w' S gb n c ps := ⟨bel_cell hb h.c4, h.nds.below hb, h.len⟩
theorem Lies.nl {w : World} {S gb n c : Nat} {ps : List NR} (h : Lies w S gb n c ps) : NL w (some ⟨gb, 0, none⟩) n (ps.map (·.1)) := ⟨gb, 0, ps, rfl, by rw [List.length_map]; exact h.len, h.nds⟩
theorem Lies.at {w : World} {S gb n c : Nat} {ps : List NR} (h : Lies w S gb n c ps) {i : Nat} (hi : i < ps.length) : NdAt w gb i ps[i] := by
  obtain ⟨e0, e1, e2, e3, e4⟩ := h.nds.at hi
  rw [Nat.zero_add] at e0 e1 e2 e3 e4
  exact ⟨e0, e1, e2, e3, e4⟩
theorem is_at {ps : List NR} {p : ByteArray} {i : Nat} {x : Nd} (hi : Is (ps.map (·.1)) p i x) : ∃ h : i < ps.length, ps[i].1 = x := by
  have h1 := hi.lt
  rw [List.length_map] at h1
  have h2 := hi.get
  simp only [List.getElem_map] at h2
  exact ⟨h1, h2⟩
theorem fileAt_ok {S gb n c : Nat} {ps : List NR} {w : World} (h : Lies w S gb n c ps) (p : ByteArray) (hs : p.size ≤ maxLen) (i : Nat) (x : Nd) (hi : Is (ps.map (·.1)) p i x) (hd : x.dir = false) :
    Calls Tryz.prog 111 #[.pointer (some ⟨S, 0, none⟩), .string p] w fun e w' => e = .returned (.pointer (some ⟨gb, i * 5, none⟩)) ∧ Below w.heap.size w w' := by
  have CN : Hid (Calls Tryz.prog 109 #[.pointer (some ⟨S, 0, none⟩), .string p] w fun e w' => e = .returned (.pointer (some ⟨gb, i * 5, none⟩)) ∧ Below w.heap.size w w') := nodeAt_ok h.c4 h.nl p hs i x hi
  obtain ⟨hip, hx⟩ := is_at hi
  have k1 := (h.at hip).c1
  rw [hx, hd] at k1
  have K1 : Hid (w.cell? ⟨gb, i * 5 + 1, none⟩ = some (.bool false)) := k1
  clear h hi hd hx k1 hip; go_enter Tryz.func111, Tryz.ntmps111; go_wp2_with (first
    | (go_at_call 109; refine CN.out.mono ?_; rintro e w1 ⟨rfl, c1⟩; have y1 := bel_cell c1 K1.out; have B1 : Hid _ := c1; clear c1)
    | (go_at_call 25; refine (refuse_no _ _).mono ?_; rintro e w2 ⟨rfl, rfl⟩))
  go_ret; exact ⟨rfl, B1.out⟩
theorem fileAt_no {S gb n c : Nat} {ps : List NR} {w : World} (h : Lies w S gb n c ps) (p : ByteArray) (hs : p.size ≤ maxLen) (E : Int) (hE : FileE (ps.map (·.1)) p E) (h0 : E ≠ 0) :
    Calls Tryz.prog 111 #[.pointer (some ⟨S, 0, none⟩), .string p] w fun e w' => e = leftV E ∧ Below w.heap.size w w' := by
  cases hE with
  | node _ hN _ =>
    have CN : Hid (Calls Tryz.prog 109 #[.pointer (some ⟨S, 0, none⟩), .string p] w fun e w' => e = leftV E ∧ Below w.heap.size w w') := nodeAt_no h.c4 h.nl p hs E hN h0
    clear h hN; go_enter Tryz.func111, Tryz.ntmps111; go_wp2_with (go_at_call 109; refine CN.out.mono ?_; rintro e w1 ⟨rfl, c1⟩)
    exact ⟨rfl, rfl, c1⟩
  | dir i x hi hd =>
    have CN : Hid (Calls Tryz.prog 109 #[.pointer (some ⟨S, 0, none⟩), .string p] w fun e w' => e = .returned (.pointer (some ⟨gb, i * 5, none⟩)) ∧ Below w.heap.size w w') := nodeAt_ok h.c4 h.nl p hs i x hi
    obtain ⟨hip, hx⟩ := is_at hi
    have k1 := (h.at hip).c1
    rw [hx, hd] at k1
    have K1 : Hid (w.cell? ⟨gb, i * 5 + 1, none⟩ = some (.bool true)) := k1
    clear h hi hd hx k1 hip; go_enter Tryz.func111, Tryz.ntmps111; go_wp2_with (first
      | (go_at_call 109; refine CN.out.mono ?_; rintro e w1 ⟨rfl, c1⟩; have y1 := bel_cell c1 K1.out; have B1 : Hid _ := c1; clear c1)
      | (go_at_call 25; refine (refuse_yes _ _).mono ?_; rintro e w2 ⟨rfl, rfl⟩))
    exact ⟨rfl, rfl, B1.out⟩
  | ok i x hi hd => exact absurd rfl h0
theorem written_ok {S gb n c : Nat} {ps : List NR} {w : World} (h : Lies w S gb n c ps) (e : Ed) (ea : Option Addr) (em eq : Nat) (hs : e.p.size ≤ maxLen) (i : Nat) (x : Nd) (hi : Is (ps.map (·.1)) e.p i x) (hd : x.dir = false) (hw : x.wr = e.c) :
    Calls Tryz.prog 107 #[.pointer (some ⟨S, 0, none⟩), edV e ea em eq] w fun e w' => e = .returned (.pointer (some ⟨gb, i * 5, none⟩)) ∧ Below w.heap.size w w' := by
  have CN : Hid (∀ W, Below w.heap.size w W → Calls Tryz.prog 111 #[.pointer (some ⟨S, 0, none⟩), .string e.p] W fun e w' => e = .returned (.pointer (some ⟨gb, i * 5, none⟩)) ∧ Below W.heap.size W w') := fun W hb => fileAt_ok (h.below hb) e.p hs i x hi hd
  obtain ⟨hip, hx⟩ := is_at hi
  have k4 := (h.at hip).c4
  rw [hx, hw] at k4
  obtain ⟨k, p, t, cl, l, nn, ls⟩ := e
  have K4 : Hid (w.cell? ⟨gb, i * 5 + 4, none⟩ = some (.int .i64 cl)) := k4
  have hne : (cl != cl) = false := by simp
  unfold edV; simp only at CN ⊢
  clear h hi hd hx k4 hip hw hs; have hst := run_store_str
  have CR : Hid (∀ W, Calls Tryz.prog 25 #[.bool false, .int .i64 9] W fun e w' => e = .returned (.tuple #[]) ∧ Below W.heap.size W w') := fun W => (refuse_no _ W).mono fun e w' ⟨h1, h2⟩ => ⟨h1, by rw [h2]; exact Below.refl _ _⟩
  go_enter Tryz.func107, Tryz.ntmps107; go_wp2_with (go_at_call 111; refine (CN.out _ (bel_al _ _)).mono ?_; rintro e w1 ⟨rfl, c1⟩; have y4 := bel_cell c1 (cell_al K4.out _); have z3 := bel_cell c1 (World.cell?_alloc_new w _ _ 3); have B1 : Hid (Below w.heap.size w w1) := bel_tr (bel_al _ _) c1; clear c1)
  have r4 : ∀ dd os, (Sort.grow (redrawn w1 dd) os).cell? ⟨gb, i * 5 + 4, none⟩ = some (.int .i64 cl) := fun dd os => cell_regrown y4 dd os
  have r3 : ∀ dd os, (Sort.grow (redrawn w1 dd) os).cell? ⟨w.heap.size, 3, none⟩ = some (.int .i64 cl) := fun dd os => cell_regrown z3 dd os
  refine wp_region_quiet_below (by kernel_rfl) (by kernel_rfl) ?_
  repeat (first | go_big_quiet_step (exact Calls.regrown_of (CR.out _)) | quiet_step (exact Calls.regrown_of (CR.out _)))
  refine wpQuiet_nil ?_
  intro _ hw'
  obtain ⟨⟨dq, osq⟩, hw''⟩ := hw'
  subst hw''
  go_wp2; go_ret; exact ⟨rfl, bel_tr B1.out (below_regrown w1 dq osq)⟩
theorem written_no {S gb n c : Nat} {ps : List NR} {w : World} (h : Lies w S gb n c ps) (e : Ed) (ea : Option Addr) (em eq : Nat) (hs : e.p.size ≤ maxLen) (E : Int) (hE : WritE (ps.map (·.1)) e.p e.c E) (h0 : E ≠ 0) :
    Calls Tryz.prog 107 #[.pointer (some ⟨S, 0, none⟩), edV e ea em eq] w fun e w' => e = leftV E ∧ Below w.heap.size w w' := by
  cases hE with
  | file _ hF _ =>
    have CN : Hid (∀ W, Below w.heap.size w W → Calls Tryz.prog 111 #[.pointer (some ⟨S, 0, none⟩), .string e.p] W fun e w' => e = leftV E ∧ Below W.heap.size W w') := fun W hb => fileAt_no (h.below hb) e.p hs E hF h0
    obtain ⟨k, p, t, cl, l, nn, ls⟩ := e
    unfold edV; simp only at CN ⊢
    clear h hF hs; have hst := run_store_str
    go_enter Tryz.func107, Tryz.ntmps107; go_wp2_with (go_at_call 111; refine (CN.out _ (bel_al _ _)).mono ?_; rintro e w1 ⟨rfl, c1⟩)
    exact ⟨rfl, rfl, bel_tr (bel_al _ _) c1⟩
  | lease i x hi hd hw =>
    have CN : Hid (∀ W, Below w.heap.size w W → Calls Tryz.prog 111 #[.pointer (some ⟨S, 0, none⟩), .string e.p] W fun e w' => e = .returned (.pointer (some ⟨gb, i * 5, none⟩)) ∧ Below W.heap.size W w') := fun W hb => fileAt_ok (h.below hb) e.p hs i x hi hd
    obtain ⟨hip, hx⟩ := is_at hi
    have k4 := (h.at hip).c4
    rw [hx] at k4
    obtain ⟨k, p, t, cl, l, nn, ls⟩ := e
    obtain ⟨xp, xd, xq, xb, xw⟩ := x
    have K4 : Hid (w.cell? ⟨gb, i * 5 + 4, none⟩ = some (.int .i64 xw)) := k4
    have hne : (xw != cl) = true := by simpa using hw
    unfold edV; simp only at CN ⊢
    clear h hi hd hx k4 hip hw hs; have hst := run_store_str
    go_enter Tryz.func107, Tryz.ntmps107; go_wp2_with (go_at_call 111; refine (CN.out _ (bel_al _ _)).mono ?_; rintro e w1 ⟨rfl, c1⟩; have y4 := bel_cell c1 (cell_al K4.out _); have z3 := bel_cell c1 (World.cell?_alloc_new w _ _ 3); have B1 : Hid (Below w.heap.size w w1) := bel_tr (bel_al _ _) c1; clear c1)
    refine wp_region_any (by kernel_rfl) ?_
    try (change wpAny _ _ _ _ _ _ _ (World.drew _))
    refine wpAny_take (i := 0) (v := ?_) rfl (by kernel_rfl) (by kernel_rfl) (by kernel_rfl) (fun _ _ _ h => h) (Or.inl ⟨by rfl, ?_⟩) ?_
    rotate_left
    · intro w; go_simp; first | done | with_reducible rfl
    refine wpAny_take (i := 1) (v := ?_) rfl (by kernel_rfl) (by kernel_rfl) (by kernel_rfl) (fun _ _ _ h => h) (Or.inl ⟨by rfl, ?_⟩) ?_
    rotate_left
    · intro w; go_simp; first | done | with_reducible rfl
    refine wpAny_take (i := 2) (v := ?_) rfl (by kernel_rfl) (by kernel_rfl) (by kernel_rfl) (fun _ _ _ h => h) (Or.inl ⟨by rfl, ?_⟩) ?_
    rotate_left
    · intro w; go_simp; first | done | with_reducible rfl
    refine wpAny_take (i := 4) (v := ?_) rfl (by kernel_rfl) (by kernel_rfl) (by kernel_rfl) (fun _ _ _ h => h) (Or.inl ⟨by rfl, ?_⟩) ?_
    rotate_left
    · intro w; go_simp; first | done | with_reducible rfl
    refine wpAny_ready (rs := [3, 5]) (by kernel_rfl) (by simp) ?_
    refine AllReady.cons rfl (fun K hK => ?_) ?_
    · go_simp
      refine hK _ _ ?_
      clear hK K; refine wpAny_ready (rs := [5]) (by kernel_rfl) (by simp) ?_
      refine AllReady.cons rfl (fun K hK => ?_) ?_
      · go_simp
        refine hK _ _ ?_
        clear hK K; refine wpAny_take (i := 6) (v := ?_) rfl (by kernel_rfl) (by kernel_rfl) (by kernel_rfl) (fun _ _ _ h => h) (Or.inl ⟨by rfl, ?_⟩) ?_
        rotate_left
        · intro w; go_simp; first | done | with_reducible rfl
        refine wpAny_ready (rs := [7]) (by kernel_rfl) (by simp) ?_
        refine AllReady.cons rfl (fun K hK => ?_) ?_
        · go_simp
          refine (refuse_yes _ _).mono ?_; rintro e w2 ⟨rfl, rfl⟩; exact ⟨rfl, rfl, bel_tr B1.out (bel_drewN _ 1)⟩
        exact AllReady.nil
      exact AllReady.nil
    refine AllReady.cons rfl (fun K hK => ?_) ?_
    · go_simp
      refine hK _ _ ?_
      clear hK K; refine wpAny_ready (rs := [3]) (by kernel_rfl) (by simp) ?_
      refine AllReady.cons rfl (fun K hK => ?_) ?_
      · go_simp
        refine hK _ _ ?_
        clear hK K; refine wpAny_take (i := 6) (v := ?_) rfl (by kernel_rfl) (by kernel_rfl) (by kernel_rfl) (fun _ _ _ h => h) (Or.inl ⟨by rfl, ?_⟩) ?_
        rotate_left
        · intro w; go_simp; first | done | with_reducible rfl
        refine wpAny_ready (rs := [7]) (by kernel_rfl) (by simp) ?_
        refine AllReady.cons rfl (fun K hK => ?_) ?_
        · go_simp
          refine (refuse_yes _ _).mono ?_; rintro e w2 ⟨rfl, rfl⟩; exact ⟨rfl, rfl, bel_tr B1.out (bel_drewN _ 1)⟩
        exact AllReady.nil
      exact AllReady.nil
    exact AllReady.nil
  | ok i x hi hd => exact absurd rfl h0
open Go.Proofs.YtdilfbfkeiaafaaGreat.Lea (LS Ls findX putL renX LL LO LsR lsC wideL)
theorem src_nds {w : World} {b off n c : Nat} {ps : List NR} (h : Nds w (some ⟨b, off, none⟩) b off ps) (hn : ps.length = n) : Src Tryz.prog 5 24 (.slice (some ⟨b, off, none⟩) n c) n (rowC ndC ps) w := by
  refine Src.ofSlice w Tryz.underlying24 ⟨b, off, none⟩ n c (rowC ndC ps) (by rw [rowC_len wideX, hn]) (fun j u hu => ?_) (rowC_oneCell wideX ps)
  rw [Addr.add_lit]
  have hj : j < (rowC ndC ps).length := (List.getElem?_eq_some_iff.1 hu).1
  rw [rowC_len wideX] at hj
  obtain ⟨i, r, rfl, hr⟩ : ∃ i r, j = i * 5 + r ∧ r < 5 := ⟨j / 5, j % 5, by omega, by omega⟩
  have hi : i < ps.length := by omega
  rw [rowC_at wideX ps i hi r hr] at hu
  rw [← Nat.add_assoc]
  exact h.cell i hi r u hu
theorem lsRow : ∃ i, Tryz.prog.info? 71 = some i ∧ i.zero = some (.agg #[.int .i64 0, .int .i64 0]) ∧ i.size = 2 ∧ i.bytes = 16 :=
  info_parts3 (show (Tryz.prog.info? 71).map (fun i => (i.zero, i.size, i.bytes)) = some (some (.agg #[.int .i64 0, .int .i64 0]), 2, 16) by kernel_rfl)
theorem nilNds (w : World) (a : Option Addr) (n c : Nat) : (binOp .eql 24 (.slice a n c) (.slice none 0 0)).run Tryz.prog w = .ok (.bool a.isNone) w := Lib.run_eql_slice_nil w 24 35 a n c 0 0 Tryz.underlying24
theorem nilLss (w : World) (a : Option Addr) (n c : Nat) : (binOp .eql 25 (.slice a n c) (.slice none 0 0)).run Tryz.prog w = .ok (.bool a.isNone) w := Lib.run_eql_slice_nil w 25 71 a n c 0 0 Tryz.underlying25
structure CloneN (base n : Nat) (ps : List NR) (e : Ending) (w' : World) : Prop where
  ex : ∃ a c g, e = .returned (.slice a n c) ∧ Cel (fun k => base ≤ k) w' 5 (.slice a n c) n (rowC ndC ps) g
structure CloneL (base n : Nat) (xs : LS) (e : Ending) (w' : World) : Prop where
  ex : ∃ a c g, e = .returned (.slice a n c) ∧ LO base w' a n c xs g
theorem cloneN_val {a : Option Addr} {b off n c : Nat} {ps : List NR} {w : World} (h : Nds w a b off ps) (hl : ps.length = n) (hc : a = none → c = 0) (hz : n * 64 ≤ 140737488355328) :
    Calls Tryz.prog 54 #[.slice a n c] w fun e w' => CloneN w.heap.size n ps e w' ∧ Below w.heap.size w w' := by
  obtain ⟨ti, hi1, hi2, hi3, hi4⟩ := ndRow
  have hnb := nilNds
  cases a with
  | none =>
    have hn0 : n = 0 := by
      rcases Nat.eq_zero_or_pos n with h0 | h0
      · exact h0
      · have := h.addr (by omega); cases this
    subst hn0; have hc0 : c = 0 := hc rfl
    subst hc0; have e : ps = [] := List.length_eq_zero_iff.1 hl
    subst e; clear h hc hl; go_enter Tryz.func54, Tryz.ntmps54; go_wp2; go_ret; exact ⟨⟨none, 0, none, rfl, .nil rfl rfl rfl⟩, Below.refl _ _⟩
  | some ad =>
    have HS : Hid (∀ o, Src Tryz.prog 5 24 (.slice (some ad) n c) n (rowC ndC ps) (w.alloc o)) := fun o => by
      by_cases h0 : 0 < n
      · have e := h.addr (by omega)
        cases e
        exact src_nds (h.below (bel_al w o)) hl
      · obtain rfl : n = 0 := by omega
        have e : ps = [] := List.length_eq_zero_iff.1 hl
        subst e; exact Src.ofSlice _ Tryz.underlying24 ad 0 _ [] (by simp) (fun j u hu => by simp at hu) (fun u hu => by cases hu)
    have hl2 : n ≤ 2199023255552 := by omega
    have HC0 : Hid (∀ t, Cel (fun k => w.heap.size ≤ k) (w.alloc (.cells #[] t)) 5 (.slice (some ⟨w.heap.size, 0, none⟩) 0 0) 0 [] (some w.heap.size)) := fun t =>
      .row w.heap.size 0 rfl (by simp) (Nat.le_refl _) (by simp) (Nat.le_refl _) (Nat.zero_le _) (fun j hj => by simp at hj) (fun j hj => by omega)
    clear h hl hc; go_enter Tryz.func54, Tryz.ntmps54; go_wp2_with (at_builtin; refine wpList_append_cel _ rfl _ _ 24 24 rfl 35 ti _ 5 64 Tryz.underlying24 hi1 hi2 hi3 hi4 rfl (O := fun k => w.heap.size ≤ k) _ 0 [] _ rfl (HC0.out _) _ n (rowC ndC ps) rfl (HS.out _) (by unfold maxLen; omega) (by omega) ?_; intro a2 cc2 w2 g2 hC2 hst2 hf2)
    have hC3 := grow_base (base := w.heap.size) (by simp) (fun k hk => hk) hC2
    rw [Nat.zero_add, List.nil_append] at hC3
    have HX : Hid (Cel (fun k => w.heap.size ≤ k) w2 5 (.slice a2 n cc2) n (rowC ndC ps) g2) := hC3
    have HB : Hid (Below w.heap.size w w2) := (bel_al w _).trans (hst2.below (by simp) (fun k hk => by cases hk; exact Nat.le_refl _))
    clear hC2 hC3 hst2 hf2; go_ret; exact ⟨⟨a2, cc2, g2, rfl, HX.out⟩, HB.out⟩
theorem cloneL_val {a : Option Addr} {n c : Nat} {xs : LS} {w : World} (h : LL w a n c xs) (hz : n * 16 ≤ 140737488355328) :
    Calls Tryz.prog 55 #[.slice a n c] w fun e w' => CloneL w.heap.size n xs e w' ∧ Below w.heap.size w w' := by
  obtain ⟨ti, hi1, hi2, hi3, hi4⟩ := lsRow
  have hnb := nilLss
  have hl := h.len
  cases a with
  | none =>
    have hn0 : n = 0 := by
      rcases Nat.eq_zero_or_pos n with h0 | h0
      · exact h0
      · obtain ⟨_, _, e, _⟩ := h.cells h0; cases e
    subst hn0; have hc0 : c = 0 := h.nil rfl
    subst hc0; have e : xs = [] := List.length_eq_zero_iff.1 hl
    subst e; clear h hl; go_enter Tryz.func55, Tryz.ntmps55; go_wp2; go_ret; exact ⟨⟨none, 0, none, rfl, LO.none _ _⟩, Below.refl _ _⟩
  | some ad =>
    have HS : Hid (∀ o, Src Tryz.prog 2 25 (.slice (some ad) n c) n (rowC lsC xs) (w.alloc o)) := fun o => (h.below (bel_al w o)).src Tryz.underlying25
    have HL : Hid (xs.length = n) := hl
    have hl2 : n ≤ 8796093022208 := by omega
    have HC0 : Hid (∀ t, Cel (fun k => w.heap.size ≤ k) (w.alloc (.cells #[] t)) 2 (.slice (some ⟨w.heap.size, 0, none⟩) 0 0) 0 [] (some w.heap.size)) := fun t =>
      .row w.heap.size 0 rfl (by simp) (Nat.le_refl _) (by simp) (Nat.le_refl _) (Nat.zero_le _) (fun j hj => by simp at hj) (fun j hj => by omega)
    clear h hl; go_enter Tryz.func55, Tryz.ntmps55; go_wp2_with (at_builtin; refine wpList_append_cel _ rfl _ _ 25 25 rfl 71 ti _ 2 16 Tryz.underlying25 hi1 hi2 hi3 hi4 rfl (O := fun k => w.heap.size ≤ k) _ 0 [] _ rfl (HC0.out _) _ n (rowC lsC xs) rfl (HS.out _) (by unfold maxLen; omega) (by omega) ?_; intro a2 cc2 w2 g2 hC2 hst2 hf2)
    have hC3 := grow_base (base := w.heap.size) (by simp) (fun k hk => hk) hC2
    rw [Nat.zero_add, List.nil_append] at hC3
    have HX : Hid (LO w.heap.size w2 a2 n cc2 xs g2) := ⟨hC3, HL.out⟩
    have HB : Hid (Below w.heap.size w w2) := (bel_al w _).trans (hst2.below (by simp) (fun k hk => by cases hk; exact Nat.le_refl _))
    clear hC2 hC3 hst2 hf2; go_ret; exact ⟨⟨a2, cc2, g2, rfl, HX.out⟩, HB.out⟩
theorem Cel.setNd {O : Nat → Prop} {w : World} {a : Option Addr} {n c g : Nat} {qs : List NR} (h : Cel O w 5 (.slice a n c) n (rowC ndC qs) (some g)) (hn : qs.length = n) (i : Nat) (hi : i < n) (y : NR) :
    Cel O (w.setCells g (i * 5) (ndC y)) 5 (.slice a n c) n (rowC ndC (qs.set i y)) (some g) := by
  have hc := h.cap2.1
  have h1 : (i + 1) * 5 ≤ c * 5 := Nat.mul_le_mul_right _ (by omega)
  have hl : (rowC ndC (qs.set i y)).length = n * 5 := by rw [rowC_len wideX, List.length_set, hn]
  have hw5 : (ndC y).length = 5 := rfl
  refine h.setCells (i * 5) (ndC y) (by rw [hw5]; omega) n _ hc hl (fun q hq => ?_)
  rw [← List.getElem?_eq_getElem hq]
  rw [hl] at hq
  have hd : q / 5 < n := by omega
  have e := rowC_at wideX (qs.set i y) (q / 5) (by rw [List.length_set]; omega) (q % 5) (by omega)
  have e' := rowC_at wideX qs (q / 5) (by omega) (q % 5) (by omega)
  have e2 : q / 5 * 5 + q % 5 = q := by omega
  rw [e2] at e e'
  rw [e, e', hw5]
  by_cases hqi : q / 5 = i
  · subst hqi
    rw [List.getElem_set_self, if_pos (by omega), show q - q / 5 * 5 = q % 5 by omega]
  · rw [if_neg (by omega), List.getElem_set_ne (fun e => hqi e.symm)]
end Go.Proofs.YtdilfbfkeiaafaaGreat.Spa
