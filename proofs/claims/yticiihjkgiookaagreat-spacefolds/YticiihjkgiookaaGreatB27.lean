/- Part 27 of the proof: SpaceF1. -/
import Derived.Test.YticiihjkgiookaaGreatB17
import Derived.Test.YticiihjkgiookaaGreatB21
import Derived.Test.YticiihjkgiookaaGreatB23
import Derived.Test.YticiihjkgiookaaGreatB25
import Derived.Test.YticiihjkgiookaaGreatB26
import Derived.Defers
import Derived.Recover
import Derived.StillTailTactics

/- The contracts of space.refuse, taken, reason, within, newDir, newFile, copiedNode, find. -/
namespace Go.Proofs.YticiihjkgiookaaGreat.Spa
open Go.RowKit Go.Proofs.YticiihjkgiookaaGreat
open Go.Proofs.YticiihjkgiookaaGreat.Lea (LS Ls findX putL renX LL LO LsR)
open Go.Proofs.YticiihjkgiookaaGreat.Edi (Ed Nm EdAt edV)

/-- A call that ends in the panic of an error. -/
abbrev leftV (E : Int) : Ending := .panicked [{ v := .iface 29 (.int .i64 E), recovered := false }]

set_option maxRecDepth 100000 in
theorem refuse_no (E : Int) (w : World) : Calls Tryz.prog 18 #[.bool false, .int .i64 E] w fun e w' => e = .returned (.tuple #[]) ∧ w' = w := by
  go_enter Tryz.func18, Tryz.ntmps18
  go_wp2
  first | go_end0 | refine bodyPost_ret (results_none rfl _ _ _) rfl ?_
  exact ⟨rfl, rfl⟩
set_option maxRecDepth 100000 in
theorem refuse_yes (E : Int) (w : World) : Calls Tryz.prog 18 #[.bool true, .int .i64 E] w fun e w' => e = leftV E ∧ w' = w := by
  go_enter Tryz.func18, Tryz.ntmps18
  go_wp2
  exact ⟨rfl, rfl, rfl⟩

set_option maxRecDepth 100000 in
theorem takenN_ok {a : Option Addr} {n c : Nat} (w : World) : Calls Tryz.prog 45 #[(.slice a n c), .int .i64 0] w fun e w' => e = .returned (.slice a n c) ∧ w' = w := by
  go_enter Tryz.func45, Tryz.ntmps45
  go_wp2_with (refine (refuse_no _ _).mono ?_; rintro e w1 ⟨rfl, rfl⟩)
  go_ret
  exact ⟨rfl, rfl⟩
set_option maxRecDepth 100000 in
theorem takenN_no {a : Option Addr} {n c : Nat} (E : Int) (h : (E != 0) = true) (w : World) : Calls Tryz.prog 45 #[(.slice a n c), .int .i64 E] w fun e w' => e = leftV E ∧ w' = w := by
  go_enter Tryz.func45, Tryz.ntmps45
  go_wp2_with (refine (refuse_yes _ _).mono ?_; rintro e w1 ⟨rfl, rfl⟩)
  exact ⟨rfl, rfl, rfl⟩

set_option maxRecDepth 100000 in
theorem takenL_ok {a : Option Addr} {n c : Nat} (w : World) : Calls Tryz.prog 129 #[(.slice a n c), .int .i64 0] w fun e w' => e = .returned (.slice a n c) ∧ w' = w := by
  go_enter Tryz.func129, Tryz.ntmps129
  go_wp2_with (refine (refuse_no _ _).mono ?_; rintro e w1 ⟨rfl, rfl⟩)
  go_ret
  exact ⟨rfl, rfl⟩
set_option maxRecDepth 100000 in
theorem takenL_no {a : Option Addr} {n c : Nat} (E : Int) (h : (E != 0) = true) (w : World) : Calls Tryz.prog 129 #[(.slice a n c), .int .i64 E] w fun e w' => e = leftV E ∧ w' = w := by
  go_enter Tryz.func129, Tryz.ntmps129
  go_wp2_with (refine (refuse_yes _ _).mono ?_; rintro e w1 ⟨rfl, rfl⟩)
  exact ⟨rfl, rfl, rfl⟩

set_option maxRecDepth 100000 in
theorem takenI_ok {k : Int} (w : World) : Calls Tryz.prog 136 #[(.int .i64 k), .int .i64 0] w fun e w' => e = .returned (.int .i64 k) ∧ w' = w := by
  go_enter Tryz.func136, Tryz.ntmps136
  go_wp2_with (refine (refuse_no _ _).mono ?_; rintro e w1 ⟨rfl, rfl⟩)
  go_ret
  exact ⟨rfl, rfl⟩
set_option maxRecDepth 100000 in
theorem takenI_no {k : Int} (E : Int) (h : (E != 0) = true) (w : World) : Calls Tryz.prog 136 #[(.int .i64 k), .int .i64 E] w fun e w' => e = leftV E ∧ w' = w := by
  go_enter Tryz.func136, Tryz.ntmps136
  go_wp2_with (refine (refuse_yes _ _).mono ?_; rintro e w1 ⟨rfl, rfl⟩)
  exact ⟨rfl, rfl, rfl⟩

set_option maxRecDepth 100000 in
theorem reason_val (E : Int) (w : World) : Calls Tryz.prog 17 #[.iface 29 (.int .i64 E)] w fun e w' => e = .returned (.int .i64 E) ∧ w' = w := by
  have has : ∀ (v : Value) (w : World), (Instr.typeAssert (.iface 29 v) 20 29 true).run Tryz.prog w = .ok (.tuple #[v, .bool true]) w := fun _ _ => by kernel_rfl
  go_enter Tryz.func17, Tryz.ntmps17
  go_wp2
  go_ret
  exact ⟨rfl, rfl⟩

set_option maxRecDepth 100000 in
theorem within_val (n lo hi : Int) (v : Bool) (w : World) (hv : Edi.inB lo n hi = v) : Calls Tryz.prog 32 #[.int .i64 n, .int .i64 lo, .int .i64 hi] w fun e w' => e = .returned (.bool v) ∧ w' = w := by
  have hv2 : (decide (lo ≤ n) && decide (n ≤ hi)) = v := by rw [← hv]; unfold Edi.inB; simp
  clear hv
  cases h1 : decide (lo ≤ n) <;> cases h2 : decide (n ≤ hi) <;> rw [h1, h2] at hv2 <;> subst hv2
  all_goals
    go_enter Tryz.func32, Tryz.ntmps32
    go_wp2
    go_ret
    exact ⟨rfl, rfl⟩

set_option maxRecDepth 100000 in
theorem newDir_val (p : ByteArray) (w : World) : Calls Tryz.prog 15 #[.string p] w fun e w' => e = .returned (ndV ((⟨p, true, -1, [], -1⟩ : Nd), (⟨none, 0, 0⟩ : RS))) ∧ Below w.heap.size w w' := by
  have hst := run_store_str
  go_enter Tryz.func15, Tryz.ntmps15
  go_wp2
  exact bodyPost_ret (v := ndV ((⟨p, true, -1, [], -1⟩ : Nd), (⟨none, 0, 0⟩ : RS))) (by simp [results, Tryz.results15, go_sem, ndV]) rfl ⟨rfl, bel_al _ _⟩
set_option maxRecDepth 100000 in
theorem newFile_val (p : ByteArray) (c : Int) (w : World) : Calls Tryz.prog 86 #[.string p, .int .i64 c] w fun e w' => e = .returned (ndV ((⟨p, false, -1, [], c⟩ : Nd), (⟨none, 0, 0⟩ : RS))) ∧ Below w.heap.size w w' := by
  have hst := run_store_str
  go_enter Tryz.func86, Tryz.ntmps86
  go_wp2
  exact bodyPost_ret (v := ndV ((⟨p, false, -1, [], c⟩ : Nd), (⟨none, 0, 0⟩ : RS))) (by simp [results, Tryz.results86, go_sem, ndV]) rfl ⟨rfl, bel_al _ _⟩

set_option maxRecDepth 100000 in
set_option maxHeartbeats 1000000 in
theorem copiedNode_val (x : NR) (w : World) (h : NdOk w x) (hz : x.2.n * 24 ≤ 140737488355328) :
    Calls Tryz.prog 31 #[ndV x] w fun e w' => CopyR w.heap.size x.1 e w' ∧ Below w.heap.size w w' := by
  have CC : Hid (∀ W, Below w.heap.size w W → Calls Tryz.prog 74 #[.slice x.2.a x.2.n x.2.c] W fun e w' => ∃ a c, e = .returned (.slice a x.2.n c) ∧ Free W.heap.size w' (x.1, ⟨a, x.2.n, c⟩) ∧ Below W.heap.size W w') := fun W hb =>
    (clone_val x.2 x.1.bs W (h.bs.below hb) hz).mono fun e w' ⟨⟨a, c, g, h1, h2⟩, h3⟩ => ⟨a, c, h1, free_of_cel h2 h.bs.len rfl h.small, h3⟩
  obtain ⟨⟨p, d, q, bs, wr⟩, ⟨a, n, c⟩⟩ := x
  have hst := run_store_str
  have hst2 : ∀ (w : World) (a : Addr) (x : Option Addr) (n c : Nat) (m : Mode), (store a (.slice x n c) m).run Tryz.prog w = stored Tryz.prog w a (.slice x n c) m := fun w a x n c m => run_store_any w a _ m rfl
  unfold ndV
  simp only at CC
  clear h hz
  go_enter Tryz.func31, Tryz.ntmps31
  go_wp2_with fail
  refine (CC.out _ (bel_tr (bel_al _ _) (bel_al _ _))).mono ?_
  rintro e w2 ⟨a2, c2, rfl, hF, hb2⟩
  obtain ⟨q1, q2, q3, q4, q5, q6⟩ := two_boxes hb2
  have y0 := q1 0 _ rfl
  have y1 := q1 1 _ rfl
  have y2 := q1 2 _ rfl
  have y3 := q1 3 _ rfl
  have y4 := q1 4 _ rfl
  have z0 := q3 0 _ rfl
  have z1 := q3 1 _ rfl
  have z2 := q3 2 _ rfl
  have z3 := q3 3 _ rfl
  have z4 := q3 4 _ rfl
  have HF : Hid (Free (w.heap.size + 2) w2 (⟨p, d, q, bs, wr⟩, ⟨a2, n, c2⟩)) := by
    have := hF
    simp at this
    exact this
  have hb3 : Hid (Below w.heap.size w w2) := q5
  have HZ : Hid (w.heap.size + 2 ≤ w2.heap.size) := q6
  have yy0 := q2 0
  have yy1 := q2 1
  have yy2 := q2 2
  have yy3 := q2 3
  have yy4 := q2 4
  have zz0 := q4 0
  have zz1 := q4 1
  have zz2 := q4 2
  have zz3 := q4 3
  have zz4 := q4 4
  have o0 : ∀ j v, (w2.setCell ⟨w.heap.size, 3, none⟩ v).cell? ⟨w.heap.size + 1, j, none⟩ = w2.cell? ⟨w.heap.size + 1, j, none⟩ := fun j v => other_block _ _ _ _ _ _ (by omega)
  have HX : Hid (∀ v v0 v1 v2 v3 v4, Free w.heap.size ((((((w2.setCell ⟨w.heap.size, 3, none⟩ v).setCell ⟨w.heap.size + 1, 0, none⟩ v0).setCell ⟨w.heap.size + 1, 1, none⟩ v1).setCell ⟨w.heap.size + 1, 2, none⟩ v2).setCell ⟨w.heap.size + 1, 3, none⟩ v3).setCell ⟨w.heap.size + 1, 4, none⟩ v4) (⟨p, d, q, bs, wr⟩, ⟨a2, n, c2⟩) ∧ Below w.heap.size w ((((((w2.setCell ⟨w.heap.size, 3, none⟩ v).setCell ⟨w.heap.size + 1, 0, none⟩ v0).setCell ⟨w.heap.size + 1, 1, none⟩ v1).setCell ⟨w.heap.size + 1, 2, none⟩ v2).setCell ⟨w.heap.size + 1, 3, none⟩ v3).setCell ⟨w.heap.size + 1, 4, none⟩ v4)) := fun v v0 v1 v2 v3 v4 => by
    have st : Stay (fun k => k = w.heap.size ∨ k = w.heap.size + 1) w2 _ := (Stay.setCell (O := fun k => k = w.heap.size ∨ k = w.heap.size + 1) w2 ⟨w.heap.size, 3, none⟩ v (.inl rfl)).then_same (Stay.five _ (w.heap.size + 1) v0 v1 v2 v3 v4 (.inr rfl))
    refine ⟨(Stay.free HF.out st (fun k hk e => ?_)).mono (by omega), q5.trans (st.below (by omega) (fun k hk => by omega))⟩
    have := HF.out.blk_ge k hk
    omega
  have K0 := (five (X := w2.setCell ⟨w.heap.size, 3, none⟩ (.slice a2 n c2)) (R := w.heap.size + 1) ((o0 0 _).trans z0) ((o0 1 _).trans z1) ((o0 2 _).trans z2) ((o0 3 _).trans z3) ((o0 4 _).trans z4) (.string p) (.bool d) (.int .i64 q) (.slice a2 n c2) (.int .i64 wr))
  have HK : Hid _ := K0
  clear K0 hF hb2 q1 q2 q3 q4 q5 q6 CC o0 HF
  generalize hRR : w.heap.size = R at *
  have HRR : Hid (w.heap.size = R) := hRR
  clear hRR
  go_wp2
  obtain ⟨k0, k1, k2, k3, k4⟩ := HK.out
  exact bodyPost_ret (v := ndV (⟨p, d, q, bs, wr⟩, ⟨a2, n, c2⟩)) (by simp [results, ndV, Tryz.results31, go_sem, k0, k1, k2, k3, k4]) rfl (by rw [HRR.out]; exact ⟨⟨⟨a2, n, c2⟩, rfl, (HX.out _ _ _ _ _ _).1⟩, (HX.out _ _ _ _ _ _).2⟩)

inductive FindR (xs : NS) (p : ByteArray) : Int → Int → Prop
  | arg : pathB p = false → FindR xs p 0 1
  | none : pathB p = true → at? xs p = none → FindR xs p 0 5
  | ok (i : Nat) (x : Nd) : Is xs p i x → FindR xs p (i : Int) 0

set_option maxRecDepth 100000 in
set_option maxHeartbeats 1000000 in
theorem find_is {a : Option Addr} {n c : Nat} {xs : NS} {w : World} (h : NL w a n xs) (p : ByteArray) (hs : p.size ≤ maxLen) (I E : Int) (hE : FindR xs p I E) :
    Calls Tryz.prog 30 #[.slice a n c, .string p] w fun e w' => e = .returned (.tuple #[.int .i64 I, .int .i64 E]) ∧ Below w.heap.size w w' := by
  obtain ⟨E0, hE0⟩ : ∃ E0, splitE p = E0 := ⟨_, rfl⟩
  have CS : Hid (∀ W, Calls Tryz.prog 72 #[.string p] W fun e w' => (∃ v, e = .returned (.tuple #[v, .int .i64 E0])) ∧ Below W.heap.size W w') := fun W => (split_val p (splitN p) E0 _ W hs (by rw [← hE0]; rfl) rfl).mono fun e w' ⟨a, b, cap, h1, _, h2⟩ => ⟨⟨_, h1⟩, h2⟩
  have CF : Hid (∀ W J, Below w.heap.size w W → findI xs p = J → Calls Tryz.prog 73 #[.slice a n c, .string p] W fun e w' => e = .returned (.int .i64 J) ∧ Below W.heap.size W w') := fun W J hb hJ => find_val (h.below hb) p J hJ
  cases hE with
  | arg h1 =>
    have h0 : (E0 != 0) = true := by
      unfold pathB at h1
      rw [hE0] at h1
      simpa using h1
    clear h1 hE0
    go_enter Tryz.func30, Tryz.ntmps30
    go_wp2_with (go_at_call 72; refine (CS.out _).mono ?_; rintro e w1 ⟨⟨v, rfl⟩, c1⟩; have B1 : Hid _ := c1; clear c1)
    go_ret2
    exact ⟨rfl, B1.out⟩
  | none h1 h2 =>
    have h0 : E0 = 0 := by
      unfold pathB at h1
      rw [hE0] at h1
      simpa using h1
    subst h0
    have HF : Hid (findI xs p = -1) := find_neg h2
    clear h1 h2 hE0
    go_enter Tryz.func30, Tryz.ntmps30
    go_wp2_with (first
      | (go_at_call 72; refine (CS.out _).mono ?_; rintro e w1 ⟨⟨v, rfl⟩, c1⟩; have B1 : Hid (Below w.heap.size w w1) := c1; clear c1)
      | (go_at_call 73; refine (CF.out _ _ B1.out HF.out).mono ?_; rintro e w2 ⟨rfl, c2⟩; have B2 : Hid (Below w.heap.size w w2) := bel_tr B1.out c2; clear c2))
    go_ret2
    exact ⟨rfl, B2.out⟩
  | ok i x hi =>
    have h1 := hi.path
    have h0 : E0 = 0 := by
      unfold pathB at h1
      rw [hE0] at h1
      simpa using h1
    subst h0
    have HF : Hid (findI xs p = (i : Int)) := hi.find
    clear h1 hi hE0
    go_enter Tryz.func30, Tryz.ntmps30
    go_wp2_with (first
      | (go_at_call 72; refine (CS.out _).mono ?_; rintro e w1 ⟨⟨v, rfl⟩, c1⟩; have B1 : Hid (Below w.heap.size w w1) := c1; clear c1)
      | (go_at_call 73; refine (CF.out _ _ B1.out HF.out).mono ?_; rintro e w2 ⟨rfl, c2⟩; have B2 : Hid (Below w.heap.size w w2) := bel_tr B1.out c2; clear c2))
    go_ret2
    exact ⟨rfl, B2.out⟩

end Go.Proofs.YticiihjkgiookaaGreat.Spa
