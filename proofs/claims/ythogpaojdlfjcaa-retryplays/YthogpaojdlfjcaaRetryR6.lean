/- The contract of tabulariumref13.Put: what is refused, and what is new. -/
import Derived.Test.YthogpaojdlfjcaaRetryR5
import Derived.Test.YthogpaojdlfjcaaRetryR4
import Derived.Test.YthogpaojdlfjcaaEditR1
import Derived.Deep.RegionLaw
namespace Go.Proofs.Ythogpaojdlfjcaa.Rty
open Go.RowKit Go.Proofs.Ythogpaojdlfjcaa Go.Proofs.Ythogpaojdlfjcaa.Edi
set_option linter.unusedVariables false

theorem info_c : ∃ j, Try.prog.info? 69 = some j ∧ j.zero = some (.agg #[.int .i64 0, .string ⟨#[]⟩, .string ⟨#[]⟩, .int .i64 0, .int .i64 0, .int .i64 0, .slice none 0 0, .int .i64 0, .int .i64 0, .int .i64 0, .int .i64 0, .slice none 0 0, .string ⟨#[]⟩, .bool false, .int .i64 0, .slice none 0 0, .int .i64 0, .int .i64 0]) ∧ j.size = 18 ∧ j.bytes = 216 :=
  info_parts3 (show (Try.prog.info? 69).map (fun i => (i.zero, i.size, i.bytes)) = some (some (.agg #[.int .i64 0, .string ⟨#[]⟩, .string ⟨#[]⟩, .int .i64 0, .int .i64 0, .int .i64 0, .slice none 0 0, .int .i64 0, .int .i64 0, .int .i64 0, .int .i64 0, .slice none 0 0, .string ⟨#[]⟩, .bool false, .int .i64 0, .slice none 0 0, .int .i64 0, .int .i64 0]), 18, 216) by kernel_rfl)

set_option maxRecDepth 100000 in
set_option maxHeartbeats 8000000 in
theorem refPut_arg {w : World} {xb : Nat} {e : Ed} {a : Option Addr} {m q : Nat} (hnm : Nm w a m e.ls) {c k : Int} {x : Ans} {s : Sls} (hbad : ¬ Rt e ∨ e.c ≠ c ∨ e.l ≠ k) :
    Calls Try.prog 8 #[.pointer (some ⟨xb, 0, none⟩), .int .i64 c, .int .i64 k, edV e a m q, anV x s] w fun y w' => y = .returned (.int .i64 1) ∧ Below w.heap.size w w' := by
  obtain ⟨u, hu⟩ : ∃ u : Bool, u = true ↔ Rt e := by
    by_cases h : Rt e
    · exact ⟨true, fun _ => h, fun _ => rfl⟩
    · exact ⟨false, fun x => (by cases x), fun x => absurd x h⟩
  have CR : Hid (∀ W, Below w.heap.size w W → Calls Try.prog 18 #[edV e a m q] W fun y w' => y = .returned (.bool u) ∧ Below W.heap.size W w') := fun W hb => refRight_val (hnm.below hb) u hu
  have hcs : u = false ∨ u = true ∧ ¬ e.c = c ∨ u = true ∧ e.c = c ∧ ¬ e.l = k := by
    by_cases h2 : Rt e
    · have hu1 := hu.2 h2
      by_cases h3 : e.c = c
      · by_cases h4 : e.l = k
        · rcases hbad with h5 | h5 | h5
          · exact absurd h2 h5
          · exact absurd h3 h5
          · exact absurd h4 h5
        · exact .inr (.inr ⟨hu1, h3, h4⟩)
      · exact .inr (.inl ⟨hu1, h3⟩)
    · left
      cases u with
      | false => rfl
      | true => exact absurd (hu.1 rfl) h2
  clear hu hbad hnm
  obtain ⟨k0, p, t0, c1, l, n, ls⟩ := e
  unfold edV anV at *
  simp only at CR hcs ⊢
  have KE : ∀ o, Hid (EdAt ((w.alloc (.cells #[.int .i64 k0, .string p, .string t0, .int .i64 c1, .int .i64 l, .int .i64 n, .slice a m q] 32)).alloc o) w.heap.size ⟨k0, p, t0, c1, l, n, ls⟩ a m q) := fun o => (EdAt.new w 32 ⟨k0, p, t0, c1, l, n, ls⟩ a m q).below (bel_al _ _)
  rcases hcs with rfl | ⟨rfl, hcc⟩ | ⟨rfl, rfl, hkk⟩
  all_goals
    go_enter Try.func8, Try.ntmps8
    go_wp2_with fail
    refine (CR.out _ (bel_tr (bel_al _ _) (bel_al _ _))).mono ?_
    rintro y w1 ⟨rfl, b⟩
    have hE := (KE _).out.below b
    have q3 := hE.c3
    have q4 := hE.c4
    simp only at q3 q4
    have B1 : Hid (Below w.heap.size w w1) := bel_tr (bel_tr (bel_al _ _) (bel_al _ _)) b
    clear hE b KE CR
    go_wp2
    go_ret
    exact ⟨rfl, B1.out⟩

/-- What is there behind a call that is put: the row's last one, and not more than twenty. -/
structure RPutR (w0 : World) (O : Nat → Prop) (w : World) (xb : Nat) (R : List Rc) (w' : World) : Prop where
  ex : ∃ R', R'.map absR = (if (R.map absR).length > 20 then (R.map absR).tail else R.map absR) ∧ RAt w0 (Grow O w w') w' xb R'
  st : Stay O w w'

set_option maxRecDepth 100000 in
set_option maxHeartbeats 16000000 in
/-- One that is new. -/
theorem refPut_new {w0 : World} {O : Nat → Prop} {w : World} {xb : Nat} {R : List Rc} (h : RAt w0 O w xb R) (hle : R.length ≤ 20) (hb0 : Below w0.heap.size w0 w) {e : Ed} {a : Option Addr} {m q : Nat} (hr : Rt e) {x : Ans} {s : Sls} (he : Nm w0 a m e.ls ∧ AnIn (fun b => b < w0.heap.size) w0 x s) (hwh : Where R e.c e.l (-1)) :
    Calls Try.prog 8 #[.pointer (some ⟨xb, 0, none⟩), .int .i64 e.c, .int .i64 e.l, edV e a m q, anV x s] w fun y w' => y = .returned (.int .i64 0) ∧ RPutR w0 O w xb (R ++ [⟨e, a, m, q, x, s⟩]) w' := by
  obtain ⟨ti, hi1, hi2, hi3, hi4⟩ := info_c
  have CR : Hid (∀ W, Below w.heap.size w W → Calls Try.prog 18 #[edV e a m q] W fun y w' => y = .returned (.bool true) ∧ Below W.heap.size W w') := fun W hb => refRight_val ((he.1.below hb0).below hb) true ⟨fun _ => hr, fun _ => rfl⟩
  have HA : Hid (∀ W, Below w.heap.size w W → Calls Try.prog 19 #[.pointer (some ⟨xb, 0, none⟩), .int .i64 e.c, .int .i64 e.l] W fun e w' => e = .returned (.int .i64 (-1)) ∧ w' = W) := fun W hb => at_val (h.below hb) e.c e.l (-1) hwh
  have HH : Hid (RAt w0 O w xb R) := h
  have HE : Hid (Nm w0 a m e.ls ∧ AnIn (fun b => b < w0.heap.size) w0 x s) := he
  have hmost := hle
  clear h hb0 he hwh hr
  obtain ⟨k0, p, t0, c, k, n, ls⟩ := e
  obtain ⟨err, ⟨b1, b2, b3⟩, names, path, dir, quota, blocks, writer, nn⟩ := x
  obtain ⟨x1, y1, x2, y2⟩ := s
  unfold edV at CR ⊢
  unfold anV
  simp only at CR HA HE ⊢
  obtain ⟨n1, hn1⟩ : ∃ N, names.length = N := ⟨_, rfl⟩
  obtain ⟨n2, hn2⟩ : ∃ N, blocks.length = N := ⟨_, rfl⟩
  rw [hn1, hn2]
  have HN1 : Hid (names.length = n1) := hn1
  have HN2 : Hid (blocks.length = n2) := hn2
  clear hn1 hn2
  have KE : Hid (Cells ((w.alloc (.cells #[.int .i64 k0, .string p, .string t0, .int .i64 c, .int .i64 k, .int .i64 n, .slice a m q] 32)).alloc (.cells #[.int .i64 err, .int .i64 b1, .int .i64 b2, .int .i64 b3, .slice x1 n1 y1, .string path, .bool dir, .int .i64 quota, .slice x2 n2 y2, .int .i64 writer, .int .i64 nn] 41)) w.heap.size [.int .i64 k0, .string p, .string t0, .int .i64 c, .int .i64 k, .int .i64 n, .slice a m q]) := (Cells.new _ _ _).below (bel_al _ _)
  have KX : Hid (Cells ((w.alloc (.cells #[.int .i64 k0, .string p, .string t0, .int .i64 c, .int .i64 k, .int .i64 n, .slice a m q] 32)).alloc (.cells #[.int .i64 err, .int .i64 b1, .int .i64 b2, .int .i64 b3, .slice x1 n1 y1, .string path, .bool dir, .int .i64 quota, .slice x2 n2 y2, .int .i64 writer, .int .i64 nn] 41)) (w.heap.size + 1) [.int .i64 err, .int .i64 b1, .int .i64 b2, .int .i64 b3, .slice x1 n1 y1, .string path, .bool dir, .int .i64 quota, .slice x2 n2 y2, .int .i64 writer, .int .i64 nn]) := cells2 _ _ _ _
  go_enter Try.func8, Try.ntmps8
  go_wp2_with fail
  refine (CR.out _ (bel_tr (bel_al _ _) (bel_al _ _))).mono ?_
  rintro y w3 ⟨rfl, b3'⟩
  have B3 : Hid (Below w.heap.size w w3) := bel_tr (bel_tr (bel_al _ _) (bel_al _ _)) b3'
  have KE3 := KE.out.below b3'
  have KX3 := KX.out.below b3'
  clear b3' KE KX CR
  have e3_0 := KE3.val 0 _ rfl
  have e3_1 := KE3.val 1 _ rfl
  have e3_2 := KE3.val 2 _ rfl
  have e3_3 := KE3.val 3 _ rfl
  have e3_4 := KE3.val 4 _ rfl
  have e3_5 := KE3.val 5 _ rfl
  have e3_6 := KE3.val 6 _ rfl
  have x3_0 := KX3.val 0 _ rfl
  have x3_1 := KX3.val 1 _ rfl
  have x3_2 := KX3.val 2 _ rfl
  have x3_3 := KX3.val 3 _ rfl
  have x3_4 := KX3.val 4 _ rfl
  have x3_5 := KX3.val 5 _ rfl
  have x3_6 := KX3.val 6 _ rfl
  have x3_7 := KX3.val 7 _ rfl
  have x3_8 := KX3.val 8 _ rfl
  have x3_9 := KX3.val 9 _ rfl
  have x3_10 := KX3.val 10 _ rfl
  clear KE3 KX3
  have H3 : Hid (RAt w0 O w3 xb R) := HH.out.below B3.out
  obtain ⟨la, lc, lg, lx, lC⟩ := H3.out.ex
  have LC : Hid (CelO (fun k => O k ∧ k ≠ xb) w3 18 (.slice la R.length lc) R.length (rowC rcC R) lg) := lC
  have lxa : ∀ o, (w3.alloc o).cell? ⟨xb, 0, none⟩ = some (.slice la R.length lc) := fun o => bel_cell (bel_al _ _) lx
  have HSRC : Hid (Src Try.prog 18 27 (.slice (some ⟨w3.heap.size, 0, none⟩) 1 1) 1 (rcC ⟨⟨k0, p, t0, c, k, n, ls⟩, a, m, q, ⟨err, ⟨b1, b2, b3⟩, names, path, dir, quota, blocks, writer, nn⟩, ⟨x1, y1, x2, y2⟩⟩) (w3.alloc (.cells #[.int .i64 k0, .string p, .string t0, .int .i64 c, .int .i64 k, .int .i64 n, .slice a m q, .int .i64 err, .int .i64 b1, .int .i64 b2, .int .i64 b3, .slice x1 n1 y1, .string path, .bool dir, .int .i64 quota, .slice x2 n2 y2, .int .i64 writer, .int .i64 nn] 69)).drew) := by
    refine Src.ofSlice _ Try.underlying27 ⟨w3.heap.size, 0, none⟩ 1 1 _ (by rfl) (fun j u hu => ?_) (fun u hu => wideR.one _ u hu)
    rw [Addr.add_lit, Nat.zero_add]
    have := (Cells.new w3 69 [.int .i64 k0, .string p, .string t0, .int .i64 c, .int .i64 k, .int .i64 n, .slice a m q, .int .i64 err, .int .i64 b1, .int .i64 b2, .int .i64 b3, .slice x1 n1 y1, .string path, .bool dir, .int .i64 quota, .slice x2 n2 y2, .int .i64 writer, .int .i64 nn]).val j u (by
      unfold rcC at hu
      simp only [HN1.out, HN2.out] at hu
      exact hu)
    exact this
  obtain ⟨N, hN⟩ : ∃ N, R.length = N := ⟨_, rfl⟩
  rw [hN] at lx lxa LC hmost
  have HN : Hid (R.length = N) := hN
  have hW : Hid (∀ o, Below w3.heap.size w3 (w3.alloc o).drew) := fun o => bel_tr (bel_al _ _) (bel_drew _)
  have HAPP : Hid (∀ W' w5 a5 c5 g5, Below w3.heap.size w3 W' → CelO (Grow (fun k => O k ∧ k ≠ xb) W' w5) w5 18 (.slice a5 (N + 1) c5) (N + 1) (rowC rcC R ++ rcC ⟨⟨k0, p, t0, c, k, n, ls⟩, a, m, q, ⟨err, ⟨b1, b2, b3⟩, names, path, dir, quota, blocks, writer, nn⟩, ⟨x1, y1, x2, y2⟩⟩) g5 → Stay (fun k => lg = some k) W' w5 → RAt w0 (Grow O w3 (w5.setCell ⟨xb, 0, none⟩ (.slice a5 (N + 1) c5))) (w5.setCell ⟨xb, 0, none⟩ (.slice a5 (N + 1) c5)) xb (R ++ [⟨⟨k0, p, t0, c, k, n, ls⟩, a, m, q, ⟨err, ⟨b1, b2, b3⟩, names, path, dir, quota, blocks, writer, nn⟩, ⟨x1, y1, x2, y2⟩⟩]) ∧ Stay O w3 (w5.setCell ⟨xb, 0, none⟩ (.slice a5 (N + 1) c5)) ∧ w5.cell? ⟨xb, 0, none⟩ = some (.slice la N lc) ∧ w5.frozen? ⟨xb, 0, none⟩ = false) := fun W' w5 a5 c5 g5 hb hC5 hS5 => by
    rw [← HN.out] at hC5 ⊢
    have := H3.out.app (by rw [HN.out]; exact hmost) lC hb hC5 hS5 HE.out
    refine ⟨this.1, this.2.1, this.2.2.1.trans ?_, this.2.2.2⟩
    rw [HN.out]
    exact lx
  clear hN lC hle
  have hst2 : ∀ (w : World) (a : Addr) (x : Option Addr) (n c : Nat) (m : Mode), (store a (.slice x n c) m).run Try.prog w = stored Try.prog w a (.slice x n c) m := fun w a x n c m => run_store Try.prog w a _ m rfl
  go_wp2_with (go_at_call 19; refine (HA.out _ B3.out).mono ?_; rintro y w4 ⟨rfl, h4⟩; obtain rfl : w3 = w4 := h4.symm)
  go_region_law (refine step_append_celO rfl (.tmp 73) (.tmp 77) 27 27 rfl 69 ti _ 18 216 Try.underlying27 hi1 hi2 hi3 hi4 rfl (O := fun k => O k ∧ k ≠ xb) _ N _ lg (by simp [Act.eval]) (LC.out.below (hW.out _)) _ 1 (rcC ⟨⟨k0, p, t0, c, k, n, ls⟩, a, m, q, ⟨err, ⟨b1, b2, b3⟩, names, path, dir, quota, blocks, writer, nn⟩, ⟨x1, y1, x2, y2⟩⟩) (by simp [Act.eval]) HSRC.out (by unfold maxLen; omega) (by omega) ?_; intro a5 c5 w5 g5 hC5 hS5 hg5; obtain ⟨r1, r2, c05, f05⟩ := HAPP.out _ w5 a5 c5 g5 (hW.out _) hC5 hS5; have R1 : Hid _ := r1; have R2 : Hid (Stay O w3 (w5.setCell ⟨xb, 0, none⟩ (.slice a5 (N + 1) c5))) := r2; clear hC5 hS5 hg5 r1 r2)
  all_goals
    have hfr : (w5.setCell ⟨xb, 0, none⟩ (.slice a5 (N + 1) c5)).frozen? ⟨xb, 0, none⟩ = false := by rw [World.frozen?_setCell]; exact f05
    have hcl : (w5.setCell ⟨xb, 0, none⟩ (.slice a5 (N + 1) c5)).cell? ⟨xb, 0, none⟩ = some (.slice a5 (N + 1) c5) := World.cell?_setCell_same _ _ _ c05
    generalize hWf : w5.setCell ⟨xb, 0, none⟩ (.slice a5 (N + 1) c5) = Wf at *
    clear hWf c05 f05 lx lxa HSRC HAPP LC hW e3_0 e3_1 e3_2 e3_3 e3_4 e3_5 e3_6 x3_0 x3_1 x3_2 x3_3 x3_4 x3_5 x3_6 x3_7 x3_8 x3_9 x3_10
    by_cases h20 : N < 20
    · have hgt : decide ((20 : Int) < (N : Int) + 1) = false := decide_eq_false (by omega)
      go_wp2
      go_ret
      refine ⟨rfl, ⟨⟨R ++ [⟨⟨k0, p, t0, c, k, n, ls⟩, a, m, q, ⟨err, ⟨b1, b2, b3⟩, names, path, dir, quota, blocks, writer, nn⟩, ⟨x1, y1, x2, y2⟩⟩], ?_, ?_⟩, ?_⟩⟩
      · rw [if_neg (by simp [HN.out]; omega)]
      · exact R1.out.wide (fun k hk => hk.elim (fun e => .inl e) (fun e => .inr ⟨Nat.le_trans B3.out.size e.1, e.2⟩)) (fun k hk => hk.elim (fun e => R1.out.lt k (.inl e)) (fun e => e.2))
      · exact (Stay.of_below B3.out).then_same R2.out
    · have hN20 : Hid (N = 20) := by show N = 20; omega
      have hlen : (R ++ [(⟨⟨k0, p, t0, c, k, n, ls⟩, a, m, q, ⟨err, ⟨b1, b2, b3⟩, names, path, dir, quota, blocks, writer, nn⟩, ⟨x1, y1, x2, y2⟩⟩ : Rc)]).length = N + 1 := by simp [HN.out]
      obtain ⟨g, off, cc, h1, h2, h3, _⟩ := R1.out.at (by rw [hlen]; omega)
      rw [hlen] at h1 h2
      rw [hcl] at h1
      simp only [Option.some.injEq, Value.slice.injEq] at h1
      obtain ⟨rfl, _, rfl⟩ := h1
      obtain ⟨r0, RR, hRR⟩ : ∃ r0 RR, R ++ [(⟨⟨k0, p, t0, c, k, n, ls⟩, a, m, q, ⟨err, ⟨b1, b2, b3⟩, names, path, dir, quota, blocks, writer, nn⟩, ⟨x1, y1, x2, y2⟩⟩ : Rc)] = r0 :: RR := by
        cases hq : R ++ [(⟨⟨k0, p, t0, c, k, n, ls⟩, a, m, q, ⟨err, ⟨b1, b2, b3⟩, names, path, dir, quota, blocks, writer, nn⟩, ⟨x1, y1, x2, y2⟩⟩ : Rc)] with
        | nil => rw [hq] at hlen; simp at hlen
        | cons r0 RR => exact ⟨r0, RR, rfl⟩
      have hRl : RR.length = N := by rw [hRR] at hlen; simpa using hlen
      have hT := R1.out
      rw [hRR] at hT
      have hT2 := hT.tl (g := g) (off := off) (c := c5) (by rw [hRl]; exact hcl)
      rw [hRl] at hT2
      have HRR : Hid (R ++ [(⟨⟨k0, p, t0, c, k, n, ls⟩, a, m, q, ⟨err, ⟨b1, b2, b3⟩, names, path, dir, quota, blocks, writer, nn⟩, ⟨x1, y1, x2, y2⟩⟩ : Rc)] = r0 :: RR) := hRR
      have T2 : Hid _ := hT2
      have hc1 : ¬ c5 = 1 := by omega
      have hgt : decide ((20 : Int) < (N : Int) + 1) = true := decide_eq_true (by have := hN20.out; omega)
      have hlen2 : Hid ((R ++ [(⟨⟨k0, p, t0, c, k, n, ls⟩, a, m, q, ⟨err, ⟨b1, b2, b3⟩, names, path, dir, quota, blocks, writer, nn⟩, ⟨x1, y1, x2, y2⟩⟩ : Rc)]).length = N + 1) := hlen
      clear hT hT2 hRR hRl hlen
      unfold maxLen at h3
      go_wp2
      go_ret
      refine ⟨rfl, ⟨⟨RR, ?_, ?_⟩, ?_⟩⟩
      · rw [if_pos (by rw [List.length_map, hlen2.out]; have := hN20.out; omega), HRR.out, List.map_cons, List.tail_cons]
      · refine T2.out.1.wide (fun k hk => ?_) (fun k hk => hk.elim (fun e => T2.out.1.lt k (.inl (.inl e))) (fun e => e.2))
        rcases hk with (hk | hk) | hk
        · exact .inl hk
        · exact .inr ⟨Nat.le_trans B3.out.size hk.1, by simpa [World.setCell] using hk.2⟩
        · exact .inr ⟨Nat.le_trans (Nat.le_trans B3.out.size R2.out.size) hk.1, hk.2⟩
      · exact (Stay.of_below B3.out).then_same (R2.out.andThen T2.out.2)

end Go.Proofs.Ythogpaojdlfjcaa.Rty
