/- The contract of tabulariumref13.Forget. -/
import Derived.Test.YthogpaojdlfjcaaRetryR6
import Derived.Deep.Cut
namespace Go.Proofs.Ythogpaojdlfjcaa.Rty
open Go.RowKit Go.Proofs.Ythogpaojdlfjcaa Go.Proofs.Ythogpaojdlfjcaa.Edi
set_option linter.unusedVariables false

/-- What stays. -/
def keepR (R : List Rc) (cl bl : Int) : List Rc := R.filter fun r => !decide (r.ed.c = cl ∧ r.ed.l < bl)
theorem keepR_abs (R : List Rc) (cl bl : Int) : (keepR R cl bl).map absR = forA (R.map absR) cl bl := by
  unfold keepR forA
  rw [List.filter_map]
  rfl
theorem keepR_no {R : List Rc} {cl bl : Int} {i : Nat} (hi : i < R.length) (h : R[i].ed.c = cl ∧ R[i].ed.l < bl) : keepR (R.take (i + 1)) cl bl = keepR (R.take i) cl bl := by
  unfold keepR
  rw [List.take_succ_eq_append_getElem hi, List.filter_append, List.filter_cons_of_neg (by simp [h]), List.filter_nil, List.append_nil]
theorem keepR_yes {R : List Rc} {cl bl : Int} {i : Nat} (hi : i < R.length) (h : ¬ (R[i].ed.c = cl ∧ R[i].ed.l < bl)) : keepR (R.take (i + 1)) cl bl = keepR (R.take i) cl bl ++ [R[i]] := by
  unfold keepR
  rw [List.take_succ_eq_append_getElem hi, List.filter_append, List.filter_cons_of_pos (by simp only [decide_eq_false h, Bool.not_false]), List.filter_nil]
theorem keepR_le (R : List Rc) (cl bl : Int) : (keepR R cl bl).length ≤ R.length := List.length_filter_le _ _

set_option maxRecDepth 100000 in
set_option maxHeartbeats 16000000 in
theorem refForget_val {w0 : World} {O : Nat → Prop} {w : World} {xb : Nat} {R : List Rc} (h : RAt w0 O w xb R) (cl bl : Int) :
    Calls Try.prog 13 #[.pointer (some ⟨xb, 0, none⟩), .int .i64 cl, .int .i64 bl] w fun y w' => y = .returned (.tuple #[]) ∧ RAt w0 (Grow O w w') w' xb (keepR R cl bl) ∧ Stay O w w' := by
  obtain ⟨ti, hi1, hi2, hi3, hi4⟩ := info_c
  obtain ⟨a0, c0, hx⟩ := h.any
  have HH : Hid (RAt w0 O w xb R) := h
  obtain ⟨n, hn⟩ : ∃ n, R.length = n := ⟨_, rfl⟩
  have hn21 : n ≤ 21 := by rw [← hn]; exact h.most
  rw [hn] at hx
  have HN : Hid (R.length = n) := hn
  clear h hn
  go_enter Try.func13, Try.ntmps13
  go_wp2
  have hst2 : ∀ (w : World) (a : Addr) (x : Option Addr) (n c : Nat) (m : Mode), (store a (.slice x n c) m).run Try.prog w = stored Try.prog w a (.slice x n c) m := fun w a x n c m => run_store Try.prog w a _ m rfl
  have hst2 : ∀ (w : World) (a : Addr) (x : Option Addr) (n c : Nat) (m : Mode), (store a (.slice x n c) m).run Try.prog w = stored Try.prog w a (.slice x n c) m := fun w a x n c m => run_store Try.prog w a _ m rfl
  have hst2 : ∀ (w : World) (a : Addr) (x : Option Addr) (n c : Nat) (m : Mode), (store a (.slice x n c) m).run Try.prog w = stored Try.prog w a (.slice x n c) m := fun w a x n c m => run_store Try.prog w a _ m rfl
  go_loopw [6, 7] (fun v u wr => ∃ (i : Nat) (m' : Nat) (a' : Option Addr) (c' : Nat) (g' : Option Nat), i ≤ n ∧ u = .int .i64 i ∧ v = .slice a' m' c' ∧ Hid ((keepR (R.take i) cl bl).length = m' ∧ Cel (fun k => w.heap.size ≤ k) wr 18 (.slice a' m' c') m' (rowC rcC (keepR (R.take i) cl bl)) g' ∧ Below w.heap.size w wr)) (fun _ u _ => n - (intOf u).toNat)
  case atStart => exact ⟨0, 0, none, 0, none, by omega, rfl, rfl, by rw [List.take_zero]; exact ⟨rfl, .nil rfl rfl rfl, Below.refl _ _⟩⟩
  case round =>
    obtain ⟨i, m', a', c', g', hi, rfl, rfl, hI⟩ := hrel
    have HI : Hid ((keepR (R.take i) cl bl).length = m' ∧ Cel (fun k => w.heap.size ≤ k) wr 18 (.slice a' m' c') m' (rowC rcC (keepR (R.take i) cl bl)) g' ∧ Below w.heap.size w wr) := hI
    clear hI
    have hm' : m' ≤ 21 := by
      have h1 := HI.out.1
      have h2 := keepR_le (R.take i) cl bl
      have h3 : (R.take i).length ≤ R.length := List.length_take_le' _ _
      have h4 := HN.out
      omega
    by_cases hlt : i < n
    · have hiR : i < R.length := by rw [HN.out]; exact hlt
      obtain ⟨g, off, cc, h1, h2, h3, h4⟩ := HH.out.at (by omega)
      rw [HN.out] at h1 h2
      have hxw := bel_cell HI.out.2.2 h1
      have H4 : Hid (∀ j u, (rcC R[i])[j]? = some u → wr.cell? ⟨g, off + i * 18 + j, none⟩ = some u) := fun j u hu => bel_cell HI.out.2.2 (h4 i hiR j u hu)
      have KN : Hid (R[i].ed.c = cl ∧ R[i].ed.l < bl → keepR (R.take (i + 1)) cl bl = keepR (R.take i) cl bl) := fun h => keepR_no hiR h
      have KY0 : Hid (¬ (R[i].ed.c = cl ∧ R[i].ed.l < bl) → keepR (R.take (i + 1)) cl bl = keepR (R.take i) cl bl ++ [R[i]]) := fun h => keepR_yes hiR h
      clear h1 h4 hx
      unfold maxLen at h3
      generalize R[i] = r at *
      clear hiR
      obtain ⟨⟨rk, rp, rt, rc, rl, rn, rls⟩, ra, rm, rq, ⟨err, ⟨b1, b2, b3⟩, names, path, dir, quota, blocks, writer, nn⟩, ⟨x1, y1, x2, y2⟩⟩ := r
      unfold rcC at H4
      simp only at KN KY0
      obtain ⟨n1, hn1⟩ : ∃ N, names.length = N := ⟨_, rfl⟩
      obtain ⟨n2, hn2⟩ : ∃ N, blocks.length = N := ⟨_, rfl⟩
      have HRC : Hid (rcC (⟨⟨rk, rp, rt, rc, rl, rn, rls⟩, ra, rm, rq, ⟨err, ⟨b1, b2, b3⟩, names, path, dir, quota, blocks, writer, nn⟩, ⟨x1, y1, x2, y2⟩⟩ : Rc) = [.int .i64 rk, .string rp, .string rt, .int .i64 rc, .int .i64 rl, .int .i64 rn, .slice ra rm rq, .int .i64 err, .int .i64 b1, .int .i64 b2, .int .i64 b3, .slice x1 n1 y1, .string path, .bool dir, .int .i64 quota, .slice x2 n2 y2, .int .i64 writer, .int .i64 nn]) := by show _ = _; unfold rcC; simp only [hn1, hn2]
      simp only [hn1, hn2] at H4
      clear hn1 hn2
      have q0 := H4.out 0 _ rfl
      have q1 := H4.out 1 _ rfl
      have q2 := H4.out 2 _ rfl
      have q3 := H4.out 3 _ rfl
      have q4 := H4.out 4 _ rfl
      have q5 := H4.out 5 _ rfl
      have q6 := H4.out 6 _ rfl
      have q7 := H4.out 7 _ rfl
      have q8 := H4.out 8 _ rfl
      have q9 := H4.out 9 _ rfl
      have q10 := H4.out 10 _ rfl
      have q11 := H4.out 11 _ rfl
      have q12 := H4.out 12 _ rfl
      have q13 := H4.out 13 _ rfl
      have q14 := H4.out 14 _ rfl
      have q15 := H4.out 15 _ rfl
      have q16 := H4.out 16 _ rfl
      have q17 := H4.out 17 _ rfl
      clear H4
      rw [Nat.add_zero] at q0
      by_cases hg : rc = cl ∧ rl < bl
      · have HK := KN.out hg
        have HK2 : Hid (keepR (R.take (i + 1)) cl bl = keepR (R.take i) cl bl) := HK
        obtain ⟨rfl, hl2⟩ := hg
        clear HK KN KY0 HRC
        go_wp2
        go_roundw
        case rel => exact ⟨i + 1, m', a', c', g', by omega, by go_num, rfl, by rw [HK2.out]; exact HI.out⟩
        case measure => simp [intOf]; omega
      · have KY : Hid (keepR (R.take (i + 1)) cl bl = keepR (R.take i) cl bl ++ [(⟨⟨rk, rp, rt, rc, rl, rn, rls⟩, ra, rm, rq, ⟨err, ⟨b1, b2, b3⟩, names, path, dir, quota, blocks, writer, nn⟩, ⟨x1, y1, x2, y2⟩⟩ : Rc)]) := KY0.out hg
        have CW : Hid (Cel (fun k => w.heap.size ≤ k) (wr.alloc (.cells #[.int .i64 rk, .string rp, .string rt, .int .i64 rc, .int .i64 rl, .int .i64 rn, .slice ra rm rq, .int .i64 err, .int .i64 b1, .int .i64 b2, .int .i64 b3, .slice x1 n1 y1, .string path, .bool dir, .int .i64 quota, .slice x2 n2 y2, .int .i64 writer, .int .i64 nn] 69)) 18 (.slice a' m' c') m' (rowC rcC (keepR (R.take i) cl bl)) g') := HI.out.2.1.below (bel_al _ _)
        have SW : Hid (Src Try.prog 18 27 (.slice (some ⟨wr.heap.size, 0, none⟩) 1 1) 1 [.int .i64 rk, .string rp, .string rt, .int .i64 rc, .int .i64 rl, .int .i64 rn, .slice ra rm rq, .int .i64 err, .int .i64 b1, .int .i64 b2, .int .i64 b3, .slice x1 n1 y1, .string path, .bool dir, .int .i64 quota, .slice x2 n2 y2, .int .i64 writer, .int .i64 nn] (wr.alloc (.cells #[.int .i64 rk, .string rp, .string rt, .int .i64 rc, .int .i64 rl, .int .i64 rn, .slice ra rm rq, .int .i64 err, .int .i64 b1, .int .i64 b2, .int .i64 b3, .slice x1 n1 y1, .string path, .bool dir, .int .i64 quota, .slice x2 n2 y2, .int .i64 writer, .int .i64 nn] 69))) := by
          refine Src.ofSlice _ Try.underlying27 ⟨wr.heap.size, 0, none⟩ 1 1 _ (by rfl) (fun j u hu => ?_) (fun u hu => wideR.one (⟨⟨rk, rp, rt, rc, rl, rn, rls⟩, ra, rm, rq, ⟨err, ⟨b1, b2, b3⟩, names, path, dir, quota, blocks, writer, nn⟩, ⟨x1, y1, x2, y2⟩⟩ : Rc) u (by rw [HRC.out]; exact hu))
          rw [Addr.add_lit, Nat.zero_add]
          exact (Cells.new wr 69 [.int .i64 rk, .string rp, .string rt, .int .i64 rc, .int .i64 rl, .int .i64 rn, .slice ra rm rq, .int .i64 err, .int .i64 b1, .int .i64 b2, .int .i64 b3, .slice x1 n1 y1, .string path, .bool dir, .int .i64 quota, .slice x2 n2 y2, .int .i64 writer, .int .i64 nn]).val j u hu
        have HNX : Hid (∀ a7 c7 w7 g7, Cel (Grow (fun k => w.heap.size ≤ k) (wr.alloc (.cells #[.int .i64 rk, .string rp, .string rt, .int .i64 rc, .int .i64 rl, .int .i64 rn, .slice ra rm rq, .int .i64 err, .int .i64 b1, .int .i64 b2, .int .i64 b3, .slice x1 n1 y1, .string path, .bool dir, .int .i64 quota, .slice x2 n2 y2, .int .i64 writer, .int .i64 nn] 69)) w7) w7 18 (.slice a7 (m' + 1) c7) (m' + 1) (rowC rcC (keepR (R.take i) cl bl) ++ [.int .i64 rk, .string rp, .string rt, .int .i64 rc, .int .i64 rl, .int .i64 rn, .slice ra rm rq, .int .i64 err, .int .i64 b1, .int .i64 b2, .int .i64 b3, .slice x1 n1 y1, .string path, .bool dir, .int .i64 quota, .slice x2 n2 y2, .int .i64 writer, .int .i64 nn]) g7 → Stay (fun k => g' = some k) (wr.alloc (.cells #[.int .i64 rk, .string rp, .string rt, .int .i64 rc, .int .i64 rl, .int .i64 rn, .slice ra rm rq, .int .i64 err, .int .i64 b1, .int .i64 b2, .int .i64 b3, .slice x1 n1 y1, .string path, .bool dir, .int .i64 quota, .slice x2 n2 y2, .int .i64 writer, .int .i64 nn] 69)) w7 → ((keepR (R.take i) cl bl ++ [(⟨⟨rk, rp, rt, rc, rl, rn, rls⟩, ra, rm, rq, ⟨err, ⟨b1, b2, b3⟩, names, path, dir, quota, blocks, writer, nn⟩, ⟨x1, y1, x2, y2⟩⟩ : Rc)]).length = m' + 1 ∧ Cel (fun k => w.heap.size ≤ k) w7 18 (.slice a7 (m' + 1) c7) (m' + 1) (rowC rcC (keepR (R.take i) cl bl ++ [(⟨⟨rk, rp, rt, rc, rl, rn, rls⟩, ra, rm, rq, ⟨err, ⟨b1, b2, b3⟩, names, path, dir, quota, blocks, writer, nn⟩, ⟨x1, y1, x2, y2⟩⟩ : Rc)])) g7 ∧ Below w.heap.size w w7)) := fun a7 c7 w7 g7 hC7 hS7 => by
          have hb : Below w.heap.size w (wr.alloc (.cells #[.int .i64 rk, .string rp, .string rt, .int .i64 rc, .int .i64 rl, .int .i64 rn, .slice ra rm rq, .int .i64 err, .int .i64 b1, .int .i64 b2, .int .i64 b3, .slice x1 n1 y1, .string path, .bool dir, .int .i64 quota, .slice x2 n2 y2, .int .i64 writer, .int .i64 nn] 69)) := bel_tr HI.out.2.2 (bel_al _ _)
          refine ⟨by rw [List.length_append, HI.out.1]; rfl, ?_, hb.trans (hS7.below hb.size (fun k hk => by have h9 := HI.out.2.1; rw [hk] at h9; exact h9.lt.2))⟩
          rw [rowC_app, rowC_one, HRC.out]
          exact hC7.stay (Nat.le_refl _) (fun _ _ => rfl) (fun k hk => hk.elim id (fun e => Nat.le_trans hb.size e.1))
        clear KN KY0 HRC
        by_cases e2 : rc = cl
        · have e3 : ¬ rl < bl := fun h => hg ⟨e2, h⟩
          subst e2
          clear hg
          go_wp2_with (at_builtin; refine wpList_append_cel _ rfl _ _ 27 27 rfl 69 ti _ 18 216 Try.underlying27 hi1 hi2 hi3 hi4 rfl (O := fun k => w.heap.size ≤ k) (.slice a' m' c') m' _ g' rfl CW.out _ 1 [.int .i64 rk, .string rp, .string rt, .int .i64 rc, .int .i64 rl, .int .i64 rn, .slice ra rm rq, .int .i64 err, .int .i64 b1, .int .i64 b2, .int .i64 b3, .slice x1 n1 y1, .string path, .bool dir, .int .i64 quota, .slice x2 n2 y2, .int .i64 writer, .int .i64 nn] rfl SW.out (by unfold maxLen; omega) (by omega) ?_; intro a7 c7 w7 g7 hC7 hS7 hg7; have N7 : Hid _ := HNX.out a7 c7 w7 g7 hC7 hS7; clear hC7 hS7 hg7)
          go_roundw
          case rel => exact ⟨i + 1, m' + 1, a7, c7, g7, by omega, by go_num, rfl, by rw [KY.out]; exact N7.out⟩
          case measure => simp [intOf]; omega
        · clear hg
          go_wp2_with (at_builtin; refine wpList_append_cel _ rfl _ _ 27 27 rfl 69 ti _ 18 216 Try.underlying27 hi1 hi2 hi3 hi4 rfl (O := fun k => w.heap.size ≤ k) (.slice a' m' c') m' _ g' rfl CW.out _ 1 [.int .i64 rk, .string rp, .string rt, .int .i64 rc, .int .i64 rl, .int .i64 rn, .slice ra rm rq, .int .i64 err, .int .i64 b1, .int .i64 b2, .int .i64 b3, .slice x1 n1 y1, .string path, .bool dir, .int .i64 quota, .slice x2 n2 y2, .int .i64 writer, .int .i64 nn] rfl SW.out (by unfold maxLen; omega) (by omega) ?_; intro a7 c7 w7 g7 hC7 hS7 hg7; have N7 : Hid _ := HNX.out a7 c7 w7 g7 hC7 hS7; clear hC7 hS7 hg7)
          go_roundw
          case rel => exact ⟨i + 1, m' + 1, a7, c7, g7, by omega, by go_num, rfl, by rw [KY.out]; exact N7.out⟩
          case measure => simp [intOf]; omega
    · obtain rfl : i = n := by omega
      have hxw := bel_cell HI.out.2.2 hx
      have fx : wr.frozen? ⟨xb, 0, none⟩ = false := (HH.out.below HI.out.2.2).fr
      have HL : Hid (RAt w0 (Grow O w (wr.setCell ⟨xb, 0, none⟩ (.slice a' m' c'))) (wr.setCell ⟨xb, 0, none⟩ (.slice a' m' c')) xb (keepR R cl bl) ∧ Stay O w (wr.setCell ⟨xb, 0, none⟩ (.slice a' m' c'))) := by
        obtain ⟨e1, e2, e3⟩ := HI.out
        rw [List.take_of_length_le (by rw [HN.out]; exact Nat.le_refl _)] at e1 e2
        rw [← e1] at e2 ⊢
        have hxl := HH.out.lt xb HH.out.oX
        exact HH.out.lay (O1 := O) (Stay.of_below e3) ((CelO.of e2).stay (Nat.le_refl _) (fun _ _ => rfl) (fun k hk => ⟨.inr hk, by have h9 : w.heap.size ≤ k := hk; omega⟩)) (Nat.le_trans (keepR_le _ _ _) HH.out.most) (fun r hr => HH.out.each r ((List.mem_filter.1 hr).1))
      clear hx
      go_wp2
      refine bodyPost_end (results_none rfl _ _ _) rfl ?_
      exact ⟨rfl, HL.out.1, HL.out.2⟩

end Go.Proofs.Ythogpaojdlfjcaa.Rty
