/- RetryPlays: a cache does, deed by deed, just what the chapter says. -/
import Derived.Test.YthogpaojdlfjcaaRetryU
import Derived.Test.YthogpaojdlfjcaaRetryDeed
import Derived.Test.YthogpaojdlfjcaaRetryL1
import Derived.Test.YthogpaojdlfjcaaRetryL2
import Derived.Test.YthogpaojdlfjcaaOpenAll
import Derived.BigQuiet
import Derived.Deep.Cut
import Derived.Deep.WholeRow
namespace Go.Proofs.Ythogpaojdlfjcaa.retryPlays
open Go.ChangeShapes Go.WideShapes Go.ChangeAt Go.RowKit Go.Proofs.Ythogpaojdlfjcaa Go.Proofs.Ythogpaojdlfjcaa.Edi Go.Proofs.Ythogpaojdlfjcaa.Rty
set_option linter.unusedVariables false
theorem own : ownKnob Try.prog.godebug = none := by kernel_rfl

/-- What the loop keeps. -/
def Inv (w wr : World) (cb xb k : Nat) : Prop := ∃ A : CL, Sep w [] wr (Cac cb A k) (Rfc w xb A)
theorem more {w wr : World} {L : List (Nat × List Value)} {cb k : Nat} {A : CL} {B : Thing} (h : Sep w L wr (Cac cb A k) B) : Sep w L wr (Cac cb A (k + 1)) B := by
  obtain ⟨O1, O2, ⟨t, h1, h2⟩, h3⟩ := h.out
  exact ⟨O1, O2, ⟨t, by omega, h2⟩, h3⟩

set_option maxRecDepth 100000 in
set_option maxHeartbeats 16000000 in
theorem core (a0 : Option Addr) (cap0 n0 : Nat) (us : List Dd) (w : World) (hn0 : us.length = n0) (hU : Dds w a0 us) (hZ : ∀ u ∈ us, u.x.names.length * 16 ≤ reachBytes ∧ u.x.blocks.length * 24 ≤ reachBytes) :
    Calls Try.prog 3 #[.slice a0 n0 cap0] w fun e w' => e = .returned (.bool true) ∧ Below w.heap.size w w' := by
  have hx0 : n0 ≤ 9223372036854775807 := by have := hU.lie.lid; rw [hn0] at this; unfold maxLen at this; omega
  have HN : Hid (us.length = n0) := hn0
  have HU : Hid (Dds w a0 us) := hU
  have HZ : Hid (∀ u ∈ us, AnIn (fun b => b < w.heap.size) w u.x u.s) := fun u hu => (hU.each u hu).an.into (hZ u hu)
  clear hn0 hU hZ
  go_enter Try.func3, Try.ntmps3
  go_wp2_with fail
  refine (examples13_val w).mono ?_
  rintro e w1 ⟨rfl, b1⟩
  have B1 : Hid (Below w.heap.size w w1) := b1
  clear b1
  go_wp2_with fail
  refine (s_new (w0 := w) B1.out).mono ?_
  rintro e w2 ⟨rfl, h2⟩
  obtain ⟨cb, hcb⟩ : ∃ cb, w1.heap.size + 1 = cb := ⟨_, rfl⟩
  rw [hcb] at h2 ⊢
  have H2 : Hid (Inv w (w2.alloc (.cells #[.slice none 0 0] 29)) cb w2.heap.size 0) := ⟨[], rf_new h2 (stCac _ _ _) _⟩
  clear h2 hcb B1
  go_wp2
  generalize w2.alloc (.cells #[.slice none 0 0] 29) = w3 at *
  generalize w2.heap.size = xb at *
  go_loopw [6] (fun v wr => ∃ k : Nat, k ≤ n0 ∧ k ≤ 80 ∧ v = .int .i64 k ∧ Inv w wr cb xb k) (fun v _ => 80 - (intOf v).toNat)
  case atStart => exact ⟨0, by omega, by omega, rfl, H2.out⟩
  case round =>
    obtain ⟨j, hk1, hk2, rfl, hI⟩ := hrel
    obtain ⟨A, hS⟩ := hI
    have HS : Hid (Sep w [] wr (Cac cb A j) (Rfc w xb A)) := hS
    clear hS H2
    by_cases hlt : j < n0 ∧ j < 80
    · obtain ⟨hlt0, hlt1⟩ := hlt
      have hj0 : j < us.length := by rw [HN.out]; exact hlt0
      obtain ⟨ub, uo, rfl, hC⟩ := HU.out.lie.at wideD hj0
      have hQ0 := HU.out.each us[j] (List.getElem_mem hj0)
      have hA0 := HZ.out us[j] (List.getElem_mem hj0)
      have hC2 : ∀ (i : Nat) (u : Value), (ddC us[j])[i]? = some u → wr.cell? ⟨ub, uo + j * 21 + i, none⟩ = some u := fun i u hu => by
        have := bel_cell HS.out.bel (hC i u hu)
        rw [← Nat.add_assoc] at this
        exact this
      generalize us[j] = u at *
      obtain ⟨kd, cl, ca, ⟨k0, p, t, c, l, n, ls⟩, a, m, q, ⟨err, ⟨b1, b2, b3⟩, names, path, dir, quota, blocks, writer, nn⟩, ⟨x1, y1, x2, y2⟩⟩ := u
      obtain ⟨n1, hn1⟩ : ∃ N, names.length = N := ⟨_, rfl⟩
      obtain ⟨n2, hn2⟩ : ∃ N, blocks.length = N := ⟨_, rfl⟩
      unfold ddC at hC2
      simp only [hn1, hn2] at hC2
      have HQ0 : Hid (DdQ w ⟨kd, cl, ca, ⟨k0, p, t, c, l, n, ls⟩, a, m, q, ⟨err, ⟨b1, b2, b3⟩, names, path, dir, quota, blocks, writer, nn⟩, ⟨x1, y1, x2, y2⟩⟩) := hQ0
      have HA0 : Hid (AnIn (fun b => b < w.heap.size) w ⟨err, ⟨b1, b2, b3⟩, names, path, dir, quota, blocks, writer, nn⟩ ⟨x1, y1, x2, y2⟩) := hA0
      have HN1 : Hid (names.length = n1) := hn1
      have HN2 : Hid (blocks.length = n2) := hn2
      have hAP := HS.out.apart
      have HAP : Hid (Rty.Apart A ∧ A.length ≤ 20) := ⟨hAP.1, hAP.2.1⟩
      clear hQ0 hA0 hn1 hn2 hC hj0 hAP
      have HLD : Hid ((Instr.loadAt 43 (.pointer (some ⟨ub, uo + j * 21, none⟩))).run Try.prog wr = .ok (.agg #[.int .i64 kd, .int .i64 cl, .int .i64 ca, .int .i64 k0, .string p, .string t, .int .i64 c, .int .i64 l, .int .i64 n, .slice a m q, .int .i64 err, .int .i64 b1, .int .i64 b2, .int .i64 b3, .slice x1 n1 y1, .string path, .bool dir, .int .i64 quota, .slice x2 n2 y2, .int .i64 writer, .int .i64 nn]) wr) := by
        have h9 := run_loadCells_list (P := Try.prog) wr ⟨ub, uo + j * 21, none⟩ [.int .i64 kd, .int .i64 cl, .int .i64 ca, .int .i64 k0, .string p, .string t, .int .i64 c, .int .i64 l, .int .i64 n, .slice a m q, .int .i64 err, .int .i64 b1, .int .i64 b2, .int .i64 b3, .slice x1 n1 y1, .string path, .bool dir, .int .i64 quota, .slice x2 n2 y2, .int .i64 writer, .int .i64 nn] (fun i u hu => by rw [Addr.add_lit]; exact hC2 i u hu)
        have h10 : (loadCells ⟨ub, uo + j * 21, none⟩ 21).run Try.prog wr = .ok #[.int .i64 kd, .int .i64 cl, .int .i64 ca, .int .i64 k0, .string p, .string t, .int .i64 c, .int .i64 l, .int .i64 n, .slice a m q, .int .i64 err, .int .i64 b1, .int .i64 b2, .int .i64 b3, .slice x1 n1 y1, .string path, .bool dir, .int .i64 quota, .slice x2 n2 y2, .int .i64 writer, .int .i64 nn] wr := h9
        show (Instr.loadAt 43 (.pointer (some ⟨ub, uo + j * 21, none⟩))).run Try.prog wr = _
        simp only [Instr.loadAt, Instr.sureAddr, Sem.run_bind, Sem.run_pure, Result.andThen, loadVar, Try.isAgg43, Try.sizeOf43, ↓reduceIte]
        rw [h10]
      have HSV : Hid ((Instr.storeAt 43 (.pointer (some ⟨wr.heap.size, 0, none⟩)) (.agg #[.int .i64 kd, .int .i64 cl, .int .i64 ca, .int .i64 k0, .string p, .string t, .int .i64 c, .int .i64 l, .int .i64 n, .slice a m q, .int .i64 err, .int .i64 b1, .int .i64 b2, .int .i64 b3, .slice x1 n1 y1, .string path, .bool dir, .int .i64 quota, .slice x2 n2 y2, .int .i64 writer, .int .i64 nn])).run Try.prog (wr.alloc (.cells #[.int .i64 0, .int .i64 0, .int .i64 0, .int .i64 0, .string ⟨#[]⟩, .string ⟨#[]⟩, .int .i64 0, .int .i64 0, .int .i64 0, .slice none 0 0, .int .i64 0, .int .i64 0, .int .i64 0, .int .i64 0, .slice none 0 0, .string ⟨#[]⟩, .bool false, .int .i64 0, .slice none 0 0, .int .i64 0, .int .i64 0] 43)) = .ok () (wr.alloc (.cells #[.int .i64 kd, .int .i64 cl, .int .i64 ca, .int .i64 k0, .string p, .string t, .int .i64 c, .int .i64 l, .int .i64 n, .slice a m q, .int .i64 err, .int .i64 b1, .int .i64 b2, .int .i64 b3, .slice x1 n1 y1, .string path, .bool dir, .int .i64 quota, .slice x2 n2 y2, .int .i64 writer, .int .i64 nn] 43))) := run_storeAt_new wr 43 _ _ (by kernel_rfl) rfl (by first | kernel_rfl | decide | simp [Value.oneCell'])
      have H5 : Hid (Sep w [(wr.heap.size, [.int .i64 kd, .int .i64 cl, .int .i64 ca, .int .i64 k0, .string p, .string t, .int .i64 c, .int .i64 l, .int .i64 n, .slice a m q, .int .i64 err, .int .i64 b1, .int .i64 b2, .int .i64 b3, .slice x1 n1 y1, .string path, .bool dir, .int .i64 quota, .slice x2 n2 y2, .int .i64 writer, .int .i64 nn])] (wr.alloc (.cells #[.int .i64 kd, .int .i64 cl, .int .i64 ca, .int .i64 k0, .string p, .string t, .int .i64 c, .int .i64 l, .int .i64 n, .slice a m q, .int .i64 err, .int .i64 b1, .int .i64 b2, .int .i64 b3, .slice x1 n1 y1, .string path, .bool dir, .int .i64 quota, .slice x2 n2 y2, .int .i64 writer, .int .i64 nn] 43)) (Cac cb A j) (Rfc w xb A)) := HS.out.box (stCac _ _ _) (stRfc _ _ _) [.int .i64 kd, .int .i64 cl, .int .i64 ca, .int .i64 k0, .string p, .string t, .int .i64 c, .int .i64 l, .int .i64 n, .slice a m q, .int .i64 err, .int .i64 b1, .int .i64 b2, .int .i64 b3, .slice x1 n1 y1, .string path, .bool dir, .int .i64 quota, .slice x2 n2 y2, .int .i64 writer, .int .i64 nn] 43
      obtain ⟨Q, hQ⟩ : ∃ Q, keepN kd % 4 = Q := ⟨_, rfl⟩
      have hQ4 : Q < 4 := by rw [← hQ]; exact Nat.mod_lt _ (by omega)
      have HQ : Hid (keepN kd % 4 = Q) := hQ
      clear hQ hC2 HS HU HZ
      go_upto_region 9 with fail
      go_step
      iterate 9 go_step
      refine wpList_load_any rfl _ _ rfl (.agg #[.int .i64 kd, .int .i64 cl, .int .i64 ca, .int .i64 k0, .string p, .string t, .int .i64 c, .int .i64 l, .int .i64 n, .slice a m q, .int .i64 err, .int .i64 b1, .int .i64 b2, .int .i64 b3, .slice x1 n1 y1, .string path, .bool dir, .int .i64 quota, .slice x2 n2 y2, .int .i64 writer, .int .i64 nn]) _ rfl HLD.out ?_
      iterate 3 go_step
      refine wpList_store_any rfl _ _ _ rfl (.agg #[.int .i64 kd, .int .i64 cl, .int .i64 ca, .int .i64 k0, .string p, .string t, .int .i64 c, .int .i64 l, .int .i64 n, .slice a m q, .int .i64 err, .int .i64 b1, .int .i64 b2, .int .i64 b3, .slice x1 n1 y1, .string path, .bool dir, .int .i64 quota, .slice x2 n2 y2, .int .i64 writer, .int .i64 nn]) _ rfl rfl HSV.out ?_
      clear HLD HSV
      generalize wr.alloc (.cells #[.int .i64 kd, .int .i64 cl, .int .i64 ca, .int .i64 k0, .string p, .string t, .int .i64 c, .int .i64 l, .int .i64 n, .slice a m q, .int .i64 err, .int .i64 b1, .int .i64 b2, .int .i64 b3, .slice x1 n1 y1, .string path, .bool dir, .int .i64 quota, .slice x2 n2 y2, .int .i64 writer, .int .i64 nn] 43) = w5 at *
      generalize wr.heap.size = U at *
      have HNM : Hid (∀ W, Below w.heap.size w W → Nm W a m ls) := fun W hb => HQ0.out.nm.below hb
      have Kz := H5.out.cells (b := U) (vs := [.int .i64 kd, .int .i64 cl, .int .i64 ca, .int .i64 k0, .string p, .string t, .int .i64 c, .int .i64 l, .int .i64 n, .slice a m q, .int .i64 err, .int .i64 b1, .int .i64 b2, .int .i64 b3, .slice x1 n1 y1, .string path, .bool dir, .int .i64 quota, .slice x2 n2 y2, .int .i64 writer, .int .i64 nn]) (by simp)
      have z0 := Kz.val 0 _ rfl
      clear Kz
      go_wp2_with fail
      refine (pick_val kd 4 Q _ HQ0.out.k1 (by omega) HQ.out).mono ?_
      rintro e w4 ⟨rfl, rfl⟩
      clear z0
      have hcs : Q = 0 ∨ Q = 1 ∨ Q = 2 ∨ Q = 3 := by omega
      clear hQ4
      rcases hcs with hc | hc | hc | hc
      focus
        subst hc
        clear HQ
        obtain ⟨er, A2, hp⟩ := putE_ex A cl ca ⟨k0, p, t, c, l, n, ls⟩ ⟨err, ⟨b1, b2, b3⟩, names, path, dir, quota, blocks, writer, nn⟩
        have CP : Hid (∀ L W, Sep w L W (Cac cb A j) (Rfc w xb A) → Calls Try.prog 7 #[.pointer (some ⟨cb, 0, none⟩), .int .i64 cl, .int .i64 ca, .agg #[.int .i64 k0, .string p, .string t, .int .i64 c, .int .i64 l, .int .i64 n, .slice a m q], .agg #[.int .i64 err, .int .i64 b1, .int .i64 b2, .int .i64 b3, .slice x1 n1 y1, .string path, .bool dir, .int .i64 quota, .slice x2 n2 y2, .int .i64 writer, .int .i64 nn]] W fun y w' => y = .returned (.int .i64 er) ∧ Sep w L w' (Cac cb A2 (j + 1)) (Rfc w xb A)) := fun L W h => by
          have h9 := s_put (q := q) h (stRfc _ _ _) (by omega) (HNM.out W h.bel) (HA0.out.below h.bel) hp
          unfold edV anV at h9
          simp only [HN1.out, HN2.out] at h9
          exact h9
        have CX : Hid (∀ L W, Sep w L W (Cac cb A2 (j + 1)) (Rfc w xb A) → Calls Try.prog 8 #[.pointer (some ⟨xb, 0, none⟩), .int .i64 cl, .int .i64 ca, .agg #[.int .i64 k0, .string p, .string t, .int .i64 c, .int .i64 l, .int .i64 n, .slice a m q], .agg #[.int .i64 err, .int .i64 b1, .int .i64 b2, .int .i64 b3, .slice x1 n1 y1, .string path, .bool dir, .int .i64 quota, .slice x2 n2 y2, .int .i64 writer, .int .i64 nn]] W fun y w' => y = .returned (.int .i64 er) ∧ Sep w L w' (Cac cb A2 (j + 1)) (Rfc w xb A2)) := fun L W h => by
          have h9 := rf_put (q := q) h (stCac _ _ _) HAP.out.2 HAP.out.1 ⟨HQ0.out.nm, HA0.out⟩ hp
          unfold edV anV at h9
          simp only [HN1.out, HN2.out] at h9
          exact h9
        clear hp HQ0 HA0 HN1 HN2 HAP HNM
        have Kq := H5.out.cells (b := U) (vs := [.int .i64 kd, .int .i64 cl, .int .i64 ca, .int .i64 k0, .string p, .string t, .int .i64 c, .int .i64 l, .int .i64 n, .slice a m q, .int .i64 err, .int .i64 b1, .int .i64 b2, .int .i64 b3, .slice x1 n1 y1, .string path, .bool dir, .int .i64 quota, .slice x2 n2 y2, .int .i64 writer, .int .i64 nn]) (by simp)
        have q1 := Kq.val 1 _ rfl
        have q2 := Kq.val 2 _ rfl
        have q3 := Kq.val 3 _ rfl
        have q4 := Kq.val 4 _ rfl
        have q5 := Kq.val 5 _ rfl
        have q6 := Kq.val 6 _ rfl
        have q7 := Kq.val 7 _ rfl
        have q8 := Kq.val 8 _ rfl
        have q9 := Kq.val 9 _ rfl
        have q10 := Kq.val 10 _ rfl
        have q11 := Kq.val 11 _ rfl
        have q12 := Kq.val 12 _ rfl
        have q13 := Kq.val 13 _ rfl
        have q14 := Kq.val 14 _ rfl
        have q15 := Kq.val 15 _ rfl
        have q16 := Kq.val 16 _ rfl
        have q17 := Kq.val 17 _ rfl
        have q18 := Kq.val 18 _ rfl
        have q19 := Kq.val 19 _ rfl
        have q20 := Kq.val 20 _ rfl
        clear Kq
        go_wp2_with fail
        refine (CP.out _ _ H5.out).mono ?_
        rintro y w6 ⟨rfl, h6⟩
        have H6 : Hid (Sep w [(U, [.int .i64 kd, .int .i64 cl, .int .i64 ca, .int .i64 k0, .string p, .string t, .int .i64 c, .int .i64 l, .int .i64 n, .slice a m q, .int .i64 err, .int .i64 b1, .int .i64 b2, .int .i64 b3, .slice x1 n1 y1, .string path, .bool dir, .int .i64 quota, .slice x2 n2 y2, .int .i64 writer, .int .i64 nn])] w6 (Cac cb A2 (j + 1)) (Rfc w xb A)) := h6
        clear h6 CP H5
        clear q1 q2 q3 q4 q5 q6 q7 q8 q9 q10 q11 q12 q13 q14 q15 q16 q17 q18 q19 q20
        have Kr := H6.out.cells (b := U) (vs := [.int .i64 kd, .int .i64 cl, .int .i64 ca, .int .i64 k0, .string p, .string t, .int .i64 c, .int .i64 l, .int .i64 n, .slice a m q, .int .i64 err, .int .i64 b1, .int .i64 b2, .int .i64 b3, .slice x1 n1 y1, .string path, .bool dir, .int .i64 quota, .slice x2 n2 y2, .int .i64 writer, .int .i64 nn]) (by simp)
        have r1 := Kr.val 1 _ rfl
        have r2 := Kr.val 2 _ rfl
        have r3 := Kr.val 3 _ rfl
        have r4 := Kr.val 4 _ rfl
        have r5 := Kr.val 5 _ rfl
        have r6 := Kr.val 6 _ rfl
        have r7 := Kr.val 7 _ rfl
        have r8 := Kr.val 8 _ rfl
        have r9 := Kr.val 9 _ rfl
        have r10 := Kr.val 10 _ rfl
        have r11 := Kr.val 11 _ rfl
        have r12 := Kr.val 12 _ rfl
        have r13 := Kr.val 13 _ rfl
        have r14 := Kr.val 14 _ rfl
        have r15 := Kr.val 15 _ rfl
        have r16 := Kr.val 16 _ rfl
        have r17 := Kr.val 17 _ rfl
        have r18 := Kr.val 18 _ rfl
        have r19 := Kr.val 19 _ rfl
        have r20 := Kr.val 20 _ rfl
        clear Kr
        go_wp2_with fail
        refine (CX.out _ _ H6.out).mono ?_
        rintro y w7 ⟨rfl, h7⟩
        have HE : Hid (∃ A', Sep w [] w7 (Cac cb A' (j + 1)) (Rfc w xb A')) := ⟨A2, h7.less (fun _ h => by cases h)⟩
        clear h7 CX H6
        clear r1 r2 r3 r4 r5 r6 r7 r8 r9 r10 r11 r12 r13 r14 r15 r16 r17 r18 r19 r20
      rotate_left
      focus
        subst hc
        clear HQ
        obtain ⟨er, A2, hp⟩ := putE_ex A cl ca ⟨k0, p, t, c, l, n, ls⟩ ⟨err, ⟨b1, b2, b3⟩, names, path, dir, quota, blocks, writer, nn⟩
        have CP : Hid (∀ L W, Sep w L W (Cac cb A j) (Rfc w xb A) → Calls Try.prog 7 #[.pointer (some ⟨cb, 0, none⟩), .int .i64 cl, .int .i64 ca, .agg #[.int .i64 k0, .string p, .string t, .int .i64 c, .int .i64 l, .int .i64 n, .slice a m q], .agg #[.int .i64 err, .int .i64 b1, .int .i64 b2, .int .i64 b3, .slice x1 n1 y1, .string path, .bool dir, .int .i64 quota, .slice x2 n2 y2, .int .i64 writer, .int .i64 nn]] W fun y w' => y = .returned (.int .i64 er) ∧ Sep w L w' (Cac cb A2 (j + 1)) (Rfc w xb A)) := fun L W h => by
          have h9 := s_put (q := q) h (stRfc _ _ _) (by omega) (HNM.out W h.bel) (HA0.out.below h.bel) hp
          unfold edV anV at h9
          simp only [HN1.out, HN2.out] at h9
          exact h9
        have CX : Hid (∀ L W, Sep w L W (Cac cb A2 (j + 1)) (Rfc w xb A) → Calls Try.prog 8 #[.pointer (some ⟨xb, 0, none⟩), .int .i64 cl, .int .i64 ca, .agg #[.int .i64 k0, .string p, .string t, .int .i64 c, .int .i64 l, .int .i64 n, .slice a m q], .agg #[.int .i64 err, .int .i64 b1, .int .i64 b2, .int .i64 b3, .slice x1 n1 y1, .string path, .bool dir, .int .i64 quota, .slice x2 n2 y2, .int .i64 writer, .int .i64 nn]] W fun y w' => y = .returned (.int .i64 er) ∧ Sep w L w' (Cac cb A2 (j + 1)) (Rfc w xb A2)) := fun L W h => by
          have h9 := rf_put (q := q) h (stCac _ _ _) HAP.out.2 HAP.out.1 ⟨HQ0.out.nm, HA0.out⟩ hp
          unfold edV anV at h9
          simp only [HN1.out, HN2.out] at h9
          exact h9
        clear hp HQ0 HA0 HN1 HN2 HAP HNM
        have Kq := H5.out.cells (b := U) (vs := [.int .i64 kd, .int .i64 cl, .int .i64 ca, .int .i64 k0, .string p, .string t, .int .i64 c, .int .i64 l, .int .i64 n, .slice a m q, .int .i64 err, .int .i64 b1, .int .i64 b2, .int .i64 b3, .slice x1 n1 y1, .string path, .bool dir, .int .i64 quota, .slice x2 n2 y2, .int .i64 writer, .int .i64 nn]) (by simp)
        have q1 := Kq.val 1 _ rfl
        have q2 := Kq.val 2 _ rfl
        have q3 := Kq.val 3 _ rfl
        have q4 := Kq.val 4 _ rfl
        have q5 := Kq.val 5 _ rfl
        have q6 := Kq.val 6 _ rfl
        have q7 := Kq.val 7 _ rfl
        have q8 := Kq.val 8 _ rfl
        have q9 := Kq.val 9 _ rfl
        have q10 := Kq.val 10 _ rfl
        have q11 := Kq.val 11 _ rfl
        have q12 := Kq.val 12 _ rfl
        have q13 := Kq.val 13 _ rfl
        have q14 := Kq.val 14 _ rfl
        have q15 := Kq.val 15 _ rfl
        have q16 := Kq.val 16 _ rfl
        have q17 := Kq.val 17 _ rfl
        have q18 := Kq.val 18 _ rfl
        have q19 := Kq.val 19 _ rfl
        have q20 := Kq.val 20 _ rfl
        clear Kq
        go_wp2_with fail
        refine (CP.out _ _ H5.out).mono ?_
        rintro y w6 ⟨rfl, h6⟩
        have H6 : Hid (Sep w [(U, [.int .i64 kd, .int .i64 cl, .int .i64 ca, .int .i64 k0, .string p, .string t, .int .i64 c, .int .i64 l, .int .i64 n, .slice a m q, .int .i64 err, .int .i64 b1, .int .i64 b2, .int .i64 b3, .slice x1 n1 y1, .string path, .bool dir, .int .i64 quota, .slice x2 n2 y2, .int .i64 writer, .int .i64 nn])] w6 (Cac cb A2 (j + 1)) (Rfc w xb A)) := h6
        clear h6 CP H5
        clear q1 q2 q3 q4 q5 q6 q7 q8 q9 q10 q11 q12 q13 q14 q15 q16 q17 q18 q19 q20
        have Kr := H6.out.cells (b := U) (vs := [.int .i64 kd, .int .i64 cl, .int .i64 ca, .int .i64 k0, .string p, .string t, .int .i64 c, .int .i64 l, .int .i64 n, .slice a m q, .int .i64 err, .int .i64 b1, .int .i64 b2, .int .i64 b3, .slice x1 n1 y1, .string path, .bool dir, .int .i64 quota, .slice x2 n2 y2, .int .i64 writer, .int .i64 nn]) (by simp)
        have r1 := Kr.val 1 _ rfl
        have r2 := Kr.val 2 _ rfl
        have r3 := Kr.val 3 _ rfl
        have r4 := Kr.val 4 _ rfl
        have r5 := Kr.val 5 _ rfl
        have r6 := Kr.val 6 _ rfl
        have r7 := Kr.val 7 _ rfl
        have r8 := Kr.val 8 _ rfl
        have r9 := Kr.val 9 _ rfl
        have r10 := Kr.val 10 _ rfl
        have r11 := Kr.val 11 _ rfl
        have r12 := Kr.val 12 _ rfl
        have r13 := Kr.val 13 _ rfl
        have r14 := Kr.val 14 _ rfl
        have r15 := Kr.val 15 _ rfl
        have r16 := Kr.val 16 _ rfl
        have r17 := Kr.val 17 _ rfl
        have r18 := Kr.val 18 _ rfl
        have r19 := Kr.val 19 _ rfl
        have r20 := Kr.val 20 _ rfl
        clear Kr
        go_wp2_with fail
        refine (CX.out _ _ H6.out).mono ?_
        rintro y w7 ⟨rfl, h7⟩
        have HE : Hid (∃ A', Sep w [] w7 (Cac cb A' (j + 1)) (Rfc w xb A')) := ⟨A2, h7.less (fun _ h => by cases h)⟩
        clear h7 CX H6
        clear r1 r2 r3 r4 r5 r6 r7 r8 r9 r10 r11 r12 r13 r14 r15 r16 r17 r18 r19 r20
      rotate_left
      focus
        subst hc
        clear HQ
        obtain ⟨o, er, ho⟩ : ∃ o er, getA A cl ca ⟨k0, p, t, c, l, n, ls⟩ = (o, er) := ⟨_, _, rfl⟩
        obtain ⟨ok, hok⟩ : ∃ v : Bool, o.isSome = v := ⟨_, rfl⟩
        obtain ⟨xa, hxa⟩ : ∃ x, o.getD zeroA = x := ⟨_, rfl⟩
        have CG : Hid (∀ L W, Sep w L W (Cac cb A j) (Rfc w xb A) → Calls Try.prog 9 #[.pointer (some ⟨cb, 0, none⟩), .int .i64 cl, .int .i64 ca, .agg #[.int .i64 k0, .string p, .string t, .int .i64 c, .int .i64 l, .int .i64 n, .slice a m q]] W fun y w' => (∃ s g1 g2, y = .returned (.tuple #[anV xa s, .bool ok, .int .i64 er]) ∧ AnOwn W.heap.size w' xa s g1 g2) ∧ Below W.heap.size W w') := fun L W h => by
          obtain ⟨O1, O2, ⟨t9, h1, h2⟩, _⟩ := h.out
          have h9 := get_abs (q := q) h2 (HNM.out W h.bel) HQ0.out.k2 HQ0.out.k3 o er ho
          unfold edV at h9
          refine h9.mono ?_
          rintro y w' ⟨⟨s, g1, g2, k1, k2⟩, k3⟩
          rw [hxa, hok] at k1
          rw [hxa] at k2
          exact ⟨⟨s, g1, g2, k1, k2⟩, k3⟩
        have CH : Hid (∀ L W, Sep w L W (Cac cb A j) (Rfc w xb A) → Calls Try.prog 10 #[.pointer (some ⟨xb, 0, none⟩), .int .i64 cl, .int .i64 ca, .agg #[.int .i64 k0, .string p, .string t, .int .i64 c, .int .i64 l, .int .i64 n, .slice a m q]] W fun y w' => (∃ s, y = .returned (.tuple #[anV xa s, .bool ok, .int .i64 er]) ∧ AnIn (fun b => b < w.heap.size) w xa s) ∧ Below W.heap.size W w') := fun L W h => by
          have h9 := rf_get (q := q) h (stCac _ _ _) (HNM.out W h.bel) o er ho
          unfold edV at h9
          refine h9.mono ?_
          rintro y w' ⟨⟨s, k1, k2⟩, _, k3⟩
          rw [hxa, hok] at k1
          rw [hxa] at k2
          exact ⟨⟨s, k1, k2⟩, k3⟩
        clear ho hok hxa HQ0 HA0 HN1 HN2 HAP HNM
        obtain ⟨e1, ⟨c1, c2, c3⟩, nms, pth, dr, qt, bls, wt, an⟩ := xa
        obtain ⟨M1, hM1⟩ : ∃ N, nms.length = N := ⟨_, rfl⟩
        obtain ⟨M2, hM2⟩ : ∃ N, bls.length = N := ⟨_, rfl⟩
        have HM1 : Hid (nms.length = M1) := hM1
        have HM2 : Hid (bls.length = M2) := hM2
        clear hM1 hM2
        have Kq := H5.out.cells (b := U) (vs := [.int .i64 kd, .int .i64 cl, .int .i64 ca, .int .i64 k0, .string p, .string t, .int .i64 c, .int .i64 l, .int .i64 n, .slice a m q, .int .i64 err, .int .i64 b1, .int .i64 b2, .int .i64 b3, .slice x1 n1 y1, .string path, .bool dir, .int .i64 quota, .slice x2 n2 y2, .int .i64 writer, .int .i64 nn]) (by simp)
        have q1 := Kq.val 1 _ rfl
        have q2 := Kq.val 2 _ rfl
        have q3 := Kq.val 3 _ rfl
        have q4 := Kq.val 4 _ rfl
        have q5 := Kq.val 5 _ rfl
        have q6 := Kq.val 6 _ rfl
        have q7 := Kq.val 7 _ rfl
        have q8 := Kq.val 8 _ rfl
        have q9 := Kq.val 9 _ rfl
        clear Kq
        go_wp2_with fail
        refine (CG.out _ _ H5.out).mono ?_
        rintro y w6 ⟨⟨s9, g1, g2, rfl, hOwn⟩, b6⟩
        have HOwn : Hid (AnOwn w4.heap.size w6 ⟨e1, ⟨c1, c2, c3⟩, nms, pth, dr, qt, bls, wt, an⟩ s9 g1 g2) := hOwn
        unfold anV
        simp only
        rw [HM1.out, HM2.out]
        have B6 : Hid (Below w4.heap.size w4 (w6.alloc (.cells #[.int .i64 e1, .int .i64 c1, .int .i64 c2, .int .i64 c3, .slice s9.a1 M1 s9.c1, .string pth, .bool dr, .int .i64 qt, .slice s9.a2 M2 s9.c2, .int .i64 wt, .int .i64 an] 41))) := bel_tr b6 (bel_al _ _)
        have H6 : Hid (Sep w [(U, [.int .i64 kd, .int .i64 cl, .int .i64 ca, .int .i64 k0, .string p, .string t, .int .i64 c, .int .i64 l, .int .i64 n, .slice a m q, .int .i64 err, .int .i64 b1, .int .i64 b2, .int .i64 b3, .slice x1 n1 y1, .string path, .bool dir, .int .i64 quota, .slice x2 n2 y2, .int .i64 writer, .int .i64 nn])] (w6.alloc (.cells #[.int .i64 e1, .int .i64 c1, .int .i64 c2, .int .i64 c3, .slice s9.a1 M1 s9.c1, .string pth, .bool dr, .int .i64 qt, .slice s9.a2 M2 s9.c2, .int .i64 wt, .int .i64 an] 41)) (Cac cb A j) (Rfc w xb A)) := H5.out.below (stCac _ _ _) (stRfc _ _ _) B6.out
        have KA : Hid (Cells (w6.alloc (.cells #[.int .i64 e1, .int .i64 c1, .int .i64 c2, .int .i64 c3, .slice s9.a1 M1 s9.c1, .string pth, .bool dr, .int .i64 qt, .slice s9.a2 M2 s9.c2, .int .i64 wt, .int .i64 an] 41)) w6.heap.size [.int .i64 e1, .int .i64 c1, .int .i64 c2, .int .i64 c3, .slice s9.a1 M1 s9.c1, .string pth, .bool dr, .int .i64 qt, .slice s9.a2 M2 s9.c2, .int .i64 wt, .int .i64 an]) := Cells.new w6 41 [.int .i64 e1, .int .i64 c1, .int .i64 c2, .int .i64 c3, .slice s9.a1 M1 s9.c1, .string pth, .bool dr, .int .i64 qt, .slice s9.a2 M2 s9.c2, .int .i64 wt, .int .i64 an]
        have HO6 : Hid (AnOwn w4.heap.size (w6.alloc (.cells #[.int .i64 e1, .int .i64 c1, .int .i64 c2, .int .i64 c3, .slice s9.a1 M1 s9.c1, .string pth, .bool dr, .int .i64 qt, .slice s9.a2 M2 s9.c2, .int .i64 wt, .int .i64 an] 41)) ⟨e1, ⟨c1, c2, c3⟩, nms, pth, dr, qt, bls, wt, an⟩ s9 g1 g2) := hOwn.below (bel_al _ _)
        have H56 : Hid (w4.heap.size ≤ w6.heap.size) := b6.size
        clear hOwn b6 CG
        clear q1 q2 q3 q4 q5 q6 q7 q8 q9
        have Kr := H6.out.cells (b := U) (vs := [.int .i64 kd, .int .i64 cl, .int .i64 ca, .int .i64 k0, .string p, .string t, .int .i64 c, .int .i64 l, .int .i64 n, .slice a m q, .int .i64 err, .int .i64 b1, .int .i64 b2, .int .i64 b3, .slice x1 n1 y1, .string path, .bool dir, .int .i64 quota, .slice x2 n2 y2, .int .i64 writer, .int .i64 nn]) (by simp)
        have r1 := Kr.val 1 _ rfl
        have r2 := Kr.val 2 _ rfl
        have r3 := Kr.val 3 _ rfl
        have r4 := Kr.val 4 _ rfl
        have r5 := Kr.val 5 _ rfl
        have r6 := Kr.val 6 _ rfl
        have r7 := Kr.val 7 _ rfl
        have r8 := Kr.val 8 _ rfl
        have r9 := Kr.val 9 _ rfl
        clear Kr
        go_wp2_with fail
        refine (CH.out _ _ H6.out).mono ?_
        rintro y w7 ⟨⟨s8, rfl, hIn⟩, b7⟩
        generalize hW6 : w6.alloc (.cells #[.int .i64 e1, .int .i64 c1, .int .i64 c2, .int .i64 c3, .slice s9.a1 M1 s9.c1, .string pth, .bool dr, .int .i64 qt, .slice s9.a2 M2 s9.c2, .int .i64 wt, .int .i64 an] 41) = w60 at *
        have KA7 := (KA.out.below b7).below (bel_al w7 (.cells #[.int .i64 e1, .int .i64 c1, .int .i64 c2, .int .i64 c3, .slice s8.a1 M1 s8.c1, .string pth, .bool dr, .int .i64 qt, .slice s8.a2 M2 s8.c2, .int .i64 wt, .int .i64 an] 41))
        have KB7 := Cells.new w7 41 [.int .i64 e1, .int .i64 c1, .int .i64 c2, .int .i64 c3, .slice s8.a1 M1 s8.c1, .string pth, .bool dr, .int .i64 qt, .slice s8.a2 M2 s8.c2, .int .i64 wt, .int .i64 an]
        have B7 : Hid (Below w4.heap.size w4 (w7.alloc (.cells #[.int .i64 e1, .int .i64 c1, .int .i64 c2, .int .i64 c3, .slice s8.a1 M1 s8.c1, .string pth, .bool dr, .int .i64 qt, .slice s8.a2 M2 s8.c2, .int .i64 wt, .int .i64 an] 41))) := bel_tr (bel_tr B6.out b7) (bel_al _ _)
        have HA7 : Hid (Calls Try.prog 11 #[.agg #[.int .i64 e1, .int .i64 c1, .int .i64 c2, .int .i64 c3, .slice s9.a1 M1 s9.c1, .string pth, .bool dr, .int .i64 qt, .slice s9.a2 M2 s9.c2, .int .i64 wt, .int .i64 an], .agg #[.int .i64 e1, .int .i64 c1, .int .i64 c2, .int .i64 c3, .slice s8.a1 M1 s8.c1, .string pth, .bool dr, .int .i64 qt, .slice s8.a2 M2 s8.c2, .int .i64 wt, .int .i64 an]] (w7.alloc (.cells #[.int .i64 e1, .int .i64 c1, .int .i64 c2, .int .i64 c3, .slice s8.a1 M1 s8.c1, .string pth, .bool dr, .int .i64 qt, .slice s8.a2 M2 s8.c2, .int .i64 wt, .int .i64 an] 41)) fun e w' => e = .returned (.bool true) ∧ Below (w7.alloc (.cells #[.int .i64 e1, .int .i64 c1, .int .i64 c2, .int .i64 c3, .slice s8.a1 M1 s8.c1, .string pth, .bool dr, .int .i64 qt, .slice s8.a2 M2 s8.c2, .int .i64 wt, .int .i64 an] 41)).heap.size (w7.alloc (.cells #[.int .i64 e1, .int .i64 c1, .int .i64 c2, .int .i64 c3, .slice s8.a1 M1 s8.c1, .string pth, .bool dr, .int .i64 qt, .slice s8.a2 M2 s8.c2, .int .i64 wt, .int .i64 an] 41)) w') := by
          have h9 := answers_same (((HO6.out.into).below b7).below (bel_al w7 (.cells #[.int .i64 e1, .int .i64 c1, .int .i64 c2, .int .i64 c3, .slice s8.a1 M1 s8.c1, .string pth, .bool dr, .int .i64 qt, .slice s8.a2 M2 s8.c2, .int .i64 wt, .int .i64 an] 41))) ((hIn.below (bel_tr H5.out.bel (bel_tr B6.out b7))).below (bel_al w7 (.cells #[.int .i64 e1, .int .i64 c1, .int .i64 c2, .int .i64 c3, .slice s8.a1 M1 s8.c1, .string pth, .bool dr, .int .i64 qt, .slice s8.a2 M2 s8.c2, .int .i64 wt, .int .i64 an] 41)))
          unfold anV at h9
          simp only [HM1.out, HM2.out] at h9
          exact h9
        have HR1 : Hid (Row w4.heap.size w6.heap.size w6 s9.a1 M1 1) := by
          have h9 := HOwn.out.one
          simp only [HM1.out] at h9
          exact Row.of h9
        have HR2 : Hid (Row w4.heap.size w6.heap.size w6 s9.a2 M2 3) := by
          have h9 := HOwn.out.two
          simp only [HM2.out] at h9
          exact Row.of h9
        have hm1 : M1 ≤ 140737488355328 := by have h9 := HOwn.out.m1; simp only [HM1.out] at h9; omega
        have hm2 : M2 ≤ 140737488355328 := by have h9 := HOwn.out.m2; simp only [HM2.out] at h9; omega
        have B67 : Hid (Below w6.heap.size w6 (w7.alloc (.cells #[.int .i64 e1, .int .i64 c1, .int .i64 c2, .int .i64 c3, .slice s8.a1 M1 s8.c1, .string pth, .bool dr, .int .i64 qt, .slice s8.a2 M2 s8.c2, .int .i64 wt, .int .i64 an] 41))) := by rw [← hW6] at b7; exact bel_tr (bel_tr (bel_al _ _) b7) (bel_al _ _)
        unfold anV
        simp only
        rw [HM1.out, HM2.out]
        have z0 := KA7.val 0 _ rfl
        have z1 := KA7.val 1 _ rfl
        have z2 := KA7.val 2 _ rfl
        have z3 := KA7.val 3 _ rfl
        have z4 := KA7.val 4 _ rfl
        have z5 := KA7.val 5 _ rfl
        have z6 := KA7.val 6 _ rfl
        have z7 := KA7.val 7 _ rfl
        have z8 := KA7.val 8 _ rfl
        have z9 := KA7.val 9 _ rfl
        have z10 := KA7.val 10 _ rfl
        have KAH : Hid (Cells (w7.alloc (.cells #[.int .i64 e1, .int .i64 c1, .int .i64 c2, .int .i64 c3, .slice s8.a1 M1 s8.c1, .string pth, .bool dr, .int .i64 qt, .slice s8.a2 M2 s8.c2, .int .i64 wt, .int .i64 an] 41)) w6.heap.size [.int .i64 e1, .int .i64 c1, .int .i64 c2, .int .i64 c3, .slice s9.a1 M1 s9.c1, .string pth, .bool dr, .int .i64 qt, .slice s9.a2 M2 s9.c2, .int .i64 wt, .int .i64 an]) := KA7
        clear hIn b7 CH KA KA7 HO6 H6 hW6 HOwn B6 r1 r2 r3 r4 r5 r6 r7 r8 r9
        go_wp2_with fail
        refine HA7.out.mono ?_
        rintro y w8 ⟨rfl, b8⟩
        clear z0 z1 z2 z3 z4 z5 z6 z7 z8 z9 z10 KB7 HA7
        have K8 : Hid (Wk w4 w6.heap.size w8 s9.a1 M1 s9.c1 s9.a2 M2 s9.c2) := by
          have k1 := (KAH.out.below b8)
          exact ⟨k1.val 4 _ rfl, k1.val 8 _ rfl, (HR1.out.below (Nat.le_refl _) B67.out).below B67.out.size b8, (HR2.out.below (Nat.le_refl _) B67.out).below B67.out.size b8, bel_tr B7.out b8, H56.out⟩
        clear KAH HR1 HR2 B67 B7 b8 H56
        have hokk : (ok == ok) = true := by cases ok <;> rfl
        have herr : decide (er = er) = true := decide_eq_true rfl
        generalize w6.heap.size = qa at *
        have z4 := K8.out.c4
        go_wp2
        clear z4
        go_loopw [18] (fun v wi => ∃ i : Nat, i ≤ M1 ∧ v = .int .i64 i ∧ Wk w4 qa wi s9.a1 M1 s9.c1 s9.a2 M2 s9.c2) (fun v _ => M1 - (intOf v).toNat)
        case atStart => exact ⟨0, by omega, rfl, K8.out⟩
        case round =>
          obtain ⟨i, hi, rfl, hK⟩ := hrel
          have HK : Hid (Wk w4 qa wr s9.a1 M1 s9.c1 s9.a2 M2 s9.c2) := hK
          have z4 := hK.c4
          clear hK K8
          by_cases hiM : i < M1
          · obtain ⟨rb, hra, hr2, hr3, hr4⟩ := HK.out.r1.ex (by omega)
            obtain ⟨l1, l2⟩ := hr4 i (by omega)
            obtain ⟨v0, hv0⟩ := Option.isSome_iff_exists.1 l1
            have HNX : Hid (Wk w4 qa (wr.setCell ⟨rb, i, none⟩ (.string ⟨#[63]⟩)) s9.a1 M1 s9.c1 s9.a2 M2 s9.c2) := HK.out.set hr2 hr3 i _
            have hst : ∀ (w : World) (a : Addr) (x : ByteArray) (m : Mode), (store a (.string x) m).run Try.prog w = stored Try.prog w a (.string x) m := fun w a x m => run_store Try.prog w a _ m rfl
            rw [hra] at z4
            have HRA : Hid (s9.a1 = some ⟨rb, 0, none⟩) := hra
            clear hra hr2 hr3 hr4 l1 HK
            go_wp2
            go_roundw
            case rel => exact ⟨i + 1, by omega, by go_num, HNX.out⟩
            case measure => simp [intOf]; omega
          · have z8 := HK.out.c8
            clear hi
            go_wp2
            clear z4 z8
            go_loopw [19] (fun v wi => ∃ i : Nat, i ≤ M2 ∧ v = .int .i64 i ∧ Wk w4 qa wi s9.a1 M1 s9.c1 s9.a2 M2 s9.c2) (fun v _ => M2 - (intOf v).toNat)
            case atStart => exact ⟨0, by omega, rfl, HK.out⟩
            case round =>
              obtain ⟨i2, hi2, rfl, hK2⟩ := hrel
              have HK2 : Hid (Wk w4 qa wr s9.a1 M1 s9.c1 s9.a2 M2 s9.c2) := hK2
              have z8 := hK2.c8
              clear hK2 HK
              by_cases hiM2 : i2 < M2
              · obtain ⟨rb, hra, hr2, hr3, hr4⟩ := HK2.out.r2.ex (by omega)
                obtain ⟨l1, l2⟩ := hr4 (i2 * 3) (by omega)
                obtain ⟨v0, hv0⟩ := Option.isSome_iff_exists.1 l1
                have HNX : Hid (Wk w4 qa (wr.setCell ⟨rb, i2 * 3, none⟩ (.int .i64 (-1))) s9.a1 M1 s9.c1 s9.a2 M2 s9.c2) := HK2.out.set hr2 hr3 (i2 * 3) _
                rw [hra] at z8
                have HRA : Hid (s9.a2 = some ⟨rb, 0, none⟩) := hra
                clear hra hr2 hr3 hr4 l1 HK2
                go_wp2
                go_roundw
                case rel => exact ⟨i2 + 1, by omega, by go_num, HNX.out⟩
                case measure => simp [intOf]; omega
              · have HE : Hid (∃ A', Sep w [] wr (Cac cb A' (j + 1)) (Rfc w xb A')) := ⟨A, more ((H5.out.below (stCac _ _ _) (stRfc _ _ _) HK2.out.bel).less (fun _ h => by cases h))⟩
                clear HK2 H5
                go_wp2
                clear z8
                generalize wr = w7 at *
                obtain ⟨A', hSy⟩ := HE.out
                have HSY : Hid (Sep w [] w7 (Cac cb A' (j + 1)) (Rfc w xb A')) := hSy
                obtain ⟨N, hN⟩ : ∃ N, A'.length = N := ⟨_, rfl⟩
                have hN20 : N ≤ 20 := by rw [← hN]; exact hSy.apart.2.1
                obtain ⟨xa, xc, hx⟩ := hSy.rcell N hN
                have CL : Hid (∀ d, Calls Try.prog 14 #[.pointer (some ⟨cb, 0, none⟩)] (w7.drewN d) fun e w' => e = .returned (.int .i64 (N : Int)) ∧ w' = w7.drewN d) := fun d => s_len (HSY.out.below (stCac _ _ _) (stRfc _ _ _) (below_drewN (Below.refl _ _) d)) N hN
                clear hSy HE hN
                go_wp2
                go_quiet ((go_at_call 14; exact Calls.quiet_of_same (CL.out _)))
                go_wp2
                go_roundw
                case rel => exact ⟨j + 1, by omega, by omega, by go_num, A', HSY.out.below (stCac _ _ _) (stRfc _ _ _) (below_drewN (Below.refl _ _) _)⟩
                case measure => simp [intOf]; omega
      focus
        subst hc
        clear HQ HQ0 HA0 HN1 HN2 HAP HNM
        have Kq := H5.out.cells (b := U) (vs := [.int .i64 kd, .int .i64 cl, .int .i64 ca, .int .i64 k0, .string p, .string t, .int .i64 c, .int .i64 l, .int .i64 n, .slice a m q, .int .i64 err, .int .i64 b1, .int .i64 b2, .int .i64 b3, .slice x1 n1 y1, .string path, .bool dir, .int .i64 quota, .slice x2 n2 y2, .int .i64 writer, .int .i64 nn]) (by simp)
        have q1 := Kq.val 1 _ rfl
        have q2 := Kq.val 2 _ rfl
        clear Kq
        go_wp2_with fail
        refine (s_forget H5.out (stRfc _ _ _) cl ca).mono ?_
        rintro y w6 ⟨rfl, h6⟩
        have H6 : Hid (Sep w [(U, [.int .i64 kd, .int .i64 cl, .int .i64 ca, .int .i64 k0, .string p, .string t, .int .i64 c, .int .i64 l, .int .i64 n, .slice a m q, .int .i64 err, .int .i64 b1, .int .i64 b2, .int .i64 b3, .slice x1 n1 y1, .string path, .bool dir, .int .i64 quota, .slice x2 n2 y2, .int .i64 writer, .int .i64 nn])] w6 (Cac cb (forA A cl ca) j) (Rfc w xb A)) := h6
        clear h6 H5
        clear q1 q2
        have Kr := H6.out.cells (b := U) (vs := [.int .i64 kd, .int .i64 cl, .int .i64 ca, .int .i64 k0, .string p, .string t, .int .i64 c, .int .i64 l, .int .i64 n, .slice a m q, .int .i64 err, .int .i64 b1, .int .i64 b2, .int .i64 b3, .slice x1 n1 y1, .string path, .bool dir, .int .i64 quota, .slice x2 n2 y2, .int .i64 writer, .int .i64 nn]) (by simp)
        have r1 := Kr.val 1 _ rfl
        have r2 := Kr.val 2 _ rfl
        clear Kr
        go_wp2_with fail
        refine (rf_forget H6.out (stCac _ _ _) cl ca).mono ?_
        rintro y w7 ⟨rfl, h7⟩
        have HE : Hid (∃ A', Sep w [] w7 (Cac cb A' (j + 1)) (Rfc w xb A')) := ⟨_, more (h7.less (fun _ h => by cases h))⟩
        clear h7 H6
        clear r1 r2
      all_goals
        obtain ⟨A', hSy⟩ := HE.out
        have HSY : Hid (Sep w [] w7 (Cac cb A' (j + 1)) (Rfc w xb A')) := hSy
        obtain ⟨N, hN⟩ : ∃ N, A'.length = N := ⟨_, rfl⟩
        have hN20 : N ≤ 20 := by rw [← hN]; exact hSy.apart.2.1
        obtain ⟨xa, xc, hx⟩ := hSy.rcell N hN
        have CL : Hid (∀ d, Calls Try.prog 14 #[.pointer (some ⟨cb, 0, none⟩)] (w7.drewN d) fun e w' => e = .returned (.int .i64 (N : Int)) ∧ w' = w7.drewN d) := fun d => s_len (HSY.out.below (stCac _ _ _) (stRfc _ _ _) (below_drewN (Below.refl _ _) d)) N hN
        clear hSy HE hN
        go_wp2
        go_quiet ((go_at_call 14; exact Calls.quiet_of_same (CL.out _)))
        go_wp2
        go_roundw
        case rel => exact ⟨j + 1, by omega, by omega, by go_num, A', HSY.out.below (stCac _ _ _) (stRfc _ _ _) (below_drewN (Below.refl _ _) _)⟩
        case measure => simp [intOf]; omega
    · have hB : Hid (Below w.heap.size w wr) := HS.out.bel
      clear HS HU HZ
      by_cases hjn : j < n0
      · have hj80 : ¬ j < 80 := fun h => hlt ⟨hjn, h⟩
        clear hlt
        go_wp2
        go_ret
        exact ⟨rfl, hB.out⟩
      · clear hlt
        go_wp2
        go_ret
        exact ⟨rfl, hB.out⟩

theorem walk (a0 : Option Addr) (cap0 : Nat) (us : List Dd) (W : World) (w0 : Dds W a0 us) (z0 : ∀ u ∈ us, u.x.names.length * 16 ≤ reachBytes ∧ u.x.blocks.length * 24 ≤ reachBytes) :
    Calls Try.prog 3 #[.slice a0 us.length cap0] W fun e w' => e = .returned (.bool true) ∧ Below W.heap.size W w' := core a0 cap0 us.length us W rfl w0 z0

set_option maxRecDepth 100000 in
theorem lifted (os : Os) (started : os.Started) (H : Type) (enc : TypeId × Value → H) :
    ReturnsInHanded {} Try.checked os 3 .any (Rows.retryPlaysSpec.pre6 enc Try.prog Try.f3 Rows.retryPlaysRow.domain false) (Rows.retryPlaysSpec.post enc Try.prog Try.f3 false true false false) := by
  refine returnsInHanded_of_change_sized (C := Try.checked) own started (by kernel_rfl) Try.func3
    (ChangeSpec.witness6 (enc := enc) (C := Try.checked) false ⟨#[], #[.slice none 0 0], []⟩ 8 (by kernel_rfl) (by kernel_rfl) (by kernel_rfl) (by kernel_rfl)) ?_
  intro W base args ds gs before hval0 hW hcnd hsz0 _
  have hval : ∀ (j : Nat) t v, Try.f3.params[j]? = some t → args[j]? = some v → Value.okWide Try.prog W .any base t v := hval0
  have hW' := hW
  obtain ⟨p, q, hA0, hV, rfl, hfz, hnd⟩ := hW
  have hA : DataW.TrodAll enc Try.prog W 0 (fun _ => true) true Try.f3.params.toList args.toList ds p := hA0
  have hsz : (DataW.weightsEach Try.prog (Try.f3.params.toList ++ Rows.retryPlaysSpec.plain.varTypes Try.prog) (ds ++ gs)).all (· ≤ reachBytes) = true := hsz0
  rw [Try.params3] at hA hval hsz
  obtain ⟨v0, vs0, d0, ds0, p0, q0, hargs, rfl, rfl, h0, r0⟩ := trodAll_cons hA
  obtain ⟨rfl, rfl, rfl⟩ := trodAll_nil r0
  obtain rfl : args = #[v0] := by cases args; simp_all
  obtain ⟨rfl, rfl⟩ := trodVars_none hV
  obtain ⟨a0, len0, cap0, rfl⟩ := okWide_slice Try.underlying22 (hval 0 22 v0 rfl rfl)
  have k0 := h0
  have lt0 : ∀ x ∈ p0, x.block < W.heap.size := by obtain ⟨m, hm⟩ := k0; exact DataW.trod_lt m _ _ _ hm
  obtain ⟨ss0, y0, w0, n0⟩ := Rty.open_rdeeds h0
  subst y0
  have z0 := n0 (fun x hx => by simpa using List.all_eq_true.1 hsz x (DataW.weights_mem_each (j := 0) (t := 22) rfl rfl x hx))
  clear hA0 hval0
  refine (walk a0 cap0 ss0 W w0 z0).mono fun e W' ⟨he, bel⟩ => ?_
  subst he
  exact ⟨_, rfl, _, _, _, [], _, [], hW', trodAll_mk1 (shut_bool Try.underlying4 _), (trodAll_cons_mk (Below.trod laidOut (by kernel_rfl) (of_decide_eq_true (by kernel_rfl)) k0 bel lt0) trodAll_mk0), rfl, bel.frame _, fun h => by cases h⟩

theorem over : Rows.retryPlaysRow.holds Try.pinned (OpenSpec.ofChange Rows.retryPlaysSpec) :=
  OpenClaim.holds_of_wide 3 Try.f3 rfl rfl rfl rfl rfl rfl rfl ⟨rfl, rfl, rfl, rfl, rfl⟩ rfl rfl rfl rfl rfl (by kernel_rfl) Try.func3 (by kernel_rfl)
    (of_decide_eq_true (by kernel_rfl)) (by unfold Func.isWrapper; first | (rw [if_pos (by decide +kernel)]; kernel_rfl) | (rw [if_neg (by decide +kernel)]; exact ⟨rfl, rfl⟩))
    (fun os started H enc _ => lifted os started H enc)
end Go.Proofs.Ythogpaojdlfjcaa.retryPlays

namespace Go.Proofs.Ythogpaojdlfjcaa
/-- The statement. -/
theorem retryPlays_holds : Rows.RetryPlaysSaid := retryPlays.over
#print axioms retryPlays_holds
end Go.Proofs.Ythogpaojdlfjcaa
