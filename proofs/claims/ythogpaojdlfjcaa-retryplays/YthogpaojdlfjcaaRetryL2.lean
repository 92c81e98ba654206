/- The contracts of tabulariumlaw13.texts, blocks, node, answers (where both are the same). -/
import Derived.Test.YthogpaojdlfjcaaRetryF1
import Derived.BigQuiet
import Derived.Lib.QuietBelow
namespace Go.Proofs.Ythogpaojdlfjcaa.Rty
open Go.RowKit Go.Proofs.Ythogpaojdlfjcaa Go.Proofs.Ythogpaojdlfjcaa.Edi

theorem bel_drewN (w : World) (n : Nat) : Below w.heap.size w (w.drewN n) := below_drewN (Below.refl _ _) n

set_option maxRecDepth 100000 in
set_option maxHeartbeats 1000000 in
theorem texts_same {O O2 : Nat → Prop} {w : World} {a a' : Option Addr} {ss : List ByteArray} (h1 : Lie strC O w a ss) (h2 : Lie strC O2 w a' ss) (m c c' : Nat) (hm : ss.length = m) :
    Calls Try.prog 21 #[.slice a m c, .slice a' m c'] w fun e w' => e = .returned (.bool true) ∧ Below w.heap.size w w' := by
  have hlid := h1.lid
  rw [hm] at hlid
  unfold maxLen at hlid
  have HN : Hid (ss.length = m) := hm
  have H1 : Hid _ := h1
  have H2 : Hid _ := h2
  clear h1 h2 hm
  go_enter Try.func21, Try.ntmps21
  go_wp2
  go_loopw [5] (fun v wr => ∃ i d : Nat, i ≤ m ∧ v = .int .i64 i ∧ wr = w.drewN d) (fun v _ => m - (intOf v).toNat)
  case atStart => exact ⟨0, 0, by omega, rfl, rfl⟩
  case round =>
    obtain ⟨i, d, hi, rfl, hd⟩ := hrel
    by_cases hlt : i < m
    · have e1 : i < ss.length := by rw [HN.out]; exact hlt
      have hb : Below w.heap.size w wr := by rw [hd]; exact bel_drewN _ _
      obtain ⟨b, off, rfl, hc⟩ := (H1.out.below hb).at wideS e1
      obtain ⟨b', off', rfl, hc'⟩ := (H2.out.below hb).at wideS e1
      have q0 := hc 0 _ rfl
      have r0 := hc' 0 _ rfl
      rw [Nat.mul_one, Nat.add_zero] at q0 r0
      generalize ss[i] = x at *
      have HD : Hid _ := hd
      clear hd hc hc' hb H1 H2
      go_wp2
      go_quiet (fail)
      go_wp2
      go_roundw
      case rel => exact ⟨i + 1, d + nq, by omega, by go_num, by rw [HD.out, World.drewN_drewN]⟩
      case measure => simp [intOf]; omega
    · have hge : m ≤ i := by omega
      have HD : Hid _ := hd
      clear hlt hd
      go_wp2
      go_ret
      exact ⟨rfl, by rw [HD.out]; exact bel_drewN _ _⟩

set_option maxRecDepth 100000 in
set_option maxHeartbeats 1000000 in
theorem blocks_same {O O2 : Nat → Prop} {w : World} {a a' : Option Addr} {bs : List Bk} (h1 : Lie bkC O w a bs) (h2 : Lie bkC O2 w a' bs) (m c c' : Nat) (hm : bs.length = m) :
    Calls Try.prog 30 #[.slice a m c, .slice a' m c'] w fun e w' => e = .returned (.bool true) ∧ Below w.heap.size w w' := by
  have hlid := h1.lid
  rw [hm] at hlid
  unfold maxLen at hlid
  have HN : Hid (bs.length = m) := hm
  have H1 : Hid _ := h1
  have H2 : Hid _ := h2
  clear h1 h2 hm
  go_enter Try.func30, Try.ntmps30
  go_wp2
  go_loopw [5] (fun v wr => ∃ i d : Nat, i ≤ m ∧ v = .int .i64 i ∧ wr = w.drewN d) (fun v _ => m - (intOf v).toNat)
  case atStart => exact ⟨0, 0, by omega, rfl, rfl⟩
  case round =>
    obtain ⟨i, d, hi, rfl, hd⟩ := hrel
    by_cases hlt : i < m
    · have e1 : i < bs.length := by rw [HN.out]; exact hlt
      have hb : Below w.heap.size w wr := by rw [hd]; exact bel_drewN _ _
      obtain ⟨b, off, rfl, hc⟩ := (H1.out.below hb).at wideB e1
      obtain ⟨b', off', rfl, hc'⟩ := (H2.out.below hb).at wideB e1
      generalize bs[i] = x at *
      obtain ⟨x1, x2, x3⟩ := x
      have q0 : wr.cell? ⟨b, off + i * 3, none⟩ = some (.int .i64 x1) := hc 0 _ rfl
      have q1 : wr.cell? ⟨b, off + i * 3 + 1, none⟩ = some (.int .i64 x2) := hc 1 _ rfl
      have q2 : wr.cell? ⟨b, off + i * 3 + 2, none⟩ = some (.int .i64 x3) := hc 2 _ rfl
      have r0 : wr.cell? ⟨b', off' + i * 3, none⟩ = some (.int .i64 x1) := hc' 0 _ rfl
      have r1 : wr.cell? ⟨b', off' + i * 3 + 1, none⟩ = some (.int .i64 x2) := hc' 1 _ rfl
      have r2 : wr.cell? ⟨b', off' + i * 3 + 2, none⟩ = some (.int .i64 x3) := hc' 2 _ rfl
      have HD : Hid _ := hd
      clear hd hc hc' hb H1 H2
      go_wp2
      go_quiet (fail)
      go_wp2
      go_roundw
      case rel => exact ⟨i + 1, d + nq, by omega, by go_num, by rw [HD.out, World.drewN_drewN]⟩
      case measure => simp [intOf]; omega
    · have hge : m ≤ i := by omega
      have HD : Hid _ := hd
      clear hlt hd
      go_wp2
      go_ret
      exact ⟨rfl, by rw [HD.out]; exact bel_drewN _ _⟩

theorem two_boxes {w w1 : World} {xs ys : List Value} {t u : TypeId} (h : Below ((w.alloc (.cells xs.toArray t)).alloc (.cells ys.toArray u)).heap.size ((w.alloc (.cells xs.toArray t)).alloc (.cells ys.toArray u)) w1) : Cells w1 w.heap.size xs ∧ Cells w1 (w.heap.size + 1) ys ∧ Below w.heap.size w w1 := by
  refine ⟨((Cells.new w t xs).below (bel_al _ _)).below h, ?_, bel_tr (bel_tr (bel_al _ _) (bel_al _ _)) h⟩
  have := Cells.new (w.alloc (.cells xs.toArray t)) u ys
  rw [show (w.alloc (.cells xs.toArray t)).heap.size = w.heap.size + 1 by simp] at this
  exact this.below h

set_option maxRecDepth 100000 in
set_option maxHeartbeats 1000000 in
theorem node_same {O O2 : Nat → Prop} {w : World} {a a' : Option Addr} {bs : List Bk} (h1 : Lie bkC O w a bs) (h2 : Lie bkC O2 w a' bs) (m c c' : Nat) (hm : bs.length = m) (p : ByteArray) (d : Bool) (q wr : Int) :
    Calls Try.prog 22 #[.agg #[.string p, .bool d, .int .i64 q, .slice a m c, .int .i64 wr], .agg #[.string p, .bool d, .int .i64 q, .slice a' m c', .int .i64 wr]] w fun e w' => e = .returned (.bool true) ∧ Below w.heap.size w w' := by
  have CB : Hid (∀ W, Below w.heap.size w W → Calls Try.prog 30 #[.slice a m c, .slice a' m c'] W fun e w' => e = .returned (.bool true) ∧ Below W.heap.size W w') := fun W hb => blocks_same (h1.below hb) (h2.below hb) m c c' hm
  clear h1 h2 hm
  go_enter Try.func22, Try.ntmps22
  go_wp2_with fail
  refine (CB.out _ (bel_tr (bel_al _ _) (bel_al _ _))).mono ?_
  rintro e w1 ⟨rfl, c1⟩
  obtain ⟨q1, q2, q3⟩ := two_boxes (xs := [.string p, .bool d, .int .i64 q, .slice a m c, .int .i64 wr]) (ys := [.string p, .bool d, .int .i64 q, .slice a' m c', .int .i64 wr]) c1
  have y0 := q1.val 0 _ rfl
  have y1 := q1.val 1 _ rfl
  have y2 := q1.val 2 _ rfl
  have y4 := q1.val 4 _ rfl
  have z0 := q2.val 0 _ rfl
  have z1 := q2.val 1 _ rfl
  have z2 := q2.val 2 _ rfl
  have z4 := q2.val 4 _ rfl
  have HB : Hid (Below w.heap.size w w1) := q3
  clear c1 q1 q2 q3
  go_wp2
  go_ret
  exact ⟨rfl, HB.out⟩

set_option maxRecDepth 100000 in
set_option maxHeartbeats 4000000 in
theorem answers_same {O O2 : Nat → Prop} {w : World} {x : Ans} {s s' : Sls} (h1 : AnIn O w x s) (h2 : AnIn O2 w x s') :
    Calls Try.prog 11 #[anV x s, anV x s'] w fun e w' => e = .returned (.bool true) ∧ Below w.heap.size w w' := by
  have CT : Hid (∀ n, x.names.length = n → ∀ W, Below w.heap.size w W → Calls Try.prog 21 #[.slice s.a1 n s.c1, .slice s'.a1 n s'.c1] W fun e w' => e = .returned (.bool true) ∧ Below W.heap.size W w') := fun n hn W hb => texts_same (h1.one.below hb) (h2.one.below hb) n s.c1 s'.c1 hn
  have CN : Hid (∀ n, x.blocks.length = n → ∀ W, Below w.heap.size w W → Calls Try.prog 22 #[.agg #[.string x.path, .bool x.dir, .int .i64 x.quota, .slice s.a2 n s.c2, .int .i64 x.writer], .agg #[.string x.path, .bool x.dir, .int .i64 x.quota, .slice s'.a2 n s'.c2, .int .i64 x.writer]] W fun e w' => e = .returned (.bool true) ∧ Below W.heap.size W w') := fun n hn W hb => node_same (h1.two.below hb) (h2.two.below hb) n s.c2 s'.c2 hn x.path x.dir x.quota x.writer
  clear h1 h2
  obtain ⟨err, ⟨b1, b2, b3⟩, names, path, dir, quota, blocks, writer, nn⟩ := x
  obtain ⟨a1, c1, a2, c2⟩ := s
  obtain ⟨a1', c1', a2', c2'⟩ := s'
  simp only at CT CN
  obtain ⟨n1, hn1⟩ : ∃ n, names.length = n := ⟨_, rfl⟩
  obtain ⟨n2, hn2⟩ : ∃ n, blocks.length = n := ⟨_, rfl⟩
  have CT2 : Hid _ := CT.out n1 hn1
  have CN2 : Hid _ := CN.out n2 hn2
  unfold anV
  simp only
  rw [hn1, hn2]
  clear hn1 hn2 CT CN
  go_enter Try.func11, Try.ntmps11
  go_wp2_with fail
  refine (CT2.out _ (bel_tr (bel_al _ _) (bel_al _ _))).mono ?_
  rintro e w1 ⟨rfl, k1⟩
  obtain ⟨q1, q2, q3⟩ := two_boxes (xs := [.int .i64 err, .int .i64 b1, .int .i64 b2, .int .i64 b3, .slice a1 n1 c1, .string path, .bool dir, .int .i64 quota, .slice a2 n2 c2, .int .i64 writer, .int .i64 nn]) (ys := [.int .i64 err, .int .i64 b1, .int .i64 b2, .int .i64 b3, .slice a1' n1 c1', .string path, .bool dir, .int .i64 quota, .slice a2' n2 c2', .int .i64 writer, .int .i64 nn]) k1
  have Q1 : Hid _ := q1
  have Q2 : Hid _ := q2
  have HB : Hid (Below w.heap.size w w1) := q3
  have y0 := q1.val 0 _ rfl
  have z0 := q2.val 0 _ rfl
  have y1 := q1.val 1 _ rfl
  have z1 := q2.val 1 _ rfl
  have y2 := q1.val 2 _ rfl
  have z2 := q2.val 2 _ rfl
  have y3 := q1.val 3 _ rfl
  have z3 := q2.val 3 _ rfl
  have y4 := q1.val 4 _ rfl
  have z4 := q2.val 4 _ rfl
  have y5 := q1.val 5 _ rfl
  have z5 := q2.val 5 _ rfl
  have y6 := q1.val 6 _ rfl
  have z6 := q2.val 6 _ rfl
  have y7 := q1.val 7 _ rfl
  have z7 := q2.val 7 _ rfl
  have y8 := q1.val 8 _ rfl
  have z8 := q2.val 8 _ rfl
  have y9 := q1.val 9 _ rfl
  have z9 := q2.val 9 _ rfl
  have y10 := q1.val 10 _ rfl
  have z10 := q2.val 10 _ rfl
  clear k1 q1 q2 q3 CT2
  go_wp2_with fail
  refine (CN2.out _ HB.out).mono ?_
  rintro e w2 ⟨rfl, k2⟩
  have q1 := Q1.out.below k2
  have q2 := Q2.out.below k2
  replace HB : Hid (Below w.heap.size w w2) := bel_tr HB.out k2
  clear y0 z0 y1 z1 y2 z2 y3 z3 y4 z4 y5 z5 y6 z6 y7 z7 y8 z8 y9 z9 y10 z10
  have y0 := q1.val 0 _ rfl
  have z0 := q2.val 0 _ rfl
  have y1 := q1.val 1 _ rfl
  have z1 := q2.val 1 _ rfl
  have y2 := q1.val 2 _ rfl
  have z2 := q2.val 2 _ rfl
  have y3 := q1.val 3 _ rfl
  have z3 := q2.val 3 _ rfl
  have y4 := q1.val 4 _ rfl
  have z4 := q2.val 4 _ rfl
  have y5 := q1.val 5 _ rfl
  have z5 := q2.val 5 _ rfl
  have y6 := q1.val 6 _ rfl
  have z6 := q2.val 6 _ rfl
  have y7 := q1.val 7 _ rfl
  have z7 := q2.val 7 _ rfl
  have y8 := q1.val 8 _ rfl
  have z8 := q2.val 8 _ rfl
  have y9 := q1.val 9 _ rfl
  have z9 := q2.val 9 _ rfl
  have y10 := q1.val 10 _ rfl
  have z10 := q2.val 10 _ rfl
  clear k2 q1 q2 Q1 Q2 CN2
  go_wp2
  go_ret
  exact ⟨rfl, HB.out⟩

end Go.Proofs.Ythogpaojdlfjcaa.Rty
