/- The contracts of retry.fresh, copied, New, Len. -/
import Derived.Test.YthogpaojdlfjcaaRetryR
import Derived.WalkKit
import Derived.WalkSpells
import Derived.WalkLawsBesides
import Derived.OwnWalk
import Derived.BigRegion
namespace Go.Proofs.Ythogpaojdlfjcaa.Rty
open Go.RowKit Go.Proofs.Ythogpaojdlfjcaa Go.Proofs.Ythogpaojdlfjcaa.Edi

/-! ### cells of a block -/
structure Cells (w : World) (b : Nat) (vs : List Value) : Prop where
  val : ∀ (j : Nat) (u : Value), vs[j]? = some u → w.cell? ⟨b, j, none⟩ = some u
  fr : ∀ j, w.frozen? ⟨b, j, none⟩ = false
  lt : b < w.heap.size
theorem Cells.new (w : World) (t : TypeId) (vs : List Value) : Cells (w.alloc (.cells vs.toArray t)) w.heap.size vs :=
  ⟨fun j u hu => by rw [World.cell?_alloc_new w _ t j]; simpa using hu, fun j => World.frozen?_alloc_new w _ t j, by simp⟩
theorem Cells.stay {O : Nat → Prop} {w w' : World} {b : Nat} {vs : List Value} (h : Cells w b vs) (hs : Stay O w w') (hO : ¬ O b) : Cells w' b vs := by
  have hb := hs.block b h.lt hO
  exact ⟨fun j u hu => (World.cell?_of_block (a := ⟨b, j, none⟩) hb).trans (h.val j u hu), fun j => (World.frozen?_of_block (a := ⟨b, j, none⟩) hb).trans (h.fr j), Nat.lt_of_lt_of_le h.lt hs.size⟩
theorem Cells.below {w w' : World} {b : Nat} {vs : List Value} (h : Cells w b vs) (hb : Below w.heap.size w w') : Cells w' b vs := h.stay (O := fun _ => False) (Stay.of_below hb) id
/-- One cell is written. -/
theorem Cells.set {w : World} {b : Nat} {vs : List Value} (h : Cells w b vs) (i : Nat) (v : Value) (hi : i < vs.length) : Cells (w.setCell ⟨b, i, none⟩ v) b (vs.set i v) := by
  refine ⟨fun j u hu => ?_, fun j => by rw [World.frozen?_setCell]; exact h.fr j, by simpa [World.setCell] using h.lt⟩
  by_cases e : i = j
  · subst e
    rw [List.getElem?_set_self hi] at hu
    cases hu
    exact World.cell?_setCell_same _ _ _ (h.val i _ (List.getElem?_eq_getElem hi))
  · rw [List.getElem?_set_ne e] at hu
    rw [World.cell?_setCell_other _ _ _ _ (by intro e2; injection e2 with e3 e4; exact e (by omega))]
    exact h.val j u hu
/-- All are written. -/
theorem Cells.puts {w : World} {b : Nat} {us : List Value} (h : Cells w b us) (vs : List Value) (hl : us.length = vs.length) : Cells (w.setCells b 0 vs) b vs := by
  obtain ⟨t1, t2, t3, t4⟩ := tape_setCellsC b vs 0 w
  refine ⟨fun j u hu => ?_, fun j => by rw [World.frozen?_setCells]; exact h.fr j, by rw [t4]; exact h.lt⟩
  obtain ⟨hj, rfl⟩ := List.getElem?_eq_some_iff.1 hu
  have := World.cell?_setCells_in b vs 0 w (fun j hj => by rw [Nat.zero_add, h.val j _ (List.getElem?_eq_getElem (by omega))]; rfl) j hj
  rw [Nat.zero_add] at this
  exact this

/-! ### lists of its own -/
structure AnOwn (base : Nat) (w : World) (x : Ans) (s : Sls) (g1 g2 : Option Nat) : Prop where
  one : Cel (fun k => base ≤ k) w 1 (.slice s.a1 x.names.length s.c1) x.names.length (rowC strC x.names) g1
  two : Cel (fun k => base ≤ k) w 3 (.slice s.a2 x.blocks.length s.c2) x.blocks.length (rowC bkC x.blocks) g2
  m1 : x.names.length * 16 ≤ 140737488355328
  m2 : x.blocks.length * 24 ≤ 140737488355328
theorem AnOwn.into {base : Nat} {w : World} {x : Ans} {s : Sls} {g1 g2 : Option Nat} (h : AnOwn base w x s g1 g2) : AnIn (fun k => base ≤ k) w x s := ⟨lie_of_cel wideS h.one rfl, lie_of_cel wideB h.two rfl, h.m1, h.m2⟩
theorem AnOwn.below {base : Nat} {w w' : World} {x : Ans} {s : Sls} {g1 g2 : Option Nat} (h : AnOwn base w x s g1 g2) (hb : Below w.heap.size w w') : AnOwn base w' x s g1 g2 := ⟨h.one.below hb, h.two.below hb, h.m1, h.m2⟩
theorem AnOwn.mono {b1 b2 : Nat} {w : World} {x : Ans} {s : Sls} {g1 g2 : Option Nat} (h : AnOwn b1 w x s g1 g2) (hb : b2 ≤ b1) : AnOwn b2 w x s g1 g2 :=
  ⟨h.one.stay (Nat.le_refl _) (fun _ _ => rfl) (fun _ e => Nat.le_trans hb e), h.two.stay (Nat.le_refl _) (fun _ _ => rfl) (fun _ e => Nat.le_trans hb e), h.m1, h.m2⟩

/-- A list of its own is told. -/
structure RowR {α : Type} (f : α → List Value) (k : Nat) (base : Nat) (xs : List α) (e : Ending) (w' : World) : Prop where
  ex : ∃ a c g, e = .returned (.slice a xs.length c) ∧ Cel (fun k => base ≤ k) w' k (.slice a xs.length c) xs.length (rowC f xs) g

theorem info_s : ∃ j, Try.prog.info? 9 = some j ∧ j.zero = some (.string ByteArray.empty) ∧ j.size = 1 ∧ j.bytes = 16 :=
  info_parts3 (show (Try.prog.info? 9).map (fun i => (i.zero, i.size, i.bytes)) = some (some (.string ByteArray.empty), 1, 16) by kernel_rfl)
theorem info_b : ∃ j, Try.prog.info? 35 = some j ∧ j.zero = some (.agg #[.int .i64 0, .int .i64 0, .int .i64 0]) ∧ j.size = 3 ∧ j.bytes = 24 :=
  info_parts3 (show (Try.prog.info? 35).map (fun i => (i.zero, i.size, i.bytes)) = some (some (.agg #[.int .i64 0, .int .i64 0, .int .i64 0]), 3, 24) by kernel_rfl)

set_option maxRecDepth 100000 in
set_option maxHeartbeats 1000000 in
theorem fresh_s {O : Nat → Prop} {w : World} {a : Option Addr} {xs : List ByteArray} (h : Lie strC O w a xs) (hm : xs.length * 16 ≤ 140737488355328) (n c : Nat) (hn : xs.length = n) :
    Calls Try.prog 28 #[.slice a n c] w fun e w' => RowR strC 1 w.heap.size xs e w' ∧ Below w.heap.size w w' := by
  obtain ⟨ti, hi1, hi2, hi3, hi4⟩ := info_s
  subst hn
  have HS : Hid (Src Try.prog 1 36 (.slice a xs.length c) xs.length (rowC strC xs) w) := h.src Try.underlying36 wideS c
  have HC : Hid (Cel (fun k => w.heap.size ≤ k) w 1 (.slice none 0 0) 0 [] none) := .nil rfl rfl rfl
  have hl := h.lid
  have HL : Hid (0 + xs.length ≤ maxLen) := by show 0 + xs.length ≤ maxLen; omega
  have HM : Hid ((0 + xs.length) * 16 ≤ 140737488355328) := by show (0 + xs.length) * 16 ≤ _; omega
  clear h hl hm
  go_enter Try.func28, Try.ntmps28
  go_wp2_with (at_builtin; refine wpList_append_cel _ rfl _ _ 36 36 rfl 9 ti _ 1 16 Try.underlying36 hi1 hi2 hi3 hi4 rfl (O := fun k => w.heap.size ≤ k) _ 0 _ none rfl HC.out _ xs.length (rowC strC xs) rfl HS.out HL.out HM.out ?_; intro a2 c2 w2 g2 hC2 hS2 hg2; rw [Nat.zero_add, List.nil_append] at hC2; rw [Nat.zero_add]; have A2 : Hid (Cel (fun k => w.heap.size ≤ k) w2 1 (.slice a2 xs.length c2) xs.length (rowC strC xs) g2) := hC2.stay (Nat.le_refl _) (fun _ _ => rfl) (fun k hk => hk.elim id (fun e => e.1)); have B2 : Hid (Below w.heap.size w w2) := hS2.below (Nat.le_refl _) (fun k hk => by cases hk); clear hC2 hS2 hg2)
  go_ret
  exact ⟨⟨a2, c2, g2, rfl, A2.out⟩, B2.out⟩

set_option maxRecDepth 100000 in
set_option maxHeartbeats 1000000 in
theorem fresh_b {O : Nat → Prop} {w : World} {a : Option Addr} {xs : List Bk} (h : Lie bkC O w a xs) (hm : xs.length * 24 ≤ 140737488355328) (n c : Nat) (hn : xs.length = n) :
    Calls Try.prog 29 #[.slice a n c] w fun e w' => RowR bkC 3 w.heap.size xs e w' ∧ Below w.heap.size w w' := by
  obtain ⟨ti, hi1, hi2, hi3, hi4⟩ := info_b
  subst hn
  have HS : Hid (Src Try.prog 3 37 (.slice a xs.length c) xs.length (rowC bkC xs) w) := h.src Try.underlying37 wideB c
  have HC : Hid (Cel (fun k => w.heap.size ≤ k) w 3 (.slice none 0 0) 0 [] none) := .nil rfl rfl rfl
  have hl := h.lid
  have HL : Hid (0 + xs.length ≤ maxLen) := by show 0 + xs.length ≤ maxLen; omega
  have HM : Hid ((0 + xs.length) * 24 ≤ 140737488355328) := by show (0 + xs.length) * 24 ≤ _; omega
  clear h hl hm
  go_enter Try.func29, Try.ntmps29
  go_wp2_with (at_builtin; refine wpList_append_cel _ rfl _ _ 37 37 rfl 35 ti _ 3 24 Try.underlying37 hi1 hi2 hi3 hi4 rfl (O := fun k => w.heap.size ≤ k) _ 0 _ none rfl HC.out _ xs.length (rowC bkC xs) rfl HS.out HL.out HM.out ?_; intro a2 c2 w2 g2 hC2 hS2 hg2; rw [Nat.zero_add, List.nil_append] at hC2; rw [Nat.zero_add]; have A2 : Hid (Cel (fun k => w.heap.size ≤ k) w2 3 (.slice a2 xs.length c2) xs.length (rowC bkC xs) g2) := hC2.stay (Nat.le_refl _) (fun _ _ => rfl) (fun k hk => hk.elim id (fun e => e.1)); have B2 : Hid (Below w.heap.size w w2) := hS2.below (Nat.le_refl _) (fun k hk => by cases hk); clear hC2 hS2 hg2)
  go_ret
  exact ⟨⟨a2, c2, g2, rfl, A2.out⟩, B2.out⟩

/-- An answer with lists of its own is told. -/
structure AnsR (base : Nat) (x : Ans) (e : Ending) (w' : World) : Prop where
  ex : ∃ s g1 g2, e = .returned (anV x s) ∧ AnOwn base w' x s g1 g2

def anC (x : Ans) (s : Sls) : List Value := [.int .i64 x.err, .int .i64 x.bk.i, .int .i64 x.bk.g, .int .i64 x.bk.l, .slice s.a1 x.names.length s.c1, .string x.path, .bool x.dir, .int .i64 x.quota, .slice s.a2 x.blocks.length s.c2, .int .i64 x.writer, .int .i64 x.n]
def zeroC : List Value := [.int .i64 0, .int .i64 0, .int .i64 0, .int .i64 0, .slice none 0 0, .string ByteArray.empty, .bool false, .int .i64 0, .slice none 0 0, .int .i64 0, .int .i64 0]

set_option maxRecDepth 100000 in
set_option maxHeartbeats 4000000 in
theorem copied_val {O : Nat → Prop} {w : World} {x : Ans} {s : Sls} (h : AnIn O w x s) :
    Calls Try.prog 16 #[anV x s] w fun e w' => AnsR w.heap.size x e w' ∧ Below w.heap.size w w' := by
  have HA : Hid (∀ n, n = x.names.length → ∀ W, Below w.heap.size w W → Calls Try.prog 28 #[.slice s.a1 n s.c1] W fun e w' => RowR strC 1 W.heap.size x.names e w' ∧ Below W.heap.size W w') := fun n hn W hb => fresh_s (h.one.below hb) h.m1 n s.c1 hn.symm
  have HB : Hid (∀ n, n = x.blocks.length → ∀ W, Below w.heap.size w W → Calls Try.prog 29 #[.slice s.a2 n s.c2] W fun e w' => RowR bkC 3 W.heap.size x.blocks e w' ∧ Below W.heap.size W w') := fun n hn W hb => fresh_b (h.two.below hb) h.m2 n s.c2 hn.symm
  have M1 : Hid (x.names.length * 16 ≤ 140737488355328) := h.m1
  have M2 : Hid (x.blocks.length * 24 ≤ 140737488355328) := h.m2
  clear h
  obtain ⟨err, ⟨b1, b2, b3⟩, names, path, dir, quota, blocks, writer, nn⟩ := x
  obtain ⟨a1, c1, a2, c2⟩ := s
  simp only at HA HB M1 M2
  obtain ⟨n1, hn1⟩ : ∃ n1, n1 = names.length := ⟨_, rfl⟩
  obtain ⟨n2, hn2⟩ : ∃ n2, n2 = blocks.length := ⟨_, rfl⟩
  have N1 : Hid (n1 = names.length) := hn1
  have N2 : Hid (n2 = blocks.length) := hn2
  unfold anV
  simp only
  rw [← hn1, ← hn2]
  have KA : Hid (Cells ((w.alloc (.cells #[.int .i64 err, .int .i64 b1, .int .i64 b2, .int .i64 b3, .slice a1 n1 c1, .string path, .bool dir, .int .i64 quota, .slice a2 n2 c2, .int .i64 writer, .int .i64 nn] 41)).alloc (.cells zeroC.toArray 41)) w.heap.size [.int .i64 err, .int .i64 b1, .int .i64 b2, .int .i64 b3, .slice a1 n1 c1, .string path, .bool dir, .int .i64 quota, .slice a2 n2 c2, .int .i64 writer, .int .i64 nn]) := (Cells.new w 41 _).below (bel_al _ _)
  have KR : Hid (Cells ((w.alloc (.cells #[.int .i64 err, .int .i64 b1, .int .i64 b2, .int .i64 b3, .slice a1 n1 c1, .string path, .bool dir, .int .i64 quota, .slice a2 n2 c2, .int .i64 writer, .int .i64 nn] 41)).alloc (.cells zeroC.toArray 41)) (w.heap.size + 1) zeroC) := by
    have := Cells.new (w.alloc (.cells #[.int .i64 err, .int .i64 b1, .int .i64 b2, .int .i64 b3, .slice a1 n1 c1, .string path, .bool dir, .int .i64 quota, .slice a2 n2 c2, .int .i64 writer, .int .i64 nn] 41)) 41 zeroC
    rw [show (w.alloc (.cells #[.int .i64 err, .int .i64 b1, .int .i64 b2, .int .i64 b3, .slice a1 n1 c1, .string path, .bool dir, .int .i64 quota, .slice a2 n2 c2, .int .i64 writer, .int .i64 nn] 41)).heap.size = w.heap.size + 1 by simp] at this
    exact this
  have hst2 : ∀ (w : World) (a : Addr) (x : Option Addr) (n c : Nat) (m : Mode), (store a (.slice x n c) m).run Try.prog w = stored Try.prog w a (.slice x n c) m := fun w a x n c m => run_store Try.prog w a _ m rfl
  clear hn1 hn2
  go_enter Try.func16, Try.ntmps16
  go_wp2_with fail
  refine (HA.out n1 N1.out _ (bel_tr (bel_al _ _) (bel_al _ _))).mono ?_
  rintro e w1 ⟨⟨sa, sc, sg, rfl, hC⟩, c1⟩
  have KA1 := KA.out.below c1
  have HKA : Hid _ := KA1
  have HKR : Hid _ := KR.out.below c1
  have HB1 : Hid (Below w.heap.size w w1) := bel_tr (bel_tr (bel_al _ _) (bel_al _ _)) c1
  have HC1 : Hid (Cel (fun k => w.heap.size + 2 ≤ k) w1 1 (.slice sa names.length sc) names.length (rowC strC names) sg) := by
    have := hC.stay (O2 := fun k => w.heap.size + 2 ≤ k) (Nat.le_refl _) (fun _ _ => rfl) (fun k hk => by simpa using hk)
    exact this
  have q0 := KA1.val 0 _ rfl
  have q1 := KA1.val 1 _ rfl
  have q2 := KA1.val 2 _ rfl
  have q3 := KA1.val 3 _ rfl
  have q4 := KA1.val 4 _ rfl
  have q5 := KA1.val 5 _ rfl
  have q6 := KA1.val 6 _ rfl
  have q7 := KA1.val 7 _ rfl
  have q8 := KA1.val 8 _ rfl
  have q9 := KA1.val 9 _ rfl
  have q10 := KA1.val 10 _ rfl
  have f4 := KA1.fr 4
  clear KA KR hC c1 KA1
  go_wp2_with fail
  have HB2 : Hid (Below w.heap.size w (w1.setCell ⟨w.heap.size, 4, none⟩ (.slice sa names.length sc))) := HB1.out.setCell (p := ⟨w.heap.size, 4, none⟩) (Nat.le_refl _) _
  refine (HB.out n2 N2.out _ HB2.out).mono ?_
  rintro e w2 ⟨⟨ta, tc, tg, rfl, hD⟩, c2⟩
  have KA2 := (HKA.out.set 4 (.slice sa names.length sc) (by simp)).below c2
  simp only [List.set_cons_succ, List.set_cons_zero] at KA2
  have KR2 := (HKR.out.stay (Stay.setCell (O := fun k => k = w.heap.size) w1 ⟨w.heap.size, 4, none⟩ (.slice sa names.length sc) rfl) (by simp)).below c2
  unfold zeroC at KR2
  have HB3 : Hid (Below w.heap.size w w2) := bel_tr HB2.out c2
  have hCn := (HC1.out.setOut ⟨w.heap.size, 4, none⟩ (.slice sa names.length sc) (fun e => by have h := HC1.out; rw [e] at h; have h2 : w.heap.size + 2 ≤ w.heap.size := h.lt.2; omega)).below c2
  have HC2 : Hid (Cel (fun k => w.heap.size + 2 ≤ k) w2 1 (.slice sa names.length sc) names.length (rowC strC names) sg) := hCn
  have HD2 : Hid (Cel (fun k => w.heap.size + 2 ≤ k) w2 3 (.slice ta blocks.length tc) blocks.length (rowC bkC blocks) tg) := hD.stay (Nat.le_refl _) (fun _ _ => rfl) (fun k hk => by have h1 : (w1.setCell ⟨w.heap.size, 4, none⟩ (.slice sa names.length sc)).heap.size ≤ k := hk; have h2 := HKR.out.lt; simp [World.setCell] at h1; omega)
  have KRH : Hid _ := KR2
  clear q0 q1 q2 q3 q4 q5 q6 q7 q8 q9 q10 f4 hCn hD c2 HC1 HKA HKR HA HB HB2
  have q0 := KA2.val 0 _ rfl
  have q1 := KA2.val 1 _ rfl
  have q2 := KA2.val 2 _ rfl
  have q3 := KA2.val 3 _ rfl
  have q4 := KA2.val 4 _ rfl
  have q5 := KA2.val 5 _ rfl
  have q6 := KA2.val 6 _ rfl
  have q7 := KA2.val 7 _ rfl
  have q8 := KA2.val 8 _ rfl
  have q9 := KA2.val 9 _ rfl
  have q10 := KA2.val 10 _ rfl
  have r0 := KR2.val 0 _ rfl
  have r1 := KR2.val 1 _ rfl
  have r2 := KR2.val 2 _ rfl
  have r3 := KR2.val 3 _ rfl
  have r4 := KR2.val 4 _ rfl
  have r5 := KR2.val 5 _ rfl
  have r6 := KR2.val 6 _ rfl
  have r7 := KR2.val 7 _ rfl
  have r8 := KR2.val 8 _ rfl
  have r9 := KR2.val 9 _ rfl
  have r10 := KR2.val 10 _ rfl
  have f8 := KA2.fr 8
  have g0 := KR2.fr 0
  have g1 := KR2.fr 1
  have g2 := KR2.fr 2
  have g3 := KR2.fr 3
  have g4 := KR2.fr 4
  have g5 := KR2.fr 5
  have g6 := KR2.fr 6
  have g7 := KR2.fr 7
  have g8 := KR2.fr 8
  have g9 := KR2.fr 9
  have g10 := KR2.fr 10
  clear KA2 KR2
  obtain ⟨WF, hWF⟩ : ∃ WF, (w2.setCell ⟨w.heap.size, 8, none⟩ (.slice ta blocks.length tc)).setCells (w.heap.size + 1) 0 [.int .i64 err, .int .i64 b1, .int .i64 b2, .int .i64 b3, .slice sa names.length sc, .string path, .bool dir, .int .i64 quota, .slice ta blocks.length tc, .int .i64 writer, .int .i64 nn] = WF := ⟨_, rfl⟩
  have KF : Hid (Cells WF (w.heap.size + 1) [.int .i64 err, .int .i64 b1, .int .i64 b2, .int .i64 b3, .slice sa names.length sc, .string path, .bool dir, .int .i64 quota, .slice ta blocks.length tc, .int .i64 writer, .int .i64 nn]) := by
    rw [← hWF]
    exact (KRH.out.stay (Stay.setCell (O := fun k => k = w.heap.size) w2 ⟨w.heap.size, 8, none⟩ (.slice ta blocks.length tc) rfl) (by simp)).puts _ rfl
  have SF : Hid (Stay (fun k => k = w.heap.size ∨ k = w.heap.size + 1) w2 WF) := by
    rw [← hWF]
    exact (Stay.setCell (O := fun k => k = w.heap.size ∨ k = w.heap.size + 1) w2 ⟨w.heap.size, 8, none⟩ (.slice ta blocks.length tc) (.inl rfl)).then_same (Stay.setCells (O := fun k => k = w.heap.size ∨ k = w.heap.size + 1) (w.heap.size + 1) 0 _ _ (.inr rfl))
  simp only [World.setCells] at hWF
  have HWF : Hid _ := hWF
  clear hWF
  go_wp2
  rw [HWF.out]
  clear q0 q1 q2 q3 q4 q5 q6 q7 q8 q9 q10 r0 r1 r2 r3 r4 r5 r6 r7 r8 r9 r10 f8 g0 g1 g2 g3 g4 g5 g6 g7 g8 g9 g10
  have KF2 := KF.out
  have r0 := KF2.val 0 _ rfl
  have r1 := KF2.val 1 _ rfl
  have r2 := KF2.val 2 _ rfl
  have r3 := KF2.val 3 _ rfl
  have r4 := KF2.val 4 _ rfl
  have r5 := KF2.val 5 _ rfl
  have r6 := KF2.val 6 _ rfl
  have r7 := KF2.val 7 _ rfl
  have r8 := KF2.val 8 _ rfl
  have r9 := KF2.val 9 _ rfl
  have r10 := KF2.val 10 _ rfl
  clear KF2
  have e1 := HC2.out.stay (O2 := fun k => w.heap.size ≤ k) SF.out.size (fun k hk => SF.out.block k (by have h := HC2.out; rw [hk] at h; exact h.lt.1) (by have h := HC2.out; rw [hk] at h; have := h.lt.2; omega)) (fun k hk => by omega)
  have e2 := HD2.out.stay (O2 := fun k => w.heap.size ≤ k) SF.out.size (fun k hk => SF.out.block k (by have h := HD2.out; rw [hk] at h; exact h.lt.1) (by have h := HD2.out; rw [hk] at h; have := h.lt.2; omega)) (fun k hk => by omega)
  exact bodyPost_ret (v := anV ⟨err, ⟨b1, b2, b3⟩, names, path, dir, quota, blocks, writer, nn⟩ ⟨sa, sc, ta, tc⟩) (by simp [results, anV, Try.results16, go_sem, r0, r1, r2, r3, r4, r5, r6, r7, r8, r9, r10]) rfl ⟨⟨⟨sa, sc, ta, tc⟩, sg, tg, rfl, ⟨e1, e2, M1.out, M2.out⟩⟩, HB3.out.trans (SF.out.below HB3.out.size (fun k hk => by omega))⟩

set_option maxRecDepth 100000 in
set_option maxHeartbeats 1000000 in
theorem new_val (w : World) : Calls Try.prog 5 #[] w fun e w' => e = .returned (.pointer (some ⟨w.heap.size + 1, 0, none⟩)) ∧ CAt (fun k => k = w.heap.size ∨ k = w.heap.size + 1) w' (w.heap.size + 1) w.heap.size [] 0 ∧ Below w.heap.size w w' := by
  have hmm := @run_makeMap Try.prog
  go_enter Try.func5, Try.ntmps5
  go_wp2
  go_ret
  refine ⟨rfl, ?_, bel_tr (bel_al _ _) (bel_al _ _)⟩
  have ho : (w.alloc (.map #[] 0)).ownsMap Try.prog 61 rv w.heap.size 0 (.map []) := World.ownsMap_made w _ _ _
  have K := Cells.new (w.alloc (.map #[] 0)) 57 [.map (some w.heap.size), .int .i64 0]
  rw [show (w.alloc (.map #[] 0)).heap.size = w.heap.size + 1 by simp] at K
  exact { lt := fun k hk => (by simp; omega), oC := .inr rfl, oM := .inl rfl, ne := by omega, c0 := K.val 0 _ rfl, c1 := K.val 1 _ rfl, f1 := K.fr 1, own := ⟨_, ho.alloc _, tells_nil⟩, good := ⟨List.Pairwise.nil, fun e he => (by cases he)⟩, most := by simp, old := List.Pairwise.nil, top := fun e he => (by cases he), rows := fun e he => (by cases he) }

set_option maxRecDepth 100000 in
set_option maxHeartbeats 1000000 in
theorem len_val {O : Nat → Prop} {w : World} {cb mb : Nat} {S : List Ent} {t : Nat} (h : CAt O w cb mb S t) (n : Nat) (hn : S.length = n) :
    Calls Try.prog 14 #[.pointer (some ⟨cb, 0, none⟩)] w fun e w' => e = .returned (.int .i64 (n : Int)) ∧ w' = w := by
  have c0 := h.c0
  obtain ⟨D, ho, hT⟩ := h.own
  have hs := hT.size
  rw [hn] at hs
  clear h hT hn
  go_enter Try.func14, Try.ntmps14
  go_wp2_with (at_len; refine wpList_len_own _ rfl _ 55 rfl 61 63 Try.underlying55 rv mb _ D rfl ho ?_; rw [hs])
  go_ret
  exact ⟨rfl, rfl⟩

end Go.Proofs.Ythogpaojdlfjcaa.Rty
