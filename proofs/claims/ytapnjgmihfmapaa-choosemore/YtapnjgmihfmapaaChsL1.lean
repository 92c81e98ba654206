/- The contracts of law16.long, examples. -/
import Derived.Test.YtapnjgmihfmapaaChsF5
namespace Go.Proofs.Ytapnjgmihfmapaa.Chs
open Go.RowKit Go.Proofs.Ytapnjgmihfmapaa Go.Proofs.Ytapnjgmihfmapaa.Lgg
set_option linter.unusedVariables false

theorem cell_set {w : World} {p j k : Nat} {v u : Value} (hne : j ≠ k) (h : w.cell? ⟨p, j, none⟩ = some u) : (w.setCell ⟨p, k, none⟩ v).cell? ⟨p, j, none⟩ = some u := by
  rw [World.cell?_setCell_other]
  · exact h
  · intro e
    exact hne (Addr.mk.inj e).2.1.symm
theorem two_set {w : World} {R : Nat} {u v u' v' : Value} (h0 : w.cell? ⟨R, 0, none⟩ = some u) (h1 : w.cell? ⟨R, 1, none⟩ = some v) : ((w.setCell ⟨R, 0, none⟩ u').setCell ⟨R, 1, none⟩ v').cell? ⟨R, 0, none⟩ = some u' ∧ ((w.setCell ⟨R, 0, none⟩ u').setCell ⟨R, 1, none⟩ v').cell? ⟨R, 1, none⟩ = some v' :=
  ⟨cell_set (by omega) (World.cell?_setCell_same _ _ _ h0), World.cell?_setCell_same _ _ _ (cell_set (by omega) h1)⟩
theorem other {w : World} {p q i j : Nat} {x y : Value} (hne : p ≠ q) (h : w.cell? ⟨p, i, none⟩ = some x) : (w.setCell ⟨q, j, none⟩ y).cell? ⟨p, i, none⟩ = some x := by
  rw [World.cell?_setCell_other _ _ _ _ (by intro e; injection e with e1; exact hne (by omega))]; exact h
theorem size_set (w : World) (a : Addr) (x : Value) : (w.setCell a x).heap.size = w.heap.size := by simp [World.setCell]

/-- The two boxes. -/
structure Ob (W : World) (rb lb : Nat) (n : Int) (s : Value) : Prop where
  c0 : W.cell? ⟨lb, 0, none⟩ = some (.int .i64 n)
  c1 : W.cell? ⟨lb, 1, none⟩ = some s
  d0 : W.cell? ⟨rb, 0, none⟩ = some (.int .i64 0)
  d1 : W.cell? ⟨rb, 1, none⟩ = some (.slice none 0 0)
  f0 : ∀ j, W.frozen? ⟨lb, j, none⟩ = false
  f1 : ∀ j, W.frozen? ⟨rb, j, none⟩ = false
  lt : rb < lb ∧ lb < W.heap.size
theorem Ob.stay {W W' : World} {rb lb : Nat} {n : Int} {s : Value} {O : Nat → Prop} (h : Ob W rb lb n s) (hs : Stay O W W') (hO : ∀ k, O k → lb < k) : Ob W' rb lb n s := by
  obtain ⟨l1, l2⟩ := h.lt
  have k0 := hs.block lb (by omega) (fun e => by have := hO _ e; omega)
  have k1 := hs.block rb (by omega) (fun e => by have := hO _ e; omega)
  exact ⟨(World.cell?_of_block (a := ⟨lb, 0, none⟩) k0).trans h.c0, (World.cell?_of_block (a := ⟨lb, 1, none⟩) k0).trans h.c1, (World.cell?_of_block (a := ⟨rb, 0, none⟩) k1).trans h.d0, (World.cell?_of_block (a := ⟨rb, 1, none⟩) k1).trans h.d1,
    fun j => (World.frozen?_of_block (a := ⟨lb, j, none⟩) k0).trans (h.f0 j), fun j => (World.frozen?_of_block (a := ⟨rb, j, none⟩) k1).trans (h.f1 j), ⟨l1, Nat.lt_of_lt_of_le l2 hs.size⟩⟩
theorem Ob.putS {W : World} {rb lb : Nat} {n : Int} {s : Value} (h : Ob W rb lb n s) (s' : Value) : Ob (W.setCell ⟨lb, 1, none⟩ s') rb lb n s' := by
  obtain ⟨l1, l2⟩ := h.lt
  exact ⟨cell_set (by omega) h.c0, World.cell?_setCell_same _ _ _ h.c1, other (by omega) h.d0, other (by omega) h.d1, fun j => by rw [World.frozen?_setCell]; exact h.f0 j, fun j => by rw [World.frozen?_setCell]; exact h.f1 j, ⟨l1, by rw [size_set]; exact l2⟩⟩

theorem of_app {w wr W w5 : World} {rb lb : Nat} {n : Int} {a a5 : Option Addr} {k c c5 : Nat} {es : List En} {g g5 : Option Nat} {d : ByteArray} {I : Int} (hB : Ob wr rb lb n (.slice a k c)) (hC : Cel (fun z => lb < z) wr 2 (.slice a k c) k (rowC enC es) g) (hb : Below w.heap.size w wr) (hW : Below wr.heap.size wr W) (hC5 : Cel (Grow (fun z => lb < z) W w5) w5 2 (.slice a5 (k + 1) c5) (k + 1) (rowC enC es ++ [.int .i64 I, .string d]) g5) (hS5 : Stay (fun z => g = some z) W w5) (hrb : rb = w.heap.size := by rfl) :
    Ob w5 rb lb n (.slice a k c) ∧ Cel (fun z => lb < z) w5 2 (.slice a5 (k + 1) c5) (k + 1) (rowC enC (es ++ [⟨I, d⟩])) g5 ∧ Below w.heap.size w w5 := by
  have hl := hB.lt
  have hx : ∀ z, g = some z → lb < z := fun z hz => by rw [hz] at hC; exact hC.lt.2
  have h1 := bel_tr hb hW
  have hz := hW.size
  refine ⟨(hB.stay (O := fun _ => False) (Stay.of_below hW) (fun _ e => e.elim)).stay hS5 hx, ?_, h1.trans (hS5.below h1.size (fun z hq => by have := hx z hq; omega))⟩
  rw [rowC_app, rowC_one]
  exact hC5.stay (Nat.le_refl _) (fun _ _ => rfl) (fun z hq => hq.elim id (fun e => by have := e.1; omega))


/-- So many entries, with that text. -/
def longE (X : ByteArray) (n : Nat) : List En := (List.range n).map fun i => ⟨((i + 1 : Nat) : Int), X⟩
theorem long_len (X : ByteArray) (n : Nat) : (longE X n).length = n := by simp [longE]
theorem long_succ (X : ByteArray) (n : Nat) : longE X (n + 1) = longE X n ++ [⟨((n + 1 : Nat) : Int), X⟩] := by simp [longE, List.range_succ]

/-- A log in new memory is told. -/
structure LogR (base : Nat) (ep : Int) (es : List En) (n : Nat) (e : Ending) (w' : World) : Prop where
  ex : ∃ a c g, e = .returned (.agg #[.int .i64 ep, .slice a n c]) ∧ Cel (fun k => base ≤ k) w' 2 (.slice a n c) n (rowC enC es) g

def xT : ByteArray := ⟨#[120]⟩
set_option maxRecDepth 100000 in
set_option maxHeartbeats 4000000 in
theorem long_val (ep : Int) (n : Nat) (hn : n ≤ 100) (w : World) :
    Calls Try.prog 17 #[.int .i64 ep, .int .i64 n] w fun e w' => LogR w.heap.size ep (longE xT n) n e w' ∧ Below w.heap.size w w' := by
  obtain ⟨ti, hi1, hi2, hi3, hi4⟩ := enRow
  have hst2 : ∀ (w : World) (a : Addr) (x : Option Addr) (n c : Nat) (m : Mode), (store a (.slice x n c) m).run Try.prog w = stored Try.prog w a (.slice x n c) m := fun w a x n c m => run_store (P := Try.prog) w a _ m rfl
  go_enter Try.func17, Try.ntmps17
  go_wp2
  have O0 : Hid (Ob ((w.alloc (.cells #[.int .i64 0, .slice none 0 0] 31)).alloc (.cells #[.int .i64 ep, .slice none 0 0] 31)) w.heap.size (w.heap.size + 1) ep (.slice none 0 0) ∧ Below w.heap.size w ((w.alloc (.cells #[.int .i64 0, .slice none 0 0] 31)).alloc (.cells #[.int .i64 ep, .slice none 0 0] 31))) := by
    have hz : (w.alloc (.cells #[.int .i64 0, .slice none 0 0] 31)).heap.size = w.heap.size + 1 := by simp
    have al2 := bel_al (w.alloc (.cells #[.int .i64 0, .slice none 0 0] 31)) (.cells #[.int .i64 ep, .slice none 0 0] 31)
    have b0 := World.cell?_alloc_new (w.alloc (.cells #[.int .i64 0, .slice none 0 0] 31)) #[.int .i64 ep, .slice none 0 0] 31 0
    have b1 := World.cell?_alloc_new (w.alloc (.cells #[.int .i64 0, .slice none 0 0] 31)) #[.int .i64 ep, .slice none 0 0] 31 1
    have b2 := World.frozen?_alloc_new (w.alloc (.cells #[.int .i64 0, .slice none 0 0] 31)) #[.int .i64 ep, .slice none 0 0] 31
    rw [hz] at b0 b1 b2
    refine ⟨⟨b0, b1, bel_cell al2 (World.cell?_alloc_new w _ _ 0), bel_cell al2 (World.cell?_alloc_new w _ _ 1), b2, fun j => (World.frozen?_of_block (a := ⟨w.heap.size, j, none⟩) (al2.block w.heap.size (by simp))).trans (World.frozen?_alloc_new w _ _ j), ⟨by omega, by simp⟩⟩, bel_tr (bel_al _ _) al2⟩
  generalize ((w.alloc (.cells #[.int .i64 0, .slice none 0 0] 31)).alloc (.cells #[.int .i64 ep, .slice none 0 0] 31)) = W0 at *
  go_loopw [6] (fun v wr => ∃ (k : Nat) (a : Option Addr) (c : Nat) (g : Option Nat), k ≤ n ∧ v = .int .i64 k ∧ Hid (Ob wr w.heap.size (w.heap.size + 1) ep (.slice a k c) ∧ Cel (fun z => w.heap.size + 1 < z) wr 2 (.slice a k c) k (rowC enC (longE xT k)) g ∧ Below w.heap.size w wr)) (fun v _ => n - (intOf v).toNat)
  case atStart => exact ⟨0, none, 0, none, by omega, rfl, ⟨O0.out.1, .nil rfl rfl rfl, O0.out.2⟩⟩
  case round =>
    obtain ⟨k, a, c, g, hk1, rfl, hI⟩ := hrel
    have HI : Hid (Ob wr w.heap.size (w.heap.size + 1) ep (.slice a k c) ∧ Cel (fun z => w.heap.size + 1 < z) wr 2 (.slice a k c) k (rowC enC (longE xT k)) g ∧ Below w.heap.size w wr) := hI
    clear hI O0
    have c1 := HI.out.1.c1
    by_cases hlt : k < n
    · have HNX := long_succ xT k
      have HNX2 : Hid _ := HNX
      have CW : Hid (∀ W, Below wr.heap.size wr W → Cel (fun z => w.heap.size + 1 < z) W 2 (.slice a k c) k (rowC enC (longE xT k)) g) := fun W hb => HI.out.2.1.below hb
      have SW : Hid (Src Try.prog 2 24 (.slice (some ⟨wr.heap.size, 0, none⟩) 1 1) 1 [.int .i64 ((k : Int) + 1), .string xT] (wr.alloc (.cells #[.int .i64 ((k : Int) + 1), .string xT] 28))) := by
        refine Src.ofSlice _ Try.underlying24 ⟨wr.heap.size, 0, none⟩ 1 1 _ (by rfl) (fun j u hu => ?_) (fun u hu => wideN.one (⟨(k : Int) + 1, xT⟩ : En) u hu)
        rw [Addr.add_lit, Nat.zero_add]
        rw [World.cell?_alloc_new wr _ _ j]
        simpa using hu
      clear HNX
      go_wp2_with (at_builtin; refine wpList_append_cel _ rfl _ _ 24 24 rfl 28 ti _ 2 24 Try.underlying24 hi1 hi2 hi3 hi4 rfl (O := fun z => w.heap.size + 1 < z) _ k _ g rfl (CW.out _ (bel_al _ _)) _ 1 [.int .i64 ((k : Int) + 1), .string xT] rfl SW.out (by unfold maxLen; omega) (by omega) ?_; intro a5 c5 w5 g5 hC5 hS5 hg5; have H5 : Hid (Ob w5 w.heap.size (w.heap.size + 1) ep (.slice a k c) ∧ Cel (fun z => w.heap.size + 1 < z) w5 2 (.slice a5 (k + 1) c5) (k + 1) (rowC enC (longE xT k ++ [⟨(k : Int) + 1, xT⟩])) g5 ∧ Below w.heap.size w w5) := of_app HI.out.1 HI.out.2.1 HI.out.2.2 (bel_al _ _) hC5 hS5; clear hC5 hS5 hg5; have y1 := H5.out.1.c1; have f1 := H5.out.1.f0 1)
      go_roundw
      case rel =>
        refine ⟨k + 1, a5, c5, g5, by omega, by go_num, ⟨H5.out.1.putS _, ?_, Below.setCell H5.out.2.2 (Nat.le_succ _) _⟩⟩
        rw [HNX2.out]
        refine Cel.setOut ?_ _ _ (fun e => ?_)
        · rw [show ((k + 1 : Nat) : Int) = (k : Int) + 1 by omega]; exact H5.out.2.1
        · have h8 := H5.out.2.1
          rw [e] at h8
          have h9 : w.heap.size + 1 < w.heap.size + 1 := h8.lt.2
          omega
      case measure => simp [intOf]; omega
    · obtain rfl : k = n := by omega
      have c0 := HI.out.1.c0
      have d0 := HI.out.1.d0
      have d1 := HI.out.1.d1
      have g0 := HI.out.1.f1 0
      have g1 := HI.out.1.f1 1
      obtain ⟨z0, z1⟩ := two_set (u' := .int .i64 ep) (v' := .slice a k c) d0 d1
      have HF : Hid (LogR w.heap.size ep (longE xT k) k (.returned (.agg #[.int .i64 ep, .slice a k c])) ((wr.setCell ⟨w.heap.size, 0, none⟩ (.int .i64 ep)).setCell ⟨w.heap.size, 1, none⟩ (.slice a k c)) ∧ Below w.heap.size w ((wr.setCell ⟨w.heap.size, 0, none⟩ (.int .i64 ep)).setCell ⟨w.heap.size, 1, none⟩ (.slice a k c))) := by
        have hC := HI.out.2.1
        have hne : ∀ z, g = some z → z ≠ w.heap.size := fun z hz => by rw [hz] at hC; have h9 : w.heap.size + 1 < z := hC.lt.2; omega
        refine ⟨⟨a, c, g, rfl, ?_⟩, Below.setCell (Below.setCell HI.out.2.2 (Nat.le_refl _) _) (Nat.le_refl _) _⟩
        have h8 := (hC.setOut ⟨w.heap.size, 0, none⟩ (.int .i64 ep) (fun e => hne _ e rfl)).setOut ⟨w.heap.size, 1, none⟩ (.slice a k c) (fun e => hne _ e rfl)
        exact h8.stay (Nat.le_refl _) (fun _ _ => rfl) (fun z hz => by have h9 : w.heap.size + 1 < z := hz; omega)
      clear HI hlt
      go_wp2
      refine bodyPost_ret (v := .agg #[.int .i64 ep, .slice a k c]) ?_ rfl HF.out
      simp only [results, Try.results17]
      simp [go_sem, z0, z1]

end Go.Proofs.Ytapnjgmihfmapaa.Chs
