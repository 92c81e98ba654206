/- The contract of log.Load. -/
import Derived.Test.YtokldcifhjkmnaaLogH
import Derived.Deep.AppendSrc
namespace Go.Proofs.Ytokldcifhjkmnaa.Lgg
open Go.RowKit Go.Proofs.Ytokldcifhjkmnaa
set_option linter.unusedVariables false

/-- Load's boxes: the log, what is left, an entry. -/
structure Bx (W : World) (lb lf xb : Nat) (n : Int) (s : Value) (b : ByteArray) (u v : Value) : Prop where
  c0 : W.cell? ⟨lb, 0, none⟩ = some (.int .i64 n)
  c1 : W.cell? ⟨lb, 1, none⟩ = some s
  c2 : W.cell? ⟨lf, 0, none⟩ = some (.string b)
  c3 : W.cell? ⟨xb, 0, none⟩ = some u
  c4 : W.cell? ⟨xb, 1, none⟩ = some v
  f0 : ∀ j, W.frozen? ⟨lb, j, none⟩ = false
  f2 : W.frozen? ⟨lf, 0, none⟩ = false
  f3 : ∀ j, W.frozen? ⟨xb, j, none⟩ = false
  lt : lb < lf ∧ lf < xb ∧ xb < W.heap.size

section
variable {W W' : World} {lb lf xb : Nat} {n : Int} {s : Value} {b : ByteArray} {u v : Value}
theorem Bx.stay {O : Nat → Prop} (h : Bx W lb lf xb n s b u v) (hs : Stay O W W') (hO : ∀ k, O k → xb < k) : Bx W' lb lf xb n s b u v := by
  obtain ⟨l1, l2, l3⟩ := h.lt
  have k0 := hs.block lb (by omega) (fun e => by have := hO _ e; omega)
  have k1 := hs.block lf (by omega) (fun e => by have := hO _ e; omega)
  have k2 := hs.block xb (by omega) (fun e => by have := hO _ e; omega)
  exact ⟨(World.cell?_of_block (a := ⟨lb, 0, none⟩) k0).trans h.c0, (World.cell?_of_block (a := ⟨lb, 1, none⟩) k0).trans h.c1, (World.cell?_of_block (a := ⟨lf, 0, none⟩) k1).trans h.c2, (World.cell?_of_block (a := ⟨xb, 0, none⟩) k2).trans h.c3, (World.cell?_of_block (a := ⟨xb, 1, none⟩) k2).trans h.c4,
    fun j => (World.frozen?_of_block (a := ⟨lb, j, none⟩) k0).trans (h.f0 j), (World.frozen?_of_block (a := ⟨lf, 0, none⟩) k1).trans h.f2, fun j => (World.frozen?_of_block (a := ⟨xb, j, none⟩) k2).trans (h.f3 j), ⟨l1, l2, Nat.lt_of_lt_of_le l3 hs.size⟩⟩
theorem Bx.below (h : Bx W lb lf xb n s b u v) (hb : Below W.heap.size W W') : Bx W' lb lf xb n s b u v := h.stay (O := fun _ => False) (Stay.of_below hb) (fun _ e => e.elim)
theorem other {w : World} {p q i j : Nat} {x y : Value} (hne : p ≠ q) (h : w.cell? ⟨p, i, none⟩ = some x) : (w.setCell ⟨q, j, none⟩ y).cell? ⟨p, i, none⟩ = some x := by
  rw [World.cell?_setCell_other _ _ _ _ (by intro e; injection e with e1; exact hne (by omega))]; exact h
theorem size_set (w : World) (a : Addr) (x : Value) : (w.setCell a x).heap.size = w.heap.size := by simp [World.setCell]
/-- What the second closure writes. -/
theorem Bx.taken (h : Bx W lb lf xb n s b u v) (u' v' : Value) (r : ByteArray) : Bx (((W.setCell ⟨xb, 0, none⟩ u').setCell ⟨xb, 1, none⟩ v').setCell ⟨lf, 0, none⟩ (.string r)) lb lf xb n s r u' v' := by
  obtain ⟨l1, l2, l3⟩ := h.lt
  obtain ⟨y0, y1⟩ := two_set (u' := u') (v' := v') h.c3 h.c4
  refine ⟨other (by omega) (other (by omega) (other (by omega) h.c0)), other (by omega) (other (by omega) (other (by omega) h.c1)), World.cell?_setCell_same _ _ _ (other (by omega) (other (by omega) h.c2)), other (by omega) y0, other (by omega) y1, fun j => ?_, ?_, fun j => ?_, ⟨l1, l2, by rw [size_set, size_set, size_set]; exact l3⟩⟩
  · rw [World.frozen?_setCell, World.frozen?_setCell, World.frozen?_setCell]; exact h.f0 j
  · rw [World.frozen?_setCell, World.frozen?_setCell, World.frozen?_setCell]; exact h.f2
  · rw [World.frozen?_setCell, World.frozen?_setCell, World.frozen?_setCell]; exact h.f3 j
/-- The entries are others. -/
theorem Bx.putS (h : Bx W lb lf xb n s b u v) (s' : Value) : Bx (W.setCell ⟨lb, 1, none⟩ s') lb lf xb n s' b u v := by
  obtain ⟨l1, l2, l3⟩ := h.lt
  refine ⟨cell_set (by omega) h.c0, World.cell?_setCell_same _ _ _ h.c1, other (by omega) h.c2, other (by omega) h.c3, other (by omega) h.c4, fun j => ?_, ?_, fun j => ?_, ⟨l1, l2, by rw [size_set]; exact l3⟩⟩
  · rw [World.frozen?_setCell]; exact h.f0 j
  · rw [World.frozen?_setCell]; exact h.f2
  · rw [World.frozen?_setCell]; exact h.f3 j
end

theorem stay_set (w : World) (p j : Nat) (x : Value) : Stay (fun k => k = p) w (w.setCell ⟨p, j, none⟩ x) := Stay.setCell w ⟨p, j, none⟩ x rfl
theorem info_e : ∃ j, Try.prog.info? 49 = some j ∧ j.zero = some (.agg #[.int .i64 0, .string ⟨#[]⟩]) ∧ j.size = 2 ∧ j.bytes = 24 :=
  info_parts (show (Try.prog.info? 49).map (fun i => (i.zero, i.size, i.bytes)) = some (some (.agg #[.int .i64 0, .string ⟨#[]⟩]), 2, 24) by kernel_rfl)

theorem goL_len : ∀ (f : Nat) (es : List En) (b : ByteArray), (goL f es b).1.length ≤ es.length + f
  | 0, es, b => by unfold goL; simp
  | f + 1, es, b => by
    unfold goL
    split
    · rename_i d r _
      have := goL_len f (es ++ [⟨((es.length + 1 : Nat) : Int), d⟩]) r
      simp at this
      simp; omega
    · simp
theorem entryP_size {b d r : ByteArray} {i : Int} (h : entryP b i = some (d, r)) : d.size ≤ 600 ∧ r.size ≤ b.size := by
  unfold entryP at h
  split at h
  · rename_i n d' r' hP
    split at h
    · rename_i hc
      cases h
      exact ⟨hc.2, (takeP_size hP).2⟩
    · cases h
  · cases h
theorem epochP_size {b r : ByteArray} {i : Int} (h : epochP b = some (i, r)) : r.size ≤ b.size := by
  unfold epochP at h
  split at h
  · rename_i n d' r' hP
    split at h
    · cases h
      exact (takeP_size hP).2
    · cases h
  · cases h

/-- How Load ends: a log in new memory. -/
structure LoadR (base : Nat) (l : Lg) (whole : Bool) (e : Ending) (w' : World) : Prop where
  ex : ∃ a c g, e = .returned (.tuple #[.agg #[.int .i64 l.ep, .slice a l.es.length c], .bool whole, .int .i64 0]) ∧ Cel (fun k => base ≤ k) w' 2 (.slice a l.es.length c) l.es.length (rowC enC l.es) g

/-- What the loop keeps. -/
structure Lp (w : World) (W : World) (lb lf xb : Nat) (n : Int) (es : List En) (k : Nat) (b : ByteArray) (tot : List En × ByteArray) : Prop where
  ex : ∃ a c g u v, Bx W lb lf xb n (.slice a k c) b u v ∧ Cel (fun q => xb < q) W 2 (.slice a k c) k (rowC enC es) g
  len : es.length = k
  le : k ≤ 300
  bel : Below w.heap.size w W
  go : goL (300 - k) es b = tot
  bm : b.size ≤ maxLen

theorem fin_w {w W : World} {lb lf xb : Nat} {n : Int} {a : Option Addr} {k c : Nat} {es : List En} {g : Option Nat} (h0 : W.cell? ⟨lb, 0, none⟩ = some (.int .i64 n)) (h1 : W.cell? ⟨lb, 1, none⟩ = some (.slice a k c)) (hC : Cel (fun q => xb < q) W 2 (.slice a k c) k (rowC enC es) g) (hl : lb < lf ∧ lf < xb ∧ xb < W.heap.size) (hb : Below w.heap.size w W) (hlb : lb = w.heap.size := by rfl) :
    ((W.setCell ⟨lb, 0, none⟩ (.int .i64 n)).setCell ⟨lb, 1, none⟩ (.slice a k c)).drew.cell? ⟨lb, 0, none⟩ = some (.int .i64 n) ∧ ((W.setCell ⟨lb, 0, none⟩ (.int .i64 n)).setCell ⟨lb, 1, none⟩ (.slice a k c)).drew.cell? ⟨lb, 1, none⟩ = some (.slice a k c) ∧ Cel (fun q => w.heap.size ≤ q) ((W.setCell ⟨lb, 0, none⟩ (.int .i64 n)).setCell ⟨lb, 1, none⟩ (.slice a k c)).drew 2 (.slice a k c) k (rowC enC es) g ∧ Below w.heap.size w ((W.setCell ⟨lb, 0, none⟩ (.int .i64 n)).setCell ⟨lb, 1, none⟩ (.slice a k c)).drew := by
  obtain ⟨z0, z1⟩ := two_set (u' := .int .i64 n) (v' := .slice a k c) h0 h1
  have hs : Stay (fun q => q = lb) W ((W.setCell ⟨lb, 0, none⟩ (.int .i64 n)).setCell ⟨lb, 1, none⟩ (.slice a k c)).drew := ((stay_set W lb 0 _).then_same (stay_set _ lb 1 _)).drew
  refine ⟨z0, z1, hC.stay hs.size (fun q hq => hs.block q (by rw [hq] at hC; exact hC.lt.1) (fun e => by rw [hq] at hC; have h9 : xb < q := hC.lt.2; omega)) (fun q hq => by have h9 : xb < q := hq; omega), hb.trans (hs.below hb.size (fun q hq => by omega))⟩
theorem taken_w {w wr w6 : World} {lb lf xb : Nat} {n : Int} {a : Option Addr} {k c : Nat} {es : List En} {g : Option Nat} {b : ByteArray} {u v : Value} (hB : Bx wr lb lf xb n (.slice a k c) b u v) (hC : Cel (fun q => xb < q) wr 2 (.slice a k c) k (rowC enC es) g) (hb : Below w.heap.size w wr) (k1 : Below wr.heap.size wr w6) (k2 : wr.heap.size < w6.heap.size) (u' v' : Value) (r : ByteArray) (hlb : lb = w.heap.size := by rfl) :
    Bx ((((w6.setCell ⟨xb, 0, none⟩ u').setCell ⟨xb, 1, none⟩ v').setCell ⟨lf, 0, none⟩ (.string r)).setCell ⟨wr.heap.size, 0, none⟩ (.bool true)) lb lf xb n (.slice a k c) r u' v' ∧ Cel (fun q => xb < q) ((((w6.setCell ⟨xb, 0, none⟩ u').setCell ⟨xb, 1, none⟩ v').setCell ⟨lf, 0, none⟩ (.string r)).setCell ⟨wr.heap.size, 0, none⟩ (.bool true)) 2 (.slice a k c) k (rowC enC es) g ∧ Below w.heap.size w ((((w6.setCell ⟨xb, 0, none⟩ u').setCell ⟨xb, 1, none⟩ v').setCell ⟨lf, 0, none⟩ (.string r)).setCell ⟨wr.heap.size, 0, none⟩ (.bool true)) := by
  have hl := hB.lt
  have h1 := (hB.below k1).taken u' v' r
  have h2 : Stay (fun q => q = wr.heap.size) (((w6.setCell ⟨xb, 0, none⟩ u').setCell ⟨xb, 1, none⟩ v').setCell ⟨lf, 0, none⟩ (.string r)) _ := stay_set _ wr.heap.size 0 (.bool true)
  have s3 : Stay (fun q => q = xb ∨ q = lf) w6 (((w6.setCell ⟨xb, 0, none⟩ u').setCell ⟨xb, 1, none⟩ v').setCell ⟨lf, 0, none⟩ (.string r)) := ((Stay.to (stay_set w6 xb 0 u') (fun q hq => .inl hq)).then_same (Stay.to (stay_set _ xb 1 v') (fun q hq => .inl hq))).then_same (Stay.to (stay_set _ lf 0 (.string r)) (fun q hq => .inr hq))
  have hC6 := hC.below k1
  have s4 : Stay (fun q => q = xb ∨ q = lf ∨ q = wr.heap.size) w6 ((((w6.setCell ⟨xb, 0, none⟩ u').setCell ⟨xb, 1, none⟩ v').setCell ⟨lf, 0, none⟩ (.string r)).setCell ⟨wr.heap.size, 0, none⟩ (.bool true)) := (Stay.to s3 (fun q hq => hq.elim .inl (fun e => .inr (.inl e)))).then_same (Stay.to h2 (fun q hq => .inr (.inr hq)))
  have hb6 := bel_tr hb k1
  refine ⟨h1.stay h2 (fun q hq => by omega), hC6.stay s4.size (fun q hq => s4.block q (by rw [hq] at hC6; exact hC6.lt.1) (fun e => ?_)) (fun _ e => e), hb6.trans (s4.below hb6.size (fun q hq => by rcases hq with e | e | e <;> omega))⟩
  rw [hq] at hC
  have h9 : xb < q := hC.lt.2
  have h10 := hC.lt.1
  rcases e with e | e | e <;> omega

theorem src_entry (w : World) (I : Int) (d : ByteArray) : Src Try.prog 2 22 (.slice (some ⟨w.heap.size, 0, none⟩) 1 1) 1 [.int .i64 I, .string d] (w.alloc (.cells #[.int .i64 I, .string d] 49)) := by
  refine Src.ofSlice _ Try.underlying22 ⟨w.heap.size, 0, none⟩ 1 1 _ (by rfl) (fun j u hu => ?_) (fun u hu => wideN.one (⟨I, d⟩ : En) u hu)
  rw [Addr.add_lit, Nat.zero_add, World.cell?_alloc_new w _ _ j]
  simpa using hu
theorem app_w {w w5 w7 : World} {lb lf xb : Nat} {n : Int} {a a7 : Option Addr} {k c c7 : Nat} {es : List En} {g g7 : Option Nat} {b d : ByteArray} {I : Int} {u v : Value} {o : Obj} (hB : Bx w5 lb lf xb n (.slice a k c) b u v) (hC : Cel (fun q => xb < q) (w5.alloc o) 2 (.slice a k c) k (rowC enC es) g) (hb : Below w.heap.size w w5) (hC7 : Cel (Grow (fun q => xb < q) (w5.alloc o) w7) w7 2 (.slice a7 (k + 1) c7) (k + 1) (rowC enC es ++ [.int .i64 I, .string d]) g7) (hS7 : Stay (fun q => g = some q) (w5.alloc o) w7) (hlb : lb = w.heap.size := by rfl) :
    Bx w7 lb lf xb n (.slice a k c) b u v ∧ Cel (fun q => xb < q) w7 2 (.slice a7 (k + 1) c7) (k + 1) (rowC enC (es ++ [⟨I, d⟩])) g7 ∧ Below w.heap.size w w7 := by
  have hl := hB.lt
  have hx : ∀ q, g = some q → xb < q := fun q hq => by rw [hq] at hC; exact hC.lt.2
  have h1 := bel_tr hb (bel_al w5 o)
  have hz : (w5.alloc o).heap.size = w5.heap.size + 1 := by simp
  refine ⟨(hB.below (bel_al _ _)).stay hS7 hx, ?_, h1.trans (hS7.below h1.size (fun q hq => by have := hx q hq; omega))⟩
  rw [rowC_app, rowC_one]
  exact hC7.stay (Nat.le_refl _) (fun _ _ => rfl) (fun q hq => hq.elim id (fun e => by have := e.1; omega))

def lenAt (w : World) (a : Addr) : Nat := match w.cell? a with | some (.slice _ k _) => k | _ => 0

set_option maxRecDepth 100000 in
set_option maxHeartbeats 4000000 in
theorem load_yes {w0 w : World} {K : Nat → Prop} {pd : Nat} {ds : DS} (h : Dk w0 K w pd ds) (s : ByteArray) (hs : s.size ≤ maxLen) (b : ByteArray) (hbm : b.size ≤ maxLen) (ht : rdT ds s.data.toList = b) (hq : rdE ds s.data.toList = 0) (l : Lg) (R : ByteArray) (hp : parseL b = some (l, R)) (wh : Bool) (hwh : decide (R.size = 0) = wh) :
    Calls Try.prog 17 #[.pointer (some ⟨pd, 0, none⟩), .string s] w fun e w' => LoadR w.heap.size l wh e w' ∧ Below w.heap.size w w' := by
  unfold parseL at hp
  split at hp
  case h_2 => cases hp
  rename_i n r hE
  simp only [Option.some.injEq, Prod.mk.injEq] at hp
  obtain ⟨rfl, rfl⟩ := hp
  have hwe := is_empty hwh
  have hrm : r.size ≤ maxLen := Nat.le_trans (epochP_size hE) hbm
  obtain ⟨ti, hi1, hi2, hi3, hi4⟩ := info_e
  have HR : Hid (∀ W, Below w.heap.size w W → Calls Try.prog 41 #[.pointer (some ⟨pd, 0, none⟩), .string s] W fun e w' => e = .returned (.tuple #[.string b, .int .i64 0]) ∧ Below W.heap.size W w') := fun W hb => dk_read (h.below hb) s hs b 0 ht hq
  have HE : Hid (epochP b = some (n, r)) := hE
  have HBM : Hid (b.size ≤ maxLen) := hbm
  obtain ⟨tot, htot⟩ : ∃ t, goL 300 [] r = t := ⟨_, rfl⟩
  rw [htot] at hwe ⊢
  have HT : Hid (goL 300 [] r = tot) := htot
  have HRM : Hid (r.size ≤ maxLen) := hrm
  have HWE : Hid (tot.2.toList.isEmpty = wh) := hwe
  have hmf : ∀ (fn : Fn) (first cap : Array Value) (w : World), (Instr.makeFunc fn first cap).run Try.prog w = .ok (.func fn first cap) w := fun _ _ _ _ => rfl
  have hst := fun (w : World) (a : Addr) (x : ByteArray) (m : Mode) => run_store (P := Try.prog) w a (.string x) m rfl
  have hst2 : ∀ (w : World) (a : Addr) (x : Option Addr) (n c : Nat) (m : Mode), (store a (.slice x n c) m).run Try.prog w = stored Try.prog w a (.slice x n c) m := fun w a x n c m => run_store (P := Try.prog) w a _ m rfl
  clear h ht hq hE hbm htot hwh hrm hwe
  go_enter Try.func17, Try.ntmps17
  go_wp2_with fail
  refine (HR.out _ (bel_al _ _)).mono ?_
  rintro e w1 ⟨rfl, b1⟩
  have x0 : w1.cell? ⟨w.heap.size, 0, none⟩ = some (.int .i64 0) := bel_cell b1 (World.cell?_alloc_new w _ _ 0)
  have x1 : w1.cell? ⟨w.heap.size, 1, none⟩ = some (.slice none 0 0) := bel_cell b1 (World.cell?_alloc_new w _ _ 1)
  have fx : ∀ j, w1.frozen? ⟨w.heap.size, j, none⟩ = false := fun j => (World.frozen?_of_block (a := ⟨w.heap.size, j, none⟩) (b1.block w.heap.size (by simp))).trans (World.frozen?_alloc_new w _ _ j)
  have hlt : w.heap.size < w1.heap.size := World.block_lt_of_cell? _ _ x0
  have B1 : Hid (Below w.heap.size w w1) := bel_tr (bel_al _ _) b1
  have HX : Hid (w1.cell? ⟨w.heap.size, 0, none⟩ = some (.int .i64 0) ∧ w1.cell? ⟨w.heap.size, 1, none⟩ = some (.slice none 0 0) ∧ (∀ j, w1.frozen? ⟨w.heap.size, j, none⟩ = false) ∧ w.heap.size < w1.heap.size) := ⟨x0, x1, fx, hlt⟩
  clear x0 x1 fx hlt b1 HR
  -- the epoch
  have C1 : Hid (Calls Try.prog 42 #[.func (.func 43) #[] #[.pointer (some ⟨w1.heap.size, 0, none⟩), .pointer (some ⟨w.heap.size, 0, none⟩)]] (w1.alloc (.cells #[.string b] 9)) fun e w' => e = .returned (.bool true) ∧ ∃ w2, Below w1.heap.size w1 w2 ∧ w1.heap.size + 1 < w2.heap.size ∧ w2.cell? ⟨w1.heap.size, 0, none⟩ = some (.string b) ∧ w2.frozen? ⟨w1.heap.size, 0, none⟩ = false ∧ w' = ((w2.setCell ⟨w.heap.size, 0, none⟩ (.int .i64 n)).setCell ⟨w1.heap.size, 0, none⟩ (.string r)).setCell ⟨w1.heap.size + 1, 0, none⟩ (.bool true)) := by
    obtain ⟨x0, x1, fx, hlt⟩ := HX.out
    have hz : (w1.alloc (.cells #[.string b] 9)).heap.size = w1.heap.size + 1 := by simp
    have b2 : Below w1.heap.size w1 ((w1.alloc (.cells #[.string b] 9)).alloc (.cells #[.bool false] 4)) := bel_tr (bel_al _ _) (bel_al _ _)
    have e0 : ((w1.alloc (.cells #[.string b] 9)).alloc (.cells #[.bool false] 4)).cell? ⟨w1.heap.size, 0, none⟩ = some (.string b) := bel_cell (bel_al _ _) (World.cell?_alloc_new w1 _ _ 0)
    have g0 : ((w1.alloc (.cells #[.string b] 9)).alloc (.cells #[.bool false] 4)).frozen? ⟨w1.heap.size, 0, none⟩ = false := (World.frozen?_of_block (a := ⟨w1.heap.size, 0, none⟩) ((bel_al (w1.alloc (.cells #[.string b] 9)) _).block w1.heap.size (by simp))).trans (World.frozen?_alloc_new w1 _ _ 0)
    have g1 : ((w1.alloc (.cells #[.string b] 9)).alloc (.cells #[.bool false] 4)).frozen? ⟨w.heap.size, 0, none⟩ = false := (World.frozen?_of_block (a := ⟨w.heap.size, 0, none⟩) (b2.block w.heap.size hlt)).trans (fx 0)
    have hc := cl1_yes b HBM.out n r HE.out e0 g0 (bel_cell b2 x0) g1 (by omega)
    have hx9 : ((w1.alloc (.cells #[.string b] 9)).alloc (.cells #[.bool false] 4)).cell? ⟨w1.heap.size + 1, 0, none⟩ = some (.bool false) := by
      have := World.cell?_alloc_new (w1.alloc (.cells #[.string b] 9)) #[.bool false] 4 0
      rw [hz] at this; exact this
    have hf9 : ((w1.alloc (.cells #[.string b] 9)).alloc (.cells #[.bool false] 4)).frozen? ⟨w1.heap.size + 1, 0, none⟩ = false := by
      have := World.frozen?_alloc_new (w1.alloc (.cells #[.string b] 9)) #[.bool false] 4 0
      rw [hz] at this; exact this
    have := tried_yes1 (w := w1.alloc (.cells #[.string b] 9)) (.pointer (some ⟨w1.heap.size, 0, none⟩)) (.pointer (some ⟨w.heap.size, 0, none⟩)) _ hc (fun w' ⟨w2, k1, k2⟩ => by
      rw [hz, k2]
      have k3 := bel_cell k1 hx9
      have k4 := (World.frozen?_of_block (a := ⟨w1.heap.size + 1, 0, none⟩) (k1.block (w1.heap.size + 1) (by simp))).trans hf9
      exact ⟨other (by omega) (other (by omega) k3), by rw [World.frozen?_setCell, World.frozen?_setCell]; exact k4⟩)
    refine this.mono ?_
    rintro e w' ⟨rfl, w3, ⟨w2, k1, k2⟩, k3⟩
    rw [hz] at k3
    have hz2 : ((w1.alloc (.cells #[.string b] 9)).alloc (.cells #[.bool false] 4)).heap.size = w1.heap.size + 1 + 1 := by simp
    refine ⟨rfl, w2, bel_tr b2 k1, by have := k1.size; omega, bel_cell k1 e0, (World.frozen?_of_block (a := ⟨w1.heap.size, 0, none⟩) (k1.block w1.heap.size (by simp; omega))).trans g0, by rw [k3, k2]⟩
  go_wp2_with (go_at_call 42; refine C1.out.mono ?_; rintro e w3 ⟨rfl, w2, k1, k2, k3, k4, rfl⟩)
  have L0 : Hid (∀ T, Lp w ((((w2.setCell ⟨w.heap.size, 0, none⟩ (.int .i64 n)).setCell ⟨w1.heap.size, 0, none⟩ (.string r)).setCell ⟨w1.heap.size + 1, 0, none⟩ (.bool true)).alloc (.cells #[.int .i64 0, .string ⟨#[]⟩] T)) w.heap.size w1.heap.size w2.heap.size n [] 0 r tot) := by
    intro T
    obtain ⟨x0, x1, fx, hlt⟩ := HX.out
    have y0 := bel_cell k1 x0
    have y1 := bel_cell k1 x1
    have fy : ∀ j, w2.frozen? ⟨w.heap.size, j, none⟩ = false := fun j => (World.frozen?_of_block (a := ⟨w.heap.size, j, none⟩) (k1.block w.heap.size hlt)).trans (fx j)
    have bb : Below w.heap.size w (((w2.setCell ⟨w.heap.size, 0, none⟩ (.int .i64 n)).setCell ⟨w1.heap.size, 0, none⟩ (.string r)).setCell ⟨w1.heap.size + 1, 0, none⟩ (.bool true)) := Below.setCell (Below.setCell (Below.setCell (bel_tr B1.out k1) (Nat.le_refl _) _) (by show w.heap.size ≤ w1.heap.size; omega) _) (by show w.heap.size ≤ w1.heap.size + 1; omega) _
    have z0 : (((w2.setCell ⟨w.heap.size, 0, none⟩ (.int .i64 n)).setCell ⟨w1.heap.size, 0, none⟩ (.string r)).setCell ⟨w1.heap.size + 1, 0, none⟩ (.bool true)).cell? ⟨w.heap.size, 0, none⟩ = some (.int .i64 n) := other (by omega) (other (by omega) (World.cell?_setCell_same _ _ _ y0))
    have z1 : (((w2.setCell ⟨w.heap.size, 0, none⟩ (.int .i64 n)).setCell ⟨w1.heap.size, 0, none⟩ (.string r)).setCell ⟨w1.heap.size + 1, 0, none⟩ (.bool true)).cell? ⟨w.heap.size, 1, none⟩ = some (.slice none 0 0) := other (by omega) (other (by omega) (cell_set (by omega) y1))
    have z2 : (((w2.setCell ⟨w.heap.size, 0, none⟩ (.int .i64 n)).setCell ⟨w1.heap.size, 0, none⟩ (.string r)).setCell ⟨w1.heap.size + 1, 0, none⟩ (.bool true)).cell? ⟨w1.heap.size, 0, none⟩ = some (.string r) := other (by omega) (World.cell?_setCell_same _ _ _ (other (by omega) k3))
    have hfz : ∀ p j, w2.frozen? ⟨p, j, none⟩ = false → (((w2.setCell ⟨w.heap.size, 0, none⟩ (.int .i64 n)).setCell ⟨w1.heap.size, 0, none⟩ (.string r)).setCell ⟨w1.heap.size + 1, 0, none⟩ (.bool true)).frozen? ⟨p, j, none⟩ = false := fun p j h => by rw [World.frozen?_setCell, World.frozen?_setCell, World.frozen?_setCell]; exact h
    have hsz : (((w2.setCell ⟨w.heap.size, 0, none⟩ (.int .i64 n)).setCell ⟨w1.heap.size, 0, none⟩ (.string r)).setCell ⟨w1.heap.size + 1, 0, none⟩ (.bool true)).heap.size = w2.heap.size := by rw [size_set, size_set, size_set]
    have q0 := hfz w1.heap.size 0 k4
    have qx := fun j => hfz w.heap.size j (fy j)
    generalize (((w2.setCell ⟨w.heap.size, 0, none⟩ (.int .i64 n)).setCell ⟨w1.heap.size, 0, none⟩ (.string r)).setCell ⟨w1.heap.size + 1, 0, none⟩ (.bool true)) = W3 at *
    have hal : Below W3.heap.size W3 (W3.alloc (.cells #[.int .i64 0, .string ⟨#[]⟩] T)) := bel_al _ _
    have c3 := World.cell?_alloc_new W3 #[.int .i64 0, .string ⟨#[]⟩] T 0
    have c4 := World.cell?_alloc_new W3 #[.int .i64 0, .string ⟨#[]⟩] T 1
    have f3 := World.frozen?_alloc_new W3 #[.int .i64 0, .string ⟨#[]⟩] T
    have hs3 : (W3.alloc (.cells #[.int .i64 0, .string ⟨#[]⟩] T)).heap.size = w2.heap.size + 1 := by rw [← hsz]; simp
    rw [hsz] at c3 c4 f3
    refine ⟨⟨none, 0, none, .int .i64 0, .string ⟨#[]⟩, ⟨bel_cell hal z0, bel_cell hal z1, bel_cell hal z2, c3, c4, fun j => (World.frozen?_of_block (a := ⟨w.heap.size, j, none⟩) (hal.block w.heap.size (by omega))).trans (qx j), (World.frozen?_of_block (a := ⟨w1.heap.size, 0, none⟩) (hal.block w1.heap.size (by omega))).trans q0, f3, ⟨hlt, by omega, by omega⟩⟩, .nil rfl rfl rfl⟩, rfl, by omega, bel_tr bb hal, HT.out, HRM.out⟩
  clear C1 HE HBM HX HT HRM B1
  have L1 : Hid (Lp w ((((w2.setCell ⟨w.heap.size, 0, none⟩ (.int .i64 n)).setCell ⟨w1.heap.size, 0, none⟩ (.string r)).setCell ⟨w1.heap.size + 1, 0, none⟩ (.bool true)).alloc (.cells #[.int .i64 0, .string ⟨#[]⟩] 49)) w.heap.size w1.heap.size w2.heap.size n [] 0 r tot) := L0.out 49
  clear L0 k1 k3 k4
  generalize ((((w2.setCell ⟨w.heap.size, 0, none⟩ (.int .i64 n)).setCell ⟨w1.heap.size, 0, none⟩ (.string r)).setCell ⟨w1.heap.size + 1, 0, none⟩ (.bool true)).alloc (.cells #[.int .i64 0, .string ⟨#[]⟩] 49)) = W4 at *
  generalize w1.heap.size = lf at *
  generalize w2.heap.size = xb at *
  clear k2
  go_loopw [] (fun wr => ∃ (k : Nat) (es : List En) (b' : ByteArray), Lp w wr w.heap.size lf xb n es k b' tot) (fun wr => 300 - lenAt wr ⟨w.heap.size, 1, none⟩)
  case atStart => exact ⟨0, [], r, L1.out⟩
  case round =>
    obtain ⟨k, es, b', hL⟩ := hrel
    have HL : Hid (Lp w wr w.heap.size lf xb n es k b' tot) := hL
    obtain ⟨a, c, g, u, v, hB, hC⟩ := hL.ex
    have hlen := hL.len
    have hle := hL.le
    have HB : Hid (Bx wr w.heap.size lf xb n (.slice a k c) b' u v) := hB
    have HC : Hid (Cel (fun q => xb < q) wr 2 (.slice a k c) k (rowC enC es) g) := hC
    have HLN : Hid (es.length = k) := hlen
    have hlt := hB.lt
    have c0 := hB.c0
    have c1 := hB.c1
    have c2 := hB.c2
    clear hL hB hC hlen L1
    by_cases hk : k < 300
    · cases hP : entryP b' ((k + 1 : Nat) : Int) with
      | none =>
        have hto : tot = (es, b') := by
          have h1 := HL.out.go
          obtain ⟨f, hf⟩ : ∃ f, 300 - k = f + 1 := ⟨299 - k, by omega⟩
          rw [hf] at h1
          unfold goL at h1
          rw [HLN.out, hP] at h1
          exact h1.symm
        subst hto
        have CT : Hid (Calls Try.prog 42 #[.func (.func 45) #[] #[.pointer (some ⟨lf, 0, none⟩), .pointer (some ⟨w.heap.size, 0, none⟩), .pointer (some ⟨xb, 0, none⟩)]] wr fun e w' => e = .returned (.bool false) ∧ Below wr.heap.size wr w') :=
          tried_no2 _ _ _ (cl2_no b' HL.out.bm k hle hP (bel_cell (bel_al _ _) c2) (bel_cell (bel_al _ _) c1))
        clear hP
        simp only at HWE ⊢
        go_wp2_with (go_at_call 42; refine CT.out.mono ?_; rintro e w5 ⟨rfl, b5⟩; have HB5 : Hid (Bx w5 w.heap.size lf xb n (.slice a k c) b' u v) := HB.out.below b5; have HC5 : Hid (Cel (fun q => xb < q) w5 2 (.slice a k c) k (rowC enC es) g) := HC.out.below b5; have BW5 : Hid (Below w.heap.size w w5) := bel_tr HL.out.bel b5; clear b5 c0 c1 c2 CT HL HC HB; have y0 := HB5.out.c0; have y1 := HB5.out.c1; have y2 := HB5.out.c2; have f0 := HB5.out.f0 0; have f1 := HB5.out.f0 1)
        go_wp2
        go_region
        go_wp2
        obtain ⟨F1, F2, F3, F4⟩ := fin_w HB5.out.c0 HB5.out.c1 HC5.out HB5.out.lt BW5.out
        refine bodyPost_ret (v := .tuple #[.agg #[.int .i64 n, .slice a k c], .bool wh, .int .i64 0]) ?_ rfl ⟨⟨a, c, g, by simp only [HLN.out], by simp only [HLN.out]; exact F3⟩, F4⟩
        simp only [results, Try.results17]
        simp [go_sem, F1, F2, HWE.out]
      | some dr =>
        obtain ⟨d, r'⟩ := dr
        have hsz := entryP_size hP
        have CT : Hid (Calls Try.prog 42 #[.func (.func 45) #[] #[.pointer (some ⟨lf, 0, none⟩), .pointer (some ⟨w.heap.size, 0, none⟩), .pointer (some ⟨xb, 0, none⟩)]] wr fun e w' => e = .returned (.bool true) ∧ ∃ w6, Below wr.heap.size wr w6 ∧ wr.heap.size < w6.heap.size ∧ w' = (((w6.setCell ⟨xb, 0, none⟩ (.int .i64 ((k + 1 : Nat) : Int))).setCell ⟨xb, 1, none⟩ (.string d)).setCell ⟨lf, 0, none⟩ (.string r')).setCell ⟨wr.heap.size, 0, none⟩ (.bool true)) := by
          have hal : Below wr.heap.size wr (wr.alloc (.cells #[.bool false] 4)) := bel_al _ _
          have hB := HB.out.below hal
          have hc := cl2_yes b' HL.out.bm k hle d r' hP hB.c2 hB.f2 hB.c1 hB.c3 hB.c4 (hB.f3 0) (hB.f3 1) (by omega)
          refine (tried_yes2 _ _ _ _ hc (fun w' ⟨w2, k1, k2⟩ => ?_)).mono ?_
          · rw [k2]
            have k3 := bel_cell k1 (World.cell?_alloc_new wr #[.bool false] 4 0)
            have k4 := (World.frozen?_of_block (a := ⟨wr.heap.size, 0, none⟩) (k1.block wr.heap.size (by simp))).trans (World.frozen?_alloc_new wr #[.bool false] 4 0)
            exact ⟨other (by omega) (other (by omega) (other (by omega) k3)), by rw [World.frozen?_setCell, World.frozen?_setCell, World.frozen?_setCell]; exact k4⟩
          · rintro e w' ⟨rfl, w3, ⟨w2, k1, k2⟩, k3⟩
            refine ⟨rfl, w2, bel_tr hal k1, ?_, by rw [k3, k2]⟩
            have := k1.size
            simp at this; omega
        have HP : Hid (entryP b' ((k + 1 : Nat) : Int) = some (d, r')) := hP
        have HSZ : Hid (d.size ≤ 600 ∧ r'.size ≤ b'.size) := hsz
        clear hP hsz
        have HNX : Hid (goL (300 - (k + 1)) (es ++ [⟨((k + 1 : Nat) : Int), d⟩]) r' = tot) := by
          have h1 := HL.out.go
          obtain ⟨f, hf⟩ : ∃ f, 300 - k = f + 1 := ⟨299 - k, by omega⟩
          rw [hf] at h1
          unfold goL at h1
          rw [HLN.out, HP.out] at h1
          simp only at h1
          rw [show 300 - (k + 1) = f by omega]
          exact h1
        obtain ⟨I, hI⟩ : ∃ I : Int, ((k + 1 : Nat) : Int) = I := ⟨_, rfl⟩
        rw [hI] at CT
        have HI : Hid (((k + 1 : Nat) : Int) = I) := hI
        clear hI HP
        go_wp2_with (first
          | (go_at_call 42; refine CT.out.mono ?_; rintro e w5 ⟨rfl, w6, k1, k2, hw5⟩; obtain ⟨HB5, HC5, BW5⟩ := taken_w HB.out HC.out HL.out.bel k1 k2 (.int .i64 I) (.string d) r'; rw [← hw5] at HB5 HC5 BW5; replace HB5 : Hid (Bx w5 w.heap.size lf xb n (.slice a k c) r' (.int .i64 I) (.string d)) := HB5; replace HC5 : Hid (Cel (fun q => xb < q) w5 2 (.slice a k c) k (rowC enC es) g) := HC5; replace BW5 : Hid (Below w.heap.size w w5) := BW5; clear k1 k2 hw5 c0 c1 c2 CT; have y1 := HB5.out.c1; have y3 := HB5.out.c3; have y4 := HB5.out.c4; have CW : Hid (Cel (fun q => xb < q) (w5.alloc (.cells #[.int .i64 I, .string d] 49)) 2 (.slice a k c) k (rowC enC es) g) := HC5.out.below (bel_al _ _); have SW : Hid (Src Try.prog 2 22 (.slice (some ⟨w5.heap.size, 0, none⟩) 1 1) 1 [.int .i64 I, .string d] (w5.alloc (.cells #[.int .i64 I, .string d] 49))) := src_entry w5 I d)
          | (at_builtin; refine wpList_append_cel _ rfl _ _ 22 22 rfl 49 ti _ 2 24 Try.underlying22 hi1 hi2 hi3 hi4 rfl (O := fun q => xb < q) (.slice a k c) k _ g rfl CW.out _ 1 [.int .i64 I, .string d] rfl SW.out (by unfold maxLen; omega) (by omega) ?_; intro a7 c7 w7 g7 hC7 hS7 hg7; have H7 : Hid (Bx w7 w.heap.size lf xb n (.slice a k c) r' (.int .i64 I) (.string d) ∧ Cel (fun q => xb < q) w7 2 (.slice a7 (k + 1) c7) (k + 1) (rowC enC (es ++ [⟨I, d⟩])) g7 ∧ Below w.heap.size w w7) := app_w HB5.out CW.out BW5.out hC7 hS7; clear hC7 hS7 hg7 y1 y3 y4; have y1 := H7.out.1.c1; have f1 := H7.out.1.f0 1))
        go_roundw
        case rel =>
          refine ⟨k + 1, es ++ [⟨I, d⟩], r', ⟨a7, c7, g7, _, _, H7.out.1.putS _, H7.out.2.1.setOut _ _ (fun e => ?_)⟩, by simp [HLN.out], by omega, Below.setCell H7.out.2.2 (Nat.le_refl _) _, by rw [← HI.out]; exact HNX.out, Nat.le_trans HSZ.out.2 HL.out.bm⟩
          have h8 := H7.out.2.1
          rw [e] at h8
          have h9 : xb < w.heap.size := h8.lt.2
          omega
        case measure =>
          have e1 : lenAt wr ⟨w.heap.size, 1, none⟩ = k := by unfold lenAt; rw [HB.out.c1]
          have e2 : lenAt (w7.setCell ⟨w.heap.size, 1, none⟩ (.slice a7 (k + 1) c7)) ⟨w.heap.size, 1, none⟩ = k + 1 := by unfold lenAt; rw [(H7.out.1.putS (.slice a7 (k + 1) c7)).c1]
          rw [e1, e2]
          omega
    · obtain rfl : k = 300 := by omega
      have hto : tot = (es, b') := by
        have h1 := HL.out.go
        rw [Nat.sub_self] at h1
        exact h1.symm
      subst hto
      simp only at HWE ⊢
      have HB5 : Hid (Bx wr w.heap.size lf xb n (.slice a 300 c) b' u v) := HB.out
      have HC5 : Hid (Cel (fun q => xb < q) wr 2 (.slice a 300 c) 300 (rowC enC es) g) := HC.out
      have BW5 : Hid (Below w.heap.size w wr) := HL.out.bel
      have f0 := HB5.out.f0 0
      have f1 := HB5.out.f0 1
      clear HL HC HB
      go_wp2
      go_region
      go_wp2
      obtain ⟨F1, F2, F3, F4⟩ := fin_w HB5.out.c0 HB5.out.c1 HC5.out HB5.out.lt BW5.out
      refine bodyPost_ret (v := .tuple #[.agg #[.int .i64 n, .slice a 300 c], .bool wh, .int .i64 0]) ?_ rfl ⟨⟨a, c, g, by simp only [HLN.out], by simp only [HLN.out]; exact F3⟩, F4⟩
      simp only [results, Try.results17]
      simp [go_sem, F1, F2, HWE.out]

end Go.Proofs.Ytokldcifhjkmnaa.Lgg
