/- The contract of tabulariumlaw14.of. -/
import Derived.Test.YtokldcifhjkmnabLogX
import Derived.Test.YtokldcifhjkmnabRowPlain
import Derived.Deep.RegionLaw
import Derived.Lib.MinMax
namespace Go.Proofs.Ytokldcifhjkmnab.Lgg
open Go.RowKit Go.Proofs.Ytokldcifhjkmnab
set_option linter.unusedVariables false

def cut100 (s : ByteArray) : ByteArray := s.extract 0 (min s.size 100)
theorem cut100_size (s : ByteArray) : (cut100 s).size ≤ 100 := by unfold cut100; rw [ByteArray.size_extract]; omega
/-- The entries of the first k texts. -/
def ofK (ss : List ByteArray) (k : Nat) : List En := (ss.take k).zipIdx.map fun p => ⟨((p.2 + 1 : Nat) : Int), cut100 p.1⟩
theorem ofK_zero (ss : List ByteArray) : ofK ss 0 = [] := rfl
theorem ofK_next (ss : List ByteArray) (k : Nat) (hk : k < ss.length) : ofK ss (k + 1) = ofK ss k ++ [⟨((k + 1 : Nat) : Int), cut100 ss[k]⟩] := by
  unfold ofK
  rw [List.take_succ_eq_append_getElem hk, List.zipIdx_append, List.map_append, List.length_take, Nat.min_eq_left (Nat.le_of_lt hk)]
  simp
theorem ofK_len (ss : List ByteArray) (k : Nat) (hk : k ≤ ss.length) : (ofK ss k).length = k := by unfold ofK; simp; omega
theorem ofK_right (ss : List ByteArray) : ∀ k, k ≤ ss.length → RtE (ofK ss k)
  | 0, _ => fun i h => by simp [ofK] at h
  | k + 1, hk => by
    have ih := ofK_right ss k (by omega)
    have hl := ofK_len ss k (by omega)
    rw [ofK_next ss k (by omega)]
    intro i hi
    rcases Nat.lt_or_ge i (ofK ss k).length with h1 | h1
    · rw [List.getElem_append_left h1]; exact ih i h1
    · simp at hi
      obtain rfl : i = (ofK ss k).length := by omega
      rw [List.getElem_append_right (Nat.le_refl _)]
      simp only [Nat.sub_self, List.getElem_cons_zero]
      have h100 := cut100_size ss[k]
      exact ⟨by rw [hl], by show (cut100 ss[k]).size ≤ 600; omega⟩
def few (ss : List ByteArray) : Nat := min ss.length 30
def ofL (q : Nat) (ss : List ByteArray) : Lg := ⟨(q : Int), ofK ss (few ss)⟩
theorem ofL_right (q : Nat) (hq : q ≤ 1000) (ss : List ByteArray) : RtL (ofL q ss) := by
  refine ⟨by unfold ofL epOk maxN; simp; omega, ?_, ofK_right ss _ (Nat.min_le_left _ _)⟩
  show (ofK ss (few ss)).length ≤ 300
  rw [ofK_len ss (few ss) (Nat.min_le_left _ _)]
  have : few ss ≤ 30 := Nat.min_le_right _ _
  omega
theorem ofL_len (q : Nat) (ss : List ByteArray) : (ofL q ss).es.length = few ss := ofK_len ss _ (Nat.min_le_left _ _)

/-- How it ends: a log in new memory. -/
structure OfR (base : Nat) (l : Lg) (e : Ending) (w' : World) : Prop where
  ex : ∃ a c g, e = .returned (.agg #[.int .i64 l.ep, .slice a l.es.length c]) ∧ Cel (fun k => base ≤ k) w' 2 (.slice a l.es.length c) l.es.length (rowC enC l.es) g

/-- The two boxes. -/
structure Ob (W : World) (rb lb : Nat) (n : Int) (s : Value) : Prop where
  c0 : W.cell? ⟨lb, 0, none⟩ = some (.int .i64 n)
  c1 : W.cell? ⟨lb, 1, none⟩ = some s
  d0 : W.cell? ⟨rb, 0, none⟩ = some (.int .i64 0)
  d1 : W.cell? ⟨rb, 1, none⟩ = some (.slice none 0 0)
  f0 : ∀ j, W.frozen? ⟨lb, j, none⟩ = false
  f1 : ∀ j, W.frozen? ⟨rb, j, none⟩ = false
  lt : rb < lb ∧ lb < W.heap.size
theorem Ob.stay {W W' : World} {rb lb : Nat} {n : Int} {s : Value} {O : Nat → Prop} (h : Ob W rb lb n s) (hs : Stay O W W') (hO : ∀ k, O k → lb < k) : Ob W' rb lb n s := by
  obtain ⟨l1, l2⟩ := h.lt
  have k0 := hs.block lb (by omega) (fun e => by have := hO _ e; omega)
  have k1 := hs.block rb (by omega) (fun e => by have := hO _ e; omega)
  exact ⟨(World.cell?_of_block (a := ⟨lb, 0, none⟩) k0).trans h.c0, (World.cell?_of_block (a := ⟨lb, 1, none⟩) k0).trans h.c1, (World.cell?_of_block (a := ⟨rb, 0, none⟩) k1).trans h.d0, (World.cell?_of_block (a := ⟨rb, 1, none⟩) k1).trans h.d1,
    fun j => (World.frozen?_of_block (a := ⟨lb, j, none⟩) k0).trans (h.f0 j), fun j => (World.frozen?_of_block (a := ⟨rb, j, none⟩) k1).trans (h.f1 j), ⟨l1, Nat.lt_of_lt_of_le l2 hs.size⟩⟩
theorem Ob.putS {W : World} {rb lb : Nat} {n : Int} {s : Value} (h : Ob W rb lb n s) (s' : Value) : Ob (W.setCell ⟨lb, 1, none⟩ s') rb lb n s' := by
  obtain ⟨l1, l2⟩ := h.lt
  exact ⟨cell_set (by omega) h.c0, World.cell?_setCell_same _ _ _ h.c1, other (by omega) h.d0, other (by omega) h.d1, fun j => by rw [World.frozen?_setCell]; exact h.f0 j, fun j => by rw [World.frozen?_setCell]; exact h.f1 j, ⟨l1, by rw [size_set]; exact l2⟩⟩

theorem of_app {w wr W w5 : World} {rb lb : Nat} {n : Int} {a a5 : Option Addr} {k c c5 : Nat} {es : List En} {g g5 : Option Nat} {d : ByteArray} {I : Int} (hB : Ob wr rb lb n (.slice a k c)) (hC : Cel (fun z => lb < z) wr 2 (.slice a k c) k (rowC enC es) g) (hb : Below w.heap.size w wr) (hW : Below wr.heap.size wr W) (hC5 : Cel (Grow (fun z => lb < z) W w5) w5 2 (.slice a5 (k + 1) c5) (k + 1) (rowC enC es ++ [.int .i64 I, .string d]) g5) (hS5 : Stay (fun z => g = some z) W w5) (hrb : rb = w.heap.size := by rfl) :
    Ob w5 rb lb n (.slice a k c) ∧ Cel (fun z => lb < z) w5 2 (.slice a5 (k + 1) c5) (k + 1) (rowC enC (es ++ [⟨I, d⟩])) g5 ∧ Below w.heap.size w w5 := by
  have hl := hB.lt
  have hx : ∀ z, g = some z → lb < z := fun z hz => by rw [hz] at hC; exact hC.lt.2
  have h1 := bel_tr hb hW
  have hz := hW.size
  refine ⟨(hB.stay (O := fun _ => False) (Stay.of_below hW) (fun _ e => e.elim)).stay hS5 hx, ?_, h1.trans (hS5.below h1.size (fun z hq => by have := hx z hq; omega))⟩
  rw [rowC_app, rowC_one]
  exact hC5.stay (Nat.le_refl _) (fun _ _ => rfl) (fun z hq => hq.elim id (fun e => by have := e.1; omega))

set_option maxRecDepth 100000 in
set_option maxHeartbeats 4000000 in
theorem of_val (ep : Int) (q : Nat) (hep : -9223372036854775808 ≤ ep ∧ ep ≤ 9223372036854775807) (hq : keepN ep % 1000 = q) {w : World} {da : Option Addr} {db doff : Nat} {ss : List ByteArray} (h : Strs w da db doff ss) (m dc : Nat) (hm : ss.length = m) :
    Calls Try.prog 6 #[.int .i64 ep, .slice da m dc] w fun e w' => OfR w.heap.size (ofL q ss) e w' ∧ Below w.heap.size w w' := by
  have hlen := h.len
  rw [hm] at hlen
  unfold maxLen at hlen
  obtain ⟨ti, hi1, hi2, hi3, hi4⟩ := info_e
  have HH : Hid (Strs w da db doff ss) := h
  have HM : Hid (ss.length = m) := hm
  have HP : Hid (∀ W, Calls Try.prog 10 #[.int .i64 ep, .int .i64 1000] W fun e w' => e = .returned (.int .i64 (q : Int)) ∧ w' = W) := fun W => pick_val ep 1000 q W hep (by omega) hq
  have hst2 : ∀ (w : World) (a : Addr) (x : Option Addr) (n c : Nat) (m : Mode), (store a (.slice x n c) m).run Try.prog w = stored Try.prog w a (.slice x n c) m := fun w a x n c m => run_store (P := Try.prog) w a _ m rfl
  have hcut : ∀ s : ByteArray, s.size ≤ maxLen → ∃ M : Nat, min (s.size : Int) 100 = (M : Int) ∧ M ≤ s.size ∧ M ≤ 100 ∧ s.extract 0 M = cut100 s := fun s _ => ⟨min s.size 100, by omega, Nat.min_le_left _ _, Nat.min_le_right _ _, rfl⟩
  have HCUT : Hid (∀ s : ByteArray, s.size ≤ maxLen → ∃ M : Nat, min (s.size : Int) 100 = (M : Int) ∧ M ≤ s.size ∧ M ≤ 100 ∧ s.extract 0 M = cut100 s) := hcut
  clear h hm hq hep hcut
  go_enter Try.func6, Try.ntmps6
  go_wp2_with (go_at_call 10; refine (HP.out _).mono ?_; rintro e w1 ⟨rfl, rfl⟩)
  have O0 : Hid (Ob ((w.alloc (.cells #[.int .i64 0, .slice none 0 0] 26)).alloc (.cells #[.int .i64 (q : Int), .slice none 0 0] 26)) w.heap.size (w.heap.size + 1) (q : Int) (.slice none 0 0) ∧ Below w.heap.size w ((w.alloc (.cells #[.int .i64 0, .slice none 0 0] 26)).alloc (.cells #[.int .i64 (q : Int), .slice none 0 0] 26))) := by
    have hz : (w.alloc (.cells #[.int .i64 0, .slice none 0 0] 26)).heap.size = w.heap.size + 1 := by simp
    have al2 := bel_al (w.alloc (.cells #[.int .i64 0, .slice none 0 0] 26)) (.cells #[.int .i64 (q : Int), .slice none 0 0] 26)
    have b0 := World.cell?_alloc_new (w.alloc (.cells #[.int .i64 0, .slice none 0 0] 26)) #[.int .i64 (q : Int), .slice none 0 0] 26 0
    have b1 := World.cell?_alloc_new (w.alloc (.cells #[.int .i64 0, .slice none 0 0] 26)) #[.int .i64 (q : Int), .slice none 0 0] 26 1
    have b2 := World.frozen?_alloc_new (w.alloc (.cells #[.int .i64 0, .slice none 0 0] 26)) #[.int .i64 (q : Int), .slice none 0 0] 26
    rw [hz] at b0 b1 b2
    refine ⟨⟨b0, b1, bel_cell al2 (World.cell?_alloc_new w _ _ 0), bel_cell al2 (World.cell?_alloc_new w _ _ 1), b2, fun j => (World.frozen?_of_block (a := ⟨w.heap.size, j, none⟩) (al2.block w.heap.size (by simp))).trans (World.frozen?_alloc_new w _ _ j), ⟨by omega, by simp⟩⟩, bel_tr (bel_al _ _) al2⟩
  generalize ((w.alloc (.cells #[.int .i64 0, .slice none 0 0] 26)).alloc (.cells #[.int .i64 (q : Int), .slice none 0 0] 26)) = W0 at *
  clear HP
  go_loopw [6] (fun v wr => ∃ (k : Nat) (a : Option Addr) (c : Nat) (g : Option Nat), k ≤ m ∧ k ≤ 30 ∧ v = .int .i64 k ∧ Hid (Ob wr w.heap.size (w.heap.size + 1) (q : Int) (.slice a k c) ∧ Cel (fun z => w.heap.size + 1 < z) wr 2 (.slice a k c) k (rowC enC (ofK ss k)) g ∧ Below w.heap.size w wr)) (fun v _ => 30 - (intOf v).toNat)
  case atStart => exact ⟨0, none, 0, none, by omega, by omega, rfl, ⟨O0.out.1, .nil rfl rfl rfl, O0.out.2⟩⟩
  case round =>
    obtain ⟨k, a, c, g, hk1, hk2, rfl, hI⟩ := hrel
    have HI : Hid (Ob wr w.heap.size (w.heap.size + 1) (q : Int) (.slice a k c) ∧ Cel (fun z => w.heap.size + 1 < z) wr 2 (.slice a k c) k (rowC enC (ofK ss k)) g ∧ Below w.heap.size w wr) := hI
    clear hI O0
    have c1 := HI.out.1.c1
    by_cases hlt : k < m ∧ k < 30
    · obtain ⟨hlt0, hlt1⟩ := hlt
      have hks : k < ss.length := by rw [HM.out]; exact hlt0
      obtain rfl := HH.out.addr (by omega)
      have d0 := bel_cell HI.out.2.2 (HH.out.cell k hks)
      have hsm := HH.out.small _ (List.getElem_mem hks)
      have hnx := ofK_next ss k hks
      generalize ss[k] = s at *
      obtain ⟨M, hM1, hM2, hM3, hM4⟩ := HCUT.out s hsm
      have HNX : Hid (ofK ss (k + 1) = ofK ss k ++ [⟨((k + 1 : Nat) : Int), s.extract 0 M⟩]) := by rw [hM4]; exact hnx
      unfold maxLen at hsm
      obtain ⟨X, hX⟩ : ∃ X, s.extract 0 M = X := ⟨_, rfl⟩
      rw [hX] at HNX
      have d0a := cell_al d0
      have c1a := cell_al c1
      have CW : Hid (∀ W, Below wr.heap.size wr W → Cel (fun z => w.heap.size + 1 < z) W 2 (.slice a k c) k (rowC enC (ofK ss k)) g) := fun W hb => HI.out.2.1.below hb
      have BB : Hid (∀ B1, Below wr.heap.size wr ((wr.alloc B1).drew)) := fun B1 => ((Below.refl _ wr).alloc (Nat.le_refl _) B1).drew
      have hwrap : IntKind.i64.wrap ((k : Int) + 1) = (k : Int) + 1 := by simp [IntKind.wrap, IntKind.bits, IntKind.signed] <;> omega
      have SW : Hid (Src Try.prog 2 24 (.slice (some ⟨wr.heap.size, 0, none⟩) 1 1) 1 [.int .i64 ((k : Int) + 1), .string X] ((wr.alloc (.cells #[.int .i64 ((k : Int) + 1), .string X] 43)).drew)) := by
        refine Src.ofSlice _ Try.underlying24 ⟨wr.heap.size, 0, none⟩ 1 1 _ (by rfl) (fun j u hu => ?_) (fun u hu => wideN.one (⟨(k : Int) + 1, X⟩ : En) u hu)
        rw [Addr.add_lit, Nat.zero_add]
        show (wr.alloc (.cells #[.int .i64 ((k : Int) + 1), .string X] 43)).cell? ⟨wr.heap.size, j, none⟩ = some u
        rw [World.cell?_alloc_new wr _ _ j]
        simpa using hu
      clear hnx hM4 hks
      go_wp2
      go_region_law (refine step_append_cel rfl (.tmp 21) (.tmp 36) 24 24 rfl 43 ti _ 2 24 Try.underlying24 hi1 hi2 hi3 hi4 rfl (O := fun z => w.heap.size + 1 < z) _ k _ g (by simp [Act.eval]) (CW.out _ (BB.out _)) _ 1 [.int .i64 ((k : Int) + 1), .string X] (by simp [Act.eval]) SW.out (by unfold maxLen; omega) (by omega) ?_; intro a5 c5 w5 g5 hC5 hS5 hg5; have H5 : Hid (Ob w5 w.heap.size (w.heap.size + 1) (q : Int) (.slice a k c) ∧ Cel (fun z => w.heap.size + 1 < z) w5 2 (.slice a5 (k + 1) c5) (k + 1) (rowC enC (ofK ss k ++ [⟨(k : Int) + 1, X⟩])) g5 ∧ Below w.heap.size w w5) := of_app HI.out.1 HI.out.2.1 HI.out.2.2 (BB.out _) hC5 hS5; clear hC5 hS5 hg5; have y1 := H5.out.1.c1; have f1 := H5.out.1.f0 1)
      all_goals
        go_wp2
        go_roundw
        case rel =>
          refine ⟨k + 1, a5, c5, g5, by omega, by omega, by go_num, ⟨H5.out.1.putS _, ?_, Below.setCell H5.out.2.2 (Nat.le_succ _) _⟩⟩
          rw [HNX.out]
          refine Cel.setOut ?_ _ _ (fun e => ?_)
          · rw [show ((k + 1 : Nat) : Int) = (k : Int) + 1 by omega]; exact H5.out.2.1
          · have h8 := H5.out.2.1
            rw [e] at h8
            have h9 : w.heap.size + 1 < w.heap.size + 1 := h8.lt.2
            omega
        case measure => simp [intOf]; omega
    · have hkf : k = few ss := by
        have h9 := HM.out
        unfold few
        rcases Nat.lt_or_ge k m with h | h
        · have : ¬ k < 30 := fun h2 => hlt ⟨h, h2⟩
          omega
        · omega
      have c0 := HI.out.1.c0
      have d0 := HI.out.1.d0
      have d1 := HI.out.1.d1
      have g0 := HI.out.1.f1 0
      have g1 := HI.out.1.f1 1
      have HKF : Hid (k = few ss) := hkf
      clear hkf
      have hgd : (decide ((k : Int) < (m : Int)) && decide ((k : Int) < 30)) = false := by
        rw [Bool.and_eq_false_iff]
        rcases Nat.lt_or_ge k m with h | h
        · exact .inr (decide_eq_false (by have : ¬ k < 30 := fun h2 => hlt ⟨h, h2⟩; omega))
        · exact .inl (decide_eq_false (by omega))
      obtain ⟨z0, z1⟩ := two_set (u' := .int .i64 (q : Int)) (v' := .slice a k c) d0 d1
      have HF : Hid (OfR w.heap.size (ofL q ss) (.returned (.agg #[.int .i64 (q : Int), .slice a k c])) ((wr.setCell ⟨w.heap.size, 0, none⟩ (.int .i64 (q : Int))).setCell ⟨w.heap.size, 1, none⟩ (.slice a k c)) ∧ Below w.heap.size w ((wr.setCell ⟨w.heap.size, 0, none⟩ (.int .i64 (q : Int))).setCell ⟨w.heap.size, 1, none⟩ (.slice a k c))) := by
        have hC := HI.out.2.1
        have hne : ∀ z, g = some z → z ≠ w.heap.size := fun z hz => by rw [hz] at hC; have h9 : w.heap.size + 1 < z := hC.lt.2; omega
        have hl := ofL_len q ss
        refine ⟨⟨a, c, g, by rw [hl, ← HKF.out]; rfl, ?_⟩, Below.setCell (Below.setCell HI.out.2.2 (Nat.le_refl _) _) (Nat.le_refl _) _⟩
        rw [hl, ← HKF.out]
        have e9 : (ofL q ss).es = ofK ss k := by rw [HKF.out]; rfl
        rw [e9]
        have h8 := (hC.setOut ⟨w.heap.size, 0, none⟩ (.int .i64 (q : Int)) (fun e => hne _ e rfl)).setOut ⟨w.heap.size, 1, none⟩ (.slice a k c) (fun e => hne _ e rfl)
        exact h8.stay (Nat.le_refl _) (fun _ _ => rfl) (fun z hz => by have h9 : w.heap.size + 1 < z := hz; omega)
      clear HI
      by_cases hkm : k < m
      · have hk30 : ¬ k < 30 := fun h2 => hlt ⟨hkm, h2⟩
        clear hlt hgd
        go_wp2
        refine bodyPost_ret (v := .agg #[.int .i64 (q : Int), .slice a k c]) ?_ rfl HF.out
        simp only [results, Try.results6]
        simp [go_sem, z0, z1]
      · clear hlt hgd
        go_wp2
        refine bodyPost_ret (v := .agg #[.int .i64 (q : Int), .slice a k c]) ?_ rfl HF.out
        simp only [results, Try.results6]
        simp [go_sem, z0, z1]

end Go.Proofs.Ytokldcifhjkmnab.Lgg
